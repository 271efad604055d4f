/-
  markup's parser: the whole text. markup.Parse.
-/
import Derived.Test.YtjnhcoflmechmaaGreatDoorMTreeW
import Derived.Test.YtjnhcoflmechmaaGreatDoorMGood
import Derived.Recover
namespace Go.Proofs.YtjnhcoflmechmaaGreatDoor.M
open Go.RowKit Go.Sort
set_option linter.unusedVariables false
set_option maxRecDepth 100000
/-- What reading the whole text says. -/
def ReadC (s : ByteArray) (R : Rd Tr) (w : World) (e : Ending) (w' : World) : Prop :=
  (match R with
  | .ok t _ => ∃ x : NV, e = .returned (nodeV (cutT t) x) ∧ TreeIn w' (fun b => w.heap.size ≤ b) (cutT t) x
  | .bad n _ => e = PanE (s.size - n) ∧ n ≤ s.size) ∧ Below w.heap.size w w'
theorem read_bad {s : ByteArray} {n a : Nat} {er : Int} {R : Rd Tr} {w w' : World} (hR : R = .bad n er) (hn : n ≤ s.size) (ha : a = s.size - n) (hb : Below w.heap.size w w') : ReadC s R w (PanE a) w' := by
  subst hR; subst ha; exact ⟨⟨rfl, hn⟩, hb⟩
abbrev parW (w : World) (s : ByteArray) : World := w.alloc (.cells #[.string s, .int .i64 0, .int .i64 0] 113)
set_option maxHeartbeats 8000000 in
theorem read_any (s : ByteArray) (w : World) (hs : s.size ≤ 1000000000) (hN : cntK (restL s 0) ≤ 4096) (hv : Vars w) : Calls Tryz.prog 38 #[.string s] w (ReadC s (wholeP (restL s 0)) w) := by
  obtain ⟨P, hP⟩ : ∃ P, P = w.heap.size + 1 := ⟨_, rfl⟩
  obtain ⟨w1, hw1⟩ : ∃ w1, w1 = zeroNW w := ⟨_, rfl⟩
  obtain ⟨w2, hw2⟩ : ∃ w2, w2 = parW w1 s := ⟨_, rfl⟩
  have hs1 : w1.heap.size = w.heap.size + 1 := by rw [hw1]; simp
  have hs2 : w2.heap.size = w.heap.size + 2 := by rw [hw2]; simp [hs1]
  have hk1 : Kept (fun _ => False) w w1 := by rw [hw1]; exact kept_alloc _ _ _
  have hk2 : Kept (fun _ => False) w1 w2 := by rw [hw2]; exact kept_alloc _ _ _
  have hz : B5 w2 w.heap.size 25 (.string ⟨#[]⟩) (.string ⟨#[]⟩) (.string ⟨#[]⟩) (.slice none 0 0) (.slice none 0 0) := by
    have : B5 w1 w.heap.size 25 (.string ⟨#[]⟩) (.string ⟨#[]⟩) (.string ⟨#[]⟩) (.slice none 0 0) (.slice none 0 0) := by rw [hw1]; exact B5.new _ _ _ _ _ _ _ _ rfl
    exact this.kept hk2 (fun h => h)
  have hp : P3 w2 P s 0 0 := by rw [hw2, hP, ← hs1]; exact heap_alloc_new w1 _
  have hv2 : Vars w2 := vars_more (vars_more hv hk1 (fun _ e => e.elim)) hk2 (fun _ e => e.elim)
  have h4 : 4 ≤ w.heap.size := hv.2.2.2
  have CT := tree_any P s w2 hp hs hN hv2 (by omega)
  have hb2 : Below w.heap.size w w2 := (hk1.trans hk2).below (Nat.le_refl _) (fun _ e => e.elim)
  obtain ⟨R, hR⟩ : ∃ R, R = wholeP (restL s 0) := ⟨_, rfl⟩
  rw [← hR]
  obtain ⟨Q, hQ⟩ : ∃ Q, Q = nodeP (restL s 0) := ⟨_, rfl⟩
  rw [← hQ] at CT
  have HR := Lib.hid (show R = bnd Q fun t l' => if l' = [] then .ok t [] else .bad l'.length 2 by rw [hR, hQ]; rfl)
  have HC := Lib.hid CT
  have HW2 := Lib.hid (show (w.alloc (.cells #[.string ⟨#[]⟩, .string ⟨#[]⟩, .string ⟨#[]⟩, .slice none 0 0, .slice none 0 0] 25)).alloc (.cells #[.string s, .int .i64 0, .int .i64 0] 113) = w2 by rw [hw2, hw1])
  have HZ := Lib.hid hz; have HB2 := Lib.hid hb2; have HP := Lib.hid hP; have HS2 := Lib.hid hs2
  clear CT hR hQ hw1 hw2 hk1 hk2 hz hp hv2 hb2 hN hv hs1 h4 hs2
  go_enter Tryz.func38, Tryz.ntmps38
  go_upto_region 2 with (fail)
  rw [HW2.out, show w.heap.size + 1 = P from HP.out.symm]
  clear HW2 hP
  go_wp2_with fail
  refine HC.out.mono ?_
  rintro e w3 ⟨hst, hk3⟩
  have hb3 : Below w.heap.size w w3 := HB2.out.trans (hk3.below (by have := HS2.out; omega) (fun k e => by have e' : k = P := e; have := HP.out; omega))
  have hz3 := HZ.out.kept hk3 (fun e => by have e' : w.heap.size = P := e; have := HP.out; omega)
  have HB3 := Lib.hid hb3; have HZ3 := Lib.hid hz3
  clear HC HB2 HZ hb3 hz3
  cases Q with
  | bad n er =>
    obtain ⟨rfl, hn⟩ := hst
    have HF := Lib.hid (show ReadC s R w (PanE (s.size - n)) w3 from read_bad (HR.out.trans rfl) hn rfl HB3.out)
    clear hk3
    exact ⟨rfl, HF.out⟩
  | ok t q =>
    obtain ⟨a, nb, x, ha, rfl, rfl, hp3, ht3⟩ := hst
    obtain ⟨w4, hw4⟩ : ∃ w4, w4 = boxW w3 (cutT t) x := ⟨_, rfl⟩
    have hb34 : Below w3.heap.size w3 w4 := by rw [hw4]; exact below_box w3 (cutT t) x
    have hbx : KidCells w4 w3.heap.size 0 (cutT t) x := by rw [hw4]; exact box_node w3 (cutT t) x
    have hp4 := hp3.below hb34 hp3.lt
    have hz4 := HZ3.out.below hb34 HZ3.out.lt
    have HB4 := Lib.hid (HB3.out.trans (hb34.mono HB3.out.size))
    have HT4 := Lib.hid ((ht3.kept (kept_below hb34 (fun _ => False)) (fun _ _ _ e => e)).mono (S' := fun b => w.heap.size + 2 ≤ b) (fun b hb _ => by have := HS2.out; omega))
    have HR4 := Lib.hid (show R = if restL s a = [] then .ok t [] else .bad (restL s a).length 2 from HR.out.trans rfl)
    have HZ4 := Lib.hid hz4; have HP4 := Lib.hid hp4; have HW4 := Lib.hid hw4; have HBX := Lib.hid hbx
    obtain ⟨p0, p1, p2⟩ := hp4.cells
    clear hp3 ht3 hk3 hw4 hb34 hp4 hz4 hbx HR
    by_cases hlt : a < s.size
    · have hi : (a : Int) < (s.size : Int) := by omega
      have CX := Lib.hid (mfail_any P s a nb w4 HP4.out)
      have HF := Lib.hid (show ReadC s R w (PanE a) w4 from read_bad (n := s.size - a) (er := 2) (by
        rw [HR4.out, if_neg (fun e => by have := congrArg List.length e; rw [restL_len] at this; simp at this; omega), restL_len]) (by omega) (by omega) HB4.out)
      go_upto_region 3 with (fail)
      rw [box_out HW4]
      go_wp2_with fail
      refine CX.out.mono ?_
      rintro e w5 ⟨rfl, rfl⟩
      exact ⟨rfl, HF.out⟩
    · have hi : ¬ (a : Int) < (s.size : Int) := by omega
      have hr0 : restL s a = [] := restL_nil (by omega)
      have HZ := Lib.hid (HZ4.out.put (.string (cutT t).tag) (.string (cutT t).key) (.string (cutT t).text) (.slice x.A (cutT t).as.length x.ca) (.slice x.K (cutT t).kids.length x.ck))
      have hk5 := kept_put5 w4 w.heap.size (.string (cutT t).tag) (.string (cutT t).key) (.string (cutT t).text) (.slice x.A (cutT t).as.length x.ca) (.slice x.K (cutT t).kids.length x.ck)
      have HF := Lib.hid (show ReadC s R w (.returned (.agg #[.string (cutT t).tag, .string (cutT t).key, .string (cutT t).text, .slice x.A (cutT t).as.length x.ca, .slice x.K (cutT t).kids.length x.ck])) (put5 w4 w.heap.size (.string (cutT t).tag) (.string (cutT t).key) (.string (cutT t).text) (.slice x.A (cutT t).as.length x.ca) (.slice x.K (cutT t).kids.length x.ck)) from by
        rw [HR4.out, if_pos hr0]
        refine ⟨⟨x, rfl, ?_⟩, HB4.out.trans (hk5.below HB4.out.size (fun k e => by have e' : k = w.heap.size := e; omega))⟩
        exact (HT4.out.kept hk5 (fun b hb _ e => by have e' : b = w.heap.size := e; omega)).mono (fun b hb _ => by omega))
      obtain ⟨z0, z1, z2, z3, z4⟩ := HZ4.out.cells
      have y0 := HZ4.out.frozen 0; have y1 := HZ4.out.frozen 1; have y2 := HZ4.out.frozen 2; have y3 := HZ4.out.frozen 3; have y4 := HZ4.out.frozen 4
      obtain ⟨c0, c1, c2, c3, c4⟩ := HBX.out
      clear hr0 hk5
      go_upto_region 3 with (fail)
      rw [box_out HW4]
      go_wp2_with fail
      refine bodyPost_ret (res251 rfl _ _ w.heap.size _ _ _ _ _ rfl HZ.out) rfl ?_
      exact HF.out
/-- The three results of Parse in memory. -/
structure Res3 (W : World) (B : Nat) (v0 v1 v2 v3 v4 : Value) (i e : Int) : Prop where
  n : B5 W B 25 v0 v1 v2 v3 v4
  i : W.heap[B + 1]? = some (.cells #[.int .i64 i] 3 (0, 0))
  e : W.heap[B + 1 + 1]? = some (.cells #[.int .i64 e] 28 (0, 0))
theorem as76 (v : Value) (w : World) : (Instr.typeAssert (.iface 76 v) 20 76 true).run Tryz.prog w = .ok (.tuple #[v, .bool true]) w := by kernel_rfl
theorem eq76 (v : Value) (w : World) : (binOp .eql 20 (.iface 76 v) .nilIface).run Tryz.prog w = .ok (.bool false) w := by kernel_rfl
set_option maxHeartbeats 4000000 in
theorem catch_fault (A B C : Nat) (a : Nat) (w : World) (v0 v1 v2 v3 v4 v5 v6 : Value) (h0 : w.cell? ⟨A, 0, none⟩ = some v0) (h1 : w.cell? ⟨A, 1, none⟩ = some v1) (h2 : w.cell? ⟨A, 2, none⟩ = some v2) (h3 : w.cell? ⟨A, 3, none⟩ = some v3) (h4 : w.cell? ⟨A, 4, none⟩ = some v4) (hf : ∀ j, w.frozen? ⟨A, j, none⟩ = false)
    (h5 : w.cell? ⟨B, 0, none⟩ = some v5) (hf5 : w.frozen? ⟨B, 0, none⟩ = false) (h6 : w.cell? ⟨C, 0, none⟩ = some v6) (hf6 : w.frozen? ⟨C, 0, none⟩ = false) (hBA : B ≠ A) (hCA : C ≠ A) (hCB : C ≠ B) :
    CallsD Tryz.prog 37 #[.pointer (some ⟨A, 0, none⟩), .pointer (some ⟨B, 0, none⟩), .pointer (some ⟨C, 0, none⟩)] (.panicking [{ v := .iface 76 (.int .i64 a), recovered := false }]) w fun e u' w' =>
      e = .returned (.tuple #[]) ∧ u' = .panicking [{ v := .iface 76 (.int .i64 a), recovered := true }] ∧ w' = ((put5 w A (.string ⟨#[]⟩) (.string ⟨#[]⟩) (.string ⟨#[]⟩) (.slice none 0 0) (.slice none 0 0)).setCell ⟨B, 0, none⟩ (.int .i64 a)).setCell ⟨C, 0, none⟩ (.int .i64 2) := by
  refine callsD_of_wpS Tryz.func37 rfl fun c₀ cs hu => ?_
  have ta := as76 (.int .i64 a)
  have ne := eq76 (.int .i64 a)
  have f0 := hf 0; have f1 := hf 1; have f2 := hf 2; have f3 := hf 3; have f4 := hf 4
  apply wpS_seq
  apply wpS_region
  simp [wpOpsS, go_sem, recoverD, hu, Tryz.ntmps37, Exit.thenS]
  refine wpS_of_wp ?_
  go_wp2_with fail
  simp [bodyPostS, results, Tryz.results37, put5]
theorem catch_none (A B C : Nat) (w : World) :
    CallsD Tryz.prog 37 #[.pointer (some ⟨A, 0, none⟩), .pointer (some ⟨B, 0, none⟩), .pointer (some ⟨C, 0, none⟩)] .returning w fun e u' w' => e = .returned (.tuple #[]) ∧ u' = .returning ∧ w' = w := by
  have ne : ∀ w, (binOp .eql 20 .nilIface .nilIface).run Tryz.prog w = .ok (.bool true) w := fun _ => by kernel_rfl
  refine callsD_of_wpS Tryz.func37 rfl fun c₀ cs hu => ?_
  apply wpS_seq
  apply wpS_region
  simp [wpOpsS, go_sem, recoverD, hu, Tryz.ntmps37, Exit.thenS]
  refine wpS_of_wp ?_
  go_wp2_with fail
  cases c₀
  simp_all [bodyPostS, results, Tryz.results37]
theorem Res3.kept {W W' : World} {B : Nat} {v0 v1 v2 v3 v4 : Value} {i e : Int} (h : Res3 W B v0 v1 v2 v3 v4 i e) {S : Nat → Prop} (hk : Kept S W W') (h0 : ¬ S B) (h1 : ¬ S (B + 1)) (h2 : ¬ S (B + 1 + 1)) : Res3 W' B v0 v1 v2 v3 v4 i e :=
  ⟨h.n.kept hk h0, (hk.block _ (Array.getElem?_eq_some_iff.1 h.i).1 h1).trans h.i, (hk.block _ (Array.getElem?_eq_some_iff.1 h.e).1 h2).trans h.e⟩
theorem Res3.ci {W : World} {B : Nat} {v0 v1 v2 v3 v4 : Value} {i e : Int} (h : Res3 W B v0 v1 v2 v3 v4 i e) : W.cell? ⟨B + 1, 0, none⟩ = some (.int .i64 i) ∧ W.frozen? ⟨B + 1, 0, none⟩ = false ∧ W.cell? ⟨B + 1 + 1, 0, none⟩ = some (.int .i64 e) ∧ W.frozen? ⟨B + 1 + 1, 0, none⟩ = false := by
  refine ⟨?_, ?_, ?_, ?_⟩
  · rw [cell_of_row _ _ _ _ _ (0, 0) h.i]; rfl
  · simp [World.frozen?, h.i]
  · rw [cell_of_row _ _ _ _ _ (0, 0) h.e]; rfl
  · simp [World.frozen?, h.e]
theorem Res3.putn {W : World} {B : Nat} {v0 v1 v2 v3 v4 : Value} {i e : Int} (h : Res3 W B v0 v1 v2 v3 v4 i e) (u0 u1 u2 u3 u4 : Value) : Res3 (put5 W B u0 u1 u2 u3 u4) B u0 u1 u2 u3 u4 i e := by
  have hk := kept_put5 W B u0 u1 u2 u3 u4
  have hlt := (Array.getElem?_eq_some_iff.1 h.i).1
  have hlt2 := (Array.getElem?_eq_some_iff.1 h.e).1
  exact ⟨h.n.put u0 u1 u2 u3 u4, (hk.block _ hlt (fun e => by have e' : B + 1 = B := e; omega)).trans h.i, (hk.block _ hlt2 (fun e => by have e' : B + 1 + 1 = B := e; omega)).trans h.e⟩
theorem Res3.puti {W : World} {B : Nat} {v0 v1 v2 v3 v4 : Value} {i e : Int} (h : Res3 W B v0 v1 v2 v3 v4 i e) (u : Int) : Res3 (W.setCell ⟨B + 1, 0, none⟩ (.int .i64 u)) B v0 v1 v2 v3 v4 u e := by
  have hk : Kept (· = B + 1) W (W.setCell ⟨B + 1, 0, none⟩ (.int .i64 u)) := kept_setCell W ⟨B + 1, 0, none⟩ _
  have hlt2 := (Array.getElem?_eq_some_iff.1 h.e).1
  refine ⟨h.n.kept hk (fun e => by have e' : B = B + 1 := e; omega), ?_, (hk.block _ hlt2 (fun e => by have e' : B + 1 + 1 = B + 1 := e; omega)).trans h.e⟩
  rw [heap_setCell_same W (B + 1) 0 _ 3 _ h.i]; rfl
theorem Res3.pute {W : World} {B : Nat} {v0 v1 v2 v3 v4 : Value} {i e : Int} (h : Res3 W B v0 v1 v2 v3 v4 i e) (u : Int) : Res3 (W.setCell ⟨B + 1 + 1, 0, none⟩ (.int .i64 u)) B v0 v1 v2 v3 v4 i u := by
  have hk : Kept (· = B + 1 + 1) W (W.setCell ⟨B + 1 + 1, 0, none⟩ (.int .i64 u)) := kept_setCell W ⟨B + 1 + 1, 0, none⟩ _
  have hlt := (Array.getElem?_eq_some_iff.1 h.i).1
  refine ⟨h.n.kept hk (fun e => by have e' : B = B + 1 + 1 := e; omega), (hk.block _ hlt (fun e => by have e' : B + 1 = B + 1 + 1 := e; omega)).trans h.i, ?_⟩
  rw [heap_setCell_same W (B + 1 + 1) 0 _ 28 _ h.e]; rfl
theorem res333 {fn : Func} {p q r : Tmp} (h : fn.results = #[.cell p 25, .cell q 3, .cell r 28]) (tmps : Array Value) (w : World) (B : Nat) (v0 v1 v2 v3 v4 : Value) (i e : Int) (hp : tmps.getD p undef = .pointer (some ⟨B, 0, none⟩)) (hq : tmps.getD q undef = .pointer (some ⟨B + 1, 0, none⟩)) (hr : tmps.getD r undef = .pointer (some ⟨B + 1 + 1, 0, none⟩)) (hg : Res3 w B v0 v1 v2 v3 v4 i e) :
    (results fn tmps).run Tryz.prog w = .ok (.tuple #[.agg #[v0, v1, v2, v3, v4], .int .i64 i, .int .i64 e]) w := by
  obtain ⟨c1, _, c2, _⟩ := hg.ci
  have l0 := run_loadVar_row (P := Tryz.prog) w B 25 25 _ (0, 0) _ hg.n Tryz.underlying25 rfl (by kernel_rfl)
  have l1 : (loadVar 3 ⟨B + 1, 0, none⟩).run Tryz.prog w = .ok (.int .i64 i) w := by
    simp [loadVar, isAgg, Sem.run_bind, run_underlying Tryz.underlying3, go_sem, c1]
  have l2 : (loadVar 28 ⟨B + 1 + 1, 0, none⟩).run Tryz.prog w = .ok (.int .i64 e) w := by
    simp [loadVar, isAgg, Sem.run_bind, run_underlying Tryz.underlying28, go_sem, c2]
  simp only [results, h]
  have hp' : tmps[p]?.getD undef = .pointer (some ⟨B, 0, none⟩) := by simpa using hp
  have hq' : tmps[q]?.getD undef = .pointer (some ⟨B + 1, 0, none⟩) := by simpa using hq
  have hr' : tmps[r]?.getD undef = .pointer (some ⟨B + 1 + 1, 0, none⟩) := by simpa using hr
  simp [Sem.run_bind, hp', hq', hr', asAddr, l0, l1, l2]
end Go.Proofs.YtjnhcoflmechmaaGreatDoor.M
