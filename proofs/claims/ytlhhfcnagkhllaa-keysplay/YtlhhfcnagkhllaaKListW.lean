/-
  The table's list, and All: walked.
-/
import Derived.Test.YtlhhfcnagkhllaaKList
namespace Go.Proofs.Ytlhhfcnagkhllaa
open Go.RowKit Go.Maps
set_option linter.unusedVariables false

theorem own_ne {w : World} {base : Nat} {e : TypeId} {size k : Nat} {v : Value} {xs : List Value} (h : w.ownsRow base e size v k xs) {b : Nat} {o : Obj} (hb : w.heap[b]? = some o) (ho : ∀ c t f, o ≠ .cells c t f) : some b ≠ v.ownBlock := by
  intro e1
  rcases h.2 with ⟨rfl, _⟩ | ⟨g, cap, cur, rfl, _, hg, _⟩
  · simp [Value.ownBlock] at e1
  · have : b = g := by simpa [Value.ownBlock] using e1
    subst this
    rw [hg] at hb
    cases hb
    exact ho _ _ _ rfl
theorem ranges_map {w : World} {b r n : Nat} {D : DataW Unit} {left : Lit → Bool} {cnt : Nat} (h : w.ranges Try.prog 30 (plainElem Try.prog 3) b r n D left cnt) : (∃ es c, w.heap[b]? = some (.map es c)) ∧ ∃ a s x c, w.heap[r]? = some (.mapIter a s x c) := by
  obtain ⟨es, clock, since, seen, c0, h1, _, _, _, h2, _⟩ := h
  exact ⟨⟨_, _, h1⟩, _, _, _, _, h2⟩
theorem three_new (W : World) (a b c : Value) (t : TypeId) (B : Nat) (hB : B = W.heap.size) : ∀ j u, [a, b, c][j]? = some u → (W.alloc (.cells #[a, b, c] t)).cell? ((⟨B, 0, none⟩ : Addr).add j) = some u := by
  subst hB
  intro j u hj
  have e1 : (W.alloc (.cells #[a, b, c] t)).cell? ⟨W.heap.size, 0 + j, none⟩ = (#[a, b, c] : Array Value)[0 + j]? := cell_of_row _ _ _ _ _ (0, 0) (heap_alloc_new W _)
  rw [Addr.add_lit, e1]
  simpa using hj
theorem lrow_own {w : World} {base e : Nat} {v : Value} {ls : List Lab} (h : w.ownsRow base e 3 v ls.length (labs ls)) :
    ∃ A cap, v = .slice A ls.length cap ∧ LRow w w.heap.size A ls ∧ ls.length ≤ cap ∧ cap ≤ maxLen := by
  rcases h.2 with ⟨rfl, hn⟩ | ⟨g, cap, cur, rfl, _, hg, hnc, hcm, _, _⟩
  · exact ⟨none, 0, by rw [hn], fun h0 => by omega, by omega, by simp [maxLen]⟩
  · refine ⟨_, cap, rfl, fun _ => ⟨g, 0, rfl, (Array.getElem?_eq_some_iff.1 hg).1, fun j hj => ?_⟩, hnc, hcm⟩
    have e : ls.getD j noLab = ls[j] := by simp [List.getD_eq_getElem?_getD, hj]
    have d0 : j * 3 / 3 = j := by omega
    have d1 : (j * 3 + 1) / 3 = j := by omega
    have d2 : (j * 3 + 2) / 3 = j := by omega
    have m0 : j * 3 % 3 = 0 := by omega
    have m1 : (j * 3 + 1) % 3 = 1 := by omega
    have m2 : (j * 3 + 2) % 3 = 2 := by omega
    rw [Nat.zero_add, World.ownsRow.cellAt h (j * 3) (by omega), World.ownsRow.cellAt h (j * 3 + 1) (by omega), World.ownsRow.cellAt h (j * 3 + 2) (by omega),
      labs_at ls (j * 3) (by omega), labs_at ls (j * 3 + 1) (by omega), labs_at ls (j * 3 + 2) (by omega), d0, d1, d2, m0, m1, m2, e]
    exact ⟨rfl, rfl, rfl⟩
/-- A slice of labels that the call made. -/
def MadeL (w : World) (ls : List Lab) (e : Ending) (w' : World) : Prop := ∃ A c, e = .returned (.slice A ls.length c) ∧ LRow w' w'.heap.size A ls ∧ c ≤ maxLen ∧ Below w.heap.size w w'
def LRel (w : World) (bm r : Nat) (D : DataW Unit) (es : List (Lab × Int)) (v : Value) (wr : World) : Prop :=
  ∃ left cnt ss, wr.ranges Try.prog 30 (plainElem Try.prog 3) bm r es.length D left cnt ∧ Coll es left ss ∧ ss.length + cnt ≤ es.length ∧ wr.ownsRow w.heap.size 30 3 v ss.length (labs ss) ∧ (∃ g c, v = .slice (some ⟨g, 0, none⟩) ss.length c) ∧ w.heap.size ≤ r ∧ Below w.heap.size w wr

theorem wpList_app3 {P : Program} {w : World} {ops : Array Oper} {rest : List Oper} {o : Oper} {a : Act} {Q : Exit → Act → World → Prop} (hgd : o.guard = none) (s x : Operand) (t : TypeId)
    (ho : o.op = .call { callee := .builtin .append, args := #[s, x], argTypes := #[t, t] })
    (base : Nat) (e : TypeId) (i : TypeInfo) (z : Value) (bytes : Nat) (ht : P.underlying t = some (.slice e)) (hi : P.info? e = some i) (hz : i.zero = some z)
    (hsize : i.size = 3) (hby : i.bytes = bytes) (hzs : z.cells.size = 3)
    (v : Value) (n : Nat) (xs : List Value) (hs : a.eval s = v) (hown : w.ownsRow base e 3 v n xs)
    (u1 u2 u3 : Value) (B : Nat) (hB : B = w.heap.size) (hx : a.eval x = .slice (some ⟨B, 0, none⟩) 1 1) (h1 : u1.oneCell' = true) (h2 : u2.oneCell' = true) (h3 : u3.oneCell' = true)
    (hbytes : (n + 1) * bytes ≤ 140737488355328) (h63 : n + 1 ≤ maxLen) (hbase : base ≤ w.heap.size)
    (h : ∀ v' w', w'.ownsRow base e 3 v' (n + 1) (xs ++ [u1, u2, u3]) → (w.alloc (.cells #[u1, u2, u3] e)).grownBy w' v.ownBlock → wpList P ops Q rest (a.put o.dst v') w') : wpList P ops Q (o :: rest) a (w.alloc (.cells #[u1, u2, u3] e)) := by
  subst hB
  refine wpList_append_own (w.alloc (.cells #[u1, u2, u3] e)) hgd s x t ho base e i z 3 bytes ht hi hz hsize hby hzs (by omega) v n xs hs (hown.alloc _) ⟨w.heap.size, 0, none⟩ 1 1 [u1, u2, u3] hx rfl (three_new _ _ _ _ _ _ rfl) ?_ h63 hbytes (by simp; omega) ?_
  · intro y hy; simp at hy; rcases hy with rfl | rfl | rfl
    · exact h1
    · exact h2
    · exact h3
  · intro v' w' hown' hgrow _
    exact h v' w' hown' hgrow
theorem sorted_eq : ∀ {t u : List Lab}, t.Perm u → (t.Pairwise fun a b => ¬ cmpLab b a < 0) → (u.Pairwise fun a b => cmpLab a b < 0) → t = u
  | [], u, hp, _, _ => hp.nil_eq
  | a :: t, [], hp, _, _ => by have := hp.length_eq; simp at this
  | a :: t, b :: u, hp, ht, hu => by
    have ht' := List.pairwise_cons.1 ht
    have hu' := List.pairwise_cons.1 hu
    have e : a = b := by
      have h1 : a ∈ b :: u := hp.mem_iff.1 (by simp)
      have h2 : b ∈ a :: t := hp.mem_iff.2 (by simp)
      rcases List.mem_cons.1 h1 with h | h
      · exact h
      · rcases List.mem_cons.1 h2 with h' | h'
        · exact h'.symm
        · exact absurd (hu'.1 a h) (ht'.1 b h')
    subst e
    rw [sorted_eq hp.cons_inv ht'.2 hu'.2]
set_option maxRecDepth 100000 in
set_option maxHeartbeats 8000000 in
theorem list_any (base X bm : Nat) (es : List (Lab × Int)) (w : World) (h : Ix w base X bm es) (hl : es.length ≤ 1000000) (hsrt : (es.map Prod.fst).Pairwise fun a b => cmpLab a b < 0) :
    Calls Try.prog 28 #[.pointer (some ⟨X, 0, none⟩), .func (.func 27) #[] #[]] w (MadeL w (es.map Prod.fst)) := by
  obtain ⟨i0, hi, hz0, hz1, hz2⟩ := info_parts Try.info30
  have c0 := h.c0
  obtain ⟨D, ho, ha⟩ := h.own
  have hln := fun ty => h.len ty
  have hXl := h.lt
  have hby : i0.bytes * es.length ≤ 281474976710656 := by rw [hz2]; omega
  have HBY := Lib.hid hby
  have H := Lib.hid h; have HO := Lib.hid ho; have HA := Lib.hid ha; have HS := Lib.hid hsrt
  clear h ho ha hby hsrt
  go_enter Try.func28, Try.ntmps28
  go_wp2_with (first
    | (at_make; refine wpList_make_own _ rfl _ _ 43 rfl w.heap.size 30 i0 (.agg #[.string ⟨#[]⟩, .string ⟨#[]⟩, .int .i64 0]) 3 Try.underlying43 hi hz0 hz1 .i64 .i64 _ es.length rfl rfl rfl HBY.out (by unfold maxLen; omega) (Nat.le_refl _) ?_; intro w1 hown1 hg1; have hb1 : Below w.heap.size w w1 := (Below.refl _ _).grown hg1 (Nat.le_refl _) (fun k hk => by cases hk); have c1 : w1.cell? ⟨X, 0, none⟩ = some (.map (some bm)) := (hb1.cell (p := ⟨X, 0, none⟩) hXl).trans c0)
    | (at_range; refine wpList_range_own _ rfl _ 52 rfl 30 3 law30 Try.underlying52 _ bm es.length D rfl (HO.out.kept hg1 (by simp)) ?_; intro w2 hrg2 hg2 hs2))
  go_frame
  have hsz1 := hb1.size
  have hb2 : Below w.heap.size w w2 := hb1.grown hg2 hsz1 (fun k hk => by cases hk)
  have hown2 : w2.ownsRow w.heap.size 30 3 (.slice (some ⟨w.heap.size, 0, none⟩) 0 es.length) 0 [] := hown1.kept hg2 (.inr (by simp [Value.ownBlock]))
  go_loopw [5] (LRel w bm w1.heap.size D es) (fun _ wr => wr.rangeLeft bm w1.heap.size)
  case atStart =>
    refine ⟨_, _, [], hrg2, Coll.start HA.out, by rw [HA.out.size]; simp, hown2, ⟨_, _, rfl⟩, hsz1, hb2⟩
  case round =>
    clear hown1 hown2 hb2 hrg2 hg2 hs2 c0 c1 hln
    obtain ⟨left, cnt, ss, hrg, hco, hle, hown, ⟨g, cg, rfl⟩, hrlo, hbel⟩ := hrel
    have HCO := Lib.hid hco
    clear hco
    have HRG := Lib.hid hrg
    have HOWN := Lib.hid hown
    clear hown
    have hsz := hbel.size
    go_wp2_with (at_next; refine wpList_next_ranges (α := Lab) (β := Int) _ rfl _ rfl 30 law30 (plainElem Try.prog 3) labV (Value.int .i64) (fun key kl hk => by obtain ⟨L, e, _⟩ := key_inv hk; exact ⟨L, e⟩) (fun v y hv => by obtain ⟨c, e, _⟩ := plainElem_int_inv Try.underlying3 hv; exact ⟨c, e⟩) bm w1.heap.size es.length D left cnt rfl HRG.out ?_ ?_)
    · intro hc0 hl0
      go_wp2_with fail
      have hlss : ss.length ≤ es.length := by omega
      refine (sortL_any g cg ss w.heap.size wr (by omega) HOWN.out).mono ?_
      rintro e w3 ⟨rfl, t, hperm, hts, hown3, hk3⟩
      go_wp2_with fail
      go_ret
      have hpm : t.Perm (es.map Prod.fst) := hperm.trans (HCO.out.perm HA.out.nodup (fun p hp => (HA.out.wf p hp).1) hl0)
      have et : t = es.map Prod.fst := sorted_eq hpm (hts.imp fun h => by omega) HS.out
      subst et
      have hln3 : ss.length = (es.map Prod.fst).length := hperm.length_eq.symm
      rw [hln3] at hown3
      obtain ⟨A, cap, he, hr3, hcl, hcm⟩ := lrow_own hown3
      refine ⟨A, cap, by rw [hln3]; exact congrArg Ending.returned he, hr3, hcm, ?_⟩
      exact hbel.trans (hk3.below hsz (fun k hk => by subst hk; exact (HOWN.out.lt _ rfl).1))
    · intro L c kl y ys w1' cnt1 hkey hlk hv hat hrg1 hlt hg1 hs1 hen
      obtain ⟨L', eL, hwL, ekl⟩ := key_inv hkey
      have eL' : L = L' := by cases L; cases L'; simp [labV] at eL; simp [eL]
      subst eL'
      subst ekl
      have HLK := Lib.hid hlk; have HAT := Lib.hid hat; have HRG1 := Lib.hid hrg1; have HLT := Lib.hid hlt; have HG1 := Lib.hid hg1; have HWL := Lib.hid hwL
      obtain ⟨⟨me, mc, hmap⟩, ia, is, ix, ic, hit⟩ := ranges_map hrg
      have hneI := own_ne HOWN.out hit (by intros; simp)
      have hneM := own_ne HOWN.out hmap (by intros; simp)
      have hownR := HOWN.out.kept hg1 (.inr (by first | exact hneI | exact hneI.symm | exact fun e => hneI e.symm))
      have HNI := Lib.hid hneI; have HNM := Lib.hid hneM
      clear hneI hneM hmap hit
      have HOR := Lib.hid hownR
      clear hlk hat hrg1 hlt hkey hv hwL hg1 hownR hrg
      go_wp2_with (first
        | (at_builtin; refine wpList_app3 rfl _ _ 43 rfl w.heap.size 30 i0 _ 40 Try.underlying43 hi hz0 hz1 hz2 rfl _ ss.length _ rfl (HOR.out.alloc _) _ _ _ _ (by simp [hs1]) rfl rfl rfl rfl (by omega) (by unfold maxLen; omega) (by simp; omega) ?_; intro v2 w2 hown2 hg2))
      have hrg2 := ((HRG1.out.alloc (.cells (labCells L) 30)).alloc (.cells #[.string L.tag, .string L.key, .int .i64 L.n] 30)).kept hg2 HNM.out HNI.out
      refine ⟨⟨_, cnt1, ss ++ [L], hrg2, HCO.out.step HA.out HWL.out HLK.out HAT.out, by have := HLT.out; simp; omega, ?_, ?_, hrlo, ?_⟩, ?_⟩
      · rw [labs_snoc, List.length_append]; exact hown2
      · rcases hown2.2 with ⟨_, h0⟩ | ⟨g', cap', cur, he, _⟩
        · omega
        · exact ⟨g', cap', by rw [he]; simp⟩
      · refine ((((hbel.grown HG1.out hsz (fun k hk => by cases hk; exact hrlo))).alloc (by omega) _).alloc (by simp; omega) _).grown hg2 (by simp; omega) (fun k hk => (HOWN.out.lt k hk).1)
      · rw [hrg2.left_eq, HRG.out.left_eq]; exact HLT.out
end Go.Proofs.Ytlhhfcnagkhllaa
