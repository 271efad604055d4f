/-
  The parser's elements: one name and value more. | The parser's elements: in a record.
-/
import Derived.Test.YtjnhcoflmechmaaGreatDoorDMem
namespace Go.Proofs.YtjnhcoflmechmaaGreatDoor
open Go.RowKit Go.Sort
set_option linter.unusedVariables false
set_option maxRecDepth 100000
mutual
/-- How many values there are. -/
def cntD : Dt → Nat
  | .mk _ _ _ _ l => 1 + cntL l
def cntL : List Dt → Nat
  | [] => 0
  | x :: r => cntD x + cntL r
end
theorem cntD_pos (d : Dt) : 1 ≤ cntD d := by cases d; rw [cntD]; omega
def withN (ns : List ByteArray) : Rd Dt → Rd (List ByteArray × Dt)
  | .bad n e => .bad n e
  | .ok x l => .ok (ns, x) l
/-- A name, where there are names, and a value. -/
noncomputable def el1P (k5 : Bool) (op : Nat) (l : Bytes) : Rd (List ByteArray × Dt) := match nameP k5 l with
  | .bad n e => .bad n e
  | .ok ns l1 => withN ns (valP op l1)
theorem elemsP_el1 (k5 : Bool) (op : Nat) (l : Bytes) : elemsP k5 op l = match el1P k5 op l with | .bad n e => .bad n e | .ok p l2 => restP k5 op p.1 p.2 l2 := by
  rw [elemsP_eq]
  unfold el1P
  rcases nameP k5 l with ⟨ns, l1⟩ | ⟨n, e⟩
  · show _ = match withN ns (valP op l1) with | Rd.bad n e => Rd.bad n e | Rd.ok p l2 => restP k5 op p.1 p.2 l2
    show (match valP op l1 with | Rd.bad n e => Rd.bad n e | Rd.ok x l2 => restP k5 op ns x l2) = _
    rcases valP op l1 with ⟨x, l2⟩ | ⟨n, e⟩
    · rfl
    · rfl
  · rfl
/-- What value says. -/
def ValC (P : Nat) (s : ByteArray) (o v : Nat) (R : Rd Dt) (w : World) (e : Ending) (w' : World) : Prop :=
  (match R with
    | .ok d l => ∃ (d' : Dt) (x : NV) (v' : Nat), e = .returned (.tuple #[datV d' x, .bool true]) ∧ l.length ≤ s.size ∧ P5 w' P s (s.size - l.length) o v' 0 ∧ v' = v + cntD d ∧ v' ≤ s.size - l.length ∧ (v' ≤ 2000 → d' = d) ∧ DatIn w' (fun b => w.heap.size ≤ b) d' x
    | .bad n er => ∃ o' v' : Nat, e = .returned (.tuple #[zeroV, .bool false]) ∧ n ≤ s.size ∧ P5 w' P s (s.size - n) o' v' er ∧ (er = 2 ∨ er = 11)) ∧ Kept (· = P) w w'
def ValOk (P : Nat) (s : ByteArray) (o a : Nat) : Prop := ∀ (v : Nat) (w : World), P5 w P s a o v 0 → v ≤ a → Vars w → Calls Tryz.prog 48 #[.pointer (some ⟨P, 0, none⟩)] w (ValC P s o v (valP o (restL s a)) w)
/-- What element says. -/
def ElemC (P : Nat) (s : ByteArray) (D base : Nat) (k : Int) (o v : Nat) (ns : List ByteArray) (ps : List DV) (R : Rd (List ByteArray × Dt)) (w : World) (e : Ending) (w' : World) : Prop :=
  (match R with
    | .ok p l => ∃ (v' : Nat) (ns' : List ByteArray) (ps' : List DV) (vN vK : Value), e = .returned (.bool true) ∧ l.length ≤ s.size ∧ P5 w' P s (s.size - l.length) o v' 0 ∧ v' = v + cntD p.2 ∧ v' ≤ s.size - l.length ∧ GS w' base D P k ns' ps' vN vK ∧ ns'.length ≤ v' ∧ ps'.length ≤ v' ∧ (v' ≤ 2000 → ns' = ns ++ p.1 ∧ ps'.map Prod.fst = ps.map Prod.fst ++ [p.2])
    | .bad n er => ∃ o' v' : Nat, e = .returned (.bool false) ∧ n ≤ s.size ∧ P5 w' P s (s.size - n) o' v' er ∧ (er = 2 ∨ er = 11)) ∧ Kept (fun b => b = P ∨ b = D ∨ base ≤ b) w w'
theorem info9 : (Tryz.prog.info? 9).map (fun i => (i.zero, i.size, i.bytes)) = some (some (.string ⟨#[]⟩), 1, 16) := by kernel_rfl
theorem info46 : (Tryz.prog.info? 46).map (fun i => (i.zero, i.size, i.bytes)) = some (some zeroV, 5, 80) := by kernel_rfl
def zero5 : List Value := [.int .i64 0, .int .i64 0, .string ⟨#[]⟩, .slice none 0 0, .slice none 0 0]
theorem zero5_one : ∀ u ∈ zero5, u.oneCell' = true := by decide
/-- append of a zero value. -/
theorem add_run (w : World) (base : Nat) (vK : Value) (ps : List DV) (hown : w.ownsRow base 46 5 vK ps.length (dds ps)) (hb : base ≤ w.heap.size) (hl : ps.length ≤ 1000000) :
    ∃ A c w', (Builtin.append_ #[44, 44] 44 #[vK, .slice (some ⟨w.heap.size, 0, none⟩) 1 1]).run Tryz.prog (zeroW w).drew = .ok (.slice A (ps.length + 1) c) w' ∧ w'.ownsRow base 46 5 (.slice A (ps.length + 1) c) (ps.length + 1) (dds ps ++ zero5) ∧ Kept (OwnB vK) w w' ∧ Fresh w vK (.slice A (ps.length + 1) c) := by
  obtain ⟨i0, hi, hz0, hz1, hz2⟩ := info_parts info46
  obtain ⟨v7, w7, hrun, ho, hgr, _, hloc⟩ := run_append_own_at (P := Tryz.prog) (zeroW w).drew base 44 44 46 i0 _ 5 80 Tryz.underlying44 hi hz0 hz1 hz2 rfl (by omega) vK ps.length (dds ps) (World.ownsRow.drew (hown.alloc _)) ⟨w.heap.size, 0, none⟩ 1 1 zero5 (by simp [zero5]) (show ∀ j u, zero5[j]? = some u → (zeroW w).cell? ((⟨w.heap.size, 0, none⟩ : Addr).add j) = some u from arr_new _ _ _ _ rfl) zero5_one (by unfold maxLen; omega) (by omega) (show base ≤ (zeroW w).heap.size by simp; omega)
  obtain ⟨A7, c7, rfl⟩ := row_form ho
  refine ⟨A7, c7, w7, hrun, ho, ((kept_alloc w _ _).trans (kept_below (below_drewN _ (zeroW w) 1) _) : Kept (OwnB vK) w ((zeroW w).drewN 1)).trans ((kept_grown hgr).mono (fun b _ hb => hb.symm)), fun j hj hb => ?_⟩
  rcases hloc with hl | hl
  · rw [← hl]; exact hb
  · rw [hl] at hb
    have hb' : (zeroW w).heap.size ≤ j ∨ j = (zeroW w).heap.size := by
      right; simpa [eq_comm] using hb
    simp at hb'
    omega
def putD (w : World) (g i : Nat) (d : Dt) (x : NV) : World := ((((w.setCell ⟨g, i, none⟩ (.int .i64 d.kind)).setCell ⟨g, i + 1, none⟩ (.int .i64 d.num)).setCell ⟨g, i + 2, none⟩ (.string d.text)).setCell ⟨g, i + 3, none⟩ (.slice x.A d.names.length x.ca)).setCell ⟨g, i + 4, none⟩ (.slice x.K d.list.length x.ck)
theorem setCell_comm (w : World) (a b : Addr) (u v : Value) (h : a.block ≠ b.block) : (w.setCell a u).setCell b v = (w.setCell b v).setCell a u := by
  simp only [World.setCell]
  congr 1
  apply Array.ext_getElem?
  intro i
  simp only [Array.getElem?_modify]
  by_cases h1 : a.block = i
  · have h2 : ¬ b.block = i := fun h2 => h (h1.trans h2.symm)
    simp [h1, h2]
  · by_cases h2 : b.block = i
    · simp [h1, h2]
    · simp [h1, h2]
theorem putD_comm (w : World) (D g i : Nat) (d : Dt) (x : NV) (u : Value) (h : ¬ D = g) : putD (w.setCell ⟨D, 4, none⟩ u) g i d x = (putD w g i d x).setCell ⟨D, 4, none⟩ u := by
  unfold putD
  rw [setCell_comm w ⟨D, 4, none⟩ ⟨g, i, none⟩ _ _ h, setCell_comm _ ⟨D, 4, none⟩ ⟨g, i + 1, none⟩ _ _ h, setCell_comm _ ⟨D, 4, none⟩ ⟨g, i + 2, none⟩ _ _ h, setCell_comm _ ⟨D, 4, none⟩ ⟨g, i + 3, none⟩ _ _ h, setCell_comm _ ⟨D, 4, none⟩ ⟨g, i + 4, none⟩ _ _ h]
theorem kept_putD (w : World) (g i : Nat) (d : Dt) (x : NV) : Kept (· = g) w (putD w g i d x) := by
  unfold putD
  exact ((((kept_setCell w ⟨g, i, none⟩ _).trans (kept_setCell _ ⟨g, i + 1, none⟩ _)).trans (kept_setCell _ ⟨g, i + 2, none⟩ _)).trans (kept_setCell _ ⟨g, i + 3, none⟩ _)).trans (kept_setCell _ ⟨g, i + 4, none⟩ _)
theorem own_putD {w : World} {base g c : Nat} {ps : List DV} (h : w.ownsRow base 46 5 (.slice (some ⟨g, 0, none⟩) (ps.length + 1) c) (ps.length + 1) (dds ps ++ zero5)) (d : Dt) (x : NV) : (putD w g (ps.length * 5) d x).ownsRow base 46 5 (.slice (some ⟨g, 0, none⟩) (ps.length + 1) c) (ps ++ [(d, x)]).length (dds (ps ++ [(d, x)])) := by
  have e : dds (ps ++ [(d, x)]) = (((((dds ps ++ zero5).set (ps.length * 5) (.int .i64 d.kind)).set (ps.length * 5 + 1) (.int .i64 d.num)).set (ps.length * 5 + 2) (.string d.text)).set (ps.length * 5 + 3) (.slice x.A d.names.length x.ca)).set (ps.length * 5 + 4) (.slice x.K d.list.length x.ck) := by
    have hl := dds_length ps
    rw [dds_append, List.set_append_right _ _ (by omega), List.set_append_right _ _ (by omega), List.set_append_right _ _ (by omega), List.set_append_right _ _ (by omega), List.set_append_right _ _ (by omega), hl]
    congr 1
    rw [show ps.length * 5 - ps.length * 5 = 0 by omega, show ps.length * 5 + 1 - ps.length * 5 = 1 by omega, show ps.length * 5 + 2 - ps.length * 5 = 2 by omega, show ps.length * 5 + 3 - ps.length * 5 = 3 by omega, show ps.length * 5 + 4 - ps.length * 5 = 4 by omega]
    rfl
  rw [e, show (ps ++ [(d, x)]).length = ps.length + 1 by simp]
  unfold putD
  exact (((((h.stored (ps.length * 5) _).1.stored (ps.length * 5 + 1) _).1.stored (ps.length * 5 + 2) _).1.stored (ps.length * 5 + 3) _).1.stored (ps.length * 5 + 4) _).1
/-- append by its run, as one step of a region that draws. -/
theorem step_append_run {P : Program} {ops : Array Oper} {o : Oper} {a : Act} {w w' : World} {K : Act → World → Prop} {Q : Exit → Act → World → Prop} {E : Prop} {v' : Value}
    (hg : o.guard = none) (s x : Operand) (t : TypeId) (hop : o.op = Op.call { callee := Callee.builtin Builtin.append, args := #[s, x], argTypes := #[t, t] })
    (v1 v2 : Value) (hs : a.eval s = v1) (hx : a.eval x = v2) (hrun : (Builtin.append_ #[t, t] o.type #[v1, v2]).run P w = .ok v' w')
    (hK : K (a.put o.dst v') w') :
    if Region.wanted o (yielded ops a.tmps) = true then Oper.wp P o a w K Q else E := by
  have hw : Region.wanted o (yielded ops a.tmps) = true := by simp [Region.wanted, hg]
  rw [if_pos hw]
  unfold Oper.wp
  simp [execOp, hop, resolve, invoke, builtin, hs, hx, hrun, Result.andThen]
  exact hK
theorem elem_bad {P : Nat} {s : ByteArray} {D base : Nat} {k : Int} {o v n : Nat} {er : Int} {ns m : List ByteArray} {ps : List DV} {w w' : World} {o' v' : Nat} (hn : n ≤ s.size) (hp : P5 w' P s (s.size - n) o' v' er) (her : er = 2 ∨ er = 11) (hk : Kept (fun b => b = P ∨ b = D ∨ base ≤ b) w w') : ElemC P s D base k o v ns ps (withN m (.bad n er)) w (.returned (.bool false)) w' :=
  ⟨⟨o', v', rfl, hn, hp, her⟩, hk⟩
theorem elem_ok {P : Nat} {s : ByteArray} {D base : Nat} {k : Int} {o v : Nat} {ns m : List ByteArray} {ps : List DV} {d : Dt} {l : Bytes} {w w' : World} {v' : Nat} {ns' : List ByteArray} {ps' : List DV} {vN vK : Value} (hl : l.length ≤ s.size) (hp : P5 w' P s (s.size - l.length) o v' 0) (h1 : v' = v + cntD d) (h2 : v' ≤ s.size - l.length) (g : GS w' base D P k ns' ps' vN vK) (h3 : ns'.length ≤ v') (h4 : ps'.length ≤ v') (h5 : v' ≤ 2000 → ns' = ns ++ m ∧ ps'.map Prod.fst = ps.map Prod.fst ++ [d]) (hk : Kept (fun b => b = P ∨ b = D ∨ base ≤ b) w w') : ElemC P s D base k o v ns ps (withN m (.ok d l)) w (.returned (.bool true)) w' :=
  ⟨⟨v', ns', ps', vN, vK, rfl, hl, hp, h1, h2, g, h3, h4, h5⟩, hk⟩
set_option maxHeartbeats 4000000 in
theorem element_list (P : Nat) (s : ByteArray) (D base a o v : Nat) (ns : List ByteArray) (ps : List DV) (vN vK : Value) (w : World) (h : P5 w P s a o v 0) (g : GS w base D P 4 ns ps vN vK) (hb : base ≤ w.heap.size) (ha : a ≤ s.size) (hs : s.size ≤ 1000000000) (hva : v ≤ a) (hnl : ns.length ≤ v) (hpl : ps.length ≤ v) (hv : Vars w) (hP4 : 4 ≤ P) (ih : ValOk P s o a) :
    Calls Tryz.prog 150 #[.pointer (some ⟨P, 0, none⟩), .pointer (some ⟨D, 0, none⟩)] w (ElemC P s D base 4 o v ns ps (el1P false o (restL s a)) w) := by
  obtain ⟨vA, vca, rfl⟩ := row_form g.rn
  obtain ⟨vL, vcl, rfl⟩ := row_form g.rk
  have CV := Lib.hid (ih v w h hva hv)
  have he : el1P false o (restL s a) = withN [] (valP o (restL s a)) := rfl
  rw [he]
  clear he
  generalize valP o (restL s a) = R at CV ⊢
  have HP := Lib.hid h; have HG := Lib.hid g
  obtain ⟨d0, d1, d2, d3, d4⟩ := g.box.cells
  clear ih h g hv
  cases R with
  | bad n er =>
    go_enter Tryz.func150, Tryz.ntmps150
    go_wp2_with fail
    refine CV.out.mono ?_
    rintro e w2 ⟨⟨o', v', rfl, hn, hp2, her⟩, hk2⟩
    have HF := Lib.hid (elem_bad (P := P) (s := s) (D := D) (base := base) (k := 4) (o := o) (v := v) (ns := ns) (m := []) (ps := ps) (w := w) (w' := zeroW w2) hn (hp2.kept (kept_alloc w2 _ (fun _ => False)) (fun h => h)) her ((hk2.trans (kept_alloc w2 _ _)).mono (fun b _ h => .inl h)))
    clear hp2 hk2
    go_wp2_with fail
    go_ret
    exact HF.out
  | ok d l =>
    go_enter Tryz.func150, Tryz.ntmps150
    go_wp2_with fail
    refine CV.out.mono ?_
    rintro e w2 ⟨⟨d', x, v', rfl, hl, hp2, hv', hle, hdd, hdi⟩, hk2⟩
    obtain ⟨w3, hw3⟩ : ∃ w3, w3 = boxD w2 d' x := ⟨_, rfl⟩
    have hk3 : Kept (fun _ => False) w2 w3 := by rw [hw3]; exact kept_alloc _ _ _
    have hp3 := hp2.kept hk3 (fun h => h)
    have hg3 := (HG.out.keepP hk2).keepP (hk3.mono (fun _ _ h => absurd h (fun h => h)))
    have hx3 : DatCells w3 w2.heap.size 0 d' x := by rw [hw3]; exact box_dat _ _ _
    have hx3f : ∀ j, w3.frozen? ⟨w2.heap.size, j, none⟩ = false := fun j => by
      have e : w3.heap[w2.heap.size]? = some (.cells #[.int .i64 d'.kind, .int .i64 d'.num, .string d'.text, .slice x.A d'.names.length x.ca, .slice x.K d'.list.length x.ck] 46 (0, 0)) := by rw [hw3]; exact heap_alloc_new w2 _
      simp [World.frozen?, e]
    have hs2 := hk2.size
    have HKW := Lib.hid (show Kept (· = P) w w3 from hk2.trans (hk3.mono (fun _ _ h => absurd h (fun h => h))))
    have HDI := Lib.hid (hdi.kept hk3 (fun _ _ _ h => h))
    have hs3 : w3.heap.size = w2.heap.size + 1 := by rw [hw3]; simp
    have HW3 := Lib.hid hw3; have HP3 := Lib.hid hp3; have HG3 := Lib.hid hg3
    have HV' := Lib.hid hv'; have HDD := Lib.hid hdd
    obtain ⟨p0, p1, p2, p3, p4⟩ := hp3.cells
    have hcp := cntD_pos d
    by_cases hbig : v' ≤ 2000
    · have hbi : (v' : Int) ≤ 2000 := by omega
      obtain ⟨i9, hi9, hz9, hz91, hz92⟩ := info_parts info9
      have HRN := Lib.hid hg3.rn
      obtain ⟨e0, e1, e2, e3, e4⟩ := hg3.box.cells
      have f3 := hg3.box.frozen 3
      have hg4 := hg3.names (ms := []) (v' := .slice vA ns.length vca) (W' := w3) (by simpa using hg3.rn) (Kept.refl _ _) (Fresh.refl _ _) (Nat.le_refl _)
      rw [List.append_nil] at hg4
      obtain ⟨w4, hw4⟩ : ∃ w4, w4 = w3.setCell ⟨D, 3, none⟩ (.slice vA ns.length vca) := ⟨_, rfl⟩
      rw [← hw4] at hg4
      have hk4 : Kept (· = D) w3 w4 := by rw [hw4]; exact kept_setCell _ ⟨D, 3, none⟩ _
      have hgD := hg4.hD
      have hgP := hg4.hP
      have hDP := hg4.hDP
      have hs4 := hk4.size
      have hp4 := HP3.out.kept hk4 (fun h => hDP h.symm)
      have hX : ¬ w2.heap.size = D := by omega
      have hx4 := hx3.kept hk4 hX
      obtain ⟨A6, c6, w6, hrun, hr6, hk6, hf6⟩ := add_run w4 base _ ps hg4.rk (by omega) (by omega)
      obtain ⟨g6, hg6e⟩ : ∃ g6, A6 = some ⟨g6, 0, none⟩ := by
        rcases hr6.2 with ⟨hn, h0⟩ | ⟨g', c', cur, he, _⟩
        · omega
        · simp at he; exact ⟨g', he.1⟩
      subst hg6e
      have hXo : ¬ OwnB (.slice vL ps.length vcl) w2.heap.size := fun e => by
        have := (HG3.out.rk.lt _ e).2
        have h2 := (HG.out.rk.lt _ e).2
        omega
      have hx6 := hx4.kept hk6 hXo
      have hDo : ¬ OwnB (.slice vL ps.length vcl) D := fun e => by have := (hg4.rk.lt _ e).1; omega
      have hb6 := hg4.box.kept hk6 hDo
      have hgb := (hr6.lt g6 rfl)
      have hd4 : DatIn w4 (fun b => base ≤ b ∧ ¬ OwnB (.slice vA ns.length vca) b ∧ ¬ OwnB (.slice vL ps.length vcl) b) d' x := by
        refine (HDI.out.kept hk4 (fun b hb _ e => by have e' : b = D := e; have hb' : w.heap.size ≤ b := hb; omega)).mono (fun b hb _ => ?_)
        have hb' : w.heap.size ≤ b := hb
        exact ⟨by omega, fun e => by have := (HG.out.rn.lt _ e).2; omega, fun e => by have := (HG.out.rk.lt _ e).2; omega⟩
      obtain ⟨w7, hw7⟩ : ∃ w7, w7 = putD w6 g6 (ps.length * 5) d' x := ⟨_, rfl⟩
      have hk67 : Kept (OwnB (.slice (some ⟨g6, 0, none⟩) (ps.length + 1) c6)) w6 w7 := by rw [hw7]; exact (kept_putD w6 g6 _ d' x).mono (fun b _ h => by have h' : b = g6 := h; rw [h']; rfl)
      have hk7 := Kept.fresh hk6 hf6 hk67
      have hg8 := hg4.add (d := d') (x := x) (W' := w7) (by rw [hw7]; exact own_putD hr6 d' x) hk7 hf6 hd4
      have hPo : ¬ OwnB (.slice vL ps.length vcl) P := fun e => by have := (hg4.rk.lt _ e).1; omega
      have hk78 : Kept (· = D) w7 (w7.setCell ⟨D, 4, none⟩ (.slice (some ⟨g6, 0, none⟩) (ps.length + 1) c6)) := kept_setCell w7 ⟨D, 4, none⟩ _
      have hp8 := (hp4.kept hk7 hPo).kept hk78 (fun h => hDP h.symm)
      have hkall : Kept (fun b => b = P ∨ b = D ∨ base ≤ b) w (w7.setCell ⟨D, 4, none⟩ (.slice (some ⟨g6, 0, none⟩) (ps.length + 1) c6)) :=
        (((HKW.out.mono (fun b _ h => .inl h)).trans (hk4.mono (fun b _ h => .inr (.inl h)))).trans (hk7.mono (fun b _ h => .inr (.inr (hg4.rk.lt _ h).1)))).trans (hk78.mono (fun b _ h => .inr (.inl h)))
      have HF := Lib.hid (elem_ok (m := []) (d := d) (ns := ns) (ps := ps) (v := v) (w := w) hl hp8 hv' hle hg8 (by omega) (by simp; omega) (fun h => ⟨by simp, by rw [hdd h]; simp⟩) hkall)
      obtain ⟨y0, y1, y2, y3, y4⟩ := hx4
      obtain ⟨b0, b1, b2, b3, b4⟩ := hg4.box.cells
      obtain ⟨q0, q1, q2, q3, q4⟩ := hx6
      obtain ⟨t0, t1, t2, t3, t4⟩ := hb6.cells
      have tf := hb6.frozen 4
      have r0 := (World.ownsRow.cellAt hr6 (ps.length * 5) (by omega)).trans (by rw [List.getElem?_append_right (by rw [dds_length]; omega), dds_length, Nat.sub_self]; rfl : _ = some (.int .i64 0))
      have r1 := (World.ownsRow.cellAt hr6 (ps.length * 5 + 1) (by omega)).trans (by rw [List.getElem?_append_right (by rw [dds_length]; omega), dds_length, show ps.length * 5 + 1 - ps.length * 5 = 1 by omega]; rfl : _ = some (.int .i64 0))
      have r2 := (World.ownsRow.cellAt hr6 (ps.length * 5 + 2) (by omega)).trans (by rw [List.getElem?_append_right (by rw [dds_length]; omega), dds_length, show ps.length * 5 + 2 - ps.length * 5 = 2 by omega]; rfl : _ = some (.string ⟨#[]⟩))
      have r3 := (World.ownsRow.cellAt hr6 (ps.length * 5 + 3) (by omega)).trans (by rw [List.getElem?_append_right (by rw [dds_length]; omega), dds_length, show ps.length * 5 + 3 - ps.length * 5 = 3 by omega]; rfl : _ = some (.slice none 0 0))
      have r4 := (World.ownsRow.cellAt hr6 (ps.length * 5 + 4) (by omega)).trans (by rw [List.getElem?_append_right (by rw [dds_length]; omega), dds_length, show ps.length * 5 + 4 - ps.length * 5 = 4 by omega]; rfl : _ = some (.slice none 0 0))
      have rf0 := World.ownsRow.frozenAt hr6 (ps.length * 5); have rf1 := World.ownsRow.frozenAt hr6 (ps.length * 5 + 1); have rf2 := World.ownsRow.frozenAt hr6 (ps.length * 5 + 2); have rf3 := World.ownsRow.frozenAt hr6 (ps.length * 5 + 3); have rf4 := World.ownsRow.frozenAt hr6 (ps.length * 5 + 4)
      have hDg : ¬ D = g6 := by omega
      have u4 : (((((w6.setCell ⟨g6, ps.length * 5, none⟩ (.int .i64 d'.kind)).setCell ⟨g6, ps.length * 5 + 1, none⟩ (.int .i64 d'.num)).setCell ⟨g6, ps.length * 5 + 2, none⟩ (.string d'.text)).setCell ⟨g6, ps.length * 5 + 3, none⟩ (.slice x.A d'.names.length x.ca)).setCell ⟨g6, ps.length * 5 + 4, none⟩ (.slice x.K d'.list.length x.ck)).cell? ⟨D, 4, none⟩ = some (.slice vL ps.length vcl) := (kept_putD w6 g6 (ps.length * 5) d' x).cellOf t4 hDg
      have uf : (((((w6.setCell ⟨g6, ps.length * 5, none⟩ (.int .i64 d'.kind)).setCell ⟨g6, ps.length * 5 + 1, none⟩ (.int .i64 d'.num)).setCell ⟨g6, ps.length * 5 + 2, none⟩ (.string d'.text)).setCell ⟨g6, ps.length * 5 + 3, none⟩ (.slice x.A d'.names.length x.ca)).setCell ⟨g6, ps.length * 5 + 4, none⟩ (.slice x.K d'.list.length x.ck)).frozen? ⟨D, 4, none⟩ = false := ((kept_putD w6 g6 (ps.length * 5) d' x).frozen (a := ⟨D, 4, none⟩) (World.block_lt_of_cell? w6 _ t4) hDg).trans tf
      have HRUN := Lib.hid hrun
      have HWD := Lib.hid (show putD (w6.setCell ⟨D, 4, none⟩ (.slice (some ⟨g6, 0, none⟩) (ps.length + 1) c6)) g6 (ps.length * 5) d' x = w7.setCell ⟨D, 4, none⟩ (.slice (some ⟨g6, 0, none⟩) (ps.length + 1) c6) from by rw [hw7]; exact putD_comm _ _ _ _ _ _ _ hDg)
      have HW4 := Lib.hid hw4; have HW7 := Lib.hid (hw7 : w7 = putD w6 g6 (ps.length * 5) d' x)
      have m0 := cell_push (o := .cells #[.int .i64 0, .int .i64 0, .string ⟨#[]⟩, .slice none 0 0, .slice none 0 0] 46) y0
      have m1 := cell_push (o := .cells #[.int .i64 0, .int .i64 0, .string ⟨#[]⟩, .slice none 0 0, .slice none 0 0] 46) y1
      have m2 := cell_push (o := .cells #[.int .i64 0, .int .i64 0, .string ⟨#[]⟩, .slice none 0 0, .slice none 0 0] 46) y2
      have m3 := cell_push (o := .cells #[.int .i64 0, .int .i64 0, .string ⟨#[]⟩, .slice none 0 0, .slice none 0 0] 46) y3
      have m4 := cell_push (o := .cells #[.int .i64 0, .int .i64 0, .string ⟨#[]⟩, .slice none 0 0, .slice none 0 0] 46) y4
      have n4 := cell_push (o := .cells #[.int .i64 0, .int .i64 0, .string ⟨#[]⟩, .slice none 0 0, .slice none 0 0] 46) b4
      have hn0 : (0 : Int) ≤ (ps.length : Int) := by omega
      have hn1 : (ps.length : Int) < ((ps.length + 1 : Nat) : Int) := by omega
      have hn2 : (ps.length : Int) < (ps.length : Int) + 1 := by omega
      have hn3 : ps.length < ps.length + 1 := by omega
      clear hp2 hk2 hk3 hp3 hg3 hw3 hdi hv' hdd CV HP HG d0 d1 d2 d3 d4 hg4 hw4 hk4 hp4 hX hrun hr6 hk6 hf6 hXo hDo hb6 hgb hd4 hw7 hk67 hk7 hg8 hPo hk78 hp8 hkall hx3 hx3f HDI HKW HP3 HV' HDD HG3 t0 t1 t2 t3 b0 b1 b2 hgD hgP hs4
      go_upto_region 8 with (fail)
      rw [boxD_out HW3]
      go_upto_region 10 with (at_builtin; refine wpList_append_own_none rfl _ _ 43 rfl base 9 i9 1 Tryz.underlying43 hi9 _ ns.length (ns.map Value.string) rfl HRN.out rfl ?_)
      rw [show w3.setCell ⟨D, 3, none⟩ (.slice vA ns.length vca) = w4 from HW4.out.symm]
      clear e0 e1 e2 e3 e4 f3 p0 p1 p2 p3 p4
      go_region_law (refine step_append_run rfl (.tmp 54) (.tmp 57) 44 rfl (.slice vL ps.length vcl) (.slice (some ⟨w4.heap.size, 0, none⟩) 1 1) (by first | (simp [Act.eval]; done) | (simp [Act.eval, Act.put]; done)) (by first | (simp [Act.eval]; done) | (simp [Act.eval, Act.put]; done)) HRUN.out ?_)
      all_goals
        first
          | rw [show (((((w6.setCell ⟨g6, ps.length * 5, none⟩ (.int .i64 d'.kind)).setCell ⟨g6, ps.length * 5 + 1, none⟩ (.int .i64 d'.num)).setCell ⟨g6, ps.length * 5 + 2, none⟩ (.string d'.text)).setCell ⟨g6, ps.length * 5 + 3, none⟩ (.slice x.A d'.names.length x.ca)).setCell ⟨g6, ps.length * 5 + 4, none⟩ (.slice x.K d'.list.length x.ck)) = w7 from HW7.out.symm]
          | rw [show ((((((w6.setCell ⟨D, 4, none⟩ (.slice (some ⟨g6, 0, none⟩) (ps.length + 1) c6)).setCell ⟨g6, ps.length * 5, none⟩ (.int .i64 d'.kind)).setCell ⟨g6, ps.length * 5 + 1, none⟩ (.int .i64 d'.num)).setCell ⟨g6, ps.length * 5 + 2, none⟩ (.string d'.text)).setCell ⟨g6, ps.length * 5 + 3, none⟩ (.slice x.A d'.names.length x.ca)).setCell ⟨g6, ps.length * 5 + 4, none⟩ (.slice x.K d'.list.length x.ck)) = w7.setCell ⟨D, 4, none⟩ (.slice (some ⟨g6, 0, none⟩) (ps.length + 1) c6) from HWD.out]
        go_wp2_with fail
        go_ret
        exact HF.out
    · have hbi : ¬ (v' : Int) ≤ 2000 := by omega
      have HF := Lib.hid (elem_ok (m := []) (d := d) (ns := ns) (ps := ps) (v := v) (w := w) hl hp3 hv' hle hg3 (by omega) (by omega) (fun h => absurd h hbig) (HKW.out.mono (fun b _ h => .inl h)))
      clear hp2 hk2 hk3 hp3 hg3 hw3 hdi hv' hdd CV HP HG d0 d1 d2 d3 d4 hx3 hx3f
      go_upto_region 8 with (fail)
      rw [boxD_out HW3]
      go_wp2_with fail
      go_ret
      exact HF.out
end Go.Proofs.YtjnhcoflmechmaaGreatDoor

namespace Go.Proofs.YtjnhcoflmechmaaGreatDoor
open Go.RowKit Go.Sort
set_option linter.unusedVariables false
set_option maxRecDepth 100000
theorem dropWhile_drop (p : UInt8 → Bool) (l : Bytes) : l.dropWhile p = l.drop (l.takeWhile p).length := by
  induction l with
  | nil => rfl
  | cons c r ih =>
    by_cases h : p c = true
    · simp [h, ih]
    · simp [h]
theorem el1_noname {s : ByteArray} {a o : Nat} (h : nmB (runB nameC (strB (restL s a))) = false) : el1P true o (restL s a) = .bad (s.size - a) 2 := by
  have h' : nmB (strB ((restL s a).takeWhile nameC)) = false := h
  unfold el1P nameP
  simp only [if_true, h']
  rw [if_neg (by decide), restL_len]
theorem el1_eq {s : ByteArray} {a o : Nat} (h : nmB (runB nameC (strB (restL s a))) = true) : el1P true o (restL s a) = match byteP 61 (restL s (a + (runB nameC (strB (restL s a))).size)) with | .ok _ l => withN [runB nameC (strB (restL s a))] (valP o l) | .bad n e => .bad n e := by
  have h' : nmB (strB ((restL s a).takeWhile nameC)) = true := h
  have hd : (restL s a).dropWhile nameC = restL s (a + (runB nameC (strB (restL s a))).size) := by
    rw [dropWhile_drop, restL_drop]
    congr 2
  unfold el1P nameP
  simp only [if_true, h']
  rw [hd]
  rcases byteP 61 (restL s (a + (runB nameC (strB (restL s a))).size)) with ⟨u, l⟩ | ⟨n, e⟩
  · rfl
  · rfl
set_option maxHeartbeats 8000000 in
theorem element_rec (P : Nat) (s : ByteArray) (D base a o v : Nat) (ns : List ByteArray) (ps : List DV) (vN vK : Value) (w : World) (h : P5 w P s a o v 0) (g : GS w base D P 5 ns ps vN vK) (hb : base ≤ w.heap.size) (ha : a ≤ s.size) (hs : s.size ≤ 1000000000) (hva : v ≤ a) (hnl : ns.length ≤ v) (hpl : ps.length ≤ v) (hv : Vars w) (hP4 : 4 ≤ P) (ih : ∀ a', a < a' → a' ≤ s.size → ValOk P s o a') :
    Calls Tryz.prog 150 #[.pointer (some ⟨P, 0, none⟩), .pointer (some ⟨D, 0, none⟩)] w (ElemC P s D base 5 o v ns ps (el1P true o (restL s a)) w) := by
  obtain ⟨vA, vca, rfl⟩ := row_form g.rn
  obtain ⟨vL, vcl, rfl⟩ := row_form g.rk
  have CN := Lib.hid (parseName_any P s a o v w h ha hs)
  have hE1 := Lib.hid (@el1_noname s a o); have hE2 := Lib.hid (@el1_eq s a o)
  have hlen0 := Nat.le_trans (runB_len nameC (restL s a)) (Nat.le_of_eq (restL_len s a))
  unfold NameC at CN
  generalize runB nameC (strB (restL s a)) = nm at CN hE1 hE2 hlen0
  generalize el1P true o (restL s a) = R0 at hE1 hE2 ⊢
  have HG := Lib.hid g; have HV := Lib.hid hv; have HIH := Lib.hid ih
  obtain ⟨d0, d1, d2, d3, d4⟩ := g.box.cells
  clear h g hv ih
  go_enter Tryz.func150, Tryz.ntmps150
  go_wp2_with fail
  refine CN.out.mono ?_
  rintro e w1 ⟨⟨hnm, rfl, hp1⟩ | ⟨hnm, rfl, hp1⟩, hk1⟩
  · have CE := Lib.hid (need_any P s (a + nm.size) o v 61 w1 hp1 (by omega) hs)
    have HK1 := Lib.hid hk1
    have hE := Lib.hid (hE2.out hnm)
    clear CN hE1 hE2 hp1 hk1
    go_wp2_with fail
    refine CE.out.mono ?_
    rintro e wb ⟨⟨hc, rfl, hpb⟩ | ⟨hc, rfl, hpb⟩, hkb⟩
    · obtain ⟨e61, hlt61⟩ := isC_ok hc
      have hE3 := hE.out
      rw [e61] at hE3
      have HE3 := Lib.hid (show R0 = withN [nm] (valP o (restL s (a + nm.size + 1))) from hE3)
      have hpb' : P5 wb P s (a + nm.size + 1) o v 0 := hpb
      obtain ⟨wc, hwc⟩ : ∃ wc, wc = wb.alloc (.cells #[.string nm] 9) := ⟨_, rfl⟩
      have hkc : Kept (fun _ => False) wb wc := by rw [hwc]; exact kept_alloc _ _ _
      have hpc := hpb'.kept hkc (fun h => h)
      have hkwc : Kept (· = P) w wc := (HK1.out.trans hkb).trans (hkc.mono (fun _ _ h => absurd h (fun h => h)))
      have hswb := (HK1.out.trans hkb).size
      have hswc := hkwc.size
      have hEc : wc.cell? ⟨wb.heap.size, 0, none⟩ = some (.string nm) := by rw [hwc]; exact cell_of_row _ _ _ _ _ (0, 0) (heap_alloc_new wb _)
      have hcs : wc.heap.size = wb.heap.size + 1 := by rw [hwc]; simp
      have CV := Lib.hid (HIH.out (a + nm.size + 1) (by omega) (by omega) v wc hpc (by omega) (HV.out.keptP hP4 hkwc))
      have HWC := Lib.hid hwc.symm
      generalize valP o (restL s (a + nm.size + 1)) = R at CV HE3
      have HKWC := Lib.hid hkwc
      obtain ⟨c0, c1, c2, c3, c4⟩ := hpc.cells
      clear hE3 hpb hpb' hkb CE HK1 hwc hkc hpc hkwc HIH HV e61 hE
      go_upto_region 7 with (fail)
      rw [HWC.out]
      cases R with
      | bad n er =>
        go_wp2_with fail
        refine CV.out.mono ?_
        rintro e w2 ⟨⟨o', v', rfl, hn, hp2, her⟩, hk2⟩
        have HF := Lib.hid (show ElemC P s D base 5 o v ns ps R0 w (.returned (.bool false)) (zeroW w2) from by
          rw [HE3.out]
          exact elem_bad hn (hp2.kept (kept_alloc w2 _ (fun _ => False)) (fun h => h)) her ((HKWC.out.trans (hk2.trans (kept_alloc w2 _ _))).mono (fun b _ h => .inl h)))
        clear hp2 hk2 CV HKWC
        go_wp2_with fail
        go_ret
        exact HF.out
      | ok d l =>
      go_wp2_with fail
      refine CV.out.mono ?_
      rintro e w2 ⟨⟨d', x, v', rfl, hl, hp2, hv', hle, hdd, hdi⟩, hk2⟩
      obtain ⟨w3, hw3⟩ : ∃ w3, w3 = boxD w2 d' x := ⟨_, rfl⟩
      have hk3 : Kept (fun _ => False) w2 w3 := by rw [hw3]; exact kept_alloc _ _ _
      have hp3 := hp2.kept hk3 (fun h => h)
      have hkw3 : Kept (· = P) w w3 := (HKWC.out.trans hk2).trans (hk3.mono (fun _ _ h => absurd h (fun h => h)))
      have hg3 := HG.out.keepP hkw3
      have hx3 : DatCells w3 w2.heap.size 0 d' x := by rw [hw3]; exact box_dat _ _ _
      have hs2 := hk2.size
      have hgP0 := hg3.hP
      have hE3c : w3.cell? ⟨wb.heap.size, 0, none⟩ = some (.string nm) := hk3.cellOf (hk2.cellOf hEc (show ¬ wb.heap.size = P by omega)) (fun h => h)
      have HKW := Lib.hid hkw3
      have HDI := Lib.hid (hdi.kept hk3 (fun _ _ _ h => h))
      have hs3 : w3.heap.size = w2.heap.size + 1 := by rw [hw3]; simp
      have HW3 := Lib.hid hw3; have HP3 := Lib.hid hp3; have HG3 := Lib.hid hg3
      have HV' := Lib.hid hv'; have HDD := Lib.hid hdd
      obtain ⟨p0, p1, p2, p3, p4⟩ := hp3.cells
      have hcp := cntD_pos d
      have hvv : v + 1 ≤ v' := by omega
      by_cases hbig : v' ≤ 2000
      · have hbi : (v' : Int) ≤ 2000 := by omega
        obtain ⟨i9, hi9, hz9, hz91, hz92⟩ := info_parts info9
        have HRN := Lib.hid hg3.rn
        obtain ⟨e0, e1, e2, e3, e4⟩ := hg3.box.cells
        have HNEW := Lib.hid (show ∀ j u, [Value.string nm][j]? = some u → w3.cell? ((⟨wb.heap.size, 0, none⟩ : Addr).add j) = some u from fun j u hj => by
          cases j with
          | zero => simp at hj; subst hj; rw [Addr.add_lit]; exact hE3c
          | succ j => simp at hj)
        have HONE := Lib.hid (show ∀ u ∈ [Value.string nm], u.oneCell' = true from fun u hu => by simp at hu; subst hu; rfl)
        have HDN := Lib.hid (show ¬ OwnB (.slice vA ns.length vca) D from fun e => by have := (hg3.rn.lt D e).1; have := hg3.hD; omega)
        have HX3 := Lib.hid hx3
        clear hp2 hk2 hk3 hp3 hg3 hw3 hdi hv' hdd CV d0 d1 d2 d3 d4 hkw3 hx3 hEc hE3c HKWC c0 c1 c2 c3 c4
        go_upto_region 8 with (fail)
        rw [boxD_out HW3]
        go_upto_region 10 with (at_builtin; refine wpList_append_own_at w3 rfl _ _ 43 rfl base 9 i9 _ 1 16 Tryz.underlying43 hi9 hz9 hz91 hz92 rfl (by omega) (.slice vA ns.length vca) ns.length (ns.map Value.string) rfl HRN.out ⟨wb.heap.size, 0, none⟩ 1 1 [.string nm] rfl rfl HNEW.out HONE.out (by unfold maxLen; omega) (by omega) (by omega) ?_; intro v9 w9 ho9 hgr9 hiff9 hloc9; clear hiff9; obtain ⟨v9A, v9c, rfl⟩ := row_form ho9; have hk9 : Kept (OwnB (.slice vA ns.length vca)) w3 w9 := (kept_grown hgr9).mono (fun b _ hb => hb.symm); have hb9 := HG3.out.box.kept hk9 HDN.out; have e93 := hb9.cells.2.2.2.1; have f93 := hb9.frozen 3)
        have hf9 : Fresh w3 (.slice vA ns.length vca) (.slice v9A (ns.length + 1) v9c) := fun j hj hb => by
          rcases hloc9 with hl | hl
          · rw [← hl]; exact hb
          · rw [hl] at hb; simp at hb; omega
        have hg4 := HG3.out.names (ms := [nm]) (v' := .slice v9A (ns.length + 1) v9c) (W' := w9) (by simpa using ho9) hk9 hf9 hk9.size
        obtain ⟨w4, hw4⟩ : ∃ w4, w4 = w9.setCell ⟨D, 3, none⟩ (.slice v9A (ns.length + 1) v9c) := ⟨_, rfl⟩
        rw [← hw4] at hg4
        rw [← hw4]
        have hk4 : Kept (· = D) w9 w4 := by rw [hw4]; exact kept_setCell _ ⟨D, 3, none⟩ _
        have hs9 := hk9.size
        have hPN : ¬ OwnB (.slice vA ns.length vca) P := fun e => by have := (HG.out.rn.lt P e).1; omega
        have hXN : ¬ OwnB (.slice vA ns.length vca) w2.heap.size := fun e => by have := (HG.out.rn.lt _ e).2; omega
        have hx3 := HX3.out
        have hgD := hg4.hD
        have hgP := hg4.hP
        have hDP := hg4.hDP
        have hs4 := hk4.size
        have hp4 := (HP3.out.kept hk9 hPN).kept hk4 (fun h => hDP h.symm)
        have hX : ¬ w2.heap.size = D := by omega
        have hx4 := (hx3.kept hk9 hXN).kept hk4 hX
        obtain ⟨A6, c6, w6, hrun, hr6, hk6, hf6⟩ := add_run w4 base _ ps hg4.rk (by omega) (by omega)
        obtain ⟨g6, hg6e⟩ : ∃ g6, A6 = some ⟨g6, 0, none⟩ := by
          rcases hr6.2 with ⟨hn, h0⟩ | ⟨g', c', cur, he, _⟩
          · omega
          · simp at he; exact ⟨g', he.1⟩
        subst hg6e
        have hXo : ¬ OwnB (.slice vL ps.length vcl) w2.heap.size := fun e => by
          have h2 := (HG.out.rk.lt _ e).2
          omega
        have hx6 := hx4.kept hk6 hXo
        have hDo : ¬ OwnB (.slice vL ps.length vcl) D := fun e => by have := (hg4.rk.lt _ e).1; omega
        have hb6 := hg4.box.kept hk6 hDo
        have hgb := (hr6.lt g6 rfl)
        have hd4 : DatIn w4 (fun b => base ≤ b ∧ ¬ OwnB (.slice v9A (ns.length + 1) v9c) b ∧ ¬ OwnB (.slice vL ps.length vcl) b) d' x := by
          have h0 := HDI.out.mono (S' := fun b => wc.heap.size ≤ b ∧ b < w3.heap.size) (fun b hb hlt => ⟨hb, hlt⟩)
          refine ((h0.kept hk9 (fun b hb _ e => by have := (HG.out.rn.lt _ e).2; have := hb.1; omega)).kept hk4 (fun b hb _ e => by have e' : b = D := e; have := hb.1; omega)).mono (fun b hb _ => ?_)
          exact ⟨by have := hb.1; omega, fun e => by have := (HG.out.rn.lt _ (hf9 b hb.2 e)).2; have := hb.1; omega, fun e => by have := (HG.out.rk.lt _ e).2; have := hb.1; omega⟩
        obtain ⟨w7, hw7⟩ : ∃ w7, w7 = putD w6 g6 (ps.length * 5) d' x := ⟨_, rfl⟩
        have hk67 : Kept (OwnB (.slice (some ⟨g6, 0, none⟩) (ps.length + 1) c6)) w6 w7 := by rw [hw7]; exact (kept_putD w6 g6 _ d' x).mono (fun b _ h => by have h' : b = g6 := h; rw [h']; rfl)
        have hk7 := Kept.fresh hk6 hf6 hk67
        have hg8 := hg4.add (d := d') (x := x) (W' := w7) (by rw [hw7]; exact own_putD hr6 d' x) hk7 hf6 hd4
        have hPo : ¬ OwnB (.slice vL ps.length vcl) P := fun e => by have := (hg4.rk.lt _ e).1; omega
        have hk78 : Kept (· = D) w7 (w7.setCell ⟨D, 4, none⟩ (.slice (some ⟨g6, 0, none⟩) (ps.length + 1) c6)) := kept_setCell w7 ⟨D, 4, none⟩ _
        have hp8 := (hp4.kept hk7 hPo).kept hk78 (fun h => hDP h.symm)
        have hkall : Kept (fun b => b = P ∨ b = D ∨ base ≤ b) w (w7.setCell ⟨D, 4, none⟩ (.slice (some ⟨g6, 0, none⟩) (ps.length + 1) c6)) :=
          ((((HKW.out.mono (fun b _ h => .inl h)).trans (hk9.mono (fun b _ h => .inr (.inr (HG.out.rn.lt _ h).1)))).trans (hk4.mono (fun b _ h => .inr (.inl h)))).trans (hk7.mono (fun b _ h => .inr (.inr (hg4.rk.lt _ h).1)))).trans (hk78.mono (fun b _ h => .inr (.inl h)))
        have HF := Lib.hid (show ElemC P s D base 5 o v ns ps R0 w (.returned (.bool true)) (w7.setCell ⟨D, 4, none⟩ (.slice (some ⟨g6, 0, none⟩) (ps.length + 1) c6)) from by rw [HE3.out]; exact elem_ok (m := [nm]) (d := d) (ns := ns) (ps := ps) (v := v) (w := w) hl hp8 HV'.out hle hg8 (by simp; omega) (by simp; omega) (fun h => ⟨rfl, by rw [HDD.out h]; simp⟩) hkall)
        obtain ⟨y0, y1, y2, y3, y4⟩ := hx4
        obtain ⟨b0, b1, b2, b3, b4⟩ := hg4.box.cells
        obtain ⟨q0, q1, q2, q3, q4⟩ := hx6
        obtain ⟨t0, t1, t2, t3, t4⟩ := hb6.cells
        have tf := hb6.frozen 4
        have r0 := (World.ownsRow.cellAt hr6 (ps.length * 5) (by omega)).trans (by rw [List.getElem?_append_right (by rw [dds_length]; omega), dds_length, Nat.sub_self]; rfl : _ = some (.int .i64 0))
        have r1 := (World.ownsRow.cellAt hr6 (ps.length * 5 + 1) (by omega)).trans (by rw [List.getElem?_append_right (by rw [dds_length]; omega), dds_length, show ps.length * 5 + 1 - ps.length * 5 = 1 by omega]; rfl : _ = some (.int .i64 0))
        have r2 := (World.ownsRow.cellAt hr6 (ps.length * 5 + 2) (by omega)).trans (by rw [List.getElem?_append_right (by rw [dds_length]; omega), dds_length, show ps.length * 5 + 2 - ps.length * 5 = 2 by omega]; rfl : _ = some (.string ⟨#[]⟩))
        have r3 := (World.ownsRow.cellAt hr6 (ps.length * 5 + 3) (by omega)).trans (by rw [List.getElem?_append_right (by rw [dds_length]; omega), dds_length, show ps.length * 5 + 3 - ps.length * 5 = 3 by omega]; rfl : _ = some (.slice none 0 0))
        have r4 := (World.ownsRow.cellAt hr6 (ps.length * 5 + 4) (by omega)).trans (by rw [List.getElem?_append_right (by rw [dds_length]; omega), dds_length, show ps.length * 5 + 4 - ps.length * 5 = 4 by omega]; rfl : _ = some (.slice none 0 0))
        have rf0 := World.ownsRow.frozenAt hr6 (ps.length * 5); have rf1 := World.ownsRow.frozenAt hr6 (ps.length * 5 + 1); have rf2 := World.ownsRow.frozenAt hr6 (ps.length * 5 + 2); have rf3 := World.ownsRow.frozenAt hr6 (ps.length * 5 + 3); have rf4 := World.ownsRow.frozenAt hr6 (ps.length * 5 + 4)
        have hDg : ¬ D = g6 := by omega
        have u4 : (((((w6.setCell ⟨g6, ps.length * 5, none⟩ (.int .i64 d'.kind)).setCell ⟨g6, ps.length * 5 + 1, none⟩ (.int .i64 d'.num)).setCell ⟨g6, ps.length * 5 + 2, none⟩ (.string d'.text)).setCell ⟨g6, ps.length * 5 + 3, none⟩ (.slice x.A d'.names.length x.ca)).setCell ⟨g6, ps.length * 5 + 4, none⟩ (.slice x.K d'.list.length x.ck)).cell? ⟨D, 4, none⟩ = some (.slice vL ps.length vcl) := (kept_putD w6 g6 (ps.length * 5) d' x).cellOf t4 hDg
        have uf : (((((w6.setCell ⟨g6, ps.length * 5, none⟩ (.int .i64 d'.kind)).setCell ⟨g6, ps.length * 5 + 1, none⟩ (.int .i64 d'.num)).setCell ⟨g6, ps.length * 5 + 2, none⟩ (.string d'.text)).setCell ⟨g6, ps.length * 5 + 3, none⟩ (.slice x.A d'.names.length x.ca)).setCell ⟨g6, ps.length * 5 + 4, none⟩ (.slice x.K d'.list.length x.ck)).frozen? ⟨D, 4, none⟩ = false := ((kept_putD w6 g6 (ps.length * 5) d' x).frozen (a := ⟨D, 4, none⟩) (World.block_lt_of_cell? w6 _ t4) hDg).trans tf
        have HRUN := Lib.hid hrun
        have HWD := Lib.hid (show putD (w6.setCell ⟨D, 4, none⟩ (.slice (some ⟨g6, 0, none⟩) (ps.length + 1) c6)) g6 (ps.length * 5) d' x = w7.setCell ⟨D, 4, none⟩ (.slice (some ⟨g6, 0, none⟩) (ps.length + 1) c6) from by rw [hw7]; exact putD_comm _ _ _ _ _ _ _ hDg)
        have HW4 := Lib.hid hw4; have HW7 := Lib.hid (hw7 : w7 = putD w6 g6 (ps.length * 5) d' x)
        have m0 := cell_push (o := .cells #[.int .i64 0, .int .i64 0, .string ⟨#[]⟩, .slice none 0 0, .slice none 0 0] 46) y0
        have m1 := cell_push (o := .cells #[.int .i64 0, .int .i64 0, .string ⟨#[]⟩, .slice none 0 0, .slice none 0 0] 46) y1
        have m2 := cell_push (o := .cells #[.int .i64 0, .int .i64 0, .string ⟨#[]⟩, .slice none 0 0, .slice none 0 0] 46) y2
        have m3 := cell_push (o := .cells #[.int .i64 0, .int .i64 0, .string ⟨#[]⟩, .slice none 0 0, .slice none 0 0] 46) y3
        have m4 := cell_push (o := .cells #[.int .i64 0, .int .i64 0, .string ⟨#[]⟩, .slice none 0 0, .slice none 0 0] 46) y4
        have n4 := cell_push (o := .cells #[.int .i64 0, .int .i64 0, .string ⟨#[]⟩, .slice none 0 0, .slice none 0 0] 46) b4
        have hn0 : (0 : Int) ≤ (ps.length : Int) := by omega
        have hn1 : (ps.length : Int) < ((ps.length + 1 : Nat) : Int) := by omega
        have hn2 : (ps.length : Int) < (ps.length : Int) + 1 := by omega
        have hn3 : ps.length < ps.length + 1 := by omega
        clear e0 e1 e2 e3 e4 p0 p1 p2 p3 p4 e93 f93 hb9 hk9 hgr9 ho9 hloc9 hf9 hg4 hw4 hk4 hp4 hX hrun hr6 hk6 hf6 hXo hDo hb6 hgb hd4 hw7 hk67 hk7 hg8 hPo hk78 hp8 hkall hx3 HDI HKW HP3 HV' HDD HG3 HG HX3 HRN HNEW HONE HDN hPN hXN t0 t1 t2 t3 b0 b1 b2 hgD hgP hs4 hs9
        go_region_law (refine step_append_run rfl (.tmp 54) (.tmp 57) 44 rfl (.slice vL ps.length vcl) (.slice (some ⟨w4.heap.size, 0, none⟩) 1 1) (by first | (simp [Act.eval]; done) | (simp [Act.eval, Act.put]; done)) (by first | (simp [Act.eval]; done) | (simp [Act.eval, Act.put]; done)) HRUN.out ?_)
        all_goals
          first
            | rw [show (((((w6.setCell ⟨g6, ps.length * 5, none⟩ (.int .i64 d'.kind)).setCell ⟨g6, ps.length * 5 + 1, none⟩ (.int .i64 d'.num)).setCell ⟨g6, ps.length * 5 + 2, none⟩ (.string d'.text)).setCell ⟨g6, ps.length * 5 + 3, none⟩ (.slice x.A d'.names.length x.ca)).setCell ⟨g6, ps.length * 5 + 4, none⟩ (.slice x.K d'.list.length x.ck)) = w7 from HW7.out.symm]
            | rw [show ((((((w6.setCell ⟨D, 4, none⟩ (.slice (some ⟨g6, 0, none⟩) (ps.length + 1) c6)).setCell ⟨g6, ps.length * 5, none⟩ (.int .i64 d'.kind)).setCell ⟨g6, ps.length * 5 + 1, none⟩ (.int .i64 d'.num)).setCell ⟨g6, ps.length * 5 + 2, none⟩ (.string d'.text)).setCell ⟨g6, ps.length * 5 + 3, none⟩ (.slice x.A d'.names.length x.ca)).setCell ⟨g6, ps.length * 5 + 4, none⟩ (.slice x.K d'.list.length x.ck)) = w7.setCell ⟨D, 4, none⟩ (.slice (some ⟨g6, 0, none⟩) (ps.length + 1) c6) from HWD.out]
          go_wp2_with fail
          go_ret
          exact HF.out
      · have hbi : ¬ (v' : Int) ≤ 2000 := by omega
        have HF := Lib.hid (show ElemC P s D base 5 o v ns ps R0 w (.returned (.bool true)) w3 from by
          rw [HE3.out]
          exact elem_ok (m := [nm]) (d := d) (ns := ns) (ps := ps) (v := v) (w := w) hl hp3 hv' hle hg3 (by omega) (by omega) (fun h => absurd h hbig) (HKW.out.mono (fun b _ h => .inl h)))
        clear hp2 hk2 hk3 hp3 hg3 hw3 hdi hv' hdd CV HG d0 d1 d2 d3 d4 hx3 hkw3 HKWC c0 c1 c2 c3 c4
        go_upto_region 8 with (fail)
        rw [boxD_out HW3]
        go_wp2_with fail
        go_ret
        exact HF.out
    · have hE3 := hE.out
      rw [isC_no hc] at hE3
      have HF := Lib.hid (show ElemC P s D base 5 o v ns ps R0 w (.returned (.bool false)) wb from by
        rw [show R0 = withN [] (.bad (s.size - (a + nm.size)) 2) from hE3]
        exact elem_bad (by omega) (by rw [show s.size - (s.size - (a + nm.size)) = a + nm.size by omega]; exact hpb) (.inl rfl) ((HK1.out.trans hkb).mono (fun b _ h => .inl h)))
      clear hE3 hpb hkb CE HK1
      go_wp2_with fail
      go_ret
      exact HF.out
  · have HF := Lib.hid (show ElemC P s D base 5 o v ns ps R0 w (.returned (.bool false)) w1 from by
      rw [show R0 = withN [] (.bad (s.size - a) 2) from hE1.out hnm]
      exact elem_bad (by omega) (by rw [show s.size - (s.size - a) = a by omega]; exact hp1) (.inl rfl) (hk1.mono (fun b _ h => .inl h)))
    clear hE1 hE2 hp1 hk1 CN
    go_wp2_with fail
    go_ret
    exact HF.out
end Go.Proofs.YtjnhcoflmechmaaGreatDoor
