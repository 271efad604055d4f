/-
  The reference parser's lists and records: the mathematics and the memory. | slices.Clone at strings and at data values. | datum.duplicate: a copy of a value.
-/
import Derived.Test.YtjnhcoflmechmaaGreatDoorDRef3
import Derived.Test.YtjnhcoflmechmaaGreatDoorDGroup
namespace Go.Proofs.YtjnhcoflmechmaaGreatDoor
open Go.RowKit Go.Sort
set_option linter.unusedVariables false
set_option maxRecDepth 100000
theorem byteP_bad {c : UInt8} {l : Bytes} {n : Nat} {e : Int} (h : byteP c l = .bad n e) : n = l.length ∧ e = 2 := by
  cases l with
  | nil => simp [byteP] at h; exact ⟨h.1.symm, h.2.symm⟩
  | cons d r => simp only [byteP] at h; split at h
                · cases h
                · cases h; exact ⟨rfl, rfl⟩
def closeP (k5 : Bool) (l : Bytes) : Rd (List ByteArray × List Dt) := match byteP (closeC k5) l with
  | .ok _ l' => .ok ([], []) l'
  | .bad n e => .bad n e
/-- What remains to be said at the head of the loop. -/
noncomputable def loopR (k5 : Bool) (o : Nat) (mo : Bool) : Rd Unit → Rd (List ByteArray × List Dt)
  | .ok _ l => if mo then elemsP k5 o l else closeP k5 l
  | .bad n e => .bad n e
def mesR (mo : Bool) : Rd Unit → Nat
  | .ok _ l => if mo then l.length + 1 else 0
  | .bad _ _ => 0
theorem exit_ok {k5 mo : Bool} {o : Nat} {S : Rd Unit} {R0 : Rd (List ByteArray × List Dt)} {ns : List ByteArray} {xs : List Dt} (h : R0 = accE ns xs (loopR k5 o mo S)) (hm : mo = false ∨ ∃ n e, S = .bad n e) :
    (∀ u l, S.then (byteP (closeC k5)) = .ok u l → R0 = .ok (ns, xs) l) ∧ (∀ n e, S.then (byteP (closeC k5)) = .bad n e → R0 = .bad n e) := by
  cases S with
  | bad n e =>
    refine ⟨fun u l h1 => (by cases h1), fun n' e' h1 => ?_⟩
    cases h1
    rw [h]; rfl
  | ok u l =>
    have hmo : mo = false := by
      rcases hm with h1 | ⟨n, e, h1⟩
      · exact h1
      · cases h1
    subst hmo
    have h1 : R0 = accE ns xs (closeP k5 l) := h
    unfold closeP at h1
    refine ⟨fun u' l' h2 => ?_, fun n e h2 => ?_⟩
    · have h3 : byteP (closeC k5) l = .ok u' l' := h2
      rw [h3] at h1
      rw [h1]; simp [accE]
    · have h3 : byteP (closeC k5) l = .bad n e := h2
      rw [h3] at h1
      rw [h1]; rfl
theorem restP_more {k5 : Bool} {o : Nat} {l l2 l3 : Bytes} {p : List ByteArray × Dt} (h : el1P k5 o l = .ok p l2) (hm : byteP 44 l2 = .ok () l3) : elemsP k5 o l = accE p.1 [p.2] (loopR k5 o true (.ok () l3)) := by
  rcases hc : byteP (closeC k5) l2 with ⟨u, l4⟩ | ⟨n, e⟩
  · have e1 := byteP_ok hc; have e2 := byteP_ok hm
    rw [e1] at e2
    cases k5 <;> (simp [closeC] at e2)
  · exact elems_comma h hc hm
theorem restP_last {k5 : Bool} {o : Nat} {l l2 : Bytes} {p : List ByteArray × Dt} {n : Nat} {e : Int} (h : el1P k5 o l = .ok p l2) (hm : byteP 44 l2 = .bad n e) : elemsP k5 o l = accE p.1 [p.2] (loopR k5 o false (.ok () l2)) := by
  show _ = accE p.1 [p.2] (closeP k5 l2)
  unfold closeP
  rcases hc : byteP (closeC k5) l2 with ⟨u, l4⟩ | ⟨n', e'⟩
  · rw [elems_close h hc]; simp [accE]
  · rw [elems_stop h hc hm]
    obtain ⟨h1, h2⟩ := byteP_bad hc
    obtain ⟨h3, h4⟩ := byteP_bad hm
    rw [h1, h2, h3, h4]; rfl
theorem start_loop (k5 : Bool) (s : ByteArray) (a o : Nat) : withinP k5 o (restL s a) = accE [] [] (loopR k5 o (!isC s a (closeC k5)) (.ok () (restL s a))) := by
  rw [accE_nil]
  unfold withinP
  rcases hi : isC s a (closeC k5) with _ | _
  · rw [isC_no hi]; rfl
  · rw [(isC_ok hi).1]
    show _ = closeP k5 (restL s a)
    unfold closeP
    rw [(isC_ok hi).1]
theorem RSt.cells {α : Type} {W : World} {P : Nat} {s : ByteArray} {o st : Nat} {R : Rd α} (h : RSt W P s o st R) : W.cell? ⟨P, 2, none⟩ = some (.int .i64 o) ∧ W.frozen? ⟨P, 2, none⟩ = false := by
  cases R with
  | ok x l => exact ⟨h.2.2.cells.2.2.1, h.2.2.frozen 2⟩
  | bad n er => obtain ⟨h1, h2, a', h3, h4⟩ := h; exact ⟨h4.cells.2.2.1, h4.frozen 2⟩
theorem RSt.setO {α : Type} {W : World} {P : Nat} {s : ByteArray} {o st : Nat} {R : Rd α} (h : RSt W P s o st R) (o' : Nat) : RSt (W.setCell ⟨P, 2, none⟩ (.int .i64 o')) P s o' st R := by
  cases R with
  | ok x l => exact ⟨h.1, h.2.1, h.2.2.set2 _⟩
  | bad n er => obtain ⟨h1, h2, a', h3, h4⟩ := h; exact ⟨h1, h2, a', h3, h4.set2 _⟩
/-- Whether an error has been found already. -/
def erOf {α : Type} : Rd α → Int
  | .ok _ _ => 0
  | .bad _ e => e
theorem RSt.er {α : Type} {W : World} {P : Nat} {s : ByteArray} {o st : Nat} {R : Rd α} (h : RSt W P s o st R) : W.cell? ⟨P, 3, none⟩ = some (.int .i64 (erOf R)) := by
  cases R with
  | ok x l => exact h.2.2.cells.2.2.2.1
  | bad n er => obtain ⟨h1, h2, a', h3, h4⟩ := h; exact h4.cells.2.2.2.1
theorem RSt.erB {α : Type} {W : World} {P : Nat} {s : ByteArray} {o st : Nat} {n : Nat} {er : Int} (h : RSt W P s o st (Rd.bad n er : Rd α)) : er = 2 ∨ er = 11 := h.2.1
def RPc (P : Nat) (s : ByteArray) (o st nb : Nat) : Prop := ∀ (S : Rd Unit) (W : World), RSt W P s o st S → (∀ x l, S = .ok x l → l.length ≤ nb) → Calls Tryz.prog 51 #[.pointer (some ⟨P, 0, none⟩)] W (RValC P s o st (S.then (valP o)) W)
/-- Does this byte come, in any state? -/
theorem ris_any {α : Type} (P : Nat) (s : ByteArray) (o st : Nat) (c : UInt8) (R : Rd α) (w : World) (h : RSt w P s o st R) (hs : s.size ≤ 1000000000) :
    Calls Tryz.prog 123 #[.pointer (some ⟨P, 0, none⟩), .int .u8 (c.toNat : Int)] w fun e w' => ∃ r, e = .returned (.bool r) ∧ ((∃ l3, r = true ∧ R.then (byteP c) = .ok () l3) ∨ (r = false ∧ ∃ n e, R.then (byteP c) = .bad n e)) ∧ ∃ q, w' = w.drewN q := by
  cases R with
  | bad n er => exact (ris_old P s _ o _ er c w h.2.2.choose_spec.2 (by have := h.2.1; omega)).mono (fun e w' h => ⟨false, h.1, .inr ⟨rfl, n, er, rfl⟩, h.2⟩)
  | ok x l =>
    obtain ⟨h1, h2, h3⟩ := h
    refine (ris_new P s _ o st c w h3 (by omega) hs).mono (fun e w' h => ⟨_, h.1, ?_, h.2⟩)
    rcases hi : isC s (s.size - l.length) c with _ | _
    · refine .inr ⟨rfl, s.size - (s.size - l.length), 2, ?_⟩
      have := isC_no hi
      rw [h2] at this
      exact this
    · refine .inl ⟨restL s (s.size - l.length + 1), rfl, ?_⟩
      have := (isC_ok hi).1
      rw [h2] at this
      exact this
/-- append of one value. -/
theorem dat_app (w : World) (base : Nat) (vK : Value) (ps : List DV) (d : Dt) (x : NV) (hown : w.ownsRow base 46 5 vK ps.length (dds ps)) (hb : base ≤ w.heap.size) (hl : ps.length ≤ 1000000) :
    ∃ A c w', (Builtin.append_ #[44, 44] 44 #[vK, .slice (some ⟨w.heap.size, 0, none⟩) 1 1]).run Tryz.prog (boxD w d x) = .ok (.slice A (ps.length + 1) c) w' ∧ w'.ownsRow base 46 5 (.slice A (ps.length + 1) c) (ps ++ [(d, x)]).length (dds (ps ++ [(d, x)])) ∧ Kept (OwnB vK) w w' ∧ Fresh w vK (.slice A (ps.length + 1) c) := by
  obtain ⟨i0, hi, hz0, hz1, hz2⟩ := info_parts info46
  obtain ⟨v7, w7, hrun, ho, hgr, _, hloc⟩ := run_append_own_at (P := Tryz.prog) (boxD w d x) base 44 44 46 i0 _ 5 80 Tryz.underlying44 hi hz0 hz1 hz2 rfl (by omega) vK ps.length (dds ps) (hown.alloc _) ⟨w.heap.size, 0, none⟩ 1 1 (datCells d x) (by simp [datCells]) (show ∀ j u, (datCells d x)[j]? = some u → (boxD w d x).cell? ((⟨w.heap.size, 0, none⟩ : Addr).add j) = some u from arr_new _ _ _ _ rfl) (by intro u hu; simp [datCells] at hu; rcases hu with rfl | rfl | rfl | rfl | rfl <;> rfl) (by unfold maxLen; omega) (by omega) (show base ≤ (boxD w d x).heap.size by simp; omega)
  obtain ⟨A7, c7, rfl⟩ := row_form ho
  refine ⟨A7, c7, w7, hrun, by rw [dds_append, show (ps ++ [(d, x)]).length = ps.length + 1 by simp]; simpa [dds] using ho, (kept_alloc w _ _).trans ((kept_grown hgr).mono (fun b _ hb => hb.symm)), fun j hj hb => ?_⟩
  rcases hloc with hl | hl
  · rw [← hl]; exact hb
  · rw [hl] at hb
    have hb' : (boxD w d x).heap.size ≤ j ∨ j = (boxD w d x).heap.size := by
      right; simpa [eq_comm] using hb
    simp at hb'
    omega
end Go.Proofs.YtjnhcoflmechmaaGreatDoor

namespace Go.Proofs.YtjnhcoflmechmaaGreatDoor
open Go.RowKit Go.Sort Go.Lib
set_option linter.unusedVariables false
set_option maxRecDepth 100000
def CloneS (w : World) (l : List ByteArray) (e : Ending) (w' : World) : Prop := ∃ v, e = .returned v ∧ w'.ownsRow w.heap.size 9 1 v l.length (l.map Value.string) ∧ Below w.heap.size w w'
theorem cloneS_any (A : Option Addr) (c : Nat) (l : List ByteArray) (w : World) (h : SRow w w.heap.size A l) (hl : l.length ≤ 1000000) : Calls Tryz.prog 95 #[.slice A l.length c] w (CloneS w l) := by
  cases A with
  | none =>
    have hn : l = [] := by
      rcases Nat.eq_zero_or_pos l.length with h0 | h0
      · exact List.eq_nil_of_length_eq_zero h0
      · obtain ⟨_, _, h, _⟩ := h h0; cases h
    subst hn
    refine (Tryz.slices_Clone_string_nil 0 c w).mono ?_
    rintro e w' ⟨rfl, rfl⟩
    exact ⟨_, rfl, World.ownsRow_nil _ _ _ _, Below.refl _ _⟩
  | some ad =>
    rcases Nat.eq_zero_or_pos l.length with h0 | h0
    · obtain rfl := List.eq_nil_of_length_eq_zero h0
      refine (Tryz.slices_Clone_string_zero ad c w).mono ?_
      rintro e w' ⟨v, rfl, ho, _, hb⟩
      exact ⟨v, rfl, ho, hb⟩
    · obtain ⟨b, off, hA, hb, hc⟩ := h h0
      cases hA
      refine (Tryz.slices_Clone_string b off l.length c l w (Nat.le_refl _) (by omega) (fun j hj => by rw [hc j hj]; simp [List.getD_eq_getElem?_getD, List.getElem?_eq_getElem hj])).mono ?_
      rintro e w' ⟨v, rfl, ho, _, hb⟩
      exact ⟨v, rfl, by simpa using ho, hb⟩
/-- A slice of values, each with the places of its two slices. -/
def DRow (w : World) (A : Option Addr) (ps : List DV) : Prop := 0 < ps.length → ∃ b off, A = some ⟨b, off, none⟩ ∧ ∀ j, (h : j < ps.length) → DatCells w b (off + j * 5) ps[j].1 ps[j].2
theorem drow_src {w : World} {ad : Addr} {ps : List DV} (hr : DRow w (some ad) ps) : ∀ j y, (dds ps)[j]? = some y → w.cell? (ad.add j) = some y := by
  intro j y hj
  have hjl : j < ps.length * 5 := by have := (List.getElem?_eq_some_iff.1 hj).1; rw [dds_length] at this; exact this
  obtain ⟨b, off, hA, hc⟩ := hr (by omega)
  obtain rfl : ad = ⟨b, off, none⟩ := by simpa using hA
  have hq : j / 5 < ps.length := by omega
  have e : j = j / 5 * 5 + j % 5 := by omega
  rw [e, dds_at ps (j / 5) hq (j % 5) (by omega)] at hj
  rw [Addr.add_lit, ← hj, show off + j = off + j / 5 * 5 + j % 5 by omega]
  obtain ⟨c0, c1, c2, c3, c4⟩ := hc (j / 5) hq
  have h5 : j % 5 = 0 ∨ j % 5 = 1 ∨ j % 5 = 2 ∨ j % 5 = 3 ∨ j % 5 = 4 := by omega
  rcases h5 with h5 | h5 | h5 | h5 | h5 <;> rw [h5]
  · exact c0
  · exact c1
  · exact c2
  · exact c3
  · exact c4
theorem dds_one (ps : List DV) : ∀ u ∈ dds ps, u.oneCell' = true := by
  intro u hu
  obtain ⟨p, _, hp⟩ := List.mem_flatMap.1 hu
  simp [datCells] at hp
  rcases hp with rfl | rfl | rfl | rfl | rfl <;> rfl
def CloneD (w : World) (ps : List DV) (e : Ending) (w' : World) : Prop := ∃ v, e = .returned v ∧ w'.ownsRow w.heap.size 46 5 v ps.length (dds ps) ∧ Below w.heap.size w w'
theorem own_empty (w : World) (e k : Nat) : (w.alloc (.cells #[] e)).ownsRow w.heap.size e k (.slice (some ⟨w.heap.size, 0, none⟩) 0 0) 0 [] := by
  refine ⟨by simp, .inr ⟨w.heap.size, 0, #[], rfl, Nat.le_refl _, heap_alloc_new w _, Nat.le_refl _, by simp [maxLen], by simp, by simp⟩⟩
theorem ownD_empty (w : World) : (w.alloc (.cells #[] 46)).ownsRow w.heap.size 46 5 (.slice (some ⟨w.heap.size, 0, none⟩) 0 0) 0 [] := own_empty w 46 5
set_option maxHeartbeats 2000000 in
theorem cloneD_any (A : Option Addr) (c : Nat) (ps : List DV) (w : World) (h : DRow w A ps) (hl : ps.length ≤ 1000000) (hc0 : A = none → c = 0) : Calls Tryz.prog 96 #[.slice A ps.length c] w (CloneD w ps) := by
  obtain ⟨i0, hi, hz0, hz1, hz2⟩ := info_parts info46
  have q22 : ∀ (w : World) (a : Option Addr) (n c n' c' : Nat), (binOp .eql 44 (.slice a n c) (.slice none n' c')).run Tryz.prog w = .ok (.bool a.isNone) w := fun w a n c n' c' => Lib.run_eql_slice_nil w _ _ a n c n' c' Tryz.underlying44
  cases A with
  | none =>
    have hn : ps = [] := by
      rcases Nat.eq_zero_or_pos ps.length with h0 | h0
      · exact List.eq_nil_of_length_eq_zero h0
      · obtain ⟨_, _, h, _⟩ := h h0; cases h
    subst hn
    obtain rfl := hc0 rfl
    clear h
    go_enter Tryz.func96, Tryz.ntmps96
    go_wp2_with fail
    go_ret
    exact ⟨_, rfl, World.ownsRow_nil _ _ _ _, Below.refl _ _⟩
  | some ad =>
    have H := Lib.hid (show DRow (w.alloc (.cells #[] 46)) (some ad) ps from fun h0 => by
      obtain ⟨b, off, hA, hc⟩ := h h0
      exact ⟨b, off, hA, fun j hj => (hc j hj).kept (kept_alloc w _ (fun _ => False)) (fun h => h)⟩)
    have HO := Lib.hid (ownD_empty w)
    have hbs : w.heap.size ≤ (w.alloc (.cells #[] 46)).heap.size := by simp
    have hbl : Below w.heap.size w (w.alloc (.cells #[] 46)) := (Below.refl _ w).alloc (Nat.le_refl _) _
    clear h
    go_enter Tryz.func96, Tryz.ntmps96
    go_wp2_with (at_builtin; refine wpList_append_own _ rfl _ _ 44 rfl w.heap.size 46 i0 _ 5 80 Tryz.underlying44 hi hz0 hz1 hz2 rfl (by omega) _ 0 [] rfl HO.out ad ps.length c (dds ps) rfl (dds_length ps) (drow_src H.out) (dds_one ps) (by unfold maxLen; omega) (by omega) hbs ?_; intro v4 w4 hown4 hgr4 _)
    go_ret
    refine ⟨v4, rfl, by simpa using hown4, hbl.trans ((kept_grown hgr4).below hbs (fun k h => ?_))⟩
    have : some k = some w.heap.size := h
    simp at this
    omega
end Go.Proofs.YtjnhcoflmechmaaGreatDoor

namespace Go.Proofs.YtjnhcoflmechmaaGreatDoor
open Go.RowKit Go.Sort
set_option linter.unusedVariables false
set_option maxRecDepth 100000
def DupC (d : Dt) (w : World) (e : Ending) (w' : World) : Prop := ∃ x : NV, e = .returned (datV d x) ∧ DatIn w' (fun b => w.heap.size ≤ b) d x ∧ Below w.heap.size w w'
def DupP (d : Dt) : Prop := ∀ (x : NV) (w : World), DatAt w w.heap.size d x → Calls Tryz.prog 57 #[datV d x] w (DupC d w)
theorem dds_set : ∀ (ps : List DV) (k : Nat) (d : Dt) (x : NV), k < ps.length → dds (ps.set k (d, x)) = (((((dds ps).set (k * 5) (.int .i64 d.kind)).set (k * 5 + 1) (.int .i64 d.num)).set (k * 5 + 2) (.string d.text)).set (k * 5 + 3) (.slice x.A d.names.length x.ca)).set (k * 5 + 4) (.slice x.K d.list.length x.ck)
  | [], _, _, _, h => by simp at h
  | q :: r, 0, d, x, _ => by simp [dds, datCells]
  | q :: r, k + 1, d, x, h => by
    have ih := dds_set r k d x (by simpa using h)
    have e : dds (q :: r) = datCells q.1 q.2 ++ dds r := rfl
    have e2 : dds ((q :: r).set (k + 1) (d, x)) = datCells q.1 q.2 ++ dds (r.set k (d, x)) := rfl
    have hl : (datCells q.1 q.2).length = 5 := rfl
    rw [e2, e, ih, List.set_append_right _ _ (by omega), List.set_append_right _ _ (by omega), List.set_append_right _ _ (by omega), List.set_append_right _ _ (by omega), List.set_append_right _ _ (by omega), hl]
    rw [show (k + 1) * 5 - 5 = k * 5 by omega, show (k + 1) * 5 + 1 - 5 = k * 5 + 1 by omega, show (k + 1) * 5 + 2 - 5 = k * 5 + 2 by omega, show (k + 1) * 5 + 3 - 5 = k * 5 + 3 by omega, show (k + 1) * 5 + 4 - 5 = k * 5 + 4 by omega]
theorem own_set {w : World} {base g c n : Nat} {ps : List DV} (h : w.ownsRow base 46 5 (.slice (some ⟨g, 0, none⟩) n c) n (dds ps)) {k : Nat} (hk : k < ps.length) (d : Dt) (x : NV) : (putD w g (k * 5) d x).ownsRow base 46 5 (.slice (some ⟨g, 0, none⟩) n c) n (dds (ps.set k (d, x))) := by
  rw [dds_set ps k d x hk]
  unfold putD
  exact (((((h.stored (k * 5) _).1.stored (k * 5 + 1) _).1.stored (k * 5 + 2) _).1.stored (k * 5 + 3) _).1.stored (k * 5 + 4) _).1
theorem own_low {w : World} {base base' e size : Nat} {v : Value} {n : Nat} {xs : List Value} (h : w.ownsRow base e size v n xs) (hb : base' ≤ base) : w.ownsRow base' e size v n xs := by
  refine ⟨h.1, ?_⟩
  rcases h.2 with hn | ⟨g, cap, cur, h1, h2, r⟩
  · exact .inl hn
  · exact .inr ⟨g, cap, cur, h1, Nat.le_trans hb h2, r⟩
theorem dat_of_rows {W : World} {B : Nat} {d : Dt} {v4 v6 : Value} {ps : List DV} (rn : W.ownsRow B 9 1 v4 d.names.length (d.names.map Value.string)) (rk : W.ownsRow B 46 5 v6 d.list.length (dds ps)) (len : ps.length = d.list.length) (fst : ∀ j, (h : j < ps.length) → (h' : j < d.list.length) → ps[j].1 = d.list[j]) (done : ∀ j, (h : j < ps.length) → DatIn W (fun b => B ≤ b) ps[j].1 ps[j].2) :
    ∃ x : NV, v4 = .slice x.A d.names.length x.ca ∧ v6 = .slice x.K d.list.length x.ck ∧ DatIn W (fun b => B ≤ b) d x := by
  obtain ⟨A, ca, hvN, a1, a2, a3, a4⟩ := own_parts rn (by decide)
  obtain ⟨K, ck, hvK, k1, k2, k3, k4⟩ := own_parts rk (by decide)
  refine ⟨⟨A, ca, K, ck⟩, hvN, hvK, .mk (fun j => (ps.getD j (.mk 0 0 ⟨#[]⟩ [] [], ⟨none, 0, none, 0⟩)).2) (fun h0 => ?_) a1 a2 a3 k1 k2 k3 (fun h0 => ?_) (fun j hj => ?_)⟩
  · obtain ⟨b, hA, hb, hlt, hc⟩ := a4 h0
    refine ⟨b, 0, hA, hb, hlt, fun j hj => ?_⟩
    rw [Nat.zero_add, hc j (by omega)]
    simp [hj]
  · obtain ⟨b, hK, hb, hlt, hc⟩ := k4 h0
    refine ⟨b, 0, hK, hb, hlt, fun j hj => ?_⟩
    have hj' : j < ps.length := by omega
    have e2 : (ps.getD j (.mk 0 0 ⟨#[]⟩ [] [], ⟨none, 0, none, 0⟩)).2 = ps[j].2 := by simp [List.getD_eq_getElem?_getD, hj']
    rw [e2, ← fst j hj' hj]
    have key : ∀ i, i < 5 → W.cell? ⟨b, 0 + j * 5 + i, none⟩ = (datCells ps[j].1 ps[j].2)[i]? := fun i hi => by
      rw [Nat.zero_add, hc (j * 5 + i) (by omega), dds_at ps j hj' i hi]
    exact ⟨key 0 (by decide), key 1 (by decide), key 2 (by decide), key 3 (by decide), key 4 (by decide)⟩
  · have hj' : j < ps.length := by omega
    have e2 : (ps.getD j (.mk 0 0 ⟨#[]⟩ [] [], ⟨none, 0, none, 0⟩)).2 = ps[j].2 := by simp [List.getD_eq_getElem?_getD, hj']
    rw [e2, ← fst j hj' hj]
    exact done j hj'
theorem dat_rows {w : World} {B : Nat} {d : Dt} {x : NV} (h : DatAt w B d x) : ∃ ps : List DV, ps.length = d.list.length ∧ (∀ j, (h : j < ps.length) → (h' : j < d.list.length) → ps[j].1 = d.list[j]) ∧ DRow w x.K ps := by
  cases h with
  | mk X nm h1 h2 h3 h4 h5 h6 row sub =>
    refine ⟨d.list.zipIdx.map (fun p => (p.1, X p.2)), by simp, fun j h h' => by simp, fun h0 => ?_⟩
    obtain ⟨b, off, hK, hb, hc⟩ := row (by simpa using h0)
    refine ⟨b, off, hK, fun j hj => ?_⟩
    have hj' : j < d.list.length := by simpa using hj
    have := hc j hj'
    simpa using this
/-- The state at the head of the loop. -/
structure DuS (w W : World) (d : Dt) (x : NV) (B4 B6 : Nat) (v4 v6 : Value) (k : Nat) (ps : List DV) : Prop where
  box : B5 W (w.heap.size + 2) 46 (.int .i64 d.kind) (.int .i64 d.num) (.string d.text) v4 v6
  res : B5 W (w.heap.size + 1) 46 (.int .i64 0) (.int .i64 0) (.string ⟨#[]⟩) (.slice none 0 0) (.slice none 0 0)
  below : Below w.heap.size w W
  rn : W.ownsRow B4 9 1 v4 d.names.length (d.names.map Value.string)
  rk : W.ownsRow B6 46 5 v6 d.list.length (dds ps)
  len : ps.length = d.list.length
  fst : ∀ j, (h : j < ps.length) → (h' : j < d.list.length) → ps[j].1 = d.list[j]
  done : ∀ j, (h : j < ps.length) → j < k → DatIn W (fun b => w.heap.size + 3 ≤ b ∧ ¬ OwnB v6 b) ps[j].1 ps[j].2
  sz : B6 ≤ W.heap.size
set_option maxHeartbeats 8000000 in
theorem dup_any : ∀ d : Dt, GoodD d → DupP d := by
  refine dt_ind fun d ih hg x w ht => ?_
  obtain ⟨s1, s2, s3, s4, s5, s6⟩ := hg.sizes
  obtain ⟨a1, a2, a3, a4, a5, a6⟩ := ht.caps
  obtain ⟨ps0, hl0, hf0, hr0⟩ := dat_rows ht
  obtain ⟨w1, hw1⟩ : ∃ w1, w1 = boxD w d x := ⟨_, rfl⟩
  obtain ⟨w2, hw2⟩ : ∃ w2, w2 = zeroW w1 := ⟨_, rfl⟩
  obtain ⟨w3, hw3⟩ : ∃ w3, w3 = boxD w2 d x := ⟨_, rfl⟩
  have hs1 : w1.heap.size = w.heap.size + 1 := by rw [hw1]; simp
  have hs2 : w2.heap.size = w.heap.size + 2 := by rw [hw2]; simp; omega
  have hs3 : w3.heap.size = w.heap.size + 3 := by rw [hw3]; simp; omega
  have hb1 : Below w.heap.size w w1 := by rw [hw1]; exact (Below.refl _ _).alloc (Nat.le_refl _) _
  have hb2 : Below w.heap.size w w2 := by rw [hw2]; exact hb1.alloc (by omega) _
  have hb3 : Below w.heap.size w w3 := by rw [hw3]; exact hb2.alloc (by omega) _
  have hx1 : DatCells w1 w.heap.size 0 d x := by rw [hw1]; exact box_dat _ _ _
  have hk2 : Kept (fun _ => False) w1 w2 := by rw [hw2]; exact kept_alloc _ _ _
  have hk3 : Kept (fun _ => False) w2 w3 := by rw [hw3]; exact kept_alloc _ _ _
  have hx2 := hx1.kept hk2 (fun h => h)
  have hx3 := hx2.kept hk3 (fun h => h)
  have hz2 : B5 w2 (w.heap.size + 1) 46 (.int .i64 0) (.int .i64 0) (.string ⟨#[]⟩) (.slice none 0 0) (.slice none 0 0) := by rw [hw2]; exact B5.new _ _ _ _ _ _ _ _ (by omega)
  have hz3 := hz2.kept hk3 (fun h => h)
  have ho3 : B5 w3 (w.heap.size + 2) 46 (.int .i64 d.kind) (.int .i64 d.num) (.string d.text) (.slice x.A d.names.length x.ca) (.slice x.K d.list.length x.ck) := by rw [hw3]; exact B5.new _ _ _ _ _ _ _ _ (by omega)
  have CN := Lib.hid (cloneS_any x.A x.ca d.names w3 ((ht.names.below hb3).mono (by omega)) s4)
  have HT := Lib.hid ht; have HB3 := Lib.hid hb3; have HIH := Lib.hid ih; have HG := Lib.hid hg; have HR0 := Lib.hid hr0
  have HW1 := Lib.hid hw1; have HW2 := Lib.hid hw2; have HW3 := Lib.hid hw3; have HX3 := Lib.hid hx3; have HZ3 := Lib.hid hz3; have HO3 := Lib.hid ho3; have HF0 := Lib.hid hf0
  have HC6 := Lib.hid a6
  obtain ⟨p0, p1, p2, p3, p4⟩ := hx2
  obtain ⟨q0, q1, q2, q3, q4⟩ := hx3
  have e1 : w1.heap.size = w.heap.size + 1 := hs1
  clear hw1 hw2 hw3 hb1 hb2 hb3 hx1 hk2 hk3 hz2 hz3 ho3 hr0 hf0 ht ih hg s1 s2 s3 s5 a1 a2 a3 a4 a5 a6
  go_enter Tryz.func57, Tryz.ntmps57
  go_upto_region 1 with (fail)
  rw [boxD_out HW1, zeroW_out HW2]
  go_upto_region 2 with (fail)
  rw [boxD_out HW3]
  clear HW1 HW2 HW3 p0 p1 p2 p3 p4
  go_wp2_with fail
  refine CN.out.mono ?_
  rintro e w4 ⟨v4, rfl, hr4, hb4⟩
  obtain ⟨A4, c4, rfl⟩ := row_form hr4
  have hbk4 : ∀ S, Kept S w3 w4 := fun S => kept_below hb4 S
  have ho4 := HO3.out.kept (hbk4 (fun _ => False)) (fun h => h)
  obtain ⟨w5, hw5⟩ : ∃ w5, w5 = w4.setCell ⟨w.heap.size + 2, 3, none⟩ (.slice A4 d.names.length c4) := ⟨_, rfl⟩
  have hk5 : Kept (· = w.heap.size + 2) w4 w5 := by rw [hw5]; exact kept_setCell w4 ⟨w.heap.size + 2, 3, none⟩ _
  have ho5 : B5 w5 (w.heap.size + 2) 46 (.int .i64 d.kind) (.int .i64 d.num) (.string d.text) (.slice A4 d.names.length c4) (.slice x.K d.list.length x.ck) := by rw [hw5]; exact ho4.set3 _
  have hb5 : Below w.heap.size w w5 := by rw [hw5]; exact (HB3.out.trans (hb4.mono (by omega))).setCell (by show w.heap.size ≤ w.heap.size + 2; omega) _
  have hx5 := (HX3.out.kept (hbk4 (fun _ => False)) (fun h => h)).kept hk5 (show ¬ w.heap.size = w.heap.size + 2 by omega)
  have hz5 := (HZ3.out.kept (hbk4 (fun _ => False)) (fun h => h)).kept hk5 (show ¬ w.heap.size + 1 = w.heap.size + 2 by omega)
  have hr5 := hk5.own hr4 (fun b hb e => by have := (hr4.lt b hb).1; have e' : b = w.heap.size + 2 := e; omega)
  have hlt5 : ∀ b, OwnB (.slice A4 d.names.length c4) b → w.heap.size + 3 ≤ b ∧ b < w5.heap.size := fun b h => by have h1 := hr4.lt b h; have := hk5.size; omega
  have hs45 := hb4.size
  have hs55 := hk5.size
  have hr05 : DRow w5 x.K ps0 := fun h0 => by
    obtain ⟨b, off, hK, hc⟩ := HR0.out h0
    exact ⟨b, off, hK, fun j hj => (hc j hj).below hb5 (hc j hj).block_lt⟩
  have CK0 := cloneD_any x.K x.ck ps0 w5 hr05 (by omega) HC6.out
  rw [hl0] at CK0
  have CK := Lib.hid CK0
  have HB5 := Lib.hid hb5; have HR5 := Lib.hid hr5; have HLT5 := Lib.hid hlt5; have HZ5 := Lib.hid hz5; have HO5 := Lib.hid ho5; have HX5 := Lib.hid hx5
  have HW5 := Lib.hid hw5.symm
  have f3 := ho4.frozen 3
  obtain ⟨m0, m1, m2, m3, m4⟩ := ho4.cells
  clear CN hr4 hbk4 hw5 hk5 ho5 hb5 hx5 hz5 hr5 hlt5 hr05 CK0 HR0 HC6 HO3 HZ3 HX3 HB3 ho4 q0 q1 q2 q3 q4 hb4
  go_upto_region 3 with (fail)
  rw [HW5.out]
  clear m0 m1 m2 m3 m4 f3 HW5
  obtain ⟨q0, q1, q2, q3, q4⟩ := HX5.out
  go_wp2_with fail
  refine CK.out.mono ?_
  rintro e w6 ⟨v6, rfl, hr6, hb6⟩
  rw [hl0] at hr6
  obtain ⟨A6, c6, rfl⟩ := row_form hr6
  have ho6 := HO5.out.kept (kept_below hb6 (fun _ => False)) (fun h => h)
  obtain ⟨w7, hw7⟩ : ∃ w7, w7 = w6.setCell ⟨w.heap.size + 2, 4, none⟩ (.slice A6 d.list.length c6) := ⟨_, rfl⟩
  have hk7 : Kept (· = w.heap.size + 2) w6 w7 := by rw [hw7]; exact kept_setCell w6 ⟨w.heap.size + 2, 4, none⟩ _
  have ho7 : B5 w7 (w.heap.size + 2) 46 (.int .i64 d.kind) (.int .i64 d.num) (.string d.text) (.slice A4 d.names.length c4) (.slice A6 d.list.length c6) := by rw [hw7]; exact ho6.set4 _
  have hb7 : Below w.heap.size w w7 := by rw [hw7]; exact (HB5.out.trans (hb6.mono (by omega))).setCell (by show w.heap.size ≤ w.heap.size + 2; omega) _
  have hx7 := (HX5.out.kept (kept_below hb6 (fun _ => False)) (fun h => h)).kept hk7 (show ¬ w.heap.size = w.heap.size + 2 by omega)
  have hs6 := hb6.size
  have hs7 := hk7.size
  have HS0 := Lib.hid (show DuS w w7 d x w3.heap.size w5.heap.size (.slice A4 d.names.length c4) (.slice A6 d.list.length c6) 0 ps0 from ⟨ho7, (HZ5.out.kept (kept_below hb6 (fun _ => False)) (fun h => h)).kept hk7 (show ¬ w.heap.size + 1 = w.heap.size + 2 by omega), hb7, hk7.own ((kept_below hb6 (fun _ => False)).own HR5.out (fun _ _ h => h)) (fun b hb e => by have := (HR5.out.lt b hb).1; have e' : b = w.heap.size + 2 := e; omega), hk7.own hr6 (fun b hb e => by have := (hr6.lt b hb).1; have e' : b = w.heap.size + 2 := e; omega), hl0, HF0.out, fun j _ h => by omega, by omega⟩)
  have HW7 := Lib.hid hw7.symm
  have f4 := ho6.frozen 4
  clear q0 q1 q2 q3 q4
  obtain ⟨m0, m1, m2, m3, m4⟩ := ho6.cells
  clear hr6 hw7 hk7 ho7 hb7 hb6 ho6 HB5 HR5 HZ5 HO5 HX5 HF0 CK
  go_upto_region 4 with (fail)
  rw [HW7.out]
  clear m0 m1 m2 m3 m4 f4 HW7
  obtain ⟨q0, q1, q2, q3, q4⟩ := hx7
  go_wp2_with fail
  go_loopg [18] d.list.length (fun m s18 wr => ∃ (k : Nat) (ps : List DV), s18 = .int .i64 k ∧ k ≤ d.list.length ∧ d.list.length - k ≤ m ∧ RowKit.Hid (DuS w wr d x w3.heap.size w5.heap.size (.slice A4 d.names.length c4) (.slice A6 d.list.length c6) k ps))
  case atStart => exact ⟨0, ps0, rfl, by omega, by omega, HS0⟩
  case round =>
    obtain ⟨k, ps, rfl, hk, hm, HS⟩ := hrel
    clear HS0 q0 q1 q2 q3 q4
    by_cases hlt : k < d.list.length
    · have hlti : (k : Int) < (d.list.length : Int) := by omega
      have hk0 : (0 : Int) ≤ (k : Int) := by omega
      have hbw := HS.out.below.size
      obtain ⟨b, off, kd, y, hK, hbb, hkd, hyc, hya⟩ := (HT.out.keepB HS.out.below).kid hlt
      have hkp : k < ps.length := by rw [HS.out.len]; exact hlt
      have hkd2 : ps[k].1 = kd := by rw [hkd]; exact HS.out.fst k hkp hlt
      obtain ⟨g, hg6⟩ : ∃ g, A6 = some ⟨g, 0, none⟩ := by
        rcases HS.out.rk.2 with ⟨hn, h0⟩ | ⟨g', c', cur, he, _⟩
        · omega
        · simp at he; exact ⟨g', he.1⟩
      subst hg6
      obtain ⟨pk, hpk⟩ : ∃ pk, pk = ps[k] := ⟨_, rfl⟩
      have HPK := Lib.hid hpk.symm
      clear hpk
      obtain ⟨w8, hw8⟩ : ∃ w8, w8 = boxD wr kd y := ⟨_, rfl⟩
      have hk8 : Kept (fun _ => False) wr w8 := by rw [hw8]; exact kept_alloc _ _ _
      have hs8 : w8.heap.size = wr.heap.size + 1 := by rw [hw8]; simp
      have hy8 : DatCells w8 wr.heap.size 0 kd y := by rw [hw8]; exact box_dat _ _ _
      have hya8 : DatAt w8.drew w8.drew.heap.size kd y := (hya.keepB (show Below w.heap.size wr w8.drew from (hk8.below hbw (fun _ h => absurd h (fun h => h))).drew)).mono (by show w.heap.size ≤ w8.heap.size; omega)
      have CD := Lib.hid (HIH.out kd (by rw [hkd]; exact List.getElem_mem _) (HG.out.kid hlt hkd) y w8.drew hya8)
      have HK8 := Lib.hid hk8; have HW8 := Lib.hid hw8; have HK := Lib.hid hK; have HKD := Lib.hid hkd; have HKD2 := Lib.hid hkd2
      obtain ⟨y0, y1, y2, y3, y4⟩ := hyc
      obtain ⟨t0, t1, t2, t3, t4⟩ := hy8
      have hbx8 := HS.out.box.kept hk8 (fun h => h)
      have b84 := hbx8.cells.2.2.2.2
      have hsB6 := HS.out.sz
      have hgl := (HS.out.rk.lt g rfl)
      clear hw8 hk8 hya hya8 hkd hkd2 hbx8
      rw [hK]
      go_upto_region 7 with (fail)
      rw [boxD_out HW8]
      clear y0 y1 y2 y3 y4 HW8
      go_wp2_with fail
      go_region_law ((go_simp; go_at_call 57; refine CD.out.mono ?_; rintro e w9 ⟨x9, rfl, hdi9, hb9⟩; have HDI9 := Lib.hid hdi9; have HB9 := Lib.hid (show Below w8.heap.size w8 w9 from (below_drewN _ w8 1).trans hb9); have HK9 := Lib.hid (HK8.out.trans (kept_below HB9.out (fun _ => False))); have hr9 := HK9.out.own HS.out.rk (fun _ _ h => h); have HR9 := Lib.hid hr9; have b94 := (HS.out.box.kept HK9.out (fun h => h)).cells.2.2.2.2; have key : (∀ i, i < 5 → w9.cell? ⟨g, k * 5 + i, none⟩ = (datCells pk.1 pk.2)[i]?) := (fun i hi => by rw [World.ownsRow.cellAt hr9 (k * 5 + i) (by omega), dds_at ps k hkp i hi, HPK.out]); have r0 : w9.cell? ⟨g, k * 5, none⟩ = some (.int .i64 pk.1.kind) := key 0 (by decide); have r1 : w9.cell? ⟨g, k * 5 + 1, none⟩ = some (.int .i64 pk.1.num) := key 1 (by decide); have r2 : w9.cell? ⟨g, k * 5 + 2, none⟩ = some (.string pk.1.text) := key 2 (by decide); have r3 : w9.cell? ⟨g, k * 5 + 3, none⟩ = some (.slice pk.2.A pk.1.names.length pk.2.ca) := key 3 (by decide); have r4 : w9.cell? ⟨g, k * 5 + 4, none⟩ = some (.slice pk.2.K pk.1.list.length pk.2.ck) := key 4 (by decide); have rf0 := World.ownsRow.frozenAt hr9 (k * 5); have rf1 := World.ownsRow.frozenAt hr9 (k * 5 + 1); have rf2 := World.ownsRow.frozenAt hr9 (k * 5 + 2); have rf3 := World.ownsRow.frozenAt hr9 (k * 5 + 3); have rf4 := World.ownsRow.frozenAt hr9 (k * 5 + 4); clear key hdi9 hb9 hr9))
      all_goals
        have HF1 := Lib.hid (own_set HR9.out hkp kd x9)
        rw [show (((((w9.setCell ⟨g, k * 5, none⟩ (.int .i64 kd.kind)).setCell ⟨g, k * 5 + 1, none⟩ (.int .i64 kd.num)).setCell ⟨g, k * 5 + 2, none⟩ (.string kd.text)).setCell ⟨g, k * 5 + 3, none⟩ (.slice x9.A kd.names.length x9.ca)).setCell ⟨g, k * 5 + 4, none⟩ (.slice x9.K kd.list.length x9.ck)) = putD w9 g (k * 5) kd x9 from rfl]
        have HKP := Lib.hid (kept_putD w9 g (k * 5) kd x9)
        clear r0 r1 r2 r3 r4 rf0 rf1 rf2 rf3 rf4 CD HR9 b94 b84 t0 t1 t2 t3 t4
        generalize putD w9 g (k * 5) kd x9 = w10 at HF1 HKP ⊢
        have HKK := True.intro
        have hs9 := HB9.out.size
        have HNX := Lib.hid (show DuS w w10 d x w3.heap.size w5.heap.size (.slice A4 d.names.length c4) (.slice (some ⟨g, 0, none⟩) d.list.length c6) (k + 1) (ps.set k (kd, x9)) from by
          have hk10 : Kept (· = g) wr w10 := (HK9.out.mono (fun _ _ h => absurd h (fun h => h))).trans HKP.out
          have hg0 := HS.out.rk.lt g rfl
          refine ⟨HS.out.box.kept hk10 (by omega), HS.out.res.kept hk10 (by omega), HS.out.below.trans (hk10.below hbw (fun b h => by have h' : b = g := h; omega)), hk10.own HS.out.rn (fun b hb e => by have := (HLT5.out b hb).2; have e' : b = g := e; omega), HF1.out, by rw [List.length_set]; exact HS.out.len, fun j hj hj' => ?_, fun j hj hjk => ?_, Nat.le_trans HS.out.sz hk10.size⟩
          · rw [List.getElem_set]
            split
            · rename_i h; subst h; exact HKD.out
            · exact HS.out.fst j (by simpa using hj) hj'
          · rw [List.getElem_set]
            split
            · refine (HDI9.out.kept HKP.out (fun b hb _ e => by have e' : b = g := e; have hb' : w8.heap.size ≤ b := hb; omega)).mono (fun b hb _ => ?_)
              have hb' : w8.heap.size ≤ b := hb
              exact ⟨by omega, fun e => by have := (HS.out.rk.lt b e).2; omega⟩
            · rename_i h
              refine (HS.out.done j (by simpa using hj) (by omega)).kept hk10 (fun b hb _ e => hb.2 (by have e' : b = g := e; rw [e']; rfl)))
        clear HKK HKP HF1 HB9 HK9 HDI9
        go_wp2_with fail
        try rw [← HK.out]
        go_roundg (d.list.length - (k + 1))
        case measure => omega
        case rel => exact ⟨k + 1, _, by go_num, by omega, Nat.le_refl _, HNX⟩
    · have hkn : k = d.list.length := by omega
      have hlti : ¬ (k : Int) < (d.list.length : Int) := by omega
      have hrn := own_low HS.out.rn (base' := w.heap.size + 3) (by omega)
      have hrk := own_low HS.out.rk (base' := w.heap.size + 3) (by omega)
      obtain ⟨x2, hx4, hx6, hdi⟩ := dat_of_rows hrn hrk HS.out.len HS.out.fst (fun j hj => (HS.out.done j hj (by have := HS.out.len; omega)).mono (fun b hb _ => hb.1))
      have hbox := HS.out.box
      rw [hx4, hx6] at hbox
      obtain ⟨W, hW⟩ : ∃ W, W = put5 wr (w.heap.size + 1) (.int .i64 d.kind) (.int .i64 d.num) (.string d.text) (.slice x2.A d.names.length x2.ca) (.slice x2.K d.list.length x2.ck) := ⟨_, rfl⟩
      have hZ := HS.out.res.put (.int .i64 d.kind) (.int .i64 d.num) (.string d.text) (.slice x2.A d.names.length x2.ca) (.slice x2.K d.list.length x2.ck)
      rw [← hW] at hZ
      have hbW : Below w.heap.size w W := by
        rw [hW]; unfold put5
        exact (((((HS.out.below).setCell (by show w.heap.size ≤ w.heap.size + 1; omega) _).setCell (by show w.heap.size ≤ w.heap.size + 1; omega) _).setCell (by show w.heap.size ≤ w.heap.size + 1; omega) _).setCell (by show w.heap.size ≤ w.heap.size + 1; omega) _).setCell (by show w.heap.size ≤ w.heap.size + 1; omega) _
      have HF := Lib.hid (show DupC d w (.returned (datV d x2)) W from ⟨x2, rfl, by rw [hW]; exact (hdi.kept (kept_put5 wr (w.heap.size + 1) (.int .i64 d.kind) (.int .i64 d.num) (.string d.text) (.slice x2.A d.names.length x2.ca) (.slice x2.K d.list.length x2.ck)) (fun b hb _ e => by have e' : b = w.heap.size + 1 := e; have hb' : w.heap.size + 3 ≤ b := hb; omega)).mono (fun b hb _ => by have hb' : w.heap.size + 3 ≤ b := hb; omega), hbW⟩)
      have HZ := Lib.hid hZ; have HWW := Lib.hid hW.symm
      obtain ⟨z0, z1, z2, z3, z4⟩ := HS.out.res.cells
      have y0 := HS.out.res.frozen 0; have y1 := HS.out.res.frozen 1; have y2 := HS.out.res.frozen 2; have y3 := HS.out.res.frozen 3; have y4 := HS.out.res.frozen 4
      obtain ⟨b0, b1, b2, b3, b4⟩ := hbox.cells
      clear hx4 hx6 hrn hrk hdi hbox hW hZ hbW HS hkn
      go_wp2_with fail
      rw [show (((((wr.setCell ⟨w.heap.size + 1, 0, none⟩ (.int .i64 d.kind)).setCell ⟨w.heap.size + 1, 1, none⟩ (.int .i64 d.num)).setCell ⟨w.heap.size + 1, 2, none⟩ (.string d.text)).setCell ⟨w.heap.size + 1, 3, none⟩ (.slice x2.A d.names.length x2.ca)).setCell ⟨w.heap.size + 1, 4, none⟩ (.slice x2.K d.list.length x2.ck)) = W from HWW.out]
      refine bodyPost_ret (res51 rfl _ _ (w.heap.size + 1) _ _ _ _ _ rfl HZ.out) rfl ?_
      exact HF.out
end Go.Proofs.YtjnhcoflmechmaaGreatDoor
