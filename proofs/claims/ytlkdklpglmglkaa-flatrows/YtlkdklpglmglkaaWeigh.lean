/-
  The statements' Few: where it answers true, the tree is small.
-/
import Derived.Test.YtlkdklpglmglkaaICheck
namespace Go.Proofs.Ytlkdklpglmglkaa
open Go.RowKit Go.Sort
set_option linter.unusedVariables false
set_option maxRecDepth 100000
mutual
def sizeT : Tr → Nat
  | .mk _ _ _ _ ks => 1 + sizeK ks
def sizeK : List Tr → Nat
  | [] => 0
  | k :: ks => sizeT k + sizeK ks
end
theorem sizeT_eq (t : Tr) : sizeT t = 1 + sizeK t.kids := by cases t; rw [sizeT]; rfl
theorem sizeK_append (a b : List Tr) : sizeK (a ++ b) = sizeK a + sizeK b := by
  induction a with
  | nil => simp [sizeK]
  | cons k a ih => simp only [List.cons_append, sizeK, ih]; omega
theorem sizeT_pos (t : Tr) : 1 ≤ sizeT t := by rw [sizeT_eq]; omega
theorem sizeK_len (l : List Tr) : l.length ≤ sizeK l := by
  induction l with
  | nil => simp
  | cons k a ih => have := sizeT_pos k; simp only [List.length_cons, sizeK]; omega
theorem sizeK_take {ks : List Tr} {j : Nat} (hj : j < ks.length) : sizeK (ks.take (j + 1)) = sizeK (ks.take j) + sizeT ks[j] := by
  have e : ks.take (j + 1) = ks.take j ++ [ks[j]] := by simp
  rw [e, sizeK_append]; simp [sizeK]
/-- Each text, and each list, is within the reach. -/
inductive FitT : Tr → Prop
  | mk {t : Tr} (h1 : t.tag.size ≤ 140737488355328) (h2 : t.key.size ≤ 140737488355328) (h3 : t.text.size ≤ 140737488355328) (h4 : t.as.length ≤ 140737488355328) (h5 : ∀ x ∈ t.as, x.1.size ≤ 140737488355328 ∧ x.2.size ≤ 140737488355328) (h6 : t.kids.length ≤ 140737488355328) (sub : ∀ k ∈ t.kids, FitT k) : FitT t
theorem FitT.sizes {t : Tr} (h : FitT t) : t.tag.size ≤ 140737488355328 ∧ t.key.size ≤ 140737488355328 ∧ t.text.size ≤ 140737488355328 ∧ t.as.length ≤ 140737488355328 ∧ (∀ x ∈ t.as, x.1.size ≤ 140737488355328 ∧ x.2.size ≤ 140737488355328) ∧ t.kids.length ≤ 140737488355328 := by
  cases h with
  | mk h1 h2 h3 h4 h5 h6 sub => exact ⟨h1, h2, h3, h4, h5, h6⟩
theorem FitT.kid {t : Tr} (h : FitT t) {k : Tr} {j : Nat} (hj : j < t.kids.length) (hk : k = t.kids[j]) : FitT k := by
  cases h with
  | mk h1 h2 h3 h4 h5 h6 sub => rw [hk]; exact sub _ (List.getElem_mem _)
def SeenA (l : List At) (k : Nat) (left0 left : Int) : Prop := left ≤ left0 ∧ left0 - (k : Int) * 68719476736 ≤ left ∧ ∀ j, (hj : j < l.length) → j < k → ((l[j].2.size / 4096 : Nat) : Int) ≤ left0 - left ∧ ((l[j].1.size / 4096 : Nat) : Int) ≤ left0 - left
theorem SeenA.step {l : List At} {k : Nat} {left0 left : Int} (h : SeenA l k left0 left) (hk : k < l.length) (hf : ∀ x ∈ l, x.1.size ≤ 140737488355328 ∧ x.2.size ≤ 140737488355328) : SeenA l (k + 1) left0 (left - ((l[k].2.size / 4096 : Nat) : Int) - ((l[k].1.size / 4096 : Nat) : Int)) := by
  obtain ⟨h1, h2, h3⟩ := h
  obtain ⟨f1, f2⟩ := hf l[k] (List.getElem_mem _)
  refine ⟨by omega, by omega, fun j hj hjk => ?_⟩
  rcases Nat.lt_or_ge j k with h4 | h4
  · have := h3 j hj h4; omega
  · have : j = k := by omega
    subst this
    omega
def WeighPost (t : Tr) (left : Int) (w : World) (e : Ending) (w' : World) : Prop := ∃ r : Int, e = .returned (.int .i64 r) ∧ -1000000000000000 ≤ r ∧ r ≤ left ∧ (0 ≤ r → GoodT t ∧ (sizeT t : Int) ≤ left - r) ∧ Below w.heap.size w w'
set_option maxHeartbeats 8000000 in
set_option maxRecDepth 100000 in
theorem weigh_any : ∀ t : Tr, ∀ (x : NV) (left : Int) (deep : Nat) (w : World), TreeAt w w.heap.size t x → FitT t → 0 ≤ left → left ≤ 5000 → deep ≤ 81 →
    Calls Try.prog 41 #[nodeV t x, .int .i64 left, .int .i64 deep] w (WeighPost t left w) := by
  refine tr_ind (fun t ih => ?_)
  intro x left deep w htree hfit hl0 hl1 hdp
  obtain ⟨f1, f2, f3, f4, f5, f6⟩ := hfit.sizes
  obtain ⟨w1, hw1⟩ : ∃ w1, w1 = boxW w t x := ⟨_, rfl⟩
  have hb1 : Below w.heap.size w w1 := by rw [hw1]; exact below_box w t x
  have hbox : KidCells w1 w.heap.size 0 t x := by rw [hw1]; exact box_node w t x
  have ht1 := htree.up hb1
  have hlt1 : w.heap.size < w1.heap.size := hbox.block_lt
  have HIH := Lib.hid ih; have HW := Lib.hid hw1; have HB1 := Lib.hid hb1; have HT1 := Lib.hid ht1; have HFT := Lib.hid hfit; have HBX := Lib.hid hbox; have HF5 := Lib.hid f5
  clear ih hw1 hb1 htree ht1 hfit hbox f5
  have hq : ((t.text.size : Int) + (t.key.size : Int)) / 4096 = (((t.text.size + t.key.size) / 4096 : Nat) : Int) := by omega
  obtain ⟨qn, hqn⟩ : ∃ q : Nat, q = (t.text.size + t.key.size) / 4096 := ⟨_, rfl⟩
  rw [← hqn] at hq
  have hqb : (qn : Int) ≤ 68719476736 := by omega
  have hqk : t.key.size < (qn + 1) * 4096 ∧ t.text.size < (qn + 1) * 4096 := by omega
  have HQK := Lib.hid hqk
  have hw1' : IntKind.i64.wrap ((t.text.size : Int) + (t.key.size : Int)) = (t.text.size : Int) + (t.key.size : Int) := by rw [IntKind.wrap_i64]; omega
  have hw2' : IntKind.i64.wrap (left - 1) = left - 1 := by rw [IntKind.wrap_i64]; omega
  have hw3' : IntKind.i64.wrap (left - 1 - (t.as.length : Int)) = left - 1 - (t.as.length : Int) := by rw [IntKind.wrap_i64]; omega
  have hw4' : IntKind.i64.wrap (left - 1 - (t.as.length : Int) - (qn : Int)) = left - 1 - (t.as.length : Int) - (qn : Int) := by rw [IntKind.wrap_i64]; omega
  clear hqn hqk
  obtain ⟨c0, c1, c2, c3, c4⟩ := HBX.out
  by_cases hneg : left - 1 - (t.as.length : Int) - (qn : Int) < 0
  · go_enter Try.func41, Try.ntmps41
    go_wp2_with fail
    rw [box_out HW]
    go_ret
    exact ⟨-1, rfl, by omega, by omega, fun h => by omega, HB1.out⟩
  · by_cases hdeep : 80 < deep
    · have hdeep' : (deep : Int) > 80 := by omega
      go_enter Try.func41, Try.ntmps41
      go_wp2_with fail
      rw [box_out HW]
      go_ret
      exact ⟨-1, rfl, by omega, by omega, fun h => by omega, HB1.out⟩
    · have hdeep' : ¬ (deep : Int) > 80 := by omega
      have r2 : IntKind.i64.wrap ((deep : Int) + 1) = (deep : Int) + 1 := by rw [IntKind.wrap_i64]; omega
      obtain ⟨l1, hl1e⟩ : ∃ l1, l1 = left - 1 - (t.as.length : Int) - (qn : Int) := ⟨_, rfl⟩
      have HL1 := Lib.hid hl1e
      have hl1a : 0 ≤ l1 := by omega
      have hl1b : l1 ≤ 5000 := by omega
      have hasl : t.as.length ≤ 5000 := by omega
      have hqn5 : qn ≤ 5000 := by omega
      go_enter Try.func41, Try.ntmps41
      go_wp2_with fail
      rw [box_out HW, ← hl1e]
      clear hneg hw1' hw2' hw3' hw4' hq hl1e c0 c1 c2 c3 c4
      go_loopg [1, 33] t.as.length (fun g s1 s33 wr => ∃ (k : Nat) (lf : Int), s33 = .int .i64 k ∧ s1 = .int .i64 lf ∧ k ≤ t.as.length ∧ t.as.length - k ≤ g ∧ -1000000000000000 ≤ lf ∧ lf ≤ l1 ∧ RowKit.Hid (SeenA t.as k l1 lf) ∧ RowKit.Hid (Below w1.heap.size w1 wr))
      case atStart => exact ⟨0, l1, rfl, rfl, by omega, by omega, by omega, by omega, Lib.hid ⟨by omega, by omega, fun j hj h => by omega⟩, Lib.hid (Below.refl _ _)⟩
      case round =>
        obtain ⟨k, lf, rfl, rfl, hk, hg, hlo, hhi, HS, HBr⟩ := hrel
        obtain ⟨c0, c1, c2, c3, c4⟩ := HBX.out.below HBr.out hlt1
        by_cases hlt : k < t.as.length
        · have h1 : (k : Int) < (t.as.length : Int) := by omega
          obtain ⟨b, off, y, hA, hb, hy, a1, a2⟩ := trow_at (HT1.out.att.up HBr.out) hlt
          have HS2 := Lib.hid (SeenA.step HS.out hlt HF5.out)
          obtain ⟨g1, g2⟩ := HF5.out t.as[k] (List.getElem_mem _)
          rw [← hy] at g1 g2
          have hSl := HS2.out.2.1
          rw [← hy] at HS2 hSl
          have hq1 : (y.2.size : Int) / 4096 = ((y.2.size / 4096 : Nat) : Int) := by omega
          have hq2 : (y.1.size : Int) / 4096 = ((y.1.size / 4096 : Nat) : Int) := by omega
          obtain ⟨m1, hm1⟩ : ∃ m : Nat, m = y.2.size / 4096 := ⟨_, rfl⟩
          obtain ⟨m2, hm2⟩ : ∃ m : Nat, m = y.1.size / 4096 := ⟨_, rfl⟩
          rw [← hm1] at hq1 HS2 hSl
          rw [← hm2] at hq2 HS2 hSl
          have hw5 : IntKind.i64.wrap (lf - (m1 : Int)) = lf - (m1 : Int) := by rw [IntKind.wrap_i64]; omega
          have hw6 : IntKind.i64.wrap (lf - (m1 : Int) - (m2 : Int)) = lf - (m1 : Int) - (m2 : Int) := by rw [IntKind.wrap_i64]; omega
          clear hy hm1 hm2
          go_wp2_with fail
          go_quiet (fail)
          go_wp2_with fail
          try rw [← hA]
          go_roundg (t.as.length - (k + 1))
          case measure => omega
          case rel => exact ⟨k + 1, lf - (m1 : Int) - (m2 : Int), by go_num, rfl, by omega, by omega, by omega, by omega, HS2, Lib.hid (HBr.out.trans (below_drewN _ _ _))⟩
        · have h1 : ¬ (k : Int) < (t.as.length : Int) := by omega
          have HSF := Lib.hid (show ∀ y ∈ t.as, 0 ≤ lf → y.1.size ≤ 100000000 ∧ y.2.size ≤ 100000000 from fun y hy h0 => by
            obtain ⟨j, hj, rfl⟩ := List.getElem_of_mem hy
            have := HS.out.2.2 j hj (by omega)
            omega)
          clear HS
          go_wp2_with fail
          go_loopg [1, 59] t.kids.length (fun g s1 s59 wr => ∃ (k : Nat) (lk : Int), s59 = .int .i64 k ∧ s1 = .int .i64 lk ∧ k ≤ t.kids.length ∧ t.kids.length - k ≤ g ∧ -1000000000000000 ≤ lk ∧ lk ≤ lf ∧ RowKit.Hid (0 ≤ lk → (∀ j, (hj : j < t.kids.length) → j < k → GoodT t.kids[j]) ∧ (sizeK (t.kids.take k) : Int) ≤ lf - lk) ∧ RowKit.Hid (Below w1.heap.size w1 wr))
          case atStart => exact ⟨0, lf, rfl, rfl, by omega, by omega, by omega, by omega, Lib.hid (fun _ => ⟨fun j hj h => by omega, by simp [sizeK]⟩), HBr⟩
          case round =>
            clear HBr c0 c1 c2 c3 c4
            obtain ⟨i, lk, rfl, rfl, hi, hg2, hlo2, hhi2, HG, HBr⟩ := hrel
            obtain ⟨c0, c1, c2, c3, c4⟩ := HBX.out.below HBr.out hlt1
            by_cases hlt : i < t.kids.length
            · have h2 : (i : Int) < (t.kids.length : Int) := by omega
              by_cases hln : lk < 0
              · go_wp2_with fail
                go_ret
                exact ⟨-1, rfl, by omega, by omega, fun h => by omega, HB1.out.trans (HBr.out.mono HB1.out.size)⟩
              · obtain ⟨b, off, kd, y, hK, hb, hkd, hkc, hkt⟩ := (HT1.out.up HBr.out).kid hlt
                obtain ⟨q0, q1, q2, q3, q4⟩ := hkc
                have C := HIH.out kd (by rw [hkd]; exact List.getElem_mem _) y lk (deep + 1) wr hkt (HFT.out.kid hlt hkd) (by omega) (by omega) (by omega)
                rw [show ((deep + 1 : Nat) : Int) = (deep : Int) + 1 from rfl] at C
                have HC := Lib.hid C; have HKD := Lib.hid hkd
                clear hkd hkt C
                go_wp2_with fail
                refine HC.out.mono ?_
                rintro e w3 ⟨r, rfl, hr1, hr2, hr3, hb3⟩
                have HB3 := Lib.hid (HBr.out.trans (hb3.mono HBr.out.size))
                have HG3 := Lib.hid (show 0 ≤ r → (∀ j, (hj : j < t.kids.length) → j < i + 1 → GoodT t.kids[j]) ∧ (sizeK (t.kids.take (i + 1)) : Int) ≤ lf - r from fun h0 => by
                  obtain ⟨e1, e2⟩ := hr3 h0
                  obtain ⟨e3, e4⟩ := HG.out (by omega)
                  refine ⟨fun j hj hji => ?_, ?_⟩
                  · rcases Nat.lt_or_ge j i with h5 | h5
                    · exact e3 j hj h5
                    · have : j = i := by omega
                      subst this
                      rw [← HKD.out]; exact e1
                  · rw [sizeK_take hlt, ← HKD.out]; omega)
                clear hr3 hb3 HC q0 q1 q2 q3 q4
                go_wp2_with fail
                try rw [← hK]
                go_roundg (t.kids.length - (i + 1))
                case measure => omega
                case rel => exact ⟨i + 1, r, by go_num, rfl, by omega, by omega, by omega, by omega, HG3, HB3⟩
            · have h2 : ¬ (i : Int) < (t.kids.length : Int) := by omega
              have HGF := Lib.hid (show 0 ≤ lk → GoodT t ∧ (sizeT t : Int) ≤ left - lk from fun h0 => by
                obtain ⟨e3, e4⟩ := HG.out h0
                rw [List.take_of_length_le (by omega)] at e4
                have e5 := sizeK_len t.kids
                have e6 := HQK.out
                have e7 := HL1.out
                refine ⟨.mk (by unfold maxLen; omega) (by omega) (by omega) (by omega) (fun y hy => HSF.out y hy (by omega)) (by omega) (fun k hk => ?_), by rw [sizeT_eq]; omega⟩
                obtain ⟨j, hj, rfl⟩ := List.getElem_of_mem hk
                exact e3 j hj (by omega))
              have hlk : lk ≤ left := by have e7 := HL1.out; omega
              go_wp2_with fail
              go_ret
              exact ⟨lk, rfl, by omega, hlk, HGF.out, HB1.out.trans (HBr.out.mono HB1.out.size)⟩
def FewPost (t : Tr) (most : Nat) (w : World) (e : Ending) (w' : World) : Prop := ∃ b, e = .returned (.bool b) ∧ (b = true → GoodT t ∧ sizeT t ≤ most) ∧ Below w.heap.size w w'
set_option maxHeartbeats 2000000 in
theorem few_any (t : Tr) (x : NV) (most : Nat) (w : World) (h : TreeAt w w.heap.size t x) (hf : FitT t) (hm : most ≤ 5000) : Calls Try.prog 10 #[nodeV t x, .int .i64 most] w (FewPost t most w) := by
  obtain ⟨w1, hw1⟩ : ∃ w1, w1 = boxW w t x := ⟨_, rfl⟩
  have hb1 : Below w.heap.size w w1 := by rw [hw1]; exact below_box w t x
  obtain ⟨c0, c1, c2, c3, c4⟩ : KidCells w1 w.heap.size 0 t x := by rw [hw1]; exact box_node w t x
  have C := Lib.hid (weigh_any t x most 0 w1 (h.up hb1) hf (by omega) (by omega) (by omega))
  rw [show ((0 : Nat) : Int) = 0 from rfl] at C
  have HW := Lib.hid hw1; have HB1 := Lib.hid hb1
  clear h hw1 hb1 hf
  go_enter Try.func10, Try.ntmps10
  go_wp2_with fail
  rw [box_out HW]
  refine C.out.mono ?_
  rintro e w2 ⟨r, rfl, hr1, hr2, hr3, hb2⟩
  have HB2 := Lib.hid (HB1.out.trans (hb2.mono HB1.out.size)); have HR := Lib.hid hr3
  clear hb2 hr3 c0 c1 c2 c3 c4 C
  by_cases h0 : 0 ≤ r
  · have HQ := Lib.hid (HR.out h0)
    go_wp2_with fail
    go_ret
    exact ⟨true, ret_bool (by simp), fun _ => ⟨HQ.out.1, by have := HQ.out.2; omega⟩, HB2.out⟩
  · go_wp2_with fail
    go_ret
    exact ⟨false, ret_bool (by simp; omega), (fun h => by cases h), HB2.out⟩
end Go.Proofs.Ytlkdklpglmglkaa
