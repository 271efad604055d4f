/-
  How much a tree weighs: plain.Few says more.
-/
import Derived.Test.YtjnhcoflmechmaaGreatDoorMCut
namespace Go.Proofs.YtjnhcoflmechmaaGreatDoor.M
open Go.RowKit Go.Sort
set_option linter.unusedVariables false
set_option maxRecDepth 100000
/-- The texts of the attributes, counted by 4096 bytes. -/
def sumA (l : List At) : Nat := (l.map fun a => a.2.size / 4096 + a.1.size / 4096).sum
theorem sumA_app (a b : List At) : sumA (a ++ b) = sumA a + sumA b := by simp [sumA]
theorem sumA_take {l : List At} {k : Nat} (hk : k < l.length) : sumA (l.take (k + 1)) = sumA (l.take k) + (l[k].2.size / 4096 + l[k].1.size / 4096) := by
  rw [List.take_succ_eq_append_getElem hk, sumA_app]; simp [sumA]
theorem sumA_mem {l : List At} {y : At} (h : y ∈ l) : y.2.size / 4096 + y.1.size / 4096 ≤ sumA l := by
  induction l with
  | nil => cases h
  | cons x r ih =>
    have e : sumA (x :: r) = x.2.size / 4096 + x.1.size / 4096 + sumA r := by simp [sumA]
    rw [e]
    rcases List.mem_cons.1 h with rfl | h
    · omega
    · have := ih h; omega
mutual
def wT : Tr → Nat
  | .mk _ key text atz ks => 1 + atz.length + (text.size + key.size) / 4096 + sumA atz + wK ks
def wK : List Tr → Nat
  | [] => 0
  | k :: ks => wT k + wK ks
end
theorem wT_eq (t : Tr) : wT t = 1 + t.as.length + (t.text.size + t.key.size) / 4096 + sumA t.as + wK t.kids := by cases t; rw [wT]; rfl
theorem wK_append (a b : List Tr) : wK (a ++ b) = wK a + wK b := by
  induction a with
  | nil => simp [wK]
  | cons k a ih => simp only [List.cons_append, wK, ih]; omega
theorem wT_pos (t : Tr) : 1 ≤ wT t := by rw [wT_eq]; omega
theorem wK_len (l : List Tr) : l.length ≤ wK l := by
  induction l with
  | nil => simp
  | cons k a ih => have := wT_pos k; simp only [List.length_cons, wK]; omega
theorem wK_take {ks : List Tr} {j : Nat} (hj : j < ks.length) : wK (ks.take (j + 1)) = wK (ks.take j) + wT ks[j] := by
  have e : ks.take (j + 1) = ks.take j ++ [ks[j]] := by simp
  rw [e, wK_append]; simp [wK]
mutual
theorem size_w : ∀ t : Tr, sizeT t ≤ wT t
  | .mk a b c s ks => by rw [sizeT, wT]; have := size_wK ks; omega
theorem size_wK : ∀ ks : List Tr, sizeK ks ≤ wK ks
  | [] => Nat.le_refl _
  | k :: ks => by rw [sizeK, wK]; have := size_w k; have := size_wK ks; omega
end
def SeenM (l : List At) (k : Nat) (left0 left : Int) : Prop := left0 - (k : Int) * 68719476736 ≤ left ∧ left = left0 - (sumA (l.take k) : Int)
theorem SeenM.step {l : List At} {k : Nat} {left0 left : Int} (h : SeenM l k left0 left) (hk : k < l.length) (hf : ∀ x ∈ l, x.1.size ≤ 140737488355328 ∧ x.2.size ≤ 140737488355328) : SeenM l (k + 1) left0 (left - ((l[k].2.size / 4096 : Nat) : Int) - ((l[k].1.size / 4096 : Nat) : Int)) := by
  obtain ⟨h1, h2⟩ := h
  obtain ⟨f1, f2⟩ := hf l[k] (List.getElem_mem _)
  refine ⟨by omega, ?_⟩
  rw [sumA_take hk]
  omega
def WeighM (t : Tr) (left : Int) (w : World) (e : Ending) (w' : World) : Prop := ∃ r : Int, e = .returned (.int .i64 r) ∧ -1000000000000000 ≤ r ∧ r ≤ left ∧ (0 ≤ r → GoodT t ∧ (wT t : Int) ≤ left - r) ∧ Below w.heap.size w w'
set_option maxHeartbeats 8000000 in
set_option maxRecDepth 100000 in
theorem weighM_any : ∀ t : Tr, ∀ (x : NV) (left : Int) (deep : Nat) (w : World), TreeAt w w.heap.size t x → FitT t → 0 ≤ left → left ≤ 5000 → deep ≤ 81 →
    Calls Tryz.prog 31 #[nodeV t x, .int .i64 left, .int .i64 deep] w (WeighM t left w) := by
  refine tr_ind (fun t ih => ?_)
  intro x left deep w htree hfit hl0 hl1 hdp
  obtain ⟨f1, f2, f3, f4, f5, f6⟩ := hfit.sizes
  obtain ⟨w1, hw1⟩ : ∃ w1, w1 = boxW w t x := ⟨_, rfl⟩
  have hb1 : Below w.heap.size w w1 := by rw [hw1]; exact below_box w t x
  have hbox : KidCells w1 w.heap.size 0 t x := by rw [hw1]; exact box_node w t x
  have ht1 := htree.up hb1
  have hlt1 : w.heap.size < w1.heap.size := hbox.block_lt
  have HIH := Lib.hid ih; have HW := Lib.hid hw1; have HB1 := Lib.hid hb1; have HT1 := Lib.hid ht1; have HFT := Lib.hid hfit; have HBX := Lib.hid hbox; have HF5 := Lib.hid f5
  clear ih hw1 hb1 htree ht1 hfit hbox f5
  have hq : ((t.text.size : Int) + (t.key.size : Int)) / 4096 = (((t.text.size + t.key.size) / 4096 : Nat) : Int) := by omega
  obtain ⟨qn, hqn⟩ : ∃ q : Nat, q = (t.text.size + t.key.size) / 4096 := ⟨_, rfl⟩
  rw [← hqn] at hq
  have hqb : (qn : Int) ≤ 68719476736 := by omega
  have HQE := Lib.hid hqn
  have hqk : t.key.size < (qn + 1) * 4096 ∧ t.text.size < (qn + 1) * 4096 := by omega
  have HQK := Lib.hid hqk
  have hw1' : IntKind.i64.wrap ((t.text.size : Int) + (t.key.size : Int)) = (t.text.size : Int) + (t.key.size : Int) := by rw [IntKind.wrap_i64]; omega
  have hw2' : IntKind.i64.wrap (left - 1) = left - 1 := by rw [IntKind.wrap_i64]; omega
  have hw3' : IntKind.i64.wrap (left - 1 - (t.as.length : Int)) = left - 1 - (t.as.length : Int) := by rw [IntKind.wrap_i64]; omega
  have hw4' : IntKind.i64.wrap (left - 1 - (t.as.length : Int) - (qn : Int)) = left - 1 - (t.as.length : Int) - (qn : Int) := by rw [IntKind.wrap_i64]; omega
  clear hqn hqk
  obtain ⟨c0, c1, c2, c3, c4⟩ := HBX.out
  by_cases hneg : left - 1 - (t.as.length : Int) - (qn : Int) < 0
  · go_enter Tryz.func31, Tryz.ntmps31
    go_wp2_with fail
    rw [box_out HW]
    go_ret
    exact ⟨-1, rfl, by omega, by omega, fun h => by omega, HB1.out⟩
  · by_cases hdeep : 80 < deep
    · have hdeep' : (deep : Int) > 80 := by omega
      go_enter Tryz.func31, Tryz.ntmps31
      go_wp2_with fail
      rw [box_out HW]
      go_ret
      exact ⟨-1, rfl, by omega, by omega, fun h => by omega, HB1.out⟩
    · have hdeep' : ¬ (deep : Int) > 80 := by omega
      have r2 : IntKind.i64.wrap ((deep : Int) + 1) = (deep : Int) + 1 := by rw [IntKind.wrap_i64]; omega
      obtain ⟨l1, hl1e⟩ : ∃ l1, l1 = left - 1 - (t.as.length : Int) - (qn : Int) := ⟨_, rfl⟩
      have HL1 := Lib.hid hl1e
      have hl1a : 0 ≤ l1 := by omega
      have hl1b : l1 ≤ 5000 := by omega
      have hasl : t.as.length ≤ 5000 := by omega
      have hqn5 : qn ≤ 5000 := by omega
      go_enter Tryz.func31, Tryz.ntmps31
      go_wp2_with fail
      rw [box_out HW, ← hl1e]
      clear hneg hw1' hw2' hw3' hw4' hq hl1e c0 c1 c2 c3 c4
      go_loopg [1, 33] t.as.length (fun g s1 s33 wr => ∃ (k : Nat) (lf : Int), s33 = .int .i64 k ∧ s1 = .int .i64 lf ∧ k ≤ t.as.length ∧ t.as.length - k ≤ g ∧ -1000000000000000 ≤ lf ∧ lf ≤ l1 ∧ RowKit.Hid (SeenM t.as k l1 lf) ∧ RowKit.Hid (Below w1.heap.size w1 wr))
      case atStart => exact ⟨0, l1, rfl, rfl, by omega, by omega, by omega, by omega, Lib.hid ⟨by omega, by simp [sumA]⟩, Lib.hid (Below.refl _ _)⟩
      case round =>
        obtain ⟨k, lf, rfl, rfl, hk, hg, hlo, hhi, HS, HBr⟩ := hrel
        obtain ⟨c0, c1, c2, c3, c4⟩ := HBX.out.below HBr.out hlt1
        by_cases hlt : k < t.as.length
        · have h1 : (k : Int) < (t.as.length : Int) := by omega
          obtain ⟨b, off, y, hA, hb, hy, a1, a2⟩ := trow_at (HT1.out.att.up HBr.out) hlt
          have HS2 := Lib.hid (SeenM.step HS.out hlt HF5.out)
          obtain ⟨g1, g2⟩ := HF5.out t.as[k] (List.getElem_mem _)
          rw [← hy] at g1 g2
          have hSl := HS2.out.1
          rw [← hy] at HS2 hSl
          have hq1 : (y.2.size : Int) / 4096 = ((y.2.size / 4096 : Nat) : Int) := by omega
          have hq2 : (y.1.size : Int) / 4096 = ((y.1.size / 4096 : Nat) : Int) := by omega
          obtain ⟨m1, hm1⟩ : ∃ m : Nat, m = y.2.size / 4096 := ⟨_, rfl⟩
          obtain ⟨m2, hm2⟩ : ∃ m : Nat, m = y.1.size / 4096 := ⟨_, rfl⟩
          rw [← hm1] at hq1 HS2 hSl
          rw [← hm2] at hq2 HS2 hSl
          have hw5 : IntKind.i64.wrap (lf - (m1 : Int)) = lf - (m1 : Int) := by rw [IntKind.wrap_i64]; omega
          have hw6 : IntKind.i64.wrap (lf - (m1 : Int) - (m2 : Int)) = lf - (m1 : Int) - (m2 : Int) := by rw [IntKind.wrap_i64]; omega
          clear hy hm1 hm2
          go_wp2_with fail
          go_quiet (fail)
          go_wp2_with fail
          try rw [← hA]
          go_roundg (t.as.length - (k + 1))
          case measure => omega
          case rel => exact ⟨k + 1, lf - (m1 : Int) - (m2 : Int), by go_num, rfl, by omega, by omega, by omega, by omega, HS2, Lib.hid (HBr.out.trans (below_drewN _ _ _))⟩
        · have h1 : ¬ (k : Int) < (t.as.length : Int) := by omega
          have HSF := Lib.hid (show ∀ y ∈ t.as, 0 ≤ lf → y.1.size ≤ 100000000 ∧ y.2.size ≤ 100000000 from fun y hy h0 => by
            have h5 := HS.out.2
            rw [List.take_of_length_le (by omega)] at h5
            have := sumA_mem hy
            omega)
          have HSU := Lib.hid (show lf = l1 - (sumA t.as : Int) by
            have h5 := HS.out.2
            rw [List.take_of_length_le (by omega)] at h5
            exact h5)
          clear HS
          go_wp2_with fail
          go_loopg [1, 59] t.kids.length (fun g s1 s59 wr => ∃ (k : Nat) (lk : Int), s59 = .int .i64 k ∧ s1 = .int .i64 lk ∧ k ≤ t.kids.length ∧ t.kids.length - k ≤ g ∧ -1000000000000000 ≤ lk ∧ lk ≤ lf ∧ RowKit.Hid (0 ≤ lk → (∀ j, (hj : j < t.kids.length) → j < k → GoodT t.kids[j]) ∧ (wK (t.kids.take k) : Int) ≤ lf - lk) ∧ RowKit.Hid (Below w1.heap.size w1 wr))
          case atStart => exact ⟨0, lf, rfl, rfl, by omega, by omega, by omega, by omega, Lib.hid (fun _ => ⟨fun j hj h => by omega, by simp [wK]⟩), HBr⟩
          case round =>
            clear HBr c0 c1 c2 c3 c4
            obtain ⟨i, lk, rfl, rfl, hi, hg2, hlo2, hhi2, HG, HBr⟩ := hrel
            obtain ⟨c0, c1, c2, c3, c4⟩ := HBX.out.below HBr.out hlt1
            by_cases hlt : i < t.kids.length
            · have h2 : (i : Int) < (t.kids.length : Int) := by omega
              by_cases hln : lk < 0
              · go_wp2_with fail
                go_ret
                exact ⟨-1, rfl, by omega, by omega, fun h => by omega, HB1.out.trans (HBr.out.mono HB1.out.size)⟩
              · obtain ⟨b, off, kd, y, hK, hb, hkd, hkc, hkt⟩ := (HT1.out.up HBr.out).kid hlt
                obtain ⟨q0, q1, q2, q3, q4⟩ := hkc
                have C := HIH.out kd (by rw [hkd]; exact List.getElem_mem _) y lk (deep + 1) wr hkt (HFT.out.kid hlt hkd) (by omega) (by omega) (by omega)
                rw [show ((deep + 1 : Nat) : Int) = (deep : Int) + 1 from rfl] at C
                have HC := Lib.hid C; have HKD := Lib.hid hkd
                clear hkd hkt C
                go_wp2_with fail
                refine HC.out.mono ?_
                rintro e w3 ⟨r, rfl, hr1, hr2, hr3, hb3⟩
                have HB3 := Lib.hid (HBr.out.trans (hb3.mono HBr.out.size))
                have HG3 := Lib.hid (show 0 ≤ r → (∀ j, (hj : j < t.kids.length) → j < i + 1 → GoodT t.kids[j]) ∧ (wK (t.kids.take (i + 1)) : Int) ≤ lf - r from fun h0 => by
                  obtain ⟨e1, e2⟩ := hr3 h0
                  obtain ⟨e3, e4⟩ := HG.out (by omega)
                  refine ⟨fun j hj hji => ?_, ?_⟩
                  · rcases Nat.lt_or_ge j i with h5 | h5
                    · exact e3 j hj h5
                    · have : j = i := by omega
                      subst this
                      rw [← HKD.out]; exact e1
                  · rw [wK_take hlt, ← HKD.out]; omega)
                clear hr3 hb3 HC q0 q1 q2 q3 q4
                go_wp2_with fail
                try rw [← hK]
                go_roundg (t.kids.length - (i + 1))
                case measure => omega
                case rel => exact ⟨i + 1, r, by go_num, rfl, by omega, by omega, by omega, by omega, HG3, HB3⟩
            · have h2 : ¬ (i : Int) < (t.kids.length : Int) := by omega
              have HGF := Lib.hid (show 0 ≤ lk → GoodT t ∧ (wT t : Int) ≤ left - lk from fun h0 => by
                obtain ⟨e3, e4⟩ := HG.out h0
                rw [List.take_of_length_le (by omega)] at e4
                have e5 := wK_len t.kids
                have e6 := HQK.out
                have e7 := HL1.out
                refine ⟨.mk (by unfold maxLen; omega) (by omega) (by omega) (by omega) (fun y hy => HSF.out y hy (by omega)) (by omega) (fun k hk => ?_), by have e8 := HSU.out; have e9 := HQE.out; rw [wT_eq, ← e9]; omega⟩
                obtain ⟨j, hj, rfl⟩ := List.getElem_of_mem hk
                exact e3 j hj (by omega))
              have hlk : lk ≤ left := by have e7 := HL1.out; omega
              go_wp2_with fail
              go_ret
              exact ⟨lk, rfl, by omega, hlk, HGF.out, HB1.out.trans (HBr.out.mono HB1.out.size)⟩
def FewM (t : Tr) (most : Nat) (w : World) (e : Ending) (w' : World) : Prop := ∃ b, e = .returned (.bool b) ∧ (b = true → GoodT t ∧ wT t ≤ most) ∧ Below w.heap.size w w'
set_option maxHeartbeats 2000000 in
theorem fewM_any (t : Tr) (x : NV) (most : Nat) (w : World) (h : TreeAt w w.heap.size t x) (hf : FitT t) (hm : most ≤ 5000) : Calls Tryz.prog 11 #[nodeV t x, .int .i64 most] w (FewM t most w) := by
  obtain ⟨w1, hw1⟩ : ∃ w1, w1 = boxW w t x := ⟨_, rfl⟩
  have hb1 : Below w.heap.size w w1 := by rw [hw1]; exact below_box w t x
  obtain ⟨c0, c1, c2, c3, c4⟩ : KidCells w1 w.heap.size 0 t x := by rw [hw1]; exact box_node w t x
  have C := Lib.hid (weighM_any t x most 0 w1 (h.up hb1) hf (by omega) (by omega) (by omega))
  rw [show ((0 : Nat) : Int) = 0 from rfl] at C
  have HW := Lib.hid hw1; have HB1 := Lib.hid hb1
  clear h hw1 hb1 hf
  go_enter Tryz.func11, Tryz.ntmps11
  go_wp2_with fail
  rw [box_out HW]
  refine C.out.mono ?_
  rintro e w2 ⟨r, rfl, hr1, hr2, hr3, hb2⟩
  have HB2 := Lib.hid (HB1.out.trans (hb2.mono HB1.out.size)); have HR := Lib.hid hr3
  clear hb2 hr3 c0 c1 c2 c3 c4 C
  by_cases h0 : 0 ≤ r
  · have HQ := Lib.hid (HR.out h0)
    go_wp2_with fail
    go_ret
    exact ⟨true, ret_bool (by simp), fun _ => ⟨HQ.out.1, by have := HQ.out.2; omega⟩, HB2.out⟩
  · go_wp2_with fail
    go_ret
    exact ⟨false, ret_bool (by simp; omega), (fun h => by cases h), HB2.out⟩
end Go.Proofs.YtjnhcoflmechmaaGreatDoor.M
