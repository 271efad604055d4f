/-
  tendrilref16.Few: a value that is few has sizes that the calls bear.
-/
import Derived.Test.YtjnhcoflmechmaaGreatDoorB5
import Derived.Test.YtjnhcoflmechmaaGreatDoorICheck
namespace Go.Proofs.YtjnhcoflmechmaaGreatDoor
open Go.RowKit Go.Sort
set_option linter.unusedVariables false
set_option maxRecDepth 100000
theorem sizeD_eq (d : Dt) : sizeD d = 1 + d.names.length + sizeD.sizeDL d.list := by cases d; rw [sizeD]; rfl
theorem sizeDL_append (a b : List Dt) : sizeD.sizeDL (a ++ b) = sizeD.sizeDL a + sizeD.sizeDL b := by
  induction a with
  | nil => simp [sizeD.sizeDL]
  | cons x r ih => simp only [List.cons_append, sizeD.sizeDL, ih]; omega
theorem sizeDL_len (l : List Dt) : l.length ≤ sizeD.sizeDL l := by
  induction l with
  | nil => simp [sizeD.sizeDL]
  | cons x r ih => have := sizeD_eq x; simp only [sizeD.sizeDL, List.length_cons]; omega
theorem sizeDL_take {l : List Dt} {j : Nat} (hj : j < l.length) : sizeD.sizeDL (l.take (j + 1)) = sizeD.sizeDL (l.take j) + sizeD l[j] := by
  have e : l.take (j + 1) = l.take j ++ [l[j]] := by rw [List.take_add_one]; simp [hj]
  rw [e, sizeDL_append]; simp [sizeD.sizeDL]
def FewDP (d : Dt) (left : Int) (w : World) (e : Ending) (w' : World) : Prop := ∃ r : Int, e = .returned (.int .i64 r) ∧ -1000000000000000 ≤ r ∧ r ≤ left ∧ (0 ≤ r → GoodD d ∧ (sizeD d : Int) ≤ left - r) ∧ Below w.heap.size w w'
set_option maxHeartbeats 8000000 in
theorem few16_any : ∀ d : Dt, ∀ (x : NV) (left : Int) (deep : Nat) (w : World), DatAt w w.heap.size d x → FitD d → 0 ≤ left → left ≤ 5000 → deep ≤ 31 →
    Calls Tryz.prog 44 #[datV d x, .int .i64 left, .int .i64 deep] w (FewDP d left w) := by
  refine dt_ind (fun d ih => ?_)
  intro x left deep w htree hfit hl0 hl1 hdp
  obtain ⟨f1, f2, f3, f4, f5, f6⟩ := hfit.sizes
  obtain ⟨w1, hw1⟩ : ∃ w1, w1 = boxD w d x := ⟨_, rfl⟩
  have hb1 : Below w.heap.size w w1 := by rw [hw1]; exact below_boxD w d x
  have hbox : DatCells w1 w.heap.size 0 d x := by rw [hw1]; exact box_dat w d x
  have ht1 := htree.up hb1
  have hlt1 : w.heap.size < w1.heap.size := hbox.block_lt
  have HIH := Lib.hid ih; have HW := Lib.hid hw1; have HB1 := Lib.hid hb1; have HT1 := Lib.hid ht1; have HFT := Lib.hid hfit; have HBX := Lib.hid hbox; have HF5 := Lib.hid f5
  have HF1 := Lib.hid f1; have HF2 := Lib.hid f2
  clear ih hw1 hb1 htree ht1 hfit hbox f5 f1 f2
  have hq : (d.text.size : Int) / 4096 = ((d.text.size / 4096 : Nat) : Int) := by omega
  obtain ⟨qn, hqn⟩ : ∃ q : Nat, q = d.text.size / 4096 := ⟨_, rfl⟩
  rw [← hqn] at hq
  have hqb : (qn : Int) ≤ 68719476736 := by omega
  have hqk : d.text.size < (qn + 1) * 4096 := by omega
  have HQK := Lib.hid hqk
  have hw2' : IntKind.i64.wrap (left - 1) = left - 1 := by rw [IntKind.wrap_i64]; omega
  have hw3' : IntKind.i64.wrap (left - 1 - (d.names.length : Int)) = left - 1 - (d.names.length : Int) := by rw [IntKind.wrap_i64]; omega
  have hw4' : IntKind.i64.wrap (left - 1 - (d.names.length : Int) - (qn : Int)) = left - 1 - (d.names.length : Int) - (qn : Int) := by rw [IntKind.wrap_i64]; omega
  clear hqn hqk
  obtain ⟨c0, c1, c2, c3, c4⟩ := HBX.out
  by_cases hneg : left - 1 - (d.names.length : Int) - (qn : Int) < 0
  · go_enter Tryz.func44, Tryz.ntmps44
    go_wp2_with fail
    rw [boxD_out HW]
    go_ret
    exact ⟨-1, rfl, by omega, by omega, fun h => by omega, HB1.out⟩
  · by_cases hdeep : 30 < deep
    · have hdeep' : (deep : Int) > 30 := by omega
      go_enter Tryz.func44, Tryz.ntmps44
      go_wp2_with fail
      rw [boxD_out HW]
      go_ret
      exact ⟨-1, rfl, by omega, by omega, fun h => by omega, HB1.out⟩
    · have hdeep' : ¬ (deep : Int) > 30 := by omega
      have r2 : IntKind.i64.wrap ((deep : Int) + 1) = (deep : Int) + 1 := by rw [IntKind.wrap_i64]; omega
      obtain ⟨l1, hl1e⟩ : ∃ l1, l1 = left - 1 - (d.names.length : Int) - (qn : Int) := ⟨_, rfl⟩
      have HL1 := Lib.hid hl1e
      have hl1a : 0 ≤ l1 := by omega
      have hl1b : l1 ≤ 5000 := by omega
      have hasl : d.names.length ≤ 5000 := by omega
      have hqn5 : qn ≤ 5000 := by omega
      go_enter Tryz.func44, Tryz.ntmps44
      go_wp2_with fail
      rw [boxD_out HW, ← hl1e]
      clear hneg hw2' hw3' hw4' hq hl1e c0 c1 c2 c3 c4
      go_loopg [1, 28] d.list.length (fun g s1 s28 wr => ∃ (k : Nat) (lk : Int), s28 = .int .i64 k ∧ s1 = .int .i64 lk ∧ k ≤ d.list.length ∧ d.list.length - k ≤ g ∧ 0 ≤ lk ∧ lk ≤ l1 ∧ RowKit.Hid ((∀ j, (hj : j < d.list.length) → j < k → GoodD d.list[j]) ∧ (sizeD.sizeDL (d.list.take k) : Int) ≤ l1 - lk) ∧ RowKit.Hid (Below w1.heap.size w1 wr))
      case atStart => exact ⟨0, l1, rfl, rfl, by omega, by omega, by omega, by omega, Lib.hid ⟨fun j hj h => by omega, by simp [sizeD.sizeDL]⟩, Lib.hid (Below.refl _ _)⟩
      case round =>
        obtain ⟨i, lk, rfl, rfl, hi, hg2, hlo2, hhi2, HG, HBr⟩ := hrel
        obtain ⟨c0, c1, c2, c3, c4⟩ := HBX.out.below HBr.out hlt1
        by_cases hlt : i < d.list.length
        · have h2 : (i : Int) < (d.list.length : Int) := by omega
          obtain ⟨b, off, kd, y, hK, hb, hkd, hkc, hkt⟩ := (HT1.out.up HBr.out).kid hlt
          obtain ⟨q0, q1, q2, q3, q4⟩ := hkc
          have C := HIH.out kd (by rw [hkd]; exact List.getElem_mem _) y lk (deep + 1) wr hkt (HFT.out.kid hlt hkd) (by omega) (by omega) (by omega)
          rw [show ((deep + 1 : Nat) : Int) = (deep : Int) + 1 from rfl] at C
          have HC := Lib.hid C; have HKD := Lib.hid hkd
          clear hkd hkt C
          go_wp2_with fail
          refine HC.out.mono ?_
          rintro e w3 ⟨r, rfl, hr1, hr2, hr3, hb3⟩
          have HB3 := Lib.hid (HBr.out.trans (hb3.mono HBr.out.size))
          by_cases hr0 : r < 0
          · clear HC hr3
            go_wp2_with fail
            go_ret
            exact ⟨-1, rfl, by omega, by omega, fun h => by omega, HB1.out.trans (HB3.out.mono HB1.out.size)⟩
          · have HG3 := Lib.hid (show (∀ j, (hj : j < d.list.length) → j < i + 1 → GoodD d.list[j]) ∧ (sizeD.sizeDL (d.list.take (i + 1)) : Int) ≤ l1 - r from by
              obtain ⟨e1, e2⟩ := hr3 (by omega)
              obtain ⟨e3, e4⟩ := HG.out
              refine ⟨fun j hj hji => ?_, ?_⟩
              · rcases Nat.lt_or_ge j i with h5 | h5
                · exact e3 j hj h5
                · have : j = i := by omega
                  subst this
                  rw [← HKD.out]; exact e1
              · rw [sizeDL_take hlt, ← HKD.out]; omega)
            clear hr3 hb3 HC q0 q1 q2 q3 q4
            go_wp2_with fail
            try rw [← hK]
            go_roundg (d.list.length - (i + 1))
            case measure => omega
            case rel => exact ⟨i + 1, r, by go_num, rfl, by omega, by omega, by omega, by omega, HG3, HB3⟩
        · have h2 : ¬ (i : Int) < (d.list.length : Int) := by omega
          have HGF := Lib.hid (show GoodD d ∧ (sizeD d : Int) ≤ left - lk from by
            obtain ⟨e3, e4⟩ := HG.out
            rw [List.take_of_length_le (by omega)] at e4
            have e5 := sizeDL_len d.list
            have e6 := HQK.out
            have e7 := HL1.out
            refine ⟨.mk HF1.out HF2.out (by omega) (by omega) HF5.out (by omega) (fun k hk => ?_), by rw [sizeD_eq]; omega⟩
            obtain ⟨j, hj, rfl⟩ := List.getElem_of_mem hk
            exact e3 j hj (by omega))
          have hlk : lk ≤ left := by have e7 := HL1.out; omega
          go_wp2_with fail
          go_ret
          exact ⟨lk, rfl, by omega, hlk, fun _ => HGF.out, HB1.out.trans (HBr.out.mono HB1.out.size)⟩
def FewD (d : Dt) (most : Nat) (w : World) (e : Ending) (w' : World) : Prop := ∃ b, e = .returned (.bool b) ∧ (b = true → GoodD d ∧ sizeD d ≤ most) ∧ Below w.heap.size w w'
set_option maxHeartbeats 2000000 in
theorem fewD_any (d : Dt) (x : NV) (most : Nat) (w : World) (h : DatAt w w.heap.size d x) (hf : FitD d) (hm : most ≤ 5000) : Calls Tryz.prog 19 #[datV d x, .int .i64 most] w (FewD d most w) := by
  obtain ⟨w1, hw1⟩ : ∃ w1, w1 = boxD w d x := ⟨_, rfl⟩
  have hb1 : Below w.heap.size w w1 := by rw [hw1]; exact below_boxD w d x
  obtain ⟨c0, c1, c2, c3, c4⟩ : DatCells w1 w.heap.size 0 d x := by rw [hw1]; exact box_dat w d x
  have C := Lib.hid (few16_any d x most 0 w1 (h.up hb1) hf (by omega) (by omega) (by omega))
  rw [show ((0 : Nat) : Int) = 0 from rfl] at C
  have HW := Lib.hid hw1; have HB1 := Lib.hid hb1
  clear h hw1 hb1 hf
  go_enter Tryz.func19, Tryz.ntmps19
  go_wp2_with fail
  rw [boxD_out HW]
  refine C.out.mono ?_
  rintro e w2 ⟨r, rfl, hr1, hr2, hr3, hb2⟩
  have HR := Lib.hid hr3
  clear hr3
  by_cases h0 : 0 ≤ r
  · have h0' : r ≥ 0 := h0
    go_wp2_with fail
    go_ret
    refine ⟨_, rfl, fun _ => ?_, HB1.out.trans (hb2.mono HB1.out.size)⟩
    obtain ⟨e1, e2⟩ := HR.out h0
    exact ⟨e1, by omega⟩
  · have h0' : ¬ r ≥ 0 := h0
    go_wp2_with fail
    go_ret
    exact ⟨_, rfl, fun h => by simp at h; omega, HB1.out.trans (hb2.mono HB1.out.size)⟩
end Go.Proofs.YtjnhcoflmechmaaGreatDoor
