/-
  tendrillaw12.same: true.
-/
import Derived.Test.YtlebcebihieiiaaDoorLEq
import Derived.Test.YtlebcebihieiiaaDoorLOfW
import Derived.Test.YtlebcebihieiiaaDoorLRead2
import Derived.Deep.RegionHeld3
namespace Go.Proofs.YtlebcebihieiiaaDoor
open Go.RowKit Go.Sort
set_option linter.unusedVariables false
def TrueB (w : World) (e : Ending) (w' : World) : Prop := e = .returned (.bool true) ∧ Below w.heap.size w w'
def leafNV : NV := ⟨none, 0, none, 0⟩
theorem leaf_tree (w : World) (B : Nat) (a b c : ByteArray) : TreeAt w B (.mk a b c [] []) leafNV := .mk (fun _ => leafNV) (TRow.nil _ _ _) (Nat.le_refl _) (by simp [leafNV, maxLen]) (fun _ => rfl) (Nat.le_refl _) (by simp [leafNV, maxLen]) (fun _ => rfl) (fun h => by simp [Tr.kids] at h) (fun j h => by simp [Tr.kids] at h)
def sP : ByteArray := ⟨#[112]⟩
def sLi : ByteArray := ⟨#[108, 105]⟩
def sK : ByteArray := ⟨#[107]⟩
def exLi : Tr := .mk sLi noS noS [] []
def exLk : Tr := .mk sLi sK noS [] []
def exP : Tr := .mk sP noS noS [] []
def ex4 : Tr := .mk sP noS noS [] [exLi, exLk, exP, exLi]
def ex4V (b : Nat) : NV := ⟨none, 0, some ⟨b, 0, none⟩, 4⟩
theorem four_tree {w : World} {B b0 : Nat} (hb : b0 < B) (h1 : KidCells w b0 0 exLi leafNV) (h2 : KidCells w b0 5 exLk leafNV) (h3 : KidCells w b0 10 exP leafNV) (h4 : KidCells w b0 15 exLi leafNV) : TreeAt w B ex4 (ex4V b0) := by
  refine .mk (fun _ => leafNV) (TRow.nil _ _ _) (Nat.le_refl _) (by simp [ex4V, maxLen]) (fun _ => rfl) (Nat.le_refl _) (by simp [ex4V, maxLen]) (fun h => by cases h) (fun _ => ⟨b0, 0, rfl, hb, fun j hj => ?_⟩) (fun j hj => ?_)
  · match j, hj with
    | 0, _ => exact h1
    | 1, _ => exact h2
    | 2, _ => exact h3
    | 3, _ => exact h4
  · match j, hj with
    | 0, _ => exact leaf_tree _ _ _ _ _
    | 1, _ => exact leaf_tree _ _ _ _ _
    | 2, _ => exact leaf_tree _ _ _ _ _
    | 3, _ => exact leaf_tree _ _ _ _ _
theorem short_nil : Short [] := fun x hx => by simp at hx
theorem good_leaf (a b c : ByteArray) (ha : a.size ≤ 1000) (hb : b.size ≤ 1000) (hc : c.size ≤ 1000) : GoodT (.mk a b c [] []) := .mk (by simp only [Tr.tag]; unfold maxLen; omega) (by simp only [Tr.key]; omega) (by simp only [Tr.text]; omega) (by simp [Tr.as]) short_nil (by simp [Tr.kids]) (fun k hk => by simp [Tr.kids] at hk)
theorem good_li : GoodT exLi := good_leaf _ _ _ (by decide) (by decide) (by decide)
theorem good_lk : GoodT exLk := good_leaf _ _ _ (by decide) (by decide) (by decide)
theorem good_p : GoodT exP := good_leaf _ _ _ (by decide) (by decide) (by decide)
theorem good_4 : GoodT ex4 := .mk (by simp only [Tr.tag, ex4]; decide) (by simp only [Tr.key, ex4]; decide) (by simp only [Tr.text, ex4]; decide) (by simp [Tr.as, ex4]) short_nil (by simp [Tr.kids, ex4]) (fun k hk => by
  simp [Tr.kids, ex4] at hk
  rcases hk with rfl | rfl | rfl | rfl
  · exact good_li
  · exact good_lk
  · exact good_p
  · exact good_li)
def lab1 : Lab := ⟨sLi, sK, 0⟩
def lab3 : Lab := ⟨sLi, noS, 2⟩
theorem labs_4 : labsOf ex4.kids = [⟨sLi, noS, 1⟩, lab1, ⟨sP, noS, 1⟩, lab3] := by decide +kernel
theorem wfLi : wfB tagB sLi = true := by kernel_rfl
theorem lab1_ok : LabOk lab1 := ⟨wfLi, .inr ⟨by decide, by decide, rfl⟩⟩
theorem lab1_text : textS lab1 = ⟨#[108, 105, 35, 107]⟩ := by
  rw [show textS lab1 = keyT lab1 by simp [textS, show ¬ lab1.key = noS by decide]]
  kernel_rfl
abbrev fourC : Array Value := #[.string ⟨#[108, 105]⟩, .string ⟨#[]⟩, .string ⟨#[]⟩, .slice none 0 0, .slice none 0 0, .string ⟨#[108, 105]⟩, .string ⟨#[107]⟩, .string ⟨#[]⟩, .slice none 0 0, .slice none 0 0, .string ⟨#[112]⟩, .string ⟨#[]⟩, .string ⟨#[]⟩, .slice none 0 0, .slice none 0 0, .string ⟨#[108, 105]⟩, .string ⟨#[]⟩, .string ⟨#[]⟩, .slice none 0 0, .slice none 0 0]
theorem four_cells (w : World) : TreeAt (w.alloc (.cells fourC 25)) (w.alloc (.cells fourC 25)).heap.size ex4 (ex4V w.heap.size) := by
  have e : ∀ j, (w.alloc (.cells fourC 25)).cell? ⟨w.heap.size, j, none⟩ = fourC[j]? := fun j => cell_of_row _ _ _ _ _ (0, 0) (heap_alloc_new w _)
  exact four_tree (by simp) ⟨e 0, e 1, e 2, e 3, e 4⟩ ⟨e 5, e 6, e 7, e 8, e 9⟩ ⟨e 10, e 11, e 12, e 13, e 14⟩ ⟨e 15, e 16, e 17, e 18, e 19⟩
set_option maxRecDepth 100000 in
set_option maxHeartbeats 4000000 in
theorem same_any (w : World) (hv : Vars w) : Calls Tryd.prog 7 #[] w (TrueB w) := by
  obtain ⟨w1, hw1⟩ : ∃ w1, w1 = w.alloc (.cells fourC 25) := ⟨_, rfl⟩
  have hb1 : Below w.heap.size w w1 := by rw [hw1]; exact (Below.refl _ _).alloc (Nat.le_refl _) _
  have C1 := Lib.hid (of_any ex4 (ex4V w.heap.size) w1 (by rw [hw1]; exact four_cells w) good_4)
  rw [labs_4] at C1
  have HW := Lib.hid hw1; have HB1 := Lib.hid hb1; have HV := Lib.hid hv
  clear hw1 hb1 hv
  go_enter Tryd.func7, Tryd.ntmps7
  go_wp2_with fail
  rw [show w.alloc (.cells fourC 25) = w1 from HW.out.symm]
  refine C1.out.mono ?_
  rintro e w2 ⟨A, c, rfl, hr, hlc, hcm, hb2⟩
  obtain ⟨b, off, hA, hbl, hc⟩ := hr (by simp)
  subst hA
  have HC2 := Lib.hid hc
  have HBL := Lib.hid hbl
  have HB2 := Lib.hid (HB1.out.trans (hb2.mono HB1.out.size))
  clear hr hc hbl hb2 C1 hlc hcm
  have C2 := Lib.hid (read_any ⟨#[108, 105, 35, 107]⟩ w2 (by decide) (HV.out.belowC HB2.out))
  go_wp2_with fail
  refine C2.out.mono ?_
  rintro e w3 ⟨o, ho, rfl, hb3⟩
  obtain rfl : o = some lab1 := labOk_read lab1_ok (by rw [lab1_text]; exact ho)
  rw [show resV (some lab1) = .tuple #[.agg #[.string ⟨#[108, 105]⟩, .string ⟨#[107]⟩, .int .i64 0], .int .i64 0] from rfl]
  have HB3 := Lib.hid (HB2.out.trans (hb3.mono HB2.out.size))
  have HC3 := Lib.hid (fun j (hj : j < 4) => (⟨(hb3.cell (p := ⟨b, off + j * 3, none⟩) HBL.out).trans (HC2.out j hj).1, (hb3.cell (p := ⟨b, off + j * 3 + 1, none⟩) HBL.out).trans (HC2.out j hj).2.1, (hb3.cell (p := ⟨b, off + j * 3 + 2, none⟩) HBL.out).trans (HC2.out j hj).2.2⟩ : _ ∧ _ ∧ _))
  have HBL3 := Lib.hid (Nat.lt_of_lt_of_le HBL.out hb3.size)
  clear hb3 ho C2
  obtain ⟨w4, hw4⟩ : ∃ w4, w4 = lboxW w3 lab1 := ⟨_, rfl⟩
  have hb4 : Below w3.heap.size w3 w4 := by rw [hw4]; exact below_lbox w3 _
  have hx4 : BoxL w4 w3.heap.size lab1 := by rw [hw4]; exact BoxL.new w3 _
  obtain ⟨d0, d1, d2⟩ := hx4.cells
  have hbd : Below w4.heap.size w4 w4.drew := ⟨rfl, rfl, rfl, Nat.le_refl _, fun _ _ => rfl⟩
  have HBL4 := Lib.hid (Nat.lt_of_lt_of_le HBL3.out hb4.size)
  have HX4 := Lib.hid hx4
  have HB4 := Lib.hid (HB3.out.trans (hb4.mono HB3.out.size))
  have a0 : w4.cell? ⟨b, off + 1 * 3, none⟩ = some (.string ⟨#[108, 105]⟩) := (hb4.cell (p := ⟨b, off + 1 * 3, none⟩) HBL3.out).trans (HC3.out 1 (by omega)).1
  have a1 : w4.cell? ⟨b, off + 1 * 3 + 1, none⟩ = some (.string ⟨#[107]⟩) := (hb4.cell (p := ⟨b, off + 1 * 3 + 1, none⟩) HBL3.out).trans (HC3.out 1 (by omega)).2.1
  have a2 : w4.cell? ⟨b, off + 1 * 3 + 2, none⟩ = some (.int .i64 0) := (hb4.cell (p := ⟨b, off + 1 * 3 + 2, none⟩) HBL3.out).trans (HC3.out 1 (by omega)).2.2
  have e0 : w4.cell? ⟨b, off + 3 * 3, none⟩ = some (.string ⟨#[108, 105]⟩) := (hb4.cell (p := ⟨b, off + 3 * 3, none⟩) HBL3.out).trans (HC3.out 3 (by omega)).1
  have e1 : w4.cell? ⟨b, off + 3 * 3 + 1, none⟩ = some (.string ⟨#[]⟩) := (hb4.cell (p := ⟨b, off + 3 * 3 + 1, none⟩) HBL3.out).trans (HC3.out 3 (by omega)).2.1
  have e2 : w4.cell? ⟨b, off + 3 * 3 + 2, none⟩ = some (.int .i64 2) := (hb4.cell (p := ⟨b, off + 3 * 3 + 2, none⟩) HBL3.out).trans (HC3.out 3 (by omega)).2.2
  have HTX := Lib.hid (text_any lab1 w4.drew (labOk_wf lab1_ok) ((HV.out.belowC HB4.out).belowC hbd))
  have HW4 := Lib.hid hw4
  clear hw4 hb4 hx4
  go_wp2_with fail
  rw [show w3.alloc (.cells #[.string ⟨#[108, 105]⟩, .string ⟨#[107]⟩, .int .i64 0] 33) = w4 from HW4.out.symm]
  have d0' : w4.cell? ⟨w3.heap.size, 0, none⟩ = some (.string ⟨#[108, 105]⟩) := d0
  have d1' : w4.cell? ⟨w3.heap.size, 1, none⟩ = some (.string ⟨#[107]⟩) := d1
  have d2' : w4.cell? ⟨w3.heap.size, 2, none⟩ = some (.int .i64 0) := d2
  clear d0 d1 d2
  have q3 : ∀ W : World, (Op.equalIn 10000 33 (.agg #[.string ⟨#[108, 105]⟩, .string ⟨#[]⟩, .int .i64 2]) (.agg #[.string ⟨#[108, 105]⟩, .string ⟨#[]⟩, .int .i64 2])).run Tryd.prog W = .ok true W := fun W => (eqL lab3 lab3 W).trans (by rw [decide_eq_true rfl])
  have q1 : ∀ W : World, (Op.equalIn 10000 33 (.agg #[.string ⟨#[108, 105]⟩, .string ⟨#[107]⟩, .int .i64 0]) (.agg #[.string ⟨#[108, 105]⟩, .string ⟨#[107]⟩, .int .i64 0])).run Tryd.prog W = .ok true W := fun W => (eqL lab1 lab1 W).trans (by rw [decide_eq_true rfl])
  simp only [Nat.reduceMul, Nat.add_assoc, Nat.reduceAdd] at a0 a1 a2 e0 e1 e2
  have HKEEP := Lib.hid (show ∀ w5, Below w4.drew.heap.size w4.drew w5 → w5.cell? ⟨b, off + 3, none⟩ = some (.string ⟨#[108, 105]⟩) ∧ w5.cell? ⟨b, off + 4, none⟩ = some (.string ⟨#[107]⟩) ∧ w5.cell? ⟨b, off + 5, none⟩ = some (.int .i64 0) ∧ w5.cell? ⟨b, off + 9, none⟩ = some (.string ⟨#[108, 105]⟩) ∧ w5.cell? ⟨b, off + 10, none⟩ = some (.string ⟨#[]⟩) ∧ w5.cell? ⟨b, off + 11, none⟩ = some (.int .i64 2) ∧ w5.cell? ⟨w3.heap.size, 0, none⟩ = some (.string ⟨#[108, 105]⟩) ∧ w5.cell? ⟨w3.heap.size, 1, none⟩ = some (.string ⟨#[107]⟩) ∧ w5.cell? ⟨w3.heap.size, 2, none⟩ = some (.int .i64 0) from fun w5 hb5 => ⟨(hb5.cell (p := ⟨b, off + 3, none⟩) HBL4.out).trans a0, (hb5.cell (p := ⟨b, off + 4, none⟩) HBL4.out).trans a1, (hb5.cell (p := ⟨b, off + 5, none⟩) HBL4.out).trans a2, (hb5.cell (p := ⟨b, off + 9, none⟩) HBL4.out).trans e0, (hb5.cell (p := ⟨b, off + 10, none⟩) HBL4.out).trans e1, (hb5.cell (p := ⟨b, off + 11, none⟩) HBL4.out).trans e2, (hb5.cell (p := ⟨w3.heap.size, 0, none⟩) HX4.out.lt).trans d0', (hb5.cell (p := ⟨w3.heap.size, 1, none⟩) HX4.out.lt).trans d1', (hb5.cell (p := ⟨w3.heap.size, 2, none⟩) HX4.out.lt).trans d2'⟩)
  go_region_held3 (fun W => W.cell? ⟨b, off + 3, none⟩ = some (.string ⟨#[108, 105]⟩) ∧ W.cell? ⟨b, off + 4, none⟩ = some (.string ⟨#[107]⟩) ∧ W.cell? ⟨b, off + 5, none⟩ = some (.int .i64 0) ∧ W.cell? ⟨b, off + 9, none⟩ = some (.string ⟨#[108, 105]⟩) ∧ W.cell? ⟨b, off + 10, none⟩ = some (.string ⟨#[]⟩) ∧ W.cell? ⟨b, off + 11, none⟩ = some (.int .i64 2) ∧ W.cell? ⟨w3.heap.size, 0, none⟩ = some (.string ⟨#[108, 105]⟩) ∧ W.cell? ⟨w3.heap.size, 1, none⟩ = some (.string ⟨#[107]⟩) ∧ W.cell? ⟨w3.heap.size, 2, none⟩ = some (.int .i64 0))
    (first | go_keep | (go_split_ands; exact hfin))
    ((go_at_call 13; refine HTX.out.mono ?_; rintro e w5 ⟨rfl, hb5⟩; rw [lab1_text]; have hfin := HKEEP.out w5 hb5))
  have HB5 := Lib.hid (HB4.out.trans ((hbd.trans hb5).mono HB4.out.size))
  go_wp2_with fail
  go_ret
  exact ⟨rfl, HB5.out⟩
end Go.Proofs.YtlebcebihieiiaaDoor
