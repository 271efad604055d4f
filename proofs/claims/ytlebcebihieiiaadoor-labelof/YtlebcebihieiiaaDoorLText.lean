/-
  label.Text and the reference's: a label as a text.
-/
import Derived.Test.YtlebcebihieiiaaDoorERef
import Derived.Test.YtlebcebihieiiaaDoorEEscape
import Derived.Test.YtlebcebihieiiaaDoorCDecWalk
import Derived.Test.YtlebcebihieiiaaDoorKinds
import Derived.Deep.RegionHeld3
namespace Go.Proofs.YtlebcebihieiiaaDoor
open Go.RowKit Go.Sort
set_option linter.unusedVariables false
structure Lab where
  tag : ByteArray
  key : ByteArray
  n : Int
  deriving DecidableEq
abbrev labV (x : Lab) : Value := .agg #[.string x.tag, .string x.key, .int .i64 x.n]
def noS : ByteArray := ⟨#[]⟩
theorem isEmpty_noS {k : ByteArray} : k.toList.isEmpty = true ↔ k = noS := by
  rw [Lib.toList_data]
  obtain ⟨⟨l⟩⟩ := k
  cases l <;> simp [noS]
def keyT (x : Lab) : ByteArray := x.tag ++ ⟨#[35]⟩ ++ E.str (E.escL x.key.data.toList)
def numT (x : Lab) : ByteArray := x.tag ++ ⟨#[58]⟩ ++ C.str (Lib.itoa x.n)
open Classical in
noncomputable def textS (x : Lab) : ByteArray := if x.key = noS then numT x else keyT x
def LWf (x : Lab) : Prop := x.tag.size ≤ 100000 ∧ x.key.size ≤ 100000 ∧ C.I64 x.n
def TextPost (w : World) (x : Lab) (e : Ending) (w' : World) : Prop := e = .returned (.string (textS x)) ∧ Below w.heap.size w w'
abbrev lboxW (w : World) (x : Lab) : World := w.alloc (.cells #[.string x.tag, .string x.key, .int .i64 x.n] 33)
theorem lbox_out {w w1 : World} {x : Lab} (h : RowKit.Hid (w1 = lboxW w x)) : w.alloc (.cells #[.string x.tag, .string x.key, .int .i64 x.n] 33) = w1 := h.out.symm
theorem lbox_cells (w : World) (x : Lab) : (lboxW w x).cell? ⟨w.heap.size, 0, none⟩ = some (.string x.tag) ∧ (lboxW w x).cell? ⟨w.heap.size, 1, none⟩ = some (.string x.key) ∧ (lboxW w x).cell? ⟨w.heap.size, 2, none⟩ = some (.int .i64 x.n) := by
  have e : ∀ j, (lboxW w x).cell? ⟨w.heap.size, j, none⟩ = (#[.string x.tag, .string x.key, .int .i64 x.n] : Array Value)[j]? := fun j => cell_of_row _ _ _ _ _ (0, 0) (heap_alloc_new w _)
  exact ⟨by rw [e]; rfl, by rw [e]; rfl, by rw [e]; rfl⟩
theorem below_lbox (w : World) (x : Lab) : Below w.heap.size w (lboxW w x) := (Below.refl _ _).alloc (Nat.le_refl _) _
theorem itoa_small (n : Int) (h : C.I64 n) : (C.str (Lib.itoa n)).size ≤ 100 := by
  have := (C.isNum_facts (l := Lib.itoa n) (v := n) ⟨h, rfl⟩).2.2.2.2.2.1
  have e : (C.str (Lib.itoa n)).size = (Lib.itoa n).length := by exact List.size_toArray
  omega
theorem esc_small (k : ByteArray) (h : k.size ≤ 100000) : (E.str (E.escL k.data.toList)).size ≤ 600000 := by
  have := E.escL_length k.data.toList
  have e : (E.str (E.escL k.data.toList)).size = (E.escL k.data.toList).length := by exact List.size_toArray
  have e2 : k.data.toList.length = k.size := Array.length_toList
  omega
set_option maxRecDepth 100000 in
set_option maxHeartbeats 2000000 in
theorem text_any (x : Lab) (w : World) (hx : LWf x) (hv : Vars w) : Calls Tryd.prog 13 #[labV x] w (TextPost w x) := by
  obtain ⟨h1, h2, h3⟩ := hx
  obtain ⟨w1, hw1⟩ : ∃ w1, w1 = lboxW w x := ⟨_, rfl⟩
  have hb1 : Below w.heap.size w w1 := by rw [hw1]; exact below_lbox w x
  obtain ⟨c0, c1, c2⟩ := lbox_cells w x
  rw [← hw1] at c0 c1 c2
  have hlt1 : w.heap.size < w1.heap.size := World.block_lt_of_cell? w1 _ c0
  have hv1 := hv.belowC hb1
  have hbd : Below w1.heap.size w1 w1.drew := ⟨rfl, rfl, rfl, Nat.le_refl _, fun _ _ => rfl⟩
  have HW := Lib.hid hw1; have HB1 := Lib.hid hb1; have HV1 := Lib.hid (hv1.belowC hbd)
  clear hw1 hb1 hv hv1
  by_cases hk : x.key = noS
  · have hk' : x.key.toList.isEmpty = true := isEmpty_noS.2 hk
    have HT := Lib.hid (show textS x = numT x by simp [textS, hk])
    have HC := Lib.hid (C.decimal_any x.n w1.drew h3 HV1.out)
    have hsz := itoa_small x.n h3
    have hz1 : (x.tag ++ (⟨#[58]⟩ : ByteArray)).size ≤ 100001 := by rw [ByteArray.size_append]; exact Nat.add_le_add h1 (Nat.le_refl 1)
    have ha1 : ∀ W : World, (Op.stringOp .add x.tag ⟨#[58]⟩).run Tryd.prog W = .ok (.string (x.tag ++ ⟨#[58]⟩)) W := fun W => run_string_add_sum W _ _ (by have : (⟨#[58]⟩ : ByteArray).size = 1 := rfl; omega)
    have ha2 : ∀ W : World, (Op.stringOp .add (x.tag ++ ⟨#[58]⟩) (C.str (Lib.itoa x.n))).run Tryd.prog W = .ok (.string (x.tag ++ ⟨#[58]⟩ ++ C.str (Lib.itoa x.n))) W := fun W => run_string_add_sum W _ _ (by omega)
    clear hk h3 hsz hz1
    go_enter Tryd.func13, Tryd.ntmps13
    go_wp2_with fail
    rw [lbox_out HW]
    go_region_held3 (fun W => W.cell? ⟨w.heap.size, 0, none⟩ = some (.string x.tag) ∧ W.cell? ⟨w.heap.size, 2, none⟩ = some (.int .i64 x.n))
      (first | go_keep | (go_split_ands; exact ⟨(hb3.cell (p := ⟨w.heap.size, 0, none⟩) hlt1).trans c0, (hb3.cell (p := ⟨w.heap.size, 2, none⟩) hlt1).trans c2⟩))
      ((go_at_call 28; refine HC.out.mono ?_; rintro e w3 ⟨rfl, hb3⟩))
    have HB3 := Lib.hid (HB1.out.trans ((hbd.trans hb3).mono HB1.out.size))
    go_wp2_with fail
    go_ret
    exact ⟨by rw [HT.out]; rfl, HB3.out⟩
  · have hk' : x.key.toList.isEmpty = false := by
      cases hb : x.key.toList.isEmpty with
      | true => exact absurd (isEmpty_noS.1 hb) hk
      | false => rfl
    have HT := Lib.hid (show textS x = keyT x by simp [textS, hk])
    have HC := Lib.hid (E.escape_any x.key w1.drew (by omega) HV1.out)
    have hsz := esc_small x.key h2
    have hz1 : (x.tag ++ (⟨#[35]⟩ : ByteArray)).size ≤ 100001 := by rw [ByteArray.size_append]; exact Nat.add_le_add h1 (Nat.le_refl 1)
    have ha1 : ∀ W : World, (Op.stringOp .add x.tag ⟨#[35]⟩).run Tryd.prog W = .ok (.string (x.tag ++ ⟨#[35]⟩)) W := fun W => run_string_add_sum W _ _ (by have : (⟨#[35]⟩ : ByteArray).size = 1 := rfl; omega)
    have ha2 : ∀ W : World, (Op.stringOp .add (x.tag ++ ⟨#[35]⟩) (E.str (E.escL x.key.data.toList))).run Tryd.prog W = .ok (.string (x.tag ++ ⟨#[35]⟩ ++ E.str (E.escL x.key.data.toList))) W := fun W => run_string_add_sum W _ _ (by omega)
    clear hk h3 hsz hz1
    go_enter Tryd.func13, Tryd.ntmps13
    go_wp2_with fail
    rw [lbox_out HW]
    go_region_held3 (fun W => W.cell? ⟨w.heap.size, 0, none⟩ = some (.string x.tag) ∧ W.cell? ⟨w.heap.size, 1, none⟩ = some (.string x.key))
      (first | go_keep | (go_split_ands; exact ⟨(hb3.cell (p := ⟨w.heap.size, 0, none⟩) hlt1).trans c0, (hb3.cell (p := ⟨w.heap.size, 1, none⟩) hlt1).trans c1⟩))
      ((go_at_call 27; refine HC.out.mono ?_; rintro e w3 ⟨rfl, hb3⟩))
    have HB3 := Lib.hid (HB1.out.trans ((hbd.trans hb3).mono HB1.out.size))
    go_wp2_with fail
    go_ret
    exact ⟨by rw [HT.out]; rfl, HB3.out⟩
set_option maxRecDepth 100000 in
set_option maxHeartbeats 2000000 in
theorem refText_any (x : Lab) (w : World) (hx : LWf x) : Calls Tryd.prog 20 #[labV x] w (TextPost w x) := by
  obtain ⟨h1, h2, h3⟩ := hx
  obtain ⟨w1, hw1⟩ : ∃ w1, w1 = lboxW w x := ⟨_, rfl⟩
  have hb1 : Below w.heap.size w w1 := by rw [hw1]; exact below_lbox w x
  obtain ⟨c0, c1, c2⟩ := lbox_cells w x
  rw [← hw1] at c0 c1 c2
  have hlt1 : w.heap.size < w1.heap.size := World.block_lt_of_cell? w1 _ c0
  have hbd : Below w1.heap.size w1 w1.drew := ⟨rfl, rfl, rfl, Nat.le_refl _, fun _ _ => rfl⟩
  have HW := Lib.hid hw1; have HB1 := Lib.hid hb1
  clear hw1 hb1
  by_cases hk : x.key = noS
  · have hk' : x.key.toList.isEmpty = true := isEmpty_noS.2 hk
    have HT := Lib.hid (show textS x = numT x by simp [textS, hk])
    have HC := Lib.hid (C.refDecimal_any x.n w1.drew h3)
    have hsz := itoa_small x.n h3
    have hz1 : (x.tag ++ (⟨#[58]⟩ : ByteArray)).size ≤ 100001 := by rw [ByteArray.size_append]; exact Nat.add_le_add h1 (Nat.le_refl 1)
    have ha1 : ∀ W : World, (Op.stringOp .add x.tag ⟨#[58]⟩).run Tryd.prog W = .ok (.string (x.tag ++ ⟨#[58]⟩)) W := fun W => run_string_add_sum W _ _ (by have : (⟨#[58]⟩ : ByteArray).size = 1 := rfl; omega)
    have ha2 : ∀ W : World, (Op.stringOp .add (x.tag ++ ⟨#[58]⟩) (C.str (Lib.itoa x.n))).run Tryd.prog W = .ok (.string (x.tag ++ ⟨#[58]⟩ ++ C.str (Lib.itoa x.n))) W := fun W => run_string_add_sum W _ _ (by omega)
    clear hk h3 hsz hz1
    go_enter Tryd.func20, Tryd.ntmps20
    go_wp2_with fail
    rw [lbox_out HW]
    go_region_held3 (fun W => W.cell? ⟨w.heap.size, 0, none⟩ = some (.string x.tag) ∧ W.cell? ⟨w.heap.size, 2, none⟩ = some (.int .i64 x.n))
      (first | go_keep | (go_split_ands; exact ⟨(hb3.cell (p := ⟨w.heap.size, 0, none⟩) hlt1).trans c0, (hb3.cell (p := ⟨w.heap.size, 2, none⟩) hlt1).trans c2⟩))
      ((go_at_call 33; refine HC.out.mono ?_; rintro e w3 ⟨rfl, hb3⟩))
    have HB3 := Lib.hid (HB1.out.trans ((hbd.trans hb3).mono HB1.out.size))
    go_wp2_with fail
    go_ret
    exact ⟨by rw [HT.out]; rfl, HB3.out⟩
  · have hk' : x.key.toList.isEmpty = false := by
      cases hb : x.key.toList.isEmpty with
      | true => exact absurd (isEmpty_noS.1 hb) hk
      | false => rfl
    have HT := Lib.hid (show textS x = keyT x by simp [textS, hk])
    have HC := Lib.hid (E.refEscape_any x.key w1.drew (by omega))
    have hsz := esc_small x.key h2
    have hz1 : (x.tag ++ (⟨#[35]⟩ : ByteArray)).size ≤ 100001 := by rw [ByteArray.size_append]; exact Nat.add_le_add h1 (Nat.le_refl 1)
    have ha1 : ∀ W : World, (Op.stringOp .add x.tag ⟨#[35]⟩).run Tryd.prog W = .ok (.string (x.tag ++ ⟨#[35]⟩)) W := fun W => run_string_add_sum W _ _ (by have : (⟨#[35]⟩ : ByteArray).size = 1 := rfl; omega)
    have ha2 : ∀ W : World, (Op.stringOp .add (x.tag ++ ⟨#[35]⟩) (E.str (E.escL x.key.data.toList))).run Tryd.prog W = .ok (.string (x.tag ++ ⟨#[35]⟩ ++ E.str (E.escL x.key.data.toList))) W := fun W => run_string_add_sum W _ _ (by omega)
    clear hk h3 hsz hz1
    go_enter Tryd.func20, Tryd.ntmps20
    go_wp2_with fail
    rw [lbox_out HW]
    go_region_held3 (fun W => W.cell? ⟨w.heap.size, 0, none⟩ = some (.string x.tag) ∧ W.cell? ⟨w.heap.size, 1, none⟩ = some (.string x.key))
      (first | go_keep | (go_split_ands; exact ⟨(hb3.cell (p := ⟨w.heap.size, 0, none⟩) hlt1).trans c0, (hb3.cell (p := ⟨w.heap.size, 1, none⟩) hlt1).trans c1⟩))
      ((go_at_call 32; refine HC.out.mono ?_; rintro e w3 ⟨rfl, hb3⟩))
    have HB3 := Lib.hid (HB1.out.trans ((hbd.trans hb3).mono HB1.out.size))
    go_wp2_with fail
    go_ret
    exact ⟨by rw [HT.out]; rfl, HB3.out⟩
end Go.Proofs.YtlebcebihieiiaaDoor
