/-
  tendrillaw11.same: true.
-/
import Derived.Test.YtlebcebihieiiaaRight
namespace Go.Proofs.Ytlebcebihieiiaa
open Go.RowKit Go.Sort
set_option linter.unusedVariables false
def leafNV : NV := ⟨none, 0, none, 0⟩
theorem leaf_tree (w : World) (B : Nat) (a b c : ByteArray) : TreeAt w B (.mk a b c [] []) leafNV := .mk (fun _ => leafNV) (TRow.nil _ _ _) (Nat.le_refl _) (by simp [leafNV, maxLen]) (fun _ => rfl) (Nat.le_refl _) (by simp [leafNV, maxLen]) (fun _ => rfl) (fun h => by simp [Tr.kids] at h) (fun j h => by simp [Tr.kids] at h)
theorem two_tree {w : World} {B b0 : Nat} {a b c a1 b1 c1 a2 b2 c2 : ByteArray} (hb : b0 < B) (h1 : KidCells w b0 0 (.mk a1 b1 c1 [] []) leafNV) (h2 : KidCells w b0 5 (.mk a2 b2 c2 [] []) leafNV) :
    TreeAt w B (.mk a b c [] [.mk a1 b1 c1 [] [], .mk a2 b2 c2 [] []]) ⟨none, 0, some ⟨b0, 0, none⟩, 2⟩ := by
  refine .mk (fun _ => leafNV) (TRow.nil _ _ _) (Nat.le_refl _) (by simp [maxLen]) (fun _ => rfl) (Nat.le_refl _) (by simp [maxLen]) (fun h => by cases h) (fun _ => ⟨b0, 0, rfl, hb, fun j hj => ?_⟩) (fun j hj => ?_)
  · match j, hj with
    | 0, _ => exact h1
    | 1, _ => exact h2
  · match j, hj with
    | 0, _ => exact leaf_tree _ _ _ _ _
    | 1, _ => exact leaf_tree _ _ _ _ _
theorem short_nil : Short [] := fun x hx => by simp at hx
theorem good_leaf (a b c : ByteArray) (ha : a.size ≤ 1000) (hb : b.size ≤ 1000) (hc : c.size ≤ 1000) : GoodT (.mk a b c [] []) := .mk (by simp only [Tr.tag]; unfold maxLen; omega) (by simp only [Tr.key]; omega) (by simp only [Tr.text]; omega) (by simp [Tr.as]) short_nil (by simp [Tr.kids]) (fun k hk => by simp [Tr.kids] at hk)
theorem good_two (a b c : ByteArray) (k1 k2 : Tr) (ha : a.size ≤ 1000) (hb : b.size ≤ 1000) (hc : c.size ≤ 1000) (h1 : GoodT k1) (h2 : GoodT k2) : GoodT (.mk a b c [] [k1, k2]) := .mk (by simp only [Tr.tag]; unfold maxLen; omega) (by simp only [Tr.key]; omega) (by simp only [Tr.text]; omega) (by simp [Tr.as]) short_nil (by simp [Tr.kids]) (fun k hk => by simp [Tr.kids] at hk; rcases hk with rfl | rfl <;> assumption)
theorem attE_nil : attE [] = 0 := (attE_of (a := 0) (e := 0) (.inr ⟨rfl, rfl, fun j hj => by simp at hj⟩)).symm
def sP : ByteArray := ⟨#[112]⟩
def sLi : ByteArray := ⟨#[108, 105]⟩
def sK : ByteArray := ⟨#[107]⟩
theorem alone_ex (a b c : ByteArray) (ks : List Tr) (ha : wfB tagB a = true) (hb : b.size ≤ 65536) (hc : c.size ≤ 65536) : aloneT (.mk a b c [] ks) = 0 := by
  rw [alone_att (t := .mk a b c [] ks) ha hb hc]; exact attE_nil
theorem wfP : wfB tagB sP = true := by kernel_rfl
theorem wfLi : wfB tagB sLi = true := by kernel_rfl
def exLi : Tr := .mk sLi noB noB [] []
def exLk : Tr := .mk sLi sK noB [] []
def ex2 : Tr := .mk sP noB noB [] [exLi, exLi]
def ex3 : Tr := .mk sP noB noB [] [exLk, exLk]
def ex0 : Tr := .mk sP noB noB [] []
theorem al_li : aloneT exLi = 0 := alone_ex _ _ _ _ wfLi (by decide) (by decide)
theorem al_lk : aloneT exLk = 0 := alone_ex _ _ _ _ wfLi (by decide) (by decide)
theorem al_2 : aloneT ex2 = 0 := alone_ex _ _ _ _ wfP (by decide) (by decide)
theorem al_3 : aloneT ex3 = 0 := alone_ex _ _ _ _ wfP (by decide) (by decide)
theorem al_0 : aloneT ex0 = 0 := alone_ex _ _ _ _ wfP (by decide) (by decide)
theorem key_li : exLi.key = noB := rfl
theorem key_lk : exLk.key = sK := rfl
theorem sK_ne : ¬ sK = noB := by decide
theorem seen_0 : seenL aloneT ex0 = ([⟨ex0, 1, -1⟩], 0) := by
  unfold seenL
  rw [visitL_eq, if_pos (nodeF_ok (by simp) (by simp) al_0 (fun h => by simp at h))]
  simp [ex0, Tr.kids, visitK]
theorem seen_2 : seenL aloneT ex2 = ([⟨ex2, 1, -1⟩, ⟨exLi, 2, 0⟩, ⟨exLi, 2, 0⟩], 0) := by
  unfold seenL
  rw [visitL_eq, if_pos (nodeF_ok (by simp) (by simp) al_2 (fun h => by simp at h))]
  have k1 : ∀ l : List It, l.length < 10 → visitL aloneT exLi 2 0 l = (l ++ [⟨exLi, 2, 0⟩], 0) := by
    intro l hl
    rw [visitL_eq, if_pos (nodeF_ok (by omega) (by simp) al_li (fun h => h.2.1 key_li))]
    simp [exLi, Tr.kids, visitK]
  show visitK aloneT [exLi, exLi] 2 0 [⟨ex2, 1, -1⟩] = _
  rw [visitK, k1 _ (by simp), if_pos rfl, visitK, k1 _ (by simp), if_pos rfl, visitK]
  rfl
theorem seen_3 : seenL aloneT ex3 = ([⟨ex3, 1, -1⟩, ⟨exLk, 2, 0⟩], 10) := by
  unfold seenL
  rw [visitL_eq, if_pos (nodeF_ok (by simp) (by simp) al_3 (fun h => by simp at h))]
  show visitK aloneT [exLk, exLk] 2 0 [⟨ex3, 1, -1⟩] = _
  have k1 : visitL aloneT exLk 2 0 [⟨ex3, 1, -1⟩] = ([⟨ex3, 1, -1⟩, ⟨exLk, 2, 0⟩], 0) := by
    rw [visitL_eq, if_pos (nodeF_ok (by simp) (by simp) al_lk (fun h => by obtain ⟨y, hy, hu, _⟩ := h.2.2; simp at hy; subst hy; cases hu))]
    simp [exLk, Tr.kids, visitK]
  have k2 : visitL aloneT exLk 2 0 [⟨ex3, 1, -1⟩, ⟨exLk, 2, 0⟩] = ([⟨ex3, 1, -1⟩, ⟨exLk, 2, 0⟩], 10) := by
    have e : nodeF aloneT [⟨ex3, 1, -1⟩, ⟨exLk, 2, 0⟩] ⟨exLk, 2, 0⟩ = 10 := nodeF_twice (by simp) (by simp) al_lk ⟨Int.le_refl _, sK_ne, ⟨exLk, 2, 0⟩, by simp, rfl, rfl⟩
    rw [visitL_eq, e, if_neg (by decide)]
  rw [visitK, k1, if_pos rfl, visitK, k2, if_neg (by decide)]
def sameW (w : World) : World := (w.alloc (.cells #[.string ⟨#[108, 105]⟩, .string ⟨#[]⟩, .string ⟨#[]⟩, .slice none 0 0, .slice none 0 0, .string ⟨#[108, 105]⟩, .string ⟨#[]⟩, .string ⟨#[]⟩, .slice none 0 0, .slice none 0 0] 25)).alloc (.cells #[.string ⟨#[112]⟩, .string ⟨#[]⟩, .string ⟨#[]⟩, .slice none 0 0, .slice (some ⟨w.heap.size, 0, none⟩) 2 2] 25)
theorem sameW_cells (w : World) : KidCells (sameW w) w.heap.size 0 exLi leafNV ∧ KidCells (sameW w) w.heap.size 5 exLi leafNV ∧ KidCells (sameW w) (w.heap.size + 1) 0 ex2 ⟨none, 0, some ⟨w.heap.size, 0, none⟩, 2⟩ := by
  have e : ∀ j, j < 10 → (sameW w).cell? ⟨w.heap.size, j, none⟩ = (#[.string ⟨#[108, 105]⟩, .string ⟨#[]⟩, .string ⟨#[]⟩, .slice none 0 0, .slice none 0 0, .string ⟨#[108, 105]⟩, .string ⟨#[]⟩, .string ⟨#[]⟩, .slice none 0 0, .slice none 0 0] : Array Value)[j]? := fun j hj => by
    unfold sameW
    rw [World.cell?_alloc_lt _ _ _ (by simp), World.cell?_alloc_new]
  have f : ∀ j, (sameW w).cell? ⟨w.heap.size + 1, j, none⟩ = (#[.string ⟨#[112]⟩, .string ⟨#[]⟩, .string ⟨#[]⟩, .slice none 0 0, .slice (some ⟨w.heap.size, 0, none⟩) 2 2] : Array Value)[j]? := fun j => by
    unfold sameW
    simp
  exact ⟨⟨e 0 (by omega), e 1 (by omega), e 2 (by omega), e 3 (by omega), e 4 (by omega)⟩, ⟨e 5 (by omega), e 6 (by omega), e 7 (by omega), e 8 (by omega), e 9 (by omega)⟩, ⟨f 0, f 1, f 2, f 3, f 4⟩⟩
theorem sameW_frozen (w : World) (j : Nat) : (sameW w).frozen? ⟨w.heap.size, j, none⟩ = false := by
  unfold sameW
  rw [frozen?_alloc_cells, World.frozen?_alloc_new]
abbrev keyW (w : World) (b : Nat) : World := (w.setCell ⟨b, 1, none⟩ (.string ⟨#[107]⟩)).setCell ⟨b, 6, none⟩ (.string ⟨#[107]⟩)
theorem keyW_cells {w : World} {b : Nat} (h1 : KidCells w b 0 exLi leafNV) (h2 : KidCells w b 5 exLi leafNV) : KidCells (keyW w b) b 0 exLk leafNV ∧ KidCells (keyW w b) b 5 exLk leafNV := by
  have o : ∀ (j : Nat) (v : Value), j ≠ 1 → j ≠ 6 → w.cell? ⟨b, j, none⟩ = some v → (keyW w b).cell? ⟨b, j, none⟩ = some v := fun j v n1 n2 h => by
    unfold keyW
    rw [World.cell?_setCell_other _ _ _ _ (by intro e; injection e with _ e; exact n2 e.symm), World.cell?_setCell_other _ _ _ _ (by intro e; injection e with _ e; exact n1 e.symm)]
    exact h
  have k1 : (keyW w b).cell? ⟨b, 1, none⟩ = some (.string sK) := by
    unfold keyW
    rw [World.cell?_setCell_other _ _ _ _ (by intro e; injection e with _ e; cases e)]
    exact World.cell?_setCell_same _ _ _ h1.c1
  have k6 : (keyW w b).cell? ⟨b, 6, none⟩ = some (.string sK) := by
    unfold keyW
    have : (w.setCell ⟨b, 1, none⟩ (.string ⟨#[107]⟩)).cell? ⟨b, 6, none⟩ = some (.string exLi.key) := by
      rw [World.cell?_setCell_other _ _ _ _ (by intro e; injection e with _ e; cases e)]
      exact h2.c1
    exact World.cell?_setCell_same _ _ _ this
  exact ⟨⟨o 0 _ (by omega) (by omega) h1.c0, k1, o 2 _ (by omega) (by omega) h1.c2, o 3 _ (by omega) (by omega) h1.c3, o 4 _ (by omega) (by omega) h1.c4⟩, ⟨o 5 _ (by omega) (by omega) h2.c0, k6, o 7 _ (by omega) (by omega) h2.c2, o 8 _ (by omega) (by omega) h2.c3, o 9 _ (by omega) (by omega) h2.c4⟩⟩
theorem good_2 : GoodT ex2 := good_two _ _ _ _ _ (by decide) (by decide) (by decide) (good_leaf _ _ _ (by decide) (by decide) (by decide)) (good_leaf _ _ _ (by decide) (by decide) (by decide))
theorem good_3 : GoodT ex3 := good_two _ _ _ _ _ (by decide) (by decide) (by decide) (good_leaf _ _ _ (by decide) (by decide) (by decide)) (good_leaf _ _ _ (by decide) (by decide) (by decide))
theorem good_0 : GoodT ex0 := good_leaf _ _ _ (by decide) (by decide) (by decide)
theorem sameW_out {w w1 : World} (h : RowKit.Hid (w1 = sameW w)) : (w.alloc (.cells #[.string ⟨#[108, 105]⟩, .string ⟨#[]⟩, .string ⟨#[]⟩, .slice none 0 0, .slice none 0 0, .string ⟨#[108, 105]⟩, .string ⟨#[]⟩, .string ⟨#[]⟩, .slice none 0 0, .slice none 0 0] 25)).alloc (.cells #[.string ⟨#[112]⟩, .string ⟨#[]⟩, .string ⟨#[]⟩, .slice none 0 0, .slice (some ⟨w.heap.size, 0, none⟩) 2 2] 25) = w1 := h.out.symm
theorem keyW_out {w w1 : World} {b : Nat} (h : RowKit.Hid (w1 = keyW w b)) : (w.setCell ⟨b, 1, none⟩ (.string ⟨#[107]⟩)).setCell ⟨b, 6, none⟩ (.string ⟨#[107]⟩) = w1 := h.out.symm
set_option maxHeartbeats 4000000 in
theorem same11_any (w : World) : Calls Try.prog 7 #[] w fun e w' => e = .returned (.bool true) ∧ Below w.heap.size w w' := by
  obtain ⟨w1, hw1⟩ : ∃ w1, w1 = sameW w := ⟨_, rfl⟩
  have hb1 : Below w.heap.size w w1 := by
    rw [hw1]; unfold sameW
    exact ((Below.refl _ _).alloc (Nat.le_refl _) _).alloc (by simp) _
  obtain ⟨hk1, hk2, hbx⟩ := sameW_cells w
  have hfz := sameW_frozen w
  rw [← hw1] at hk1 hk2 hbx hfz
  have hlt1 : w.heap.size + 1 < w1.heap.size := hbx.block_lt
  have C1 := Lib.hid (vsize_any ex2 ⟨none, 0, some ⟨w.heap.size, 0, none⟩, 2⟩ w1 (two_tree (by omega) hk1 hk2) good_2)
  rw [seen_2] at C1
  have HW := Lib.hid hw1; have HB1 := Lib.hid hb1; have HK1 := Lib.hid hk1; have HK2 := Lib.hid hk2; have HBX := Lib.hid hbx; have HFZ := Lib.hid hfz
  clear hw1 hb1 hk1 hk2 hbx hfz
  go_enter Try.func7, Try.ntmps7
  go_wp2_with fail
  rw [sameW_out HW]
  refine C1.out.mono ?_
  rintro e w2 ⟨rfl, hb2⟩
  have hk21 := HK1.out.below hb2 (by omega)
  have hk22 := HK2.out.below hb2 (by omega)
  obtain ⟨c0, c1, c2, c3, c4⟩ := HBX.out.below hb2 hlt1
  have z1 : w2.frozen? ⟨w.heap.size, 1, none⟩ = false := ((kept_below hb2 (fun _ => False)).frozen (a := ⟨w.heap.size, 1, none⟩) (by show w.heap.size < _; omega) (fun h => h)).trans (HFZ.out 1)
  have z6 : w2.frozen? ⟨w.heap.size, 6, none⟩ = false := ((kept_below hb2 (fun _ => False)).frozen (a := ⟨w.heap.size, 6, none⟩) (by show w.heap.size < _; omega) (fun h => h)).trans (HFZ.out 6)
  have x1 := hk21.c1
  have x6 := hk22.c1
  obtain ⟨w3, hw3⟩ : ∃ w3, w3 = keyW w2 w.heap.size := ⟨_, rfl⟩
  obtain ⟨hk31, hk32⟩ := keyW_cells hk21 hk22
  rw [← hw3] at hk31 hk32
  have hkp : Kept (· = w.heap.size) w2 w3 := by rw [hw3]; exact (kept_setCell _ ⟨w.heap.size, 1, none⟩ _).trans (kept_setCell _ ⟨w.heap.size, 6, none⟩ _)
  have hlt2 : w.heap.size + 1 < w2.heap.size := Nat.lt_of_lt_of_le hlt1 hb2.size
  have hlt3 : w.heap.size + 1 < w3.heap.size := Nat.lt_of_lt_of_le hlt2 hkp.size
  have HB2 := Lib.hid (HB1.out.trans (hb2.mono HB1.out.size))
  have HB3 := Lib.hid (HB2.out.trans (hkp.below HB2.out.size (fun k h => by omega)))
  have C3 := Lib.hid (vcheck_any ex3 ⟨none, 0, some ⟨w.heap.size, 0, none⟩, 2⟩ w3 (two_tree (by omega) hk31 hk32) good_3)
  rw [seen_3] at C3
  have HW3 := Lib.hid hw3; have HK31 := Lib.hid hk31; have HK32 := Lib.hid hk32
  have HBX3 := Lib.hid (show KidCells w3 (w.heap.size + 1) 0 ex2 ⟨none, 0, some ⟨w.heap.size, 0, none⟩, 2⟩ from KidCells.kept ⟨c0, c1, c2, c3, c4⟩ hkp (by omega))
  clear hb2 hk21 hk22 hw3 hk31 hk32 hkp C1
  go_wp2_with fail
  rw [keyW_out HW3]
  refine C3.out.mono ?_
  rintro e w4 ⟨rfl, hb4⟩
  have HB4 := Lib.hid (HB3.out.trans (hb4.mono HB3.out.size))
  obtain ⟨e0, e1, e2, e3, e4⟩ := HBX3.out.below hb4 hlt3
  have C4 := Lib.hid (vdepth_any ex3 ⟨none, 0, some ⟨w.heap.size, 0, none⟩, 2⟩ w4 (two_tree (Nat.lt_of_lt_of_le (by omega) hb4.size) (HK31.out.below hb4 (by omega)) (HK32.out.below hb4 (by omega))) good_3)
  rw [seen_3] at C4
  clear hb4 c0 c1 c2 c3 c4 z1 z6 x1 x6 C3
  go_wp2_with fail
  refine C4.out.mono ?_
  rintro e w5 ⟨rfl, hb5⟩
  have HB5 := Lib.hid (HB4.out.trans (hb5.mono HB4.out.size))
  have C5 := Lib.hid (vdepth_any ex0 leafNV w5 (leaf_tree _ _ _ _ _) good_0)
  rw [seen_0] at C5
  clear hb5 e0 e1 e2 e3 e4 C4
  go_wp2_with fail
  refine C5.out.mono ?_
  rintro e w6 ⟨rfl, hb6⟩
  have HB6 := Lib.hid (HB5.out.trans (hb6.mono HB5.out.size))
  clear hb6 C5
  go_wp2_with fail
  go_ret
  exact ⟨rfl, HB6.out⟩
end Go.Proofs.Ytlebcebihieiiaa
