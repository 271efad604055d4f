/-
  A node in a box of its own, block and all; the three boxes of a copy.
-/
import Derived.Test.YtlkdklpglmglkaaTIn
namespace Go.Proofs.Ytlkdklpglmglkaa
open Go.RowKit Go.Sort Go.Lib
set_option linter.unusedVariables false
set_option maxRecDepth 100000
def NewIn (w w' : World) : Nat → Prop := fun b => w.heap.size ≤ b ∧ b < w'.heap.size
def BoxN (W : World) (b : Nat) (v0 v1 v2 v3 v4 : Value) : Prop := W.heap[b]? = some (.cells #[v0, v1, v2, v3, v4] 25 (0, 0))
theorem BoxN.lt {W : World} {b : Nat} {v0 v1 v2 v3 v4 : Value} (h : BoxN W b v0 v1 v2 v3 v4) : b < W.heap.size := (Array.getElem?_eq_some_iff.1 h).1
theorem BoxN.cells {W : World} {b : Nat} {v0 v1 v2 v3 v4 : Value} (h : BoxN W b v0 v1 v2 v3 v4) : W.cell? ⟨b, 0, none⟩ = some v0 ∧ W.cell? ⟨b, 1, none⟩ = some v1 ∧ W.cell? ⟨b, 2, none⟩ = some v2 ∧ W.cell? ⟨b, 3, none⟩ = some v3 ∧ W.cell? ⟨b, 4, none⟩ = some v4 := by
  have e : ∀ j, W.cell? ⟨b, j, none⟩ = (#[v0, v1, v2, v3, v4] : Array Value)[j]? := fun j => cell_of_row _ _ _ _ _ (0, 0) h
  exact ⟨by rw [e]; rfl, by rw [e]; rfl, by rw [e]; rfl, by rw [e]; rfl, by rw [e]; rfl⟩
theorem BoxN.frozen {W : World} {b : Nat} {v0 v1 v2 v3 v4 : Value} (h : BoxN W b v0 v1 v2 v3 v4) (j : Nat) : W.frozen? ⟨b, j, none⟩ = false := by
  simp [World.frozen?, show W.heap[b]? = _ from h]
theorem BoxN.kept {W W' : World} {b : Nat} {v0 v1 v2 v3 v4 : Value} (h : BoxN W b v0 v1 v2 v3 v4) {S : Nat → Prop} (hk : Kept S W W') (hs : ¬ S b) : BoxN W' b v0 v1 v2 v3 v4 := (hk.block b h.lt hs).trans h
theorem BoxN.new (W : World) (v0 v1 v2 v3 v4 : Value) (b : Nat) (hb : b = W.heap.size) : BoxN (W.alloc (.cells #[v0, v1, v2, v3, v4] 25)) b v0 v1 v2 v3 v4 := by subst hb; exact heap_alloc_new W _
theorem BoxN.set3 {W : World} {b : Nat} {v0 v1 v2 v3 v4 : Value} (h : BoxN W b v0 v1 v2 v3 v4) (u : Value) : BoxN (W.setCell ⟨b, 3, none⟩ u) b v0 v1 v2 u v4 := by
  have hh : W.heap[b]? = _ := h
  unfold BoxN
  simp only [World.setCell, Array.getElem?_modify, if_true, hh, Option.map_some]
  rfl
theorem BoxN.set4 {W : World} {b : Nat} {v0 v1 v2 v3 v4 : Value} (h : BoxN W b v0 v1 v2 v3 v4) (u : Value) : BoxN (W.setCell ⟨b, 4, none⟩ u) b v0 v1 v2 v3 u := by
  have hh : W.heap[b]? = _ := h
  unfold BoxN
  simp only [World.setCell, Array.getElem?_modify, if_true, hh, Option.map_some]
  rfl
def putN (W : World) (b : Nat) (v0 v1 v2 v3 v4 : Value) : World := ((((W.setCell ⟨b, 0, none⟩ v0).setCell ⟨b, 1, none⟩ v1).setCell ⟨b, 2, none⟩ v2).setCell ⟨b, 3, none⟩ v3).setCell ⟨b, 4, none⟩ v4
theorem BoxN.put {W : World} {b : Nat} {u0 u1 u2 u3 u4 : Value} (h : BoxN W b u0 u1 u2 u3 u4) (v0 v1 v2 v3 v4 : Value) : BoxN (putN W b v0 v1 v2 v3 v4) b v0 v1 v2 v3 v4 := by
  have hh : W.heap[b]? = _ := h
  unfold BoxN putN
  simp only [World.setCell, Array.getElem?_modify, if_true, hh, Option.map_some]
  rfl
theorem kept_putN (W : World) (b : Nat) (v0 v1 v2 v3 v4 : Value) : Kept (· = b) W (putN W b v0 v1 v2 v3 v4) := by
  unfold putN
  exact ((((kept_setCell W ⟨b, 0, none⟩ v0).trans (kept_setCell _ ⟨b, 1, none⟩ v1)).trans (kept_setCell _ ⟨b, 2, none⟩ v2)).trans (kept_setCell _ ⟨b, 3, none⟩ v3)).trans (kept_setCell _ ⟨b, 4, none⟩ v4)
def triW (w : World) (t : Tr) (x : NV) : World := ((w.alloc (.cells #[.string t.tag, .string t.key, .string t.text, .slice x.A t.as.length x.ca, .slice x.K t.kids.length x.ck] 25)).alloc (.cells #[.string ⟨#[]⟩, .string ⟨#[]⟩, .string ⟨#[]⟩, .slice none 0 0, .slice none 0 0] 25)).alloc (.cells #[.string t.tag, .string t.key, .string t.text, .slice x.A t.as.length x.ca, .slice x.K t.kids.length x.ck] 25)
theorem tri_out {w w1 : World} {t : Tr} {x : NV} (h : RowKit.Hid (w1 = triW w t x)) : ((w.alloc (.cells #[.string t.tag, .string t.key, .string t.text, .slice x.A t.as.length x.ca, .slice x.K t.kids.length x.ck] 25)).alloc (.cells #[.string ⟨#[]⟩, .string ⟨#[]⟩, .string ⟨#[]⟩, .slice none 0 0, .slice none 0 0] 25)).alloc (.cells #[.string t.tag, .string t.key, .string t.text, .slice x.A t.as.length x.ca, .slice x.K t.kids.length x.ck] 25) = w1 := h.out.symm
theorem triW_boxes (w : World) (t : Tr) (x : NV) : BoxN (triW w t x) w.heap.size (.string t.tag) (.string t.key) (.string t.text) (.slice x.A t.as.length x.ca) (.slice x.K t.kids.length x.ck) ∧ BoxN (triW w t x) (w.heap.size + 1) (.string ⟨#[]⟩) (.string ⟨#[]⟩) (.string ⟨#[]⟩) (.slice none 0 0) (.slice none 0 0) ∧ BoxN (triW w t x) (w.heap.size + 1 + 1) (.string t.tag) (.string t.key) (.string t.text) (.slice x.A t.as.length x.ca) (.slice x.K t.kids.length x.ck) ∧ (triW w t x).heap.size = w.heap.size + 1 + 1 + 1 := by
  unfold triW
  have nf : ¬ (False : Prop) := fun h => h
  exact ⟨((BoxN.new w _ _ _ _ _ _ rfl).kept (kept_alloc _ _ (fun _ => False)) nf).kept (kept_alloc _ _ (fun _ => False)) nf, (BoxN.new _ _ _ _ _ _ _ (by simp)).kept (kept_alloc _ _ (fun _ => False)) nf, BoxN.new _ _ _ _ _ _ _ (by simp), by simp⟩
theorem triW_below (w : World) (t : Tr) (x : NV) : Below w.heap.size w (triW w t x) := by
  unfold triW
  exact (((Below.refl _ w).alloc (Nat.le_refl _) _).alloc (by simp) _).alloc (by simp; omega) _
theorem BoxN.kid {W : World} {b : Nat} {t : Tr} {x : NV} (h : BoxN W b (.string t.tag) (.string t.key) (.string t.text) (.slice x.A t.as.length x.ca) (.slice x.K t.kids.length x.ck)) : KidCells W b 0 t x := by
  obtain ⟨c0, c1, c2, c3, c4⟩ := h.cells
  exact ⟨c0, c1, c2, c3, c4⟩
theorem results_tree24 (tmps : Array Value) (w : World) (B : Nat) (v0 v1 v2 v3 v4 : Value) (hp : tmps.getD 2 undef = .pointer (some ⟨B, 0, none⟩)) (hg : BoxN w B v0 v1 v2 v3 v4) :
    (results Try.f65 tmps).run Try.prog w = .ok (.agg #[v0, v1, v2, v3, v4]) w := by
  exact results_cell_row rfl tmps w B 25 _ (0, 0) _ hp hg Try.underlying25 rfl (by kernel_rfl)
end Go.Proofs.Ytlkdklpglmglkaa
