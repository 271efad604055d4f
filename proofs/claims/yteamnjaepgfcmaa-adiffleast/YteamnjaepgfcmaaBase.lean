/-
  An attribute in memory: two cells.
-/
import Derived.WalkKit
import Derived.Lib.Hide
import Derived.Below
import Derived.Test.YteamnjaepgfcmaaChecked
import Derived.Test.YteamnjaepgfcmaaLMath
import Derived.Shelf.SlSortCmp.KitK
import Derived.Sort.WalkB2
import Derived.Sort.WalkB12
import Derived.Deep.LoopGhost
namespace Go.Proofs.Yteamnjaepgfcmaa
open Go.RowKit Go.Sort
set_option linter.unusedVariables false

def encA (x : At) : List Value := [.string x.1, .string x.2]
theorem encA_len (x : At) : (encA x).length = 2 := rfl
theorem encA_one (x : At) : ∀ v ∈ encA x, v.oneCell' = true := by
  intro v hv
  simp [encA] at hv
  rcases hv with rfl | rfl <;> rfl
/-- A world of the sort's. -/
abbrev SW (w0 : World) (blk off : Nat) (dk : Array At) (W : World) : Prop := SWK encA 2 w0 blk off dk W
abbrev RK (w0 : World) (blk off : Nat) (d0 : Array At) : Prop := RowK encA 2 w0 blk off d0
theorem swp_list {d : Array At} {L1 L2 L3 : List At} {x y : At} (hd : d.toList = L1 ++ x :: (L2 ++ y :: L3)) {i j : Nat} (hi : i = L1.length) (hj : j = L1.length + 1 + L2.length) :
    (swp d i j).toList = L1 ++ y :: (L2 ++ x :: L3) ∧ d[i]! = x ∧ d[j]! = y := by
  obtain ⟨l⟩ := d
  simp at hd
  subst hd hi hj
  have e1 : ((L1 ++ x :: (L2 ++ y :: L3)).toArray)[L1.length]! = x := by simp
  have e2 : ((L1 ++ x :: (L2 ++ y :: L3)).toArray)[L1.length + 1 + L2.length]! = y := by
    have : L1 ++ x :: (L2 ++ y :: L3) = (L1 ++ x :: L2) ++ y :: L3 := by simp
    rw [this]
    have hl : L1.length + 1 + L2.length = (L1 ++ x :: L2).length := by simp; omega
    rw [hl]
    simp
  refine ⟨?_, e1, e2⟩
  unfold swp
  rw [e1, e2]
  simp only [List.setIfInBounds_toArray]
  have s1 : (L1 ++ x :: (L2 ++ y :: L3)).set L1.length y = L1 ++ y :: (L2 ++ y :: L3) := by simp
  rw [s1]
  have : L1 ++ y :: (L2 ++ y :: L3) = (L1 ++ y :: L2) ++ y :: L3 := by simp
  rw [this]
  have hl : L1.length + 1 + L2.length = (L1 ++ y :: L2).length := by simp; omega
  rw [hl]
  simp
theorem drop_cons' (l : List At) (i : Nat) (h : i < l.length) : l.drop i = l[i] :: l.drop (i + 1) := by rw [List.drop_eq_getElem_cons h]
theorem take_succ' (l : List At) (i : Nat) (h : i < l.length) : l.take (i + 1) = l.take i ++ [l[i]] := by simp
theorem swapR_step {dk : Array At} {P X M Y Z : List At} {i n a b : Nat} (hX : X.length = n) (hY : Y.length = n) (ha : P.length = a) (hb : (P ++ X ++ M).length = b)
    (h : dk.toList = P ++ (Y.take i ++ X.drop i) ++ M ++ (X.take i ++ Y.drop i) ++ Z) (hi : i < n) :
    (swp dk (a + i) (b + i)).toList = P ++ (Y.take (i + 1) ++ X.drop (i + 1)) ++ M ++ (X.take (i + 1) ++ Y.drop (i + 1)) ++ Z := by
  rw [drop_cons' X i (by omega), drop_cons' Y i (by omega)] at h
  have h' : dk.toList = (P ++ Y.take i) ++ X[i] :: ((X.drop (i + 1) ++ M ++ X.take i) ++ Y[i] :: (Y.drop (i + 1) ++ Z)) := by rw [h]; simp only [List.append_assoc, List.cons_append]
  simp only [List.length_append] at hb
  rw [(swp_list h' (i := a + i) (j := b + i) (by simp; omega) (by simp; omega)).1, take_succ' X i (by omega), take_succ' Y i (by omega)]
  simp only [List.append_assoc, List.cons_append, List.nil_append]
/-- The two cells of an element in a world of the sort's. -/
theorem SW.cells {w0 W : World} {blk off : Nat} {dk d0 : Array At} (h : SW w0 blk off dk W) (R : RK w0 blk off d0) (hs : dk.size = d0.size) (i : Nat) (hi : i < dk.size) :
    (W.cell? ⟨blk, off + i * 2, none⟩ = some (.string dk[i]!.1) ∧ W.cell? ⟨blk, off + i * 2 + 1, none⟩ = some (.string dk[i]!.2)) ∧ W.frozen? ⟨blk, off + i * 2, none⟩ = false ∧ W.frozen? ⟨blk, off + i * 2 + 1, none⟩ = false := by
  have hH := h.holds R.hblk R.hH hs
  have c := HoldsK.cells hH R.hk hi
  have f0 := (hH (i * 2) (by rw [size_flatK]; omega)).2
  have f1 := (hH (i * 2 + 1) (by rw [size_flatK]; omega)).2
  exact ⟨⟨c 0 _ rfl, c 1 _ rfl⟩, f0, f1⟩
end Go.Proofs.Yteamnjaepgfcmaa
