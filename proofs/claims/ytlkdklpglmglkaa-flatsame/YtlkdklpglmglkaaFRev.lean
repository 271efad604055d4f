/-
  slices.Reverse at nodes and at integers.
-/
import Derived.Test.YtlkdklpglmglkaaFShelf
import Derived.Test.YtlkdklpglmglkaaFInts
import Derived.Test.YtlkdklpglmglkaaTwin
import Derived.Test.YtlkdklpglmglkaaDup
namespace Go.Proofs.Ytlkdklpglmglkaa
open Go.RowKit Go.Sort Go.Lib
set_option linter.unusedVariables false
set_option maxRecDepth 100000
instance : Inhabited KV := ⟨(.mk noB noB noB [] [], ⟨none, 0, none, 0⟩)⟩
def encN (p : KV) : List Value := nodeCells p.1 p.2
theorem encN_len (p : KV) : (encN p).length = 5 := rfl
theorem encN_one (p : KV) : ∀ v ∈ encN p, v.oneCell' = true := nodeCells_one p.1 p.2
theorem flat_nds (ps : List KV) {j : Nat} (hj : j < ps.length * 5) : (nds ps)[j]? = some (flatK encN 5 ps.toArray)[j]! := by
  have hq : j / 5 < ps.length := by omega
  rw [get_flatK _ _ _ _ (by simpa using hj)]
  conv => lhs; rw [show j = j / 5 * 5 + j % 5 by omega]
  rw [nds_at ps (j / 5) hq (j % 5) (by omega)]
  have e : (ps.toArray[j / 5]!) = ps[j / 5] := by simp [hq]
  rw [e, encN]
  have hl : j % 5 < (nodeCells ps[j / 5].1 ps[j / 5].2).length := by simp [nodeCells]; omega
  rw [List.getElem?_eq_getElem hl, getElem!_pos (nodeCells ps[j / 5].1 ps[j / 5].2) (j % 5) hl]
theorem kept_putRow {α : Type} [Inhabited α] (enc : α → Value) (w : World) (n blk off : Nat) (d : Array α) : Kept (· = blk) w (putRow enc (Sort.ahead w n) blk off d) := by
  refine ⟨rfl, rfl, rfl, by rw [size_putRow]; exact Nat.le_refl _, fun k hk hs => ?_⟩
  have : ¬ blk = k := fun e => hs e.symm
  simp [putRow, mapBlock, Sort.ahead, Array.getElem?_modify, this]
def RevPost (g : Nat) (ps : List KV) (w : World) (e : Ending) (w' : World) : Prop := e = .returned (.tuple #[]) ∧ (∀ j, (h : j < ps.reverse.length) → KidCells w' g (0 + j * 5) ps.reverse[j].1 ps.reverse[j].2) ∧ Kept (· = g) w w'
theorem revN_any (base g cap : Nat) (ps : List KV) (w : World) (h : w.ownsRow base 25 5 (.slice (some ⟨g, 0, none⟩) ps.length cap) ps.length (nds ps)) (hl : ps.length ≤ 1000000) :
    Calls Try.prog 75 #[.slice (some ⟨g, 0, none⟩) ps.length cap] w (RevPost g ps w) := by
  have hH : HoldsK encN 5 w g 0 ps.toArray := by
    intro j hj
    rw [size_flatK] at hj
    have hj' : j < ps.length * 5 := by simpa using hj
    rw [Nat.zero_add]
    exact ⟨(World.ownsRow.cellAt h j (by omega)).trans (flat_nds ps hj'), World.ownsRow.frozenAt h j⟩
  have hc := Go.Proofs.AnyQ.slices_Reverse (α := KV) Try.layRevN 5 (fun w => by kernel_rfl) (fun w => by kernel_rfl) encN encN_len encN_one g 0 cap ps.toArray w hH (by simp; omega)
  change Calls Try.prog 75 _ _ _ at hc
  simp only [List.size_toArray] at hc
  refine hc.mono ?_
  rintro e w' ⟨rfl, n, rfl⟩
  refine ⟨rfl, fun j hj => ?_, kept_putRow _ _ _ _ _ _⟩
  have hK : HoldsK encN 5 (putRowK encN 5 (Sort.ahead w n) g 0 ps.toArray.reverse) g 0 ps.toArray.reverse := holdsK_putRowK encN 5 (Sort.ahead w n) g 0 ps.toArray _ (holdsK_ahead encN 5 w n g 0 _ hH) (by simp)
  have hj' : j < ps.length := by simpa using hj
  have e2 : ps.toArray.reverse = ps.reverse.toArray := by simp
  have key : ∀ r, r < 5 → (putRowK encN 5 (Sort.ahead w n) g 0 ps.toArray.reverse).cell? ⟨g, 0 + j * 5 + r, none⟩ = (nodeCells ps.reverse[j].1 ps.reverse[j].2)[r]? := by
    intro r hr
    have h1 := (hK (j * 5 + r) (by simp; omega)).1
    rw [show 0 + j * 5 + r = 0 + (j * 5 + r) by omega, h1, e2]
    have h2 := flat_nds ps.reverse (j := j * 5 + r) (by simp; omega)
    rw [nds_at ps.reverse j hj r hr] at h2
    rw [h2]; rfl
  exact ⟨key 0 (by omega), key 1 (by omega), key 2 (by omega), key 3 (by omega), key 4 (by omega)⟩
theorem revN_none (A : Option Addr) (cap : Nat) (w : World) : Calls Try.prog 75 #[.slice A 0 cap] w fun e w' => e = .returned (.tuple #[]) ∧ w' = w := by
  have hc := Go.Proofs.AnyQ.slices_Reverse_empty Try.layRevN A cap w
  change Calls Try.prog 75 _ _ _ at hc
  exact hc
theorem revI_any (g cap : Nat) (zs : List Int) (w : World) (h : w.ownsRow w.heap.size 3 1 (.slice (some ⟨g, 0, none⟩) zs.length cap) zs.length (I.ints zs) ∨ ∃ base, w.ownsRow base 3 1 (.slice (some ⟨g, 0, none⟩) zs.length cap) zs.length (I.ints zs)) (hl : zs.length ≤ 1000000) :
    Calls Try.prog 55 #[.slice (some ⟨g, 0, none⟩) zs.length cap] w fun e w' => e = .returned (.tuple #[]) ∧ (∀ j, j < zs.length → w'.cell? ⟨g, 0 + j, none⟩ = some (.int .i64 (zs.reverse.getD j 0))) ∧ Kept (· = g) w w' := by
  obtain ⟨base, h⟩ : ∃ base, w.ownsRow base 3 1 (.slice (some ⟨g, 0, none⟩) zs.length cap) zs.length (I.ints zs) := h.elim (fun h => ⟨_, h⟩) id
  have hH : Holds (Value.int .i64) w g 0 zs.toArray := by
    intro j hj
    have hj' : j < zs.length := by simpa using hj
    rw [Nat.zero_add]
    refine ⟨(World.ownsRow.cellAt h j (by omega)).trans ?_, World.ownsRow.frozenAt h j⟩
    simp [I.ints, hj']
  have hc := Go.Proofs.AnyE.slices_Reverse (α := Int) Try.layRevI (Value.int .i64) (fun x => rfl) g 0 cap zs w hH (by omega)
  change Calls Try.prog 55 _ _ _ at hc
  refine hc.mono ?_
  rintro e w' ⟨rfl, n, rfl⟩
  refine ⟨rfl, fun j hj => ?_, kept_putRow _ _ _ _ _ _⟩
  have hK := holds_putRow (Value.int .i64) (Sort.ahead w n) g 0 zs.toArray zs.reverse.toArray hH (by simp)
  have h1 := (hK j (by simpa using hj)).1
  rw [h1]
  simp [List.getD_eq_getElem?_getD, hj]
end Go.Proofs.Ytlkdklpglmglkaa
