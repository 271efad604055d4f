/-
  A slice of strings that came in, as a row.
-/
import Derived.Test.YtdfalejldjbaiaaDo
namespace Go.Proofs.Ytdfalejldjbaiaa
open Go.RowKit

theorem strs_of {w : World} {a : Addr} {len cap : Nat} {Sx : Nat → ByteArray} (hl : len ≤ cap) (hm : cap ≤ maxLen) (h : ∀ i, i < len → w.cell? (a.add i) = some (.string (Sx i)) ∧ (Sx i).size ≤ maxLen) :
    ∃ ss : List ByteArray, ss.length = len ∧ SRow w w.heap.size (some a) ss ∧ ss.length ≤ cap ∧ cap ≤ maxLen ∧ Strs ss := by
  have hat : ∀ j, j < len → ((List.range len).map Sx).getD j noStr = Sx j := fun j hj => by simp [List.getD_eq_getElem?_getD, hj]
  refine ⟨(List.range len).map Sx, by simp, ?_, by simpa using hl, hm, ?_⟩
  · intro h0
    have h0' : 0 < len := by simpa using h0
    obtain ⟨b, off, spot⟩ := a
    have hc0 := (h 0 h0').1
    have hspot : spot = none := by simpa [Addr.add] using World.cell?_spot hc0
    subst hspot
    refine ⟨b, off, rfl, World.block_lt_of_cell? w _ (by simpa [Addr.add] using hc0), fun j hj => ?_⟩
    have hj' : j < len := by simpa using hj
    have hcj := (h j hj').1
    rw [Addr.add_lit] at hcj
    rw [hat j hj']; exact hcj
  · intro j hj
    have hj' : j < len := by simpa using hj
    rw [hat j hj']; exact (h j hj').2
end Go.Proofs.Ytdfalejldjbaiaa
