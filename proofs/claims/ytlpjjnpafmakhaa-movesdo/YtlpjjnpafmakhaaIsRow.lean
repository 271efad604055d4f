/-
  A slice of integers that came in, as a row.
-/
import Derived.Test.YtlpjjnpafmakhaaBase
import Derived.OpenShut
namespace Go.Proofs.Ytlpjjnpafmakhaa
open Go.RowKit

/-- What a walk is told of a slice of integers that came in. -/
def IsRow (w : World) (a : Option Addr) (len cap : Nat) (zs : List Int) : Prop :=
  (a = none ∧ len = 0 ∧ cap = 0 ∧ zs = []) ∨
  ∃ x, a = some x ∧ len ≤ cap ∧ cap ≤ maxLen ∧ zs.length = cap ∧ (∀ i, i < zs.length → w.cell? (x.add i) = some (.int .i64 (zs.getD i 0))) ∧ ∀ n ∈ zs, (Lit.int .i64 n).wf = true
theorem row_of_is {w : World} {a : Option Addr} {len cap : Nat} {zs : List Int} (h : IsRow w a len cap zs) :
    ∃ bs : List Int, bs.length = len ∧ Row w w.heap.size a bs ∧ bs.length ≤ cap ∧ cap ≤ maxLen ∧ (∀ j, j < bs.length → (Lit.int .i64 (bs.getD j 0)).wf = true) ∧ (a = none → cap = 0) := by
  rcases h with ⟨rfl, rfl, rfl, rfl⟩ | ⟨x, rfl, hl, hm, hz, hcell, hwf⟩
  · exact ⟨[], rfl, fun h => by simp at h, by simp, by simp [maxLen], fun j hj => by simp at hj, fun _ => rfl⟩
  · refine ⟨zs.take len, by simp; omega, ?_, by simp; omega, hm, ?_, fun h => by cases h⟩
    · intro h0
      have h0' : 0 < len := by simp at h0; omega
      obtain ⟨b, off, spot⟩ := x
      have hc0 := hcell 0 (by omega)
      have hspot : spot = none := by simpa [Addr.add] using World.cell?_spot hc0
      subst hspot
      refine ⟨b, off, rfl, World.block_lt_of_cell? w _ (by simpa [Addr.add] using hc0), fun j hj => ?_⟩
      have hj' : j < len := by simp at hj; omega
      have hcj := hcell j (by omega)
      have e : (⟨b, off, none⟩ : Addr).add j = ⟨b, off + j, none⟩ := by unfold Addr.add; split <;> simp_all
      rw [e] at hcj
      rw [hcj]
      simp [List.getD_eq_getElem?_getD, hj']
    · intro j hj
      have hj' : j < len := by simp at hj; omega
      have : (zs.take len).getD j 0 = zs[j] := by simp [List.getD_eq_getElem?_getD, hj', List.getElem?_eq_getElem (show j < zs.length by omega)]
      rw [this]
      exact hwf _ (List.getElem_mem _)
theorem bounds_i64 {n : Int} (h : (Lit.int .i64 n).wf = true) : -9223372036854775808 ≤ n ∧ n ≤ 9223372036854775807 := by
  simpa [Lit.wf, IntKind.min, IntKind.max, IntKind.signed, IntKind.bits] using h
end Go.Proofs.Ytlpjjnpafmakhaa
