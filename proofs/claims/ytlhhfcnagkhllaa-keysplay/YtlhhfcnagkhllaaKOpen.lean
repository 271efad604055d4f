/-
  What came in: a label; its strings' lengths within the reach.
-/
import Derived.Test.YtlhhfcnagkhllaaKOf
import Derived.OpenShut
import Derived.ChangeArms
import Derived.SizedLaws
import Derived.WideShapes
namespace Go.Proofs.Ytlhhfcnagkhllaa
open Go.ChangeShapes Go.WideShapes
set_option linter.unusedVariables false

section
variable {H : Type} {enc : TypeId × Value → H} {w : World} {base : Nat} {spare : Nat → Bool} {held : Bool}
theorem lab_cells {fuel : Nat} {cs : List Value} {x : DataW H × List MemPlace} (h : DataW.trod enc Try.prog w base spare held fuel 30 cs = some x) :
    ∃ L : Lab, cs = [.string L.tag, .string L.key, .int .i64 L.n] ∧ LWf L ∧ x.1 = .agg [.lit (.string L.tag.data.toList), .lit (.string L.key.data.toList), .lit (.int .i64 L.n)] := by
  obtain ⟨xs, n, -, hx, hl, hxl, hf⟩ := DataW.trod_struct Try.underlying30 h
  rw [cells30] at hl
  match cs, hl with
  | [v0, v1, v2], _ =>
    match xs, hxl with
    | [y0, y1, y2], _ =>
      have g0 := hf 0 _ rfl
      have g1 := hf 1 _ rfl
      have g2 := hf 2 _ rfl
      obtain ⟨s0, e0, f0, m0⟩ := DataW.trod_string Try.underlying9 g0
      obtain ⟨s1, e1, f1, m1⟩ := DataW.trod_string Try.underlying9 g1
      obtain ⟨n2, e2, f2, m2⟩ := DataW.trod_int Try.underlying3 g2
      have e0' : v0 = .string s0 := by simpa [cells9] using e0
      have e1' : v1 = .string s1 := by simpa [cells9] using e1
      have e2' : v2 = .int .i64 n2 := by simpa [cells3] using e2
      subst e0' e1' e2'
      refine ⟨⟨s0, s1, n2⟩, rfl, ⟨m0, m1, m2⟩, ?_⟩
      rw [hx]
      simp [f0, f1, f2]
theorem lab_in {v : Value} {d : DataW H} {p : List MemPlace} {W : World} {r : Reach} {b0 : Nat} (hok : Value.okWide Try.prog W r b0 30 v) (h : DataW.Trod enc Try.prog w base spare held 30 v d p) :
    ∃ L : Lab, v = labV L ∧ LWf L ∧ d = .agg [.lit (.string L.tag.data.toList), .lit (.string L.key.data.toList), .lit (.int .i64 L.n)] := by
  obtain ⟨cs, rfl, hcs⟩ := okWide_struct Try.underlying30 hok
  obtain ⟨fuel, hf⟩ := h
  obtain ⟨L, h1, h2, h3⟩ := lab_cells hf
  refine ⟨L, ?_, h2, h3⟩
  have : cs.toList = [.string L.tag, .string L.key, .int .i64 L.n] := by simpa [Value.cells] using h1
  have e : cs = #[.string L.tag, .string L.key, .int .i64 L.n] := by
    apply Array.ext'
    rw [this]
  rw [e]
end
theorem sized_lab {H : Type} {ts : List TypeId} {ds : List (DataW H)} (h : (DataW.weightsEach Try.prog ts ds).all (· ≤ reachBytes) = true) {j : Nat} {a b : List UInt8} {n : Int} (ht : ts[j]? = some 30) (hd : ds[j]? = some (.agg [.lit (.string a), .lit (.string b), .lit (.int .i64 n)])) : a.length ≤ 140737488351232 ∧ b.length ≤ 140737488351232 := by
  have h1 := List.all_eq_true.1 h _ (DataW.weights_mem_each ht hd a.length (by simp [DataW.weights, Try.underlying30, DataW.weightsEach]))
  have h2 := List.all_eq_true.1 h _ (DataW.weights_mem_each ht hd b.length (by simp [DataW.weights, Try.underlying30, DataW.weightsEach]))
  have e : reachBytes = 140737488351232 := by decide
  rw [e] at h1 h2
  exact ⟨by simpa using h1, by simpa using h2⟩
end Go.Proofs.Ytlhhfcnagkhllaa
