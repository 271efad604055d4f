/-
  What came in: a slice of attributes, its strings within the reach.
-/
import Derived.Test.YtlkdklpglmglkaaVLaw1
import Derived.OpenShut
import Derived.ChangeArms
import Derived.SizedLaws
import Derived.WideShapes
import Derived.Deep.Slices
import Derived.ChangeSame
namespace Go.Proofs.Ytlkdklpglmglkaa
open Go.ChangeShapes Go.WideShapes Go.Deep
set_option linter.unusedVariables false
set_option maxRecDepth 100000
theorem cells9 : Try.prog.cellsOf 9 = 1 := by kernel_rfl
theorem cells74 : Try.prog.cellsOf 74 = 2 := by kernel_rfl
theorem choose_list {α : Type} (d : α) (Q : Nat → α → Prop) : ∀ n : Nat, (∀ i, i < n → ∃ x, Q i x) → ∃ l : List α, l.length = n ∧ ∀ i, (hi : i < l.length) → Q i l[i] := by
  intro n
  induction n with
  | zero => intro _; exact ⟨[], rfl, fun i hi => by simp at hi⟩
  | succ n ih =>
    intro h
    obtain ⟨l, hl, hq⟩ := ih (fun i hi => h i (by omega))
    obtain ⟨x, hx⟩ := h n (by omega)
    refine ⟨l ++ [x], by simp [hl], fun i hi => ?_⟩
    rcases Nat.lt_or_ge i n with hlt | hge
    · rw [List.getElem_append_left (by omega)]; exact hq i (by omega)
    · have : i = n := by simp at hi; omega
      subst this
      rw [List.getElem_append_right (by omega)]
      simpa using hx
theorem add_at (b off j : Nat) : (⟨b, off, none⟩ : Addr).add j = ⟨b, off + j, none⟩ := by unfold Addr.add; split <;> simp_all
section
variable {H : Type} {enc : TypeId × Value → H} {w : World} {base : Nat} {spare : Nat → Bool} {held : Bool}
def atD (L : At) : DataW H := .agg [.lit (.string L.1.data.toList), .lit (.string L.2.data.toList)]
theorem at_cells {fuel : Nat} {cs : List Value} {x : DataW H × List MemPlace} (h : DataW.trod enc Try.prog w base spare held fuel 74 cs = some x) :
    ∃ L : At, cs = [.string L.1, .string L.2] ∧ x.1 = atD L := by
  obtain ⟨xs, n, -, hx, hl, hxl, hf⟩ := DataW.trod_struct Try.underlying74 h
  rw [cells74] at hl
  match cs, hl with
  | [v0, v1], _ =>
    match xs, hxl with
    | [y0, y1], _ =>
      have g0 := hf 0 _ rfl
      have g1 := hf 1 _ rfl
      obtain ⟨s0, e0, f0, m0⟩ := DataW.trod_string Try.underlying9 g0
      obtain ⟨s1, e1, f1, m1⟩ := DataW.trod_string Try.underlying9 g1
      have e0' : v0 = .string s0 := by simpa [cells9] using e0
      have e1' : v1 = .string s1 := by simpa [cells9] using e1
      subst e0' e1'
      refine ⟨(s0, s1), rfl, ?_⟩
      rw [hx]
      simp [atD, f0, f1]
theorem ats_in {fuel : Nat} {A : Option Addr} {len cap : Nat} {x : DataW H × List MemPlace} (h : DataW.trod enc Try.prog w base spare held fuel 22 [.slice A len cap] = some x) :
    ∃ ls : List At, ls.length = len ∧ TRow w w.heap.size A ls ∧ ls.length ≤ cap ∧ cap ≤ maxLen ∧ (A = none → cap = 0) ∧ (∀ L ∈ ls, ∃ es sp, x.1 = .slice es sp ∧ atD L ∈ es) ∧ (ls = [] ∨ ∃ es sp, x.1 = .slice es sp ∧ es.length = ls.length) := by
  rcases open_slice Try.underlying22 h with ⟨hcs, -⟩ | ⟨a, len', cap', m, n, D, Pl, hcs, hb, hl, hm, hmm, hx, hi⟩
  · simp at hcs
    obtain ⟨rfl, rfl, rfl⟩ := hcs
    exact ⟨[], rfl, fun h => by simp at h, by simp, by simp [maxLen], fun _ => rfl, fun L hL => (by simp at hL), .inl rfl⟩
  · simp at hcs
    obtain ⟨rfl, rfl, rfl⟩ := hcs
    rw [cells74] at hi
    have hml : len ≤ m := by rw [hmm]; split <;> omega
    have key : ∀ i, i < len → ∃ L : At, D i = atD L ∧ w.cell? ((a.add (i * 2)).add 0) = some (.string L.1) ∧ w.cell? ((a.add (i * 2)).add 1) = some (.string L.2) := by
      intro i hil
      obtain ⟨cs', hc, ht'⟩ := hi i (by omega)
      obtain ⟨_, hcl, hat⟩ := World.cells?_some hc
      obtain ⟨L, rfl, hLd⟩ := at_cells ht'
      exact ⟨L, hLd, hat 0 (by omega), hat 1 (by omega)⟩
    rcases Nat.eq_zero_or_pos len with h0 | h0
    · subst h0
      exact ⟨[], rfl, fun h => by simp at h, by simp, hm, (fun h => by cases h), (fun L hL => by simp at hL), .inl rfl⟩
    · obtain ⟨b, off, spot⟩ := a
      have hspot : spot = none := by
        obtain ⟨x, -, k0, -⟩ := key 0 h0
        simpa [Addr.add] using World.cell?_spot k0
      subst hspot
      obtain ⟨ls, hpl, hq⟩ := choose_list (d := noAt) (fun i (L : At) => D i = atD L ∧ w.cell? ⟨b, off + i * 2, none⟩ = some (.string L.1) ∧ w.cell? ⟨b, off + i * 2 + 1, none⟩ = some (.string L.2)) len (by
        intro i hi
        obtain ⟨x, hw, k0, k1⟩ := key i hi
        simp only [add_at, Nat.add_zero] at k0 k1
        exact ⟨x, hw, k0, k1⟩)
      refine ⟨ls, hpl, fun _ => ⟨b, off, rfl, ?_, fun j hj => (hq j hj).2⟩, by omega, hm, (fun h => by cases h), fun L hL => ?_, .inr ⟨_, _, by rw [hx], by simp [hpl]⟩⟩
      · obtain ⟨x, -, k0, -⟩ := key 0 h0
        simpa [Addr.add] using World.block_lt_of_cell? w _ k0
      · obtain ⟨j, hj, rfl⟩ := List.mem_iff_getElem.1 hL
        refine ⟨_, _, by rw [hx], ?_⟩
        rw [← (hq j hj).1]
        exact List.mem_map.2 ⟨j, List.mem_range.2 (by omega), rfl⟩
end
theorem mem_weightsAll {H : Type} {e : TypeId} {d : DataW H} {n : Nat} (hn : n ∈ d.weights Try.prog e) : ∀ {es : List (DataW H)}, d ∈ es → n ∈ DataW.weightsAll Try.prog e es
  | x :: r, hd => by
    simp only [DataW.weightsAll, List.mem_append]
    rcases List.mem_cons.1 hd with rfl | hd
    · exact .inl hn
    · exact .inr (mem_weightsAll hn hd)
end Go.Proofs.Ytlkdklpglmglkaa
