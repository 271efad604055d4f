/-
  What came in: a slice of changes, its strings within the reach.
-/
import Derived.Test.YteamnjaepgfcmaaOpen
import Derived.Test.YteamnjaepgfcmaaDRow
namespace Go.Proofs.Yteamnjaepgfcmaa
open Go.ChangeShapes Go.WideShapes Go.Deep
set_option linter.unusedVariables false
theorem cells4 : Try.prog.cellsOf 4 = 1 := by kernel_rfl
theorem cells46 : Try.prog.cellsOf 46 = 3 := by kernel_rfl
/-- Strings whose sizes add up to no wrap. -/
def XFit (l : List Ch) : Prop := ∀ x ∈ l, x.1.size ≤ 140737488355328 ∧ x.2.1.size ≤ 140737488355328
section
variable {H : Type} {enc : TypeId × Value → H} {w : World} {base : Nat} {spare : Nat → Bool} {held : Bool}
def chD (L : Ch) : DataW H := .agg [.lit (.string L.1.data.toList), .lit (.string L.2.1.data.toList), .lit (.bool L.2.2)]
theorem ch_cells {fuel : Nat} {cs : List Value} {x : DataW H × List MemPlace} (h : DataW.trod enc Try.prog w base spare held fuel 46 cs = some x) :
    ∃ L : Ch, cs = [.string L.1, .string L.2.1, .bool L.2.2] ∧ x.1 = chD L := by
  obtain ⟨xs, n, -, hx, hl, hxl, hf⟩ := DataW.trod_struct Try.underlying46 h
  rw [cells46] at hl
  match cs, hl with
  | [v0, v1, v2], _ =>
    match xs, hxl with
    | [y0, y1, y2], _ =>
      have g0 := hf 0 _ rfl
      have g1 := hf 1 _ rfl
      have g2 := hf 2 _ rfl
      obtain ⟨s0, e0, f0, m0⟩ := DataW.trod_string Try.underlying9 g0
      obtain ⟨s1, e1, f1, m1⟩ := DataW.trod_string Try.underlying9 g1
      obtain ⟨s2, e2, f2⟩ := DataW.trod_bool Try.underlying4 g2
      have e0' : v0 = .string s0 := by simpa [cells9] using e0
      have e1' : v1 = .string s1 := by simpa [cells9] using e1
      have e2' : v2 = .bool s2 := by simpa [cells4] using e2
      subst e0' e1' e2'
      refine ⟨(s0, s1, s2), rfl, ?_⟩
      rw [hx]
      simp [chD, f0, f1, f2]
theorem chs_in {fuel : Nat} {A : Option Addr} {len cap : Nat} {x : DataW H × List MemPlace} (h : DataW.trod enc Try.prog w base spare held fuel 40 [.slice A len cap] = some x) :
    ∃ ls : List Ch, ls.length = len ∧ XRow w w.heap.size A ls ∧ ls.length ≤ cap ∧ cap ≤ maxLen ∧ (A = none → cap = 0) ∧ ∀ L ∈ ls, ∃ es sp, x.1 = .slice es sp ∧ chD L ∈ es := by
  rcases open_slice Try.underlying40 h with ⟨hcs, -⟩ | ⟨a, len', cap', m, n, D, Pl, hcs, hb, hl, hm, hmm, hx, hi⟩
  · simp at hcs
    obtain ⟨rfl, rfl, rfl⟩ := hcs
    exact ⟨[], rfl, fun h => by simp at h, by simp, by simp [maxLen], fun _ => rfl, fun L hL => by simp at hL⟩
  · simp at hcs
    obtain ⟨rfl, rfl, rfl⟩ := hcs
    rw [cells46] at hi
    have hml : len ≤ m := by rw [hmm]; split <;> omega
    have key : ∀ i, i < len → ∃ L : Ch, D i = chD L ∧ w.cell? ((a.add (i * 3)).add 0) = some (.string L.1) ∧ w.cell? ((a.add (i * 3)).add 1) = some (.string L.2.1) ∧ w.cell? ((a.add (i * 3)).add 2) = some (.bool L.2.2) := by
      intro i hil
      obtain ⟨cs', hc, ht'⟩ := hi i (by omega)
      obtain ⟨_, hcl, hat⟩ := World.cells?_some hc
      obtain ⟨L, rfl, hLd⟩ := ch_cells ht'
      exact ⟨L, hLd, hat 0 (by omega), hat 1 (by omega), hat 2 (by omega)⟩
    rcases Nat.eq_zero_or_pos len with h0 | h0
    · subst h0
      exact ⟨[], rfl, fun h => by simp at h, by simp, hm, (fun h => by cases h), fun L hL => by simp at hL⟩
    · obtain ⟨b, off, spot⟩ := a
      have hspot : spot = none := by
        obtain ⟨x, -, k0, -⟩ := key 0 h0
        simpa [Addr.add] using World.cell?_spot k0
      subst hspot
      obtain ⟨ls, hpl, hq⟩ := choose_list (d := noCh) (fun i (L : Ch) => D i = chD L ∧ w.cell? ⟨b, off + i * 3, none⟩ = some (.string L.1) ∧ w.cell? ⟨b, off + i * 3 + 1, none⟩ = some (.string L.2.1) ∧ w.cell? ⟨b, off + i * 3 + 2, none⟩ = some (.bool L.2.2)) len (by
        intro i hi
        obtain ⟨x, hw, k0, k1, k2⟩ := key i hi
        simp only [add_at, Nat.add_zero] at k0 k1 k2
        exact ⟨x, hw, k0, k1, k2⟩)
      refine ⟨ls, hpl, fun _ => ⟨b, off, rfl, ?_, fun j hj => (hq j hj).2⟩, by omega, hm, (fun h => by cases h), fun L hL => ?_⟩
      · obtain ⟨x, -, k0, -⟩ := key 0 h0
        simpa [Addr.add] using World.block_lt_of_cell? w _ k0
      · obtain ⟨j, hj, rfl⟩ := List.mem_iff_getElem.1 hL
        refine ⟨_, _, by rw [hx], ?_⟩
        rw [← (hq j hj).1]
        exact List.mem_map.2 ⟨j, List.mem_range.2 (by omega), rfl⟩
end
theorem sized_chs {H : Type} {ts : List TypeId} {ds : List (DataW H)} (h : (DataW.weightsEach Try.prog ts ds).all (· ≤ reachBytes) = true) {j : Nat} {d : DataW H} {ls : List Ch} (ht : ts[j]? = some 40) (hd : ds[j]? = some d) (hm : ∀ L ∈ ls, ∃ es sp, d = .slice es sp ∧ chD L ∈ es) : XFit ls := by
  intro L hL
  obtain ⟨es, sp, rfl, hme⟩ := hm L hL
  have e : reachBytes = 140737488351232 := by decide
  have w1 : L.1.data.toList.length ∈ (chD (H := H) L).weights Try.prog 46 := by simp [chD, DataW.weights, Try.underlying46, DataW.weightsEach]
  have w2 : L.2.1.data.toList.length ∈ (chD (H := H) L).weights Try.prog 46 := by simp [chD, DataW.weights, Try.underlying46, DataW.weightsEach]
  have h1 := List.all_eq_true.1 h _ (DataW.weights_mem_each ht hd L.1.data.toList.length (by simp only [DataW.weights, Try.underlying40]; exact List.mem_cons_of_mem _ (List.mem_append.2 (.inl (mem_weightsAll w1 hme)))))
  have h2 := List.all_eq_true.1 h _ (DataW.weights_mem_each ht hd L.2.1.data.toList.length (by simp only [DataW.weights, Try.underlying40]; exact List.mem_cons_of_mem _ (List.mem_append.2 (.inl (mem_weightsAll w2 hme)))))
  rw [e] at h1 h2
  have h1' := of_decide_eq_true h1
  have h2' := of_decide_eq_true h2
  rw [size_list] at h1' h2'
  exact ⟨by omega, by omega⟩
end Go.Proofs.Yteamnjaepgfcmaa
