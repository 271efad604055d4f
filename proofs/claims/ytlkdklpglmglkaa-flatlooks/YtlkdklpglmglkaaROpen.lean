/-
  What came in: a slice of rows.
-/
import Derived.Test.YtlkdklpglmglkaaOpen1
import Derived.Test.YtlkdklpglmglkaaFLaw6
namespace Go.Proofs.Ytlkdklpglmglkaa
open Go.ChangeShapes Go.WideShapes Go.Deep
set_option linter.unusedVariables false
set_option maxRecDepth 100000
theorem cells56 : Try.prog.cellsOf 56 = 6 := by kernel_rfl
theorem cells3 : Try.prog.cellsOf 3 = 1 := by kernel_rfl
theorem bytes56 : Try.prog.bytesOf 56 = 88 := by kernel_rfl
section
variable {H : Type} {enc : TypeId × Value → H} {w : World} {base : Nat} {spare : Nat → Bool} {held : Bool}
theorem row_cells {fuel : Nat} {cs : List Value} {x : DataW H × List MemPlace} (h : DataW.trod enc Try.prog w base spare held fuel 56 cs = some x) :
    ∃ r av, cs = rCells r av ∧ AtR w w.heap.size r av ∧ ((∀ n ∈ x.1.weights Try.prog 56, n ≤ 140737488351232) → FitR r) := by
  obtain ⟨xs, n, -, hx, hl, hxl, hf⟩ := DataW.trod_struct Try.underlying56 h
  rw [cells56] at hl
  match cs, hl with
  | [v0, v1, v2, v3, v4, v5], _ =>
    match xs, hxl with
    | [y0, y1, y2, y3, y4, y5], _ =>
      have g0 := hf 0 _ rfl
      have g1 := hf 1 _ rfl
      have g2 := hf 2 _ rfl
      have g3 := hf 3 _ rfl
      have g4 := hf 4 _ rfl
      have g5 := hf 5 _ rfl
      obtain ⟨i0, e0, -, -⟩ := DataW.trod_int Try.underlying3 g0
      obtain ⟨i1, e1, -, -⟩ := DataW.trod_int Try.underlying3 g1
      obtain ⟨s2, e2, f2, m2⟩ := DataW.trod_string Try.underlying9 g2
      obtain ⟨s3, e3, f3, m3⟩ := DataW.trod_string Try.underlying9 g3
      obtain ⟨s4, e4, f4, m4⟩ := DataW.trod_string Try.underlying9 g4
      have e0' : v0 = .int .i64 i0 := by simpa [cells3] using e0
      have e1' : v1 = .int .i64 i1 := by simpa [cells3] using e1
      have e2' : v2 = .string s2 := by simpa [cells9] using e2
      have e3' : v3 = .string s3 := by simpa [cells9] using e3
      have e4' : v4 = .string s4 := by simpa [cells9] using e4
      subst e0' e1' e2' e3' e4'
      simp [cells22] at g5
      obtain ⟨A, alen, ca, rfl⟩ := slice_one Try.underlying22 g5
      obtain ⟨ls, rfl, hrow, hc1, hc2, hc3, hd, hdl⟩ := ats_in g5
      refine ⟨⟨i0, i1, s2, s3, s4, ls⟩, ⟨A, ca⟩, rfl, ⟨hrow, hc1, hc2, hc3⟩, fun hall => ?_⟩
      rw [hx] at hall
      simp only [List.map_cons, List.map_nil, DataW.weights, Try.underlying56, DataW.weightsEach, f2, f3, f4] at hall
      have a2 := hall s2.size (by simp)
      have a3 := hall s3.size (by simp)
      have a4 := hall s4.size (by simp)
      have a5 : ∀ n ∈ y5.1.weights Try.prog 22, n ≤ 140737488351232 := fun n hn => hall n (by simp [hn])
      refine ⟨by show s2.size ≤ _; omega, by show s3.size ≤ _; omega, by show s4.size ≤ _; omega, ?_, ?_⟩
      · show ls.length ≤ _
        rcases hdl with rfl | ⟨es, sp, he, hel⟩
        · simp
        · rw [he] at a5
          have := a5 ((es.length + sp.length) * 32) (by simp [DataW.weights, Try.underlying22, bytes74])
          omega
      · intro z hz
        obtain ⟨es, sp, he, hme⟩ := hd z hz
        rw [he] at a5
        have w1 : z.1.size ∈ (atD (H := H) z).weights Try.prog 74 := by simp [atD, DataW.weights, Try.underlying74, DataW.weightsEach]
        have w2 : z.2.size ∈ (atD (H := H) z).weights Try.prog 74 := by simp [atD, DataW.weights, Try.underlying74, DataW.weightsEach]
        have b1 := a5 z.1.size (by simp only [DataW.weights, Try.underlying22]; exact List.mem_cons_of_mem _ (List.mem_append.2 (.inl (mem_weightsAll w1 hme))))
        have b2 := a5 z.2.size (by simp only [DataW.weights, Try.underlying22]; exact List.mem_cons_of_mem _ (List.mem_append.2 (.inl (mem_weightsAll w2 hme))))
        omega
theorem rows_in {v : Value} {d : DataW H} {p : List MemPlace} (h : DataW.Trod enc Try.prog w base spare held 28 v d p) (hv : ∃ A n c, v = .slice A n c) :
    ∃ A c rs, v = .slice A rs.length c ∧ ((∀ n ∈ d.weights Try.prog 28, n ≤ 140737488351232) → RIn w A c rs) := by
  obtain ⟨fuel, hf⟩ := h
  obtain ⟨A, len, cap, rfl⟩ := hv
  have hf' : DataW.trod enc Try.prog w base spare held fuel 28 [.slice A len cap] = some (d, p) := by simpa [Value.cells] using hf
  rcases open_slice Try.underlying28 hf' with ⟨hcs, -⟩ | ⟨a, len', cap', m, n', D, Pl, hcs, hb, hl', hm, hmm, hx4, hi⟩
  · simp at hcs
    obtain ⟨rfl, rfl, rfl⟩ := hcs
    exact ⟨none, 0, [], rfl, fun _ => ⟨RRow.nil _ _ _, fun r hr => by simp at hr, by simp, by simp⟩⟩
  · simp at hcs
    obtain ⟨rfl, rfl, rfl⟩ := hcs
    rw [cells56] at hi
    have hml : len ≤ m := by rw [hmm]; split <;> omega
    have key : ∀ i, i < len → ∃ q : Rw × AV, (∀ j, j < 6 → w.cell? ((a.add (i * 6)).add j) = (rCells q.1 q.2)[j]?) ∧ AtR w w.heap.size q.1 q.2 ∧ ((∀ n ∈ (D i).weights Try.prog 56, n ≤ 140737488351232) → FitR q.1) := by
      intro i hil
      obtain ⟨cs', hc, ht'⟩ := hi i (by omega)
      obtain ⟨_, hcl, hat⟩ := World.cells?_some hc
      obtain ⟨r, av, rfl, h1, h2⟩ := row_cells ht'
      exact ⟨(r, av), fun j hj => by rw [hat j (by omega)], h1, h2⟩
    obtain ⟨qs, hql, hq⟩ := choose_list (d := (noRw, (⟨none, 0⟩ : AV))) (fun i (q : Rw × AV) => (∀ j, j < 6 → w.cell? ((a.add (i * 6)).add j) = (rCells q.1 q.2)[j]?) ∧ AtR w w.heap.size q.1 q.2 ∧ ((∀ n ∈ (D i).weights Try.prog 56, n ≤ 140737488351232) → FitR q.1)) len key
    refine ⟨some a, cap, qs.map Prod.fst, by simp [hql], fun hw => ⟨fun h0 => ?_, fun r hr => ?_, ?_, by simp [hql]; exact hl'⟩⟩
    · have h0' : 0 < qs.length := by simpa using h0
      obtain ⟨b, off, spot⟩ := a
      have hspot : spot = none := by
        have k0 := (hq 0 h0').1 0 (by omega)
        have : w.cell? ((⟨b, off, spot⟩ : Addr).add (0 * 6) |>.add 0) = some (.int .i64 qs[0].1.id) := k0
        simpa [Addr.add] using World.cell?_spot this
      subst hspot
      refine ⟨b, off, fun j => (qs.getD j (noRw, ⟨none, 0⟩)).2, rfl, ?_, fun j hj => ?_⟩
      · have k0 := (hq 0 h0').1 0 (by omega)
        have : w.cell? ((⟨b, off, none⟩ : Addr).add (0 * 6) |>.add 0) = some (.int .i64 qs[0].1.id) := k0
        simpa [Addr.add] using World.block_lt_of_cell? w _ this
      · have hj' : j < qs.length := by simpa using hj
        have kk := (hq j hj').1
        have e1 : (qs.map Prod.fst)[j] = qs[j].1 := by simp
        have e2 : (qs.getD j (noRw, ⟨none, 0⟩)).2 = qs[j].2 := by simp [List.getD_eq_getElem?_getD, hj']
        simp only [e1, e2]
        simp only [add_at] at kk
        exact ⟨⟨kk 0 (by omega), kk 1 (by omega), kk 2 (by omega), kk 3 (by omega), kk 4 (by omega), kk 5 (by omega)⟩, (hq j hj').2.1⟩
    · obtain ⟨q, hqm, rfl⟩ := List.mem_map.1 hr
      obtain ⟨j, hj, rfl⟩ := List.getElem_of_mem hqm
      refine (hq j hj).2.2 (fun n hn => hw n ?_)
      rw [show d = _ from congrArg Prod.fst hx4]
      simp only [DataW.weights, Try.underlying28]
      exact List.mem_cons_of_mem _ (List.mem_append.2 (.inl (mem_weightsAll hn (List.mem_map.2 ⟨j, List.mem_range.2 (by omega), rfl⟩))))
    · rw [show d = _ from congrArg Prod.fst hx4] at hw
      have := hw (((List.range len).map D).length * 88 + ((List.range (m - len)).map fun j => D (len + j)).length * 88) (by simp [DataW.weights, Try.underlying28, bytes56, Nat.add_mul])
      simp [hql] at this ⊢
      omega
end
theorem sized_rows {H : Type} {ts : List TypeId} {ds : List (DataW H)} (h : (DataW.weightsEach Try.prog ts ds).all (· ≤ reachBytes) = true) {j : Nat} {d : DataW H} (ht : ts[j]? = some 28) (hd : ds[j]? = some d) : ∀ n ∈ d.weights Try.prog 28, n ≤ 140737488351232 := by
  intro n hn
  have e : reachBytes = 140737488351232 := by decide
  have := List.all_eq_true.1 h _ (DataW.weights_mem_each ht hd n hn)
  rw [e] at this
  simpa using this
end Go.Proofs.Ytlkdklpglmglkaa
