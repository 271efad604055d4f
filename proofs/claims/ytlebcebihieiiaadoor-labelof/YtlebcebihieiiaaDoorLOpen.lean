/-
  What came in: a label, a slice of labels; their strings within the reach.
-/
import Derived.Test.YtlebcebihieiiaaDoorLHeavy
import Derived.Test.YtlebcebihieiiaaDoorLLaid
import Derived.OpenShut
import Derived.ChangeArms
import Derived.SizedLaws
import Derived.WideShapes
import Derived.Deep.Slices
import Derived.ChangeSame
namespace Go.Proofs.YtlebcebihieiiaaDoor
open Go.ChangeShapes Go.WideShapes Go.Deep
set_option linter.unusedVariables false
set_option maxRecDepth 100000
theorem cells9 : Tryd.prog.cellsOf 9 = 1 := by kernel_rfl
theorem cells3 : Tryd.prog.cellsOf 3 = 1 := by kernel_rfl
theorem cells33 : Tryd.prog.cellsOf 33 = 3 := by kernel_rfl
theorem choose_list {α : Type} (d : α) (Q : Nat → α → Prop) : ∀ n : Nat, (∀ i, i < n → ∃ x, Q i x) → ∃ l : List α, l.length = n ∧ ∀ i, (hi : i < l.length) → Q i l[i] := by
  intro n
  induction n with
  | zero => intro _; exact ⟨[], rfl, fun i hi => by simp at hi⟩
  | succ n ih =>
    intro h
    obtain ⟨l, hl, hq⟩ := ih (fun i hi => h i (by omega))
    obtain ⟨x, hx⟩ := h n (by omega)
    refine ⟨l ++ [x], by simp [hl], fun i hi => ?_⟩
    rcases Nat.lt_or_ge i n with hlt | hge
    · rw [List.getElem_append_left (by omega)]; exact hq i (by omega)
    · have : i = n := by simp at hi; omega
      subst this
      rw [List.getElem_append_right (by omega)]
      simpa using hx
theorem add_at (b off j : Nat) : (⟨b, off, none⟩ : Addr).add j = ⟨b, off + j, none⟩ := by unfold Addr.add; split <;> simp_all
theorem i64_of_wf {n : Int} (h : (Lit.int .i64 n).wf = true) : C.I64 n := by
  simp [Lit.wf, IntKind.min, IntKind.max, IntKind.signed, IntKind.bits] at h
  exact ⟨by omega, by omega⟩
section
variable {H : Type} {enc : TypeId × Value → H} {w : World} {base : Nat} {spare : Nat → Bool} {held : Bool}
def labD (L : Lab) : DataW H := .agg [.lit (.string L.tag.data.toList), .lit (.string L.key.data.toList), .lit (.int .i64 L.n)]
theorem lab_cells {fuel : Nat} {cs : List Value} {x : DataW H × List MemPlace} (h : DataW.trod enc Tryd.prog w base spare held fuel 33 cs = some x) :
    ∃ L : Lab, cs = [.string L.tag, .string L.key, .int .i64 L.n] ∧ C.I64 L.n ∧ x.1 = labD L := by
  obtain ⟨xs, n, -, hx, hl, hxl, hf⟩ := DataW.trod_struct Tryd.underlying33 h
  rw [cells33] at hl
  match cs, hl with
  | [v0, v1, v2], _ =>
    match xs, hxl with
    | [y0, y1, y2], _ =>
      have g0 := hf 0 _ rfl
      have g1 := hf 1 _ rfl
      have g2 := hf 2 _ rfl
      obtain ⟨s0, e0, f0, m0⟩ := DataW.trod_string Tryd.underlying9 g0
      obtain ⟨s1, e1, f1, m1⟩ := DataW.trod_string Tryd.underlying9 g1
      obtain ⟨n2, e2, f2, m2⟩ := DataW.trod_int Tryd.underlying3 g2
      have e0' : v0 = .string s0 := by simpa [cells9] using e0
      have e1' : v1 = .string s1 := by simpa [cells9] using e1
      have e2' : v2 = .int .i64 n2 := by simpa [cells3] using e2
      subst e0' e1' e2'
      refine ⟨⟨s0, s1, n2⟩, rfl, i64_of_wf m2, ?_⟩
      rw [hx]
      simp [labD, f0, f1, f2]
theorem lab_in {v : Value} {d : DataW H} {p : List MemPlace} {W : World} {r : Reach} {b0 : Nat} (hok : Value.okWide Tryd.prog W r b0 33 v) (h : DataW.Trod enc Tryd.prog w base spare held 33 v d p) :
    ∃ L : Lab, v = labV L ∧ C.I64 L.n ∧ d = labD L := by
  obtain ⟨cs, rfl, hcs⟩ := okWide_struct Tryd.underlying33 hok
  obtain ⟨fuel, hf⟩ := h
  obtain ⟨L, h1, h2, h3⟩ := lab_cells hf
  refine ⟨L, ?_, h2, h3⟩
  have : cs.toList = [.string L.tag, .string L.key, .int .i64 L.n] := by simpa [Value.cells] using h1
  have e : cs = #[.string L.tag, .string L.key, .int .i64 L.n] := by
    apply Array.ext'
    rw [this]
  rw [e]
theorem labD_w (L : Lab) : L.tag.size ∈ (labD (H := H) L).weights Tryd.prog 33 ∧ L.key.size ∈ (labD (H := H) L).weights Tryd.prog 33 := by
  constructor <;> simp [labD, DataW.weights, Tryd.underlying33, DataW.weightsEach]
theorem labs_in {fuel : Nat} {A : Option Addr} {len cap : Nat} {x : DataW H × List MemPlace} (h : DataW.trod enc Tryd.prog w base spare held fuel 28 [.slice A len cap] = some x) :
    ∃ ls : List Lab, ls.length = len ∧ LRow w w.heap.size A ls ∧ ls.length ≤ cap ∧ cap ≤ maxLen ∧ (∀ L ∈ ls, C.I64 L.n) ∧ (∀ L ∈ ls, ∃ es sp, x.1 = .slice es sp ∧ labD L ∈ es) := by
  rcases open_slice Tryd.underlying28 h with ⟨hcs, -⟩ | ⟨a, len', cap', m, n, D, Pl, hcs, hb, hl, hm, hmm, hx, hi⟩
  · simp at hcs
    obtain ⟨rfl, rfl, rfl⟩ := hcs
    exact ⟨[], rfl, fun h => by simp at h, by simp, by simp [maxLen], (fun L hL => by simp at hL), fun L hL => (by simp at hL)⟩
  · simp at hcs
    obtain ⟨rfl, rfl, rfl⟩ := hcs
    rw [cells33] at hi
    have hml : len ≤ m := by rw [hmm]; split <;> omega
    have key : ∀ i, i < len → ∃ L : Lab, D i = labD L ∧ C.I64 L.n ∧ w.cell? ((a.add (i * 3)).add 0) = some (.string L.tag) ∧ w.cell? ((a.add (i * 3)).add 1) = some (.string L.key) ∧ w.cell? ((a.add (i * 3)).add 2) = some (.int .i64 L.n) := by
      intro i hil
      obtain ⟨cs', hc, ht'⟩ := hi i (by omega)
      obtain ⟨_, hcl, hat⟩ := World.cells?_some hc
      obtain ⟨L, rfl, hLw, hLd⟩ := lab_cells ht'
      exact ⟨L, hLd, hLw, hat 0 (by omega), hat 1 (by omega), hat 2 (by omega)⟩
    rcases Nat.eq_zero_or_pos len with h0 | h0
    · subst h0
      exact ⟨[], rfl, fun h => by simp at h, by simp, hm, (fun L hL => by simp at hL), fun L hL => (by simp at hL)⟩
    · obtain ⟨b, off, spot⟩ := a
      have hspot : spot = none := by
        obtain ⟨x, -, -, k0, -⟩ := key 0 h0
        simpa [Addr.add] using World.cell?_spot k0
      subst hspot
      obtain ⟨ls, hpl, hq⟩ := choose_list (d := zL) (fun i (L : Lab) => D i = labD L ∧ C.I64 L.n ∧ w.cell? ⟨b, off + i * 3, none⟩ = some (.string L.tag) ∧ w.cell? ⟨b, off + i * 3 + 1, none⟩ = some (.string L.key) ∧ w.cell? ⟨b, off + i * 3 + 2, none⟩ = some (.int .i64 L.n)) len (by
        intro i hi
        obtain ⟨x, hd, hw, k0, k1, k2⟩ := key i hi
        simp only [add_at, Nat.add_zero] at k0 k1 k2
        exact ⟨x, hd, hw, k0, k1, k2⟩)
      refine ⟨ls, hpl, fun _ => ⟨b, off, rfl, ?_, fun j hj => (hq j hj).2.2⟩, by omega, hm, fun L hL => ?_, fun L hL => ?_⟩
      · obtain ⟨x, -, -, k0, -⟩ := key 0 h0
        simpa [Addr.add] using World.block_lt_of_cell? w _ k0
      · obtain ⟨j, hj, rfl⟩ := List.mem_iff_getElem.1 hL
        exact (hq j hj).2.1
      · obtain ⟨j, hj, rfl⟩ := List.mem_iff_getElem.1 hL
        refine ⟨_, _, by rw [hx], ?_⟩
        rw [← (hq j hj).1]
        exact List.mem_map.2 ⟨j, List.mem_range.2 (by omega), rfl⟩
end
theorem mem_weightsAll {H : Type} {P : Program} {e : TypeId} {n : Nat} : ∀ {ds : List (DataW H)} {d : DataW H}, n ∈ d.weights P e → d ∈ ds → n ∈ DataW.weightsAll P e ds
  | [], d, _, hd => by simp at hd
  | y :: ds, d, hn, hd => by
    rw [DataW.weightsAll]
    rcases List.mem_cons.1 hd with rfl | hd
    · exact List.mem_append.2 (.inl hn)
    · exact List.mem_append.2 (.inr (mem_weightsAll hn hd))
theorem sized_any {H : Type} {ts : List TypeId} {ds : List (DataW H)} (h : (DataW.weightsEach Tryd.prog ts ds).all (· ≤ reachBytes) = true) {j : Nat} {t : TypeId} {d : DataW H} (ht : ts[j]? = some t) (hd : ds[j]? = some d) : ∀ n ∈ d.weights Tryd.prog t, n ≤ 140737488351232 := by
  intro n hn
  have e : reachBytes = 140737488351232 := by decide
  have := List.all_eq_true.1 h _ (DataW.weights_mem_each ht hd n hn)
  rw [e] at this
  simpa using this
theorem fit_lab {H : Type} {L : Lab} (hn : C.I64 L.n) (h : ∀ n ∈ (labD (H := H) L).weights Tryd.prog 33, n ≤ 140737488351232) : LFit L := ⟨by have := h _ (labD_w L).1; omega, by have := h _ (labD_w L).2; omega, hn⟩
theorem fit_labs {H : Type} {d : DataW H} {ls : List Lab} (hn : ∀ L ∈ ls, C.I64 L.n) (hd : ∀ L ∈ ls, ∃ es sp, d = .slice es sp ∧ labD L ∈ es) (h : ∀ n ∈ d.weights Tryd.prog 28, n ≤ 140737488351232) : ∀ L ∈ ls, LFit L := by
  intro L hL
  obtain ⟨es, sp, he, hm⟩ := hd L hL
  refine fit_lab (H := H) (hn L hL) (fun n hn' => h n ?_)
  rw [he]
  simp only [DataW.weights, Tryd.underlying28]
  exact List.mem_cons_of_mem _ (List.mem_append.2 (.inl (mem_weightsAll hn' hm)))
end Go.Proofs.YtlebcebihieiiaaDoor
