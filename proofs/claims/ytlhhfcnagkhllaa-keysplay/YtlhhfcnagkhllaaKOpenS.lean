/-
  What came in: a slice of labels; a slice of acts.
-/
import Derived.Test.YtlhhfcnagkhllaaKOpen
import Derived.Deep.Slices
import Derived.ChangeSame
namespace Go.Proofs.Ytlhhfcnagkhllaa
open Go.ChangeShapes Go.WideShapes Go.Deep
set_option linter.unusedVariables false

theorem choose_list {α : Type} (d : α) (Q : Nat → α → Prop) : ∀ n : Nat, (∀ i, i < n → ∃ x, Q i x) → ∃ l : List α, l.length = n ∧ ∀ i, (hi : i < l.length) → Q i l[i] := by
  intro n
  induction n with
  | zero => intro _; exact ⟨[], rfl, fun i hi => by simp at hi⟩
  | succ n ih =>
    intro h
    obtain ⟨l, hl, hq⟩ := ih (fun i hi => h i (by omega))
    obtain ⟨x, hx⟩ := h n (by omega)
    refine ⟨l ++ [x], by simp [hl], fun i hi => ?_⟩
    rcases Nat.lt_or_ge i n with hlt | hge
    · rw [List.getElem_append_left (by omega)]; exact hq i (by omega)
    · have : i = n := by simp at hi; omega
      subst this
      rw [List.getElem_append_right (by omega)]
      simpa using hx
theorem add_at (b off j : Nat) : (⟨b, off, none⟩ : Addr).add j = ⟨b, off + j, none⟩ := by unfold Addr.add; split <;> simp_all
/-- An act: what is done, with which label, with which number. -/
structure ActL where
  kind : Int
  key : Lab
  n : Int
abbrev noAct : ActL := ⟨0, noLab, 0⟩
structure AWf (a : ActL) : Prop where
  kind : wf64 a.kind
  key : LWf a.key
  n : wf64 a.n
def ARow (w : World) (B : Nat) (A : Option Addr) (ls : List ActL) : Prop :=
  0 < ls.length → ∃ b off, A = some ⟨b, off, none⟩ ∧ b < B ∧ ∀ j, (hj : j < ls.length) → w.cell? ⟨b, off + j * 5, none⟩ = some (.int .i64 ls[j].kind) ∧ w.cell? ⟨b, off + j * 5 + 1, none⟩ = some (.string ls[j].key.tag) ∧ w.cell? ⟨b, off + j * 5 + 2, none⟩ = some (.string ls[j].key.key) ∧ w.cell? ⟨b, off + j * 5 + 3, none⟩ = some (.int .i64 ls[j].key.n) ∧ w.cell? ⟨b, off + j * 5 + 4, none⟩ = some (.int .i64 ls[j].n)
theorem cells32 : Try.prog.cellsOf 32 = 5 := by kernel_rfl

section
variable {H : Type} {enc : TypeId × Value → H} {w : World} {base : Nat} {spare : Nat → Bool} {held : Bool}
theorem labs_in {fuel : Nat} {A : Option Addr} {len cap : Nat} {x : DataW H × List MemPlace} (h : DataW.trod enc Try.prog w base spare held fuel 43 [.slice A len cap] = some x) :
    ∃ ls : List Lab, ls.length = len ∧ LRow w w.heap.size A ls ∧ ls.length ≤ cap ∧ cap ≤ maxLen ∧ ∀ L ∈ ls, LWf L := by
  rcases open_slice Try.underlying43 h with ⟨hcs, -⟩ | ⟨a, len', cap', m, n, D, Pl, hcs, hb, hl, hm, hmm, hx, hi⟩
  · simp at hcs
    obtain ⟨rfl, rfl, rfl⟩ := hcs
    exact ⟨[], rfl, fun h => by simp at h, by simp, by simp [maxLen], fun L hL => by simp at hL⟩
  · simp at hcs
    obtain ⟨rfl, rfl, rfl⟩ := hcs
    rw [cells30] at hi
    have hml : len ≤ m := by rw [hmm]; split <;> omega
    have key : ∀ i, i < len → ∃ L : Lab, LWf L ∧ w.cell? ((a.add (i * 3)).add 0) = some (.string L.tag) ∧ w.cell? ((a.add (i * 3)).add 1) = some (.string L.key) ∧ w.cell? ((a.add (i * 3)).add 2) = some (.int .i64 L.n) := by
      intro i hil
      obtain ⟨cs', hc, ht'⟩ := hi i (by omega)
      obtain ⟨_, hcl, hat⟩ := World.cells?_some hc
      obtain ⟨L, rfl, hLw, -⟩ := lab_cells ht'
      exact ⟨L, hLw, hat 0 (by omega), hat 1 (by omega), hat 2 (by omega)⟩
    rcases Nat.eq_zero_or_pos len with h0 | h0
    · subst h0
      exact ⟨[], rfl, fun h => by simp at h, by simp, hm, fun L hL => by simp at hL⟩
    · obtain ⟨b, off, spot⟩ := a
      have hspot : spot = none := by
        obtain ⟨x, -, k0, -⟩ := key 0 h0
        simpa [Addr.add] using World.cell?_spot k0
      subst hspot
      obtain ⟨ls, hpl, hq⟩ := choose_list (d := noLab) (fun i (L : Lab) => LWf L ∧ w.cell? ⟨b, off + i * 3, none⟩ = some (.string L.tag) ∧ w.cell? ⟨b, off + i * 3 + 1, none⟩ = some (.string L.key) ∧ w.cell? ⟨b, off + i * 3 + 2, none⟩ = some (.int .i64 L.n)) len (by
        intro i hi
        obtain ⟨x, hw, k0, k1, k2⟩ := key i hi
        simp only [add_at, Nat.add_zero] at k0 k1 k2
        exact ⟨x, hw, k0, k1, k2⟩)
      refine ⟨ls, hpl, fun _ => ⟨b, off, rfl, ?_, fun j hj => (hq j hj).2⟩, by omega, hm, fun L hL => ?_⟩
      · obtain ⟨x, -, k0, -⟩ := key 0 h0
        simpa [Addr.add] using World.block_lt_of_cell? w _ k0
      · obtain ⟨j, hj, rfl⟩ := List.mem_iff_getElem.1 hL
        exact (hq j hj).1
theorem act_cells {fuel : Nat} {cs : List Value} {x : DataW H × List MemPlace} (h : DataW.trod enc Try.prog w base spare held fuel 32 cs = some x) :
    ∃ a : ActL, cs = [.int .i64 a.kind, .string a.key.tag, .string a.key.key, .int .i64 a.key.n, .int .i64 a.n] ∧ AWf a := by
  obtain ⟨xs, n, -, hx, hl, hxl, hf⟩ := DataW.trod_struct Try.underlying32 h
  rw [cells32] at hl
  match cs, hl with
  | [v0, v1, v2, v3, v4], _ =>
    match xs, hxl with
    | [y0, y1, y2], _ =>
      have g0 := hf 0 _ rfl
      have g1 := hf 1 _ rfl
      have g2 := hf 2 _ rfl
      obtain ⟨n0, e0, f0, m0⟩ := DataW.trod_int Try.underlying3 g0
      obtain ⟨L, e1, lw, -⟩ := lab_cells g1
      obtain ⟨n2, e2, f2, m2⟩ := DataW.trod_int Try.underlying3 g2
      have e0' : v0 = .int .i64 n0 := by simpa [cells3] using e0
      have e1' : v1 = .string L.tag ∧ v2 = .string L.key ∧ v3 = .int .i64 L.n := by simpa [cells30] using e1
      have e2' : v4 = .int .i64 n2 := by simpa [cells3] using e2
      obtain ⟨rfl, rfl, rfl⟩ := e1'
      subst e0' e2'
      exact ⟨⟨n0, L, n2⟩, rfl, m0, lw, m2⟩
theorem acts_in {fuel : Nat} {A : Option Addr} {len cap : Nat} {x : DataW H × List MemPlace} (h : DataW.trod enc Try.prog w base spare held fuel 22 [.slice A len cap] = some x) :
    ∃ ls : List ActL, ls.length = len ∧ ARow w w.heap.size A ls ∧ ls.length ≤ cap ∧ cap ≤ maxLen ∧ ∀ L ∈ ls, AWf L := by
  rcases open_slice Try.underlying22 h with ⟨hcs, -⟩ | ⟨a, len', cap', m, n, D, Pl, hcs, hb, hl, hm, hmm, hx, hi⟩
  · simp at hcs
    obtain ⟨rfl, rfl, rfl⟩ := hcs
    exact ⟨[], rfl, fun h => by simp at h, by simp, by simp [maxLen], fun L hL => by simp at hL⟩
  · simp at hcs
    obtain ⟨rfl, rfl, rfl⟩ := hcs
    rw [cells32] at hi
    have hml : len ≤ m := by rw [hmm]; split <;> omega
    have key : ∀ i, i < len → ∃ L : ActL, AWf L ∧ w.cell? ((a.add (i * 5)).add 0) = some (.int .i64 L.kind) ∧ w.cell? ((a.add (i * 5)).add 1) = some (.string L.key.tag) ∧ w.cell? ((a.add (i * 5)).add 2) = some (.string L.key.key) ∧ w.cell? ((a.add (i * 5)).add 3) = some (.int .i64 L.key.n) ∧ w.cell? ((a.add (i * 5)).add 4) = some (.int .i64 L.n) := by
      intro i hil
      obtain ⟨cs', hc, ht'⟩ := hi i (by omega)
      obtain ⟨_, hcl, hat⟩ := World.cells?_some hc
      obtain ⟨L, rfl, hLw⟩ := act_cells ht'
      exact ⟨L, hLw, hat 0 (by omega), hat 1 (by omega), hat 2 (by omega), hat 3 (by omega), hat 4 (by omega)⟩
    rcases Nat.eq_zero_or_pos len with h0 | h0
    · subst h0
      exact ⟨[], rfl, fun h => by simp at h, by simp, hm, fun L hL => by simp at hL⟩
    · obtain ⟨b, off, spot⟩ := a
      have hspot : spot = none := by
        obtain ⟨x, -, k0, -⟩ := key 0 h0
        simpa [Addr.add] using World.cell?_spot k0
      subst hspot
      obtain ⟨ls, hpl, hq⟩ := choose_list (d := noAct) (fun i (L : ActL) => AWf L ∧ w.cell? ⟨b, off + i * 5, none⟩ = some (.int .i64 L.kind) ∧ w.cell? ⟨b, off + i * 5 + 1, none⟩ = some (.string L.key.tag) ∧ w.cell? ⟨b, off + i * 5 + 2, none⟩ = some (.string L.key.key) ∧ w.cell? ⟨b, off + i * 5 + 3, none⟩ = some (.int .i64 L.key.n) ∧ w.cell? ⟨b, off + i * 5 + 4, none⟩ = some (.int .i64 L.n)) len (by
        intro i hi
        obtain ⟨x, hw, k0, k1, k2, k3, k4⟩ := key i hi
        simp only [add_at, Nat.add_zero] at k0 k1 k2 k3 k4
        exact ⟨x, hw, k0, k1, k2, k3, k4⟩)
      refine ⟨ls, hpl, fun _ => ⟨b, off, rfl, ?_, fun j hj => (hq j hj).2⟩, by omega, hm, fun L hL => ?_⟩
      · obtain ⟨x, -, k0, -⟩ := key 0 h0
        simpa [Addr.add] using World.block_lt_of_cell? w _ k0
      · obtain ⟨j, hj, rfl⟩ := List.mem_iff_getElem.1 hL
        exact (hq j hj).1
end
end Go.Proofs.Ytlhhfcnagkhllaa
