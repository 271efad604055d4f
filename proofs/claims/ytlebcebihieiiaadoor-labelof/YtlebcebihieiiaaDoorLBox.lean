/-
  A label in a box of its own.
-/
import Derived.Test.YtlebcebihieiiaaDoorLRead
namespace Go.Proofs.YtlebcebihieiiaaDoor
open Go.RowKit Go.Sort
set_option linter.unusedVariables false
def zL : Lab := ⟨noS, noS, 0⟩
abbrev labC (x : Lab) : Array Value := #[.string x.tag, .string x.key, .int .i64 x.n]
def BoxL (W : World) (b : Nat) (x : Lab) : Prop := W.heap[b]? = some (.cells (labC x) 33 (0, 0))
theorem BoxL.lt {W : World} {b : Nat} {x : Lab} (h : BoxL W b x) : b < W.heap.size := (Array.getElem?_eq_some_iff.1 h).1
theorem BoxL.cells {W : World} {b : Nat} {x : Lab} (h : BoxL W b x) : W.cell? ⟨b, 0, none⟩ = some (.string x.tag) ∧ W.cell? ⟨b, 1, none⟩ = some (.string x.key) ∧ W.cell? ⟨b, 2, none⟩ = some (.int .i64 x.n) := by
  have e : ∀ j, W.cell? ⟨b, j, none⟩ = (labC x)[j]? := fun j => cell_of_row _ _ _ _ _ (0, 0) h
  rw [e, e, e]; exact ⟨rfl, rfl, rfl⟩
theorem BoxL.frozen {W : World} {b : Nat} {x : Lab} (h : BoxL W b x) (j : Nat) : W.frozen? ⟨b, j, none⟩ = false := by
  simp [World.frozen?, show W.heap[b]? = _ from h]
theorem BoxL.below {W W' : World} {b n : Nat} {x : Lab} (h : BoxL W b x) (hb : Below n W W') (hn : b < n) : BoxL W' b x := (hb.block b hn).trans h
theorem BoxL.new (W : World) (x : Lab) : BoxL (lboxW W x) W.heap.size x := heap_alloc_new W _
def putL (W : World) (b : Nat) (x : Lab) : World := ((W.setCell ⟨b, 0, none⟩ (.string x.tag)).setCell ⟨b, 1, none⟩ (.string x.key)).setCell ⟨b, 2, none⟩ (.int .i64 x.n)
theorem BoxL.put {W : World} {b : Nat} {y : Lab} (h : BoxL W b y) (x : Lab) : BoxL (putL W b x) b x := by
  have hh : W.heap[b]? = _ := h
  unfold BoxL putL
  simp only [World.setCell, Array.getElem?_modify, if_true, hh, Option.map_some]
  rfl
theorem BoxL.other {W : World} {b b' : Nat} {x y : Lab} (h : BoxL W b x) (hne : b ≠ b') : BoxL (putL W b' y) b x := by
  unfold BoxL putL
  rw [Below.heap_setCell _ _ _ _ hne, Below.heap_setCell _ _ _ _ hne, Below.heap_setCell _ _ _ _ hne]
  exact h
theorem BoxL.key {W : World} {b : Nat} {y : Lab} (h : BoxL W b y) (k : ByteArray) : BoxL (W.setCell ⟨b, 1, none⟩ (.string k)) b ⟨y.tag, k, y.n⟩ := by
  have hh : W.heap[b]? = _ := h
  unfold BoxL
  simp only [World.setCell, Array.getElem?_modify, if_true, hh, Option.map_some]
  rfl
theorem BoxL.num {W : World} {b : Nat} {y : Lab} (h : BoxL W b y) (n : Int) : BoxL (W.setCell ⟨b, 2, none⟩ (.int .i64 n)) b ⟨y.tag, y.key, n⟩ := by
  have hh : W.heap[b]? = _ := h
  unfold BoxL
  simp only [World.setCell, Array.getElem?_modify, if_true, hh, Option.map_some]
  rfl
theorem BoxL.otherCell {W : World} {b b' j : Nat} {x : Lab} (h : BoxL W b x) (hne : b ≠ b') (v : Value) : BoxL (W.setCell ⟨b', j, none⟩ v) b x := by
  unfold BoxL
  rw [Below.heap_setCell _ _ _ _ hne]
  exact h
theorem putL_below {W : World} {b n : Nat} (hB : n ≤ b) (x : Lab) {W0 : World} (h0 : Below n W0 W) : Below n W0 (putL W b x) :=
  ((h0.setCell (p := ⟨b, 0, none⟩) hB _).setCell (p := ⟨b, 1, none⟩) hB _).setCell (p := ⟨b, 2, none⟩) hB _
def resV (o : Option Lab) : Value := match o with
  | some x => .tuple #[labV x, .int .i64 0]
  | none => .tuple #[labV zL, .int .i64 2]
def ReadPost (w : World) (s : ByteArray) (e : Ending) (w' : World) : Prop := ∃ o, ReadIs s o ∧ e = .returned (resV o) ∧ Below w.heap.size w w'
theorem results_read (tmps : Array Value) (w : World) (B : Nat) (x : Lab) (v : Value) (hp : tmps.getD 2 undef = .pointer (some ⟨B, 0, none⟩)) (hv : tmps.getD 3 undef = v) (hg : BoxL w B x) :
    (results Tryd.f12 tmps).run Tryd.prog w = .ok (.tuple #[labV x, v]) w := by
  rw [results_cell_tmp rfl, hp, hv]
  simp [asAddr, run_loadVar_row w B 33 33 _ (0, 0) _ hg Tryd.underlying33 rfl (by kernel_rfl)]
theorem results_rread (tmps : Array Value) (w : World) (B : Nat) (x : Lab) (v : Value) (hp : tmps.getD 2 undef = .pointer (some ⟨B, 0, none⟩)) (hv : tmps.getD 3 undef = v) (hg : BoxL w B x) :
    (results Tryd.f19 tmps).run Tryd.prog w = .ok (.tuple #[labV x, v]) w := by
  rw [results_cell_tmp rfl, hp, hv]
  simp [asAddr, run_loadVar_row w B 33 33 _ (0, 0) _ hg Tryd.underlying33 rfl (by kernel_rfl)]
theorem run_min33 (w : World) (ts : Array TypeId) (t : TypeId) (n k : Nat) (hk : k = min n 33) : Sem.run Tryd.prog (Builtin.min_ ts t #[.int .i64 (n : Int), .int .i64 33]) w = .ok (.int .i64 (k : Int)) w := by
  by_cases h : n ≤ 33
  · have e : (k : Int) = n := by omega
    rw [e]
    by_cases h2 : (33 : Int) < n
    · omega
    · simp [Builtin.min_, Builtin.min2, h2]
  · have e : (k : Int) = 33 := by omega
    rw [e]
    have h2 : (33 : Int) < n := by omega
    simp [Builtin.min_, Builtin.min2, h2]
end Go.Proofs.YtlebcebihieiiaaDoor
