/-
  A data value in memory. | A struct of five cells in a box of its own, block and all.
-/
import Derived.Test.YtjnhcoflmechmaaGreatDoorTree
import Derived.Test.YtjnhcoflmechmaaGreatDoorDParse
namespace Go.Proofs.YtjnhcoflmechmaaGreatDoor
open Go.RowKit Go.Sort
set_option linter.unusedVariables false
set_option maxRecDepth 100000
/-- A slice of strings. -/
def SRow (w : World) (B : Nat) (A : Option Addr) (ns : List ByteArray) : Prop :=
  0 < ns.length → ∃ b off, A = some ⟨b, off, none⟩ ∧ b < B ∧ ∀ j, (hj : j < ns.length) → w.cell? ⟨b, off + j, none⟩ = some (.string ns[j])
theorem srow_at {w : World} {B : Nat} {A : Option Addr} {ns : List ByteArray} (h : SRow w B A ns) {j : Nat} (hj : j < ns.length) :
    ∃ b off p, A = some ⟨b, off, none⟩ ∧ b < B ∧ p = ns[j] ∧ w.cell? ⟨b, off + j, none⟩ = some (.string p) := by
  obtain ⟨b, off, hA, hb, hc⟩ := h (by omega)
  exact ⟨b, off, _, hA, hb, rfl, hc j hj⟩
theorem SRow.below {w w' : World} {B : Nat} {A : Option Addr} {ns : List ByteArray} (h : SRow w B A ns) (hb : Below B w w') : SRow w' B A ns := by
  intro h0
  obtain ⟨b, off, hA, hlt, hc⟩ := h h0
  exact ⟨b, off, hA, hlt, fun j hj => (hb.cell (p := ⟨b, off + j, none⟩) hlt).trans (hc j hj)⟩
theorem SRow.mono {w : World} {B B' : Nat} {A : Option Addr} {ns : List ByteArray} (h : SRow w B A ns) (hb : B ≤ B') : SRow w B' A ns := by
  intro h0
  obtain ⟨b, off, hA, hlt, hc⟩ := h h0
  exact ⟨b, off, hA, by omega, hc⟩
theorem SRow.up {w w' : World} {A : Option Addr} {ns : List ByteArray} (h : SRow w w.heap.size A ns) (hb : Below w.heap.size w w') : SRow w' w'.heap.size A ns := (h.below hb).mono hb.size
theorem SRow.nil (w : World) (B : Nat) (A : Option Addr) : SRow w B A [] := fun h => by simp at h
/-- The five cells of a value. -/
structure DatCells (w : World) (b o : Nat) (d : Dt) (x : NV) : Prop where
  c0 : w.cell? ⟨b, o, none⟩ = some (.int .i64 d.kind)
  c1 : w.cell? ⟨b, o + 1, none⟩ = some (.int .i64 d.num)
  c2 : w.cell? ⟨b, o + 2, none⟩ = some (.string d.text)
  c3 : w.cell? ⟨b, o + 3, none⟩ = some (.slice x.A d.names.length x.ca)
  c4 : w.cell? ⟨b, o + 4, none⟩ = some (.slice x.K d.list.length x.ck)
def datCells (d : Dt) (x : NV) : List Value := [.int .i64 d.kind, .int .i64 d.num, .string d.text, .slice x.A d.names.length x.ca, .slice x.K d.list.length x.ck]
abbrev datV (d : Dt) (x : NV) : Value := .agg #[.int .i64 d.kind, .int .i64 d.num, .string d.text, .slice x.A d.names.length x.ca, .slice x.K d.list.length x.ck]
theorem DatCells.block_lt {w : World} {b o : Nat} {d : Dt} {x : NV} (h : DatCells w b o d x) : b < w.heap.size := World.block_lt_of_cell? w _ h.c0
theorem DatCells.kept {w w' : World} {b o : Nat} {d : Dt} {x : NV} (h : DatCells w b o d x) {S : Nat → Prop} (hk : Kept S w w') (hs : ¬ S b) : DatCells w' b o d x := ⟨hk.cellOf h.c0 hs, hk.cellOf h.c1 hs, hk.cellOf h.c2 hs, hk.cellOf h.c3 hs, hk.cellOf h.c4 hs⟩
theorem DatCells.below {w w' : World} {B b o : Nat} {d : Dt} {x : NV} (h : DatCells w b o d x) (hb : Below B w w') (hlt : b < B) : DatCells w' b o d x :=
  ⟨(hb.cell (p := ⟨b, o, none⟩) hlt).trans h.c0, (hb.cell (p := ⟨b, o + 1, none⟩) hlt).trans h.c1, (hb.cell (p := ⟨b, o + 2, none⟩) hlt).trans h.c2, (hb.cell (p := ⟨b, o + 3, none⟩) hlt).trans h.c3, (hb.cell (p := ⟨b, o + 4, none⟩) hlt).trans h.c4⟩
abbrev boxD (w : World) (d : Dt) (x : NV) : World := w.alloc (.cells #[.int .i64 d.kind, .int .i64 d.num, .string d.text, .slice x.A d.names.length x.ca, .slice x.K d.list.length x.ck] 46)
theorem box_dat (w : World) (d : Dt) (x : NV) : DatCells (boxD w d x) w.heap.size 0 d x := by
  have e : ∀ j, (boxD w d x).cell? ⟨w.heap.size, j, none⟩ = (#[.int .i64 d.kind, .int .i64 d.num, .string d.text, .slice x.A d.names.length x.ca, .slice x.K d.list.length x.ck] : Array Value)[j]? := fun j => cell_of_row _ _ _ _ _ (0, 0) (heap_alloc_new w _)
  exact ⟨by rw [e]; rfl, by rw [e]; rfl, by rw [e]; rfl, by rw [e]; rfl, by rw [e]; rfl⟩
theorem boxD_out {w w1 : World} {d : Dt} {x : NV} (h : RowKit.Hid (w1 = boxD w d x)) : w.alloc (.cells #[.int .i64 d.kind, .int .i64 d.num, .string d.text, .slice x.A d.names.length x.ca, .slice x.K d.list.length x.ck] 46) = w1 := h.out.symm
theorem below_boxD (w : World) (d : Dt) (x : NV) : Below w.heap.size w (boxD w d x) := (Below.refl _ _).alloc (Nat.le_refl _) _
/-- A value whose two slices lie at x, all its memory below B. -/
inductive DatAt (w : World) (B : Nat) : Dt → NV → Prop
  | mk {d : Dt} {x : NV} (X : Nat → NV) (nm : SRow w B x.A d.names) (h1 : d.names.length ≤ x.ca) (h2 : x.ca ≤ maxLen) (h3 : x.A = none → x.ca = 0) (h4 : d.list.length ≤ x.ck) (h5 : x.ck ≤ maxLen) (h6 : x.K = none → x.ck = 0)
      (row : 0 < d.list.length → ∃ b off, x.K = some ⟨b, off, none⟩ ∧ b < B ∧ ∀ j, (h : j < d.list.length) → DatCells w b (off + j * 5) d.list[j] (X j))
      (sub : ∀ j, (h : j < d.list.length) → DatAt w B d.list[j] (X j)) : DatAt w B d x
theorem DatAt.keepB {w w' : World} {B : Nat} {d : Dt} {x : NV} (h : DatAt w B d x) (hb : Below B w w') : DatAt w' B d x := by
  induction h with
  | mk X nm h1 h2 h3 h4 h5 h6 row sub ih =>
    refine .mk X (nm.below hb) h1 h2 h3 h4 h5 h6 (fun h0 => ?_) ih
    obtain ⟨b, off, hK, hlt, hc⟩ := row h0
    exact ⟨b, off, hK, hlt, fun j hj => (hc j hj).below hb hlt⟩
theorem DatAt.mono {w : World} {B B' : Nat} {d : Dt} {x : NV} (h : DatAt w B d x) (hB : B ≤ B') : DatAt w B' d x := by
  induction h with
  | mk X nm h1 h2 h3 h4 h5 h6 row sub ih =>
    refine .mk X (nm.mono hB) h1 h2 h3 h4 h5 h6 (fun h0 => ?_) ih
    obtain ⟨b, off, hK, hlt, hc⟩ := row h0
    exact ⟨b, off, hK, by omega, hc⟩
theorem DatAt.up {w w' : World} {d : Dt} {x : NV} (h : DatAt w w.heap.size d x) (hb : Below w.heap.size w w') : DatAt w' w'.heap.size d x := (h.keepB hb).mono hb.size
theorem DatAt.names {w : World} {B : Nat} {d : Dt} {x : NV} (h : DatAt w B d x) : SRow w B x.A d.names := by cases h; assumption
theorem DatAt.caps {w : World} {B : Nat} {d : Dt} {x : NV} (h : DatAt w B d x) : d.names.length ≤ x.ca ∧ x.ca ≤ maxLen ∧ (x.A = none → x.ca = 0) ∧ d.list.length ≤ x.ck ∧ x.ck ≤ maxLen ∧ (x.K = none → x.ck = 0) := by cases h; exact ⟨by assumption, by assumption, by assumption, by assumption, by assumption, by assumption⟩
theorem DatAt.kid {w : World} {B : Nat} {d : Dt} {x : NV} (h : DatAt w B d x) {j : Nat} (hj : j < d.list.length) :
    ∃ b off k y, x.K = some ⟨b, off, none⟩ ∧ b < B ∧ k = d.list[j] ∧ DatCells w b (off + j * 5) k y ∧ DatAt w B k y := by
  cases h with
  | mk X nm h1 h2 h3 h4 h5 h6 row sub =>
    obtain ⟨b, off, hK, hlt, hc⟩ := row (by omega)
    exact ⟨b, off, _, X j, hK, hlt, rfl, hc j hj, sub j hj⟩
theorem dat_zero (w : World) (B : Nat) (k n : Int) (t : ByteArray) : DatAt w B (.mk k n t [] []) ⟨none, 0, none, 0⟩ := .mk (fun _ => ⟨none, 0, none, 0⟩) (SRow.nil _ _ _) (Nat.le_refl _) (by simp [maxLen]) (fun _ => rfl) (Nat.le_refl _) (by simp [maxLen]) (fun _ => rfl) (fun h => by simp [Dt.list] at h) (fun j h => by simp [Dt.list] at h)
/-- Sizes that the calls bear. -/
inductive GoodD : Dt → Prop
  | mk {d : Dt} (h1 : C.I64 d.kind) (h2 : C.I64 d.num) (h3 : d.text.size ≤ 100000000) (h4 : d.names.length ≤ 1000000) (h5 : ∀ n ∈ d.names, n.size ≤ maxLen) (h6 : d.list.length ≤ 1000000) (sub : ∀ k ∈ d.list, GoodD k) : GoodD d
theorem GoodD.kid {d : Dt} (h : GoodD d) {k : Dt} {j : Nat} (hj : j < d.list.length) (hk : k = d.list[j]) : GoodD k := by
  cases h with
  | mk h1 h2 h3 h4 h5 h6 sub => rw [hk]; exact sub _ (List.getElem_mem _)
theorem GoodD.sizes {d : Dt} (h : GoodD d) : C.I64 d.kind ∧ C.I64 d.num ∧ d.text.size ≤ 100000000 ∧ d.names.length ≤ 1000000 ∧ (∀ n ∈ d.names, n.size ≤ maxLen) ∧ d.list.length ≤ 1000000 := by
  cases h with
  | mk h1 h2 h3 h4 h5 h6 sub => exact ⟨h1, h2, h3, h4, h5, h6⟩
theorem good_nums : ∀ {d : Dt}, GoodD d → NumsD d := by
  refine fun {d} => dt_ind (P := fun d => GoodD d → NumsD d) (fun d ih h => ?_) d
  cases h with
  | mk h1 h2 h3 h4 h5 h6 sub => exact .mk h1 h2 (fun k hk => ih k hk (sub k hk))
inductive FitD : Dt → Prop
  | mk {d : Dt} (h1 : C.I64 d.kind) (h2 : C.I64 d.num) (h3 : d.text.size ≤ 140737488355328) (h4 : d.names.length ≤ 140737488355328) (h5 : ∀ n ∈ d.names, n.size ≤ maxLen) (h6 : d.list.length ≤ 140737488355328) (sub : ∀ k ∈ d.list, FitD k) : FitD d
theorem FitD.sizes {d : Dt} (h : FitD d) : C.I64 d.kind ∧ C.I64 d.num ∧ d.text.size ≤ 140737488355328 ∧ d.names.length ≤ 140737488355328 ∧ (∀ n ∈ d.names, n.size ≤ maxLen) ∧ d.list.length ≤ 140737488355328 := by
  cases h with
  | mk h1 h2 h3 h4 h5 h6 sub => exact ⟨h1, h2, h3, h4, h5, h6⟩
theorem FitD.kid {d : Dt} (h : FitD d) {k : Dt} {j : Nat} (hj : j < d.list.length) (hk : k = d.list[j]) : FitD k := by
  cases h with
  | mk h1 h2 h3 h4 h5 h6 sub => rw [hk]; exact sub _ (List.getElem_mem _)
/-- How many values and names there are. -/
def sizeD : Dt → Nat
  | .mk a b c n l => 1 + n.length + sizeDL l
where sizeDL : List Dt → Nat
  | [] => 0
  | x :: r => sizeD x + sizeDL r
end Go.Proofs.YtjnhcoflmechmaaGreatDoor

namespace Go.Proofs.YtjnhcoflmechmaaGreatDoor
open Go.RowKit Go.Sort
set_option linter.unusedVariables false
def NewIn (w w' : World) : Nat → Prop := fun b => w.heap.size ≤ b ∧ b < w'.heap.size
def B5 (W : World) (b : Nat) (t : TypeId) (v0 v1 v2 v3 v4 : Value) : Prop := W.heap[b]? = some (.cells #[v0, v1, v2, v3, v4] t (0, 0))
section
variable {W : World} {b : Nat} {t : TypeId} {v0 v1 v2 v3 v4 : Value}
theorem B5.lt (h : B5 W b t v0 v1 v2 v3 v4) : b < W.heap.size := (Array.getElem?_eq_some_iff.1 h).1
theorem B5.cells (h : B5 W b t v0 v1 v2 v3 v4) : W.cell? ⟨b, 0, none⟩ = some v0 ∧ W.cell? ⟨b, 1, none⟩ = some v1 ∧ W.cell? ⟨b, 2, none⟩ = some v2 ∧ W.cell? ⟨b, 3, none⟩ = some v3 ∧ W.cell? ⟨b, 4, none⟩ = some v4 := by
  have e : ∀ j, W.cell? ⟨b, j, none⟩ = (#[v0, v1, v2, v3, v4] : Array Value)[j]? := fun j => cell_of_row _ _ _ _ _ (0, 0) h
  exact ⟨by rw [e]; rfl, by rw [e]; rfl, by rw [e]; rfl, by rw [e]; rfl, by rw [e]; rfl⟩
theorem B5.frozen (h : B5 W b t v0 v1 v2 v3 v4) (j : Nat) : W.frozen? ⟨b, j, none⟩ = false := by
  simp [World.frozen?, show W.heap[b]? = _ from h]
theorem B5.kept {W' : World} (h : B5 W b t v0 v1 v2 v3 v4) {S : Nat → Prop} (hk : Kept S W W') (hs : ¬ S b) : B5 W' b t v0 v1 v2 v3 v4 := (hk.block b h.lt hs).trans h
theorem B5.below {W' : World} {B : Nat} (h : B5 W b t v0 v1 v2 v3 v4) (hb : Below B W W') (hlt : b < B) : B5 W' b t v0 v1 v2 v3 v4 := (hb.block b hlt).trans h
theorem B5.new (W : World) (t : TypeId) (v0 v1 v2 v3 v4 : Value) (b : Nat) (hb : b = W.heap.size) : B5 (W.alloc (.cells #[v0, v1, v2, v3, v4] t)) b t v0 v1 v2 v3 v4 := by subst hb; exact heap_alloc_new W _
theorem B5.set0 (h : B5 W b t v0 v1 v2 v3 v4) (u : Value) : B5 (W.setCell ⟨b, 0, none⟩ u) b t u v1 v2 v3 v4 := by
  have hh : W.heap[b]? = _ := h
  unfold B5
  simp only [World.setCell, Array.getElem?_modify, if_true, hh, Option.map_some]
  rfl
theorem B5.set1 (h : B5 W b t v0 v1 v2 v3 v4) (u : Value) : B5 (W.setCell ⟨b, 1, none⟩ u) b t v0 u v2 v3 v4 := by
  have hh : W.heap[b]? = _ := h
  unfold B5
  simp only [World.setCell, Array.getElem?_modify, if_true, hh, Option.map_some]
  rfl
theorem B5.set2 (h : B5 W b t v0 v1 v2 v3 v4) (u : Value) : B5 (W.setCell ⟨b, 2, none⟩ u) b t v0 v1 u v3 v4 := by
  have hh : W.heap[b]? = _ := h
  unfold B5
  simp only [World.setCell, Array.getElem?_modify, if_true, hh, Option.map_some]
  rfl
theorem B5.set3 (h : B5 W b t v0 v1 v2 v3 v4) (u : Value) : B5 (W.setCell ⟨b, 3, none⟩ u) b t v0 v1 v2 u v4 := by
  have hh : W.heap[b]? = _ := h
  unfold B5
  simp only [World.setCell, Array.getElem?_modify, if_true, hh, Option.map_some]
  rfl
theorem B5.set4 (h : B5 W b t v0 v1 v2 v3 v4) (u : Value) : B5 (W.setCell ⟨b, 4, none⟩ u) b t v0 v1 v2 v3 u := by
  have hh : W.heap[b]? = _ := h
  unfold B5
  simp only [World.setCell, Array.getElem?_modify, if_true, hh, Option.map_some]
  rfl
end
def put5 (W : World) (b : Nat) (v0 v1 v2 v3 v4 : Value) : World := ((((W.setCell ⟨b, 0, none⟩ v0).setCell ⟨b, 1, none⟩ v1).setCell ⟨b, 2, none⟩ v2).setCell ⟨b, 3, none⟩ v3).setCell ⟨b, 4, none⟩ v4
theorem B5.put {W : World} {b : Nat} {t : TypeId} {u0 u1 u2 u3 u4 : Value} (h : B5 W b t u0 u1 u2 u3 u4) (v0 v1 v2 v3 v4 : Value) : B5 (put5 W b v0 v1 v2 v3 v4) b t v0 v1 v2 v3 v4 := by
  have hh : W.heap[b]? = _ := h
  unfold B5 put5
  simp only [World.setCell, Array.getElem?_modify, if_true, hh, Option.map_some]
  rfl
theorem kept_put5 (W : World) (b : Nat) (v0 v1 v2 v3 v4 : Value) : Kept (· = b) W (put5 W b v0 v1 v2 v3 v4) := by
  unfold put5
  exact ((((kept_setCell W ⟨b, 0, none⟩ v0).trans (kept_setCell _ ⟨b, 1, none⟩ v1)).trans (kept_setCell _ ⟨b, 2, none⟩ v2)).trans (kept_setCell _ ⟨b, 3, none⟩ v3)).trans (kept_setCell _ ⟨b, 4, none⟩ v4)
theorem Kept.new {S : Nat → Prop} {w w' : World} (h : Kept S w w') {T : Nat → Prop} (hS : ∀ k, k < w.heap.size → S k → T k) : Kept T w w' := h.mono hS
/-- The results of a function whose first lies in a box. -/
theorem res5 {fn : Func} {p u : Tmp} (h : fn.results = #[.cell p 46, .tmp u]) (tmps : Array Value) (w : World) (B : Nat) (v0 v1 v2 v3 v4 x : Value) (hp : tmps.getD p undef = .pointer (some ⟨B, 0, none⟩)) (hu : tmps.getD u undef = x) (hg : B5 w B 46 v0 v1 v2 v3 v4) :
    (results fn tmps).run Tryz.prog w = .ok (.tuple #[.agg #[v0, v1, v2, v3, v4], x]) w := by
  rw [results_cell_tmp h, hp, hu]
  simp [asAddr, run_loadVar_row w B 46 46 _ (0, 0) _ hg Tryz.underlying46 rfl (by kernel_rfl)]
end Go.Proofs.YtjnhcoflmechmaaGreatDoor
