/-
  A slice of rows in memory.
-/
import Derived.Test.YtlkdklpglmglkaaFMath2
import Derived.Test.YtlkdklpglmglkaaPlain
import Derived.Test.YtlkdklpglmglkaaTree
import Derived.Test.YtlkdklpglmglkaaVBase
namespace Go.Proofs.Ytlkdklpglmglkaa
open Go.RowKit Go.Sort Go.Lib
set_option linter.unusedVariables false
set_option maxRecDepth 100000
/-- Where a row's attributes lie. -/
structure AV where
  A : Option Addr
  ca : Nat
structure RCells (w : World) (b o : Nat) (r : Rw) (x : AV) : Prop where
  c0 : w.cell? ⟨b, o, none⟩ = some (.int .i64 r.id)
  c1 : w.cell? ⟨b, o + 1, none⟩ = some (.int .i64 r.up)
  c2 : w.cell? ⟨b, o + 2, none⟩ = some (.string r.tag)
  c3 : w.cell? ⟨b, o + 3, none⟩ = some (.string r.key)
  c4 : w.cell? ⟨b, o + 4, none⟩ = some (.string r.text)
  c5 : w.cell? ⟨b, o + 5, none⟩ = some (.slice x.A r.as.length x.ca)
def rCells (r : Rw) (x : AV) : List Value := [.int .i64 r.id, .int .i64 r.up, .string r.tag, .string r.key, .string r.text, .slice x.A r.as.length x.ca]
def rowV (r : Rw) (x : AV) : Value := .agg #[.int .i64 r.id, .int .i64 r.up, .string r.tag, .string r.key, .string r.text, .slice x.A r.as.length x.ca]
theorem RCells.kept {w w' : World} {b o : Nat} {r : Rw} {x : AV} (h : RCells w b o r x) {S : Nat → Prop} (hk : Kept S w w') (hs : ¬ S b) : RCells w' b o r x := ⟨hk.cellOf h.c0 hs, hk.cellOf h.c1 hs, hk.cellOf h.c2 hs, hk.cellOf h.c3 hs, hk.cellOf h.c4 hs, hk.cellOf h.c5 hs⟩
theorem RCells.below {w w' : World} {B b o : Nat} {r : Rw} {x : AV} (h : RCells w b o r x) (hb : Below B w w') (hlt : b < B) : RCells w' b o r x :=
  ⟨(hb.cell (p := ⟨b, o, none⟩) hlt).trans h.c0, (hb.cell (p := ⟨b, o + 1, none⟩) hlt).trans h.c1, (hb.cell (p := ⟨b, o + 2, none⟩) hlt).trans h.c2, (hb.cell (p := ⟨b, o + 3, none⟩) hlt).trans h.c3, (hb.cell (p := ⟨b, o + 4, none⟩) hlt).trans h.c4, (hb.cell (p := ⟨b, o + 5, none⟩) hlt).trans h.c5⟩
theorem RCells.block_lt {w : World} {b o : Nat} {r : Rw} {x : AV} (h : RCells w b o r x) : b < w.heap.size := World.block_lt_of_cell? w _ h.c0
/-- The row's list of attributes, with its caps. -/
structure AtR (w : World) (B : Nat) (r : Rw) (x : AV) : Prop where
  row : TRow w B x.A r.as
  le : r.as.length ≤ x.ca
  cap : x.ca ≤ maxLen
  nil : x.A = none → x.ca = 0
theorem AtR.below {w w' : World} {B : Nat} {r : Rw} {x : AV} (h : AtR w B r x) (hb : Below B w w') : AtR w' B r x := ⟨h.row.below hb, h.le, h.cap, h.nil⟩
theorem AtR.mono {w : World} {B B' : Nat} {r : Rw} {x : AV} (h : AtR w B r x) (hb : B ≤ B') : AtR w B' r x := ⟨h.row.mono hb, h.le, h.cap, h.nil⟩
/-- A slice of rows, all of its memory below B. -/
def RRow (w : World) (B : Nat) (A : Option Addr) (rs : List Rw) : Prop :=
  0 < rs.length → ∃ b off, ∃ X : Nat → AV, A = some ⟨b, off, none⟩ ∧ b < B ∧ ∀ j, (hj : j < rs.length) → RCells w b (off + j * 6) rs[j] (X j) ∧ AtR w B rs[j] (X j)
theorem rrow_at {w : World} {B : Nat} {A : Option Addr} {rs : List Rw} (h : RRow w B A rs) {j : Nat} (hj : j < rs.length) :
    ∃ b off r x, A = some ⟨b, off, none⟩ ∧ b < B ∧ r = rs[j] ∧ RCells w b (off + j * 6) r x ∧ AtR w B r x := by
  obtain ⟨b, off, X, hA, hb, hc⟩ := h (by omega)
  exact ⟨b, off, _, X j, hA, hb, rfl, (hc j hj).1, (hc j hj).2⟩
theorem rrow_two {w : World} {B : Nat} {A : Option Addr} {rs : List Rw} (h : RRow w B A rs) {i j : Nat} (hi : i < rs.length) (hj : j < rs.length) :
    ∃ b off r x s y, A = some ⟨b, off, none⟩ ∧ b < B ∧ r = rs[i] ∧ s = rs[j] ∧ RCells w b (off + i * 6) r x ∧ RCells w b (off + j * 6) s y ∧ AtR w B r x ∧ AtR w B s y := by
  obtain ⟨b, off, X, hA, hb, hc⟩ := h (by omega)
  exact ⟨b, off, _, X i, _, X j, hA, hb, rfl, rfl, (hc i hi).1, (hc j hj).1, (hc i hi).2, (hc j hj).2⟩
theorem RRow.below {w w' : World} {B : Nat} {A : Option Addr} {rs : List Rw} (h : RRow w B A rs) (hb : Below B w w') : RRow w' B A rs := by
  intro h0
  obtain ⟨b, off, X, hA, hlt, hc⟩ := h h0
  exact ⟨b, off, X, hA, hlt, fun j hj => ⟨(hc j hj).1.below hb hlt, (hc j hj).2.below hb⟩⟩
theorem RRow.mono {w : World} {B B' : Nat} {A : Option Addr} {rs : List Rw} (h : RRow w B A rs) (hb : B ≤ B') : RRow w B' A rs := by
  intro h0
  obtain ⟨b, off, X, hA, hlt, hc⟩ := h h0
  exact ⟨b, off, X, hA, by omega, fun j hj => ⟨(hc j hj).1, (hc j hj).2.mono hb⟩⟩
theorem RRow.up {w w' : World} {A : Option Addr} {rs : List Rw} (h : RRow w w.heap.size A rs) (hb : Below w.heap.size w w') : RRow w' w'.heap.size A rs := (h.below hb).mono hb.size
theorem RRow.nil (w : World) (B : Nat) (A : Option Addr) : RRow w B A [] := fun h => by simp at h
/-- A struct of a row, laid in a block of its own. -/
abbrev rboxW (w : World) (r : Rw) (x : AV) : World := w.alloc (.cells #[.int .i64 r.id, .int .i64 r.up, .string r.tag, .string r.key, .string r.text, .slice x.A r.as.length x.ca] 56)
theorem rbox_cells (w : World) (r : Rw) (x : AV) : RCells (rboxW w r x) w.heap.size 0 r x := by
  have e : ∀ j, (rboxW w r x).cell? ⟨w.heap.size, j, none⟩ = (#[.int .i64 r.id, .int .i64 r.up, .string r.tag, .string r.key, .string r.text, .slice x.A r.as.length x.ca] : Array Value)[j]? := fun j => cell_of_row _ _ _ _ _ (0, 0) (heap_alloc_new w _)
  exact ⟨by rw [e]; rfl, by rw [e]; rfl, by rw [e]; rfl, by rw [e]; rfl, by rw [e]; rfl, by rw [e]; rfl⟩
theorem below_rbox (w : World) (r : Rw) (x : AV) : Below w.heap.size w (rboxW w r x) := (Below.refl _ w).alloc (Nat.le_refl _) _
theorem rbox_out {w w1 : World} {r : Rw} {x : AV} (h : RowKit.Hid (w1 = rboxW w r x)) : w.alloc (.cells #[.int .i64 r.id, .int .i64 r.up, .string r.tag, .string r.key, .string r.text, .slice x.A r.as.length x.ca] 56) = w1 := h.out.symm
structure GoodR (r : Rw) : Prop where
  tag : r.tag.size ≤ 100000000
  key : r.key.size ≤ 100000000
  text : r.text.size ≤ 100000000
  len : r.as.length ≤ 1000000
  short : Short r.as
def GoodRs (rs : List Rw) : Prop := ∀ r ∈ rs, GoodR r
structure FitR (r : Rw) : Prop where
  tag : r.tag.size ≤ 140737488355328
  key : r.key.size ≤ 140737488355328
  text : r.text.size ≤ 140737488355328
  len : r.as.length ≤ 140737488355328
  sh : ∀ x ∈ r.as, x.1.size ≤ 140737488355328 ∧ x.2.size ≤ 140737488355328
def FitRs (rs : List Rw) : Prop := ∀ r ∈ rs, FitR r
end Go.Proofs.Ytlkdklpglmglkaa
