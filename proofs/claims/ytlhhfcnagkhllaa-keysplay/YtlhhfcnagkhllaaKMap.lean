/-
  An index in memory: a map from labels to numbers, as a list of entries.
-/
import Derived.Test.YtlhhfcnagkhllaaProg
import Derived.WalkKit
import Derived.WalkLawsBesides
import Derived.Outline
import Derived.Below
import Derived.Lib.Hide
import Derived.BigQuiet
import Derived.Deep.QuietTactic
import Derived.DeepKeys4
import Derived.Maps.OwnSet
import Derived.RegionTactic
import Derived.BigRegion
import Derived.WalkSpells
namespace Go.Proofs.Ytlhhfcnagkhllaa
open Go.RowKit Go.Maps
set_option linter.unusedVariables false

theorem ret_int {k : IntKind} {a b : Int} (h : a = b) : Ending.returned (.int k a) = .returned (.int k b) := by rw [h]
theorem ret_bool {a b : Bool} (h : a = b) : Ending.returned (.bool a) = .returned (.bool b) := by rw [h]

/-! What a call may turn. -/
structure Kept (S : Nat → Prop) (w w' : World) : Prop where
  os : w'.os = w.os
  tape : w'.tape = w.tape
  output : w'.output = w.output
  size : w.heap.size ≤ w'.heap.size
  block : ∀ k, k < w.heap.size → ¬ S k → w'.heap[k]? = w.heap[k]?
theorem Kept.refl (S : Nat → Prop) (w : World) : Kept S w w := ⟨rfl, rfl, rfl, Nat.le_refl _, fun _ _ _ => rfl⟩
theorem Kept.trans {S : Nat → Prop} {a b c : World} (h : Kept S a b) (k : Kept S b c) : Kept S a c :=
  ⟨k.os.trans h.os, k.tape.trans h.tape, k.output.trans h.output, Nat.le_trans h.size k.size, fun i hi hs => (k.block i (Nat.lt_of_lt_of_le hi h.size) hs).trans (h.block i hi hs)⟩
theorem Kept.mono {S T : Nat → Prop} {w w' : World} (h : Kept S w w') (hS : ∀ k, S k → T k) : Kept T w w' := ⟨h.os, h.tape, h.output, h.size, fun k hk ht => h.block k hk (fun hs => ht (hS k hs))⟩
theorem Kept.below {S : Nat → Prop} {w w' : World} (h : Kept S w w') {B : Nat} (hB : B ≤ w.heap.size) (hS : ∀ k, S k → B ≤ k) : Below B w w' :=
  ⟨h.os, h.tape, h.output, h.size, fun k hk => h.block k (by omega) (fun hs => by have := hS k hs; omega)⟩
theorem kept_below {w w' : World} (h : Below w.heap.size w w') (S : Nat → Prop) : Kept S w w' := ⟨h.os, h.tape, h.output, h.size, fun k hk _ => h.block k hk⟩
theorem kept_alloc (w : World) (o : Obj) (S : Nat → Prop) : Kept S w (w.alloc o) := kept_below ((Below.refl _ _).alloc (Nat.le_refl _) _) S
theorem kept_drewN (w : World) (n : Nat) (S : Nat → Prop) : Kept S w (w.drewN n) := ⟨rfl, rfl, rfl, Nat.le_refl _, fun _ _ _ => rfl⟩
theorem kept_drew (w : World) (S : Nat → Prop) : Kept S w w.drew := kept_drewN w 1 S
theorem kept_grown {w w' : World} {g : Nat} (hg : w.grownBy w' (some g)) : Kept (· = g) w w' :=
  ⟨hg.os, hg.tape, hg.output, hg.size, fun k hk hs => hg.block k hk (by intro e; exact hs (by simpa using e))⟩
theorem Kept.cellOf {S : Nat → Prop} {w w' : World} (h : Kept S w w') {a : Addr} {v : Value} (hc : w.cell? a = some v) (hs : ¬ S a.block) : w'.cell? a = some v :=
  (World.cell?_of_block (h.block a.block (World.block_lt_of_cell? w _ hc) hs)).trans hc
theorem below_trans {a b c : World} (h : Below a.heap.size a b) (k : Below b.heap.size b c) : Below a.heap.size a c := h.trans (k.mono h.size)
theorem below_drewN (B : Nat) (w : World) (n : Nat) : Below B w (w.drewN n) := ⟨rfl, rfl, rfl, Nat.le_refl _, fun _ _ => rfl⟩
theorem lit_below (w : World) (o : Obj) : Below w.heap.size w (w.alloc o) := (Below.refl _ _).alloc (Nat.le_refl _) _

/-! Labels. -/
structure Lab where
  tag : ByteArray
  key : ByteArray
  n : Int
theorem Lab.eta (L : Lab) : L = ⟨L.tag, L.key, L.n⟩ := by cases L; rfl
instance : DecidableEq Lab := fun a b => if h : a.tag = b.tag ∧ a.key = b.key ∧ a.n = b.n then isTrue (by cases a; cases b; simp_all) else isFalse (by rintro rfl; exact h ⟨rfl, rfl, rfl⟩)
def wf64 (n : Int) : Prop := (Lit.int .i64 n).wf = true
structure LWf (L : Lab) : Prop where
  tag : L.tag.size ≤ maxLen
  key : L.key.size ≤ maxLen
  n : wf64 L.n
abbrev labCells (L : Lab) : Array Value := #[.string L.tag, .string L.key, .int .i64 L.n]
abbrev labV (L : Lab) : Value := .agg #[.string L.tag, .string L.key, .int .i64 L.n]

theorem laidOut : laidOutB Try.prog = true := by kernel_rfl
theorem wide30 : (match Try.prog.underlying 30 with | some (.array _ _) | some (.struct _) => true | _ => false) = true := by kernel_rfl
theorem law30 : Keyed Try.prog 30 := Keyed.of_law (deep_law_laid laidOut (m := 3) (by omega) (of_decide_eq_true (by kernel_rfl)) (by kernel_rfl) wide30)
theorem types_size : ∃ m, Try.prog.types.size + 1 = m + 1 + 1 := ⟨Try.prog.types.size - 1, by have : 2 ≤ Try.prog.types.size := of_decide_eq_true (by kernel_rfl); omega⟩
theorem keyType30 : Try.prog.keyType 30 = true := by kernel_rfl
theorem cells30 : Try.prog.cellsOf 30 = 3 := by kernel_rfl
theorem cells9 : Try.prog.cellsOf 9 = 1 := by kernel_rfl
theorem cells3 : Try.prog.cellsOf 3 = 1 := by kernel_rfl
theorem key_some {L : Lab} (h : LWf L) : ∃ kl, keyOf Try.prog 30 (labV L) = some kl := by
  obtain ⟨m, hm⟩ := types_size
  have hw : (Lit.int .i64 L.n).wf = true := h.n
  have ht := h.tag
  have hk := h.key
  refine ⟨.string (keyBytes [.string L.tag.data.toList, .string L.key.data.toList, .int .i64 L.n]), ?_⟩
  unfold keyOf
  rw [hm]
  simp [Try.underlying30, keyType30, Value.formed, cells30, Program.keyLits, Value.cells, Try.underlying9, Try.underlying3, cells9, cells3, hw, ht, hk]
end Go.Proofs.Ytlhhfcnagkhllaa
