/-
  attrs.Check and the reference's: the first fault of a list of attributes.
-/
import Derived.Test.YtlebcebihieiiaaDoorKinds
import Derived.Test.YtlebcebihieiiaaDoorRow
import Derived.Deep.DeepCutAuto
import Derived.Deep.RegionHeld3
namespace Go.Proofs.YtlebcebihieiiaaDoor
open Go.RowKit Go.Sort
set_option linter.unusedVariables false

def ordF (p x : At) : Int := if p.1 = x.1 then 10 else if 0 < cmpN p.1 x.1 then 9 else 0
def faultX (i : Nat) (p x : At) : Int := if i = 64 then 12 else if okN x.1 = false then 8 else if 65536 < x.2.size then 3 else if i = 0 then 0 else ordF p x
def faultL (l : List At) (i : Nat) : Int := faultX i (l.getD (i - 1) noAt) (l.getD i noAt)
theorem getD_at {l : List At} {i : Nat} (h : i < l.length) : l.getD i noAt = l[i] := by simp [List.getD_eq_getElem?_getD, h]
def CheckP (l : List At) (a e : Int) : Prop := (∃ i : Nat, i < l.length ∧ a = i ∧ e = faultL l i ∧ faultL l i ≠ 0 ∧ ∀ j, j < i → faultL l j = 0) ∨ (a = 0 ∧ e = 0 ∧ ∀ j, j < l.length → faultL l j = 0)
theorem checkP_unique {l : List At} {a e a' e' : Int} (h : CheckP l a e) (h' : CheckP l a' e') : a = a' ∧ e = e' := by
  rcases h with ⟨i, hi, rfl, rfl, hf, hb⟩ | ⟨rfl, rfl, hb⟩ <;> rcases h' with ⟨i', hi', rfl, rfl, hf', hb'⟩ | ⟨rfl, rfl, hb'⟩
  · rcases Nat.lt_trichotomy i i' with h | h | h
    · exact absurd (hb' i h) hf
    · subst h; exact ⟨rfl, rfl⟩
    · exact absurd (hb i' h) hf'
  · exact absurd (hb' i hi) hf
  · exact absurd (hb i' hi') hf'
  · exact ⟨rfl, rfl⟩
theorem below_grow (w : World) (n : Nat) (os : Array Obj) : Below w.heap.size w (grow (w.drewN n) os) := by
  refine ⟨rfl, rfl, rfl, ?_, fun k hk => ?_⟩
  · rw [size_grow]; exact Nat.le_add_right _ _
  · exact heap_grow_old _ _ hk
end Go.Proofs.YtlebcebihieiiaaDoor
