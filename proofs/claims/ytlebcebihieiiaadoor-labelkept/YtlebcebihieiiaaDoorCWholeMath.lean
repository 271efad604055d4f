/-
  Plain: when a text is no number.
-/
import Derived.Test.YtlebcebihieiiaaDoorCDecWalk
namespace Go.Proofs.YtlebcebihieiiaaDoor.C
open Go.RowKit
set_option linter.unusedVariables false

theorem byte_nat (t : ByteArray) (k : Nat) : byte t k = ((t.data.toList.getD k 0).toNat : Int) := rfl
theorem getD_mem (l : List UInt8) (k : Nat) (h : k < l.length) : l.getD k 0 ∈ l := by
  rw [List.getD_eq_getElem?_getD, List.getElem?_eq_getElem h]; exact List.getElem_mem _
theorem val_take_succ (l : List UInt8) (k : Nat) (h : k < l.length) : val10 0 (l.take (k + 1)) = val10 0 (l.take k) * 10 + ((l.getD k 0).toNat - 48) := by
  have e : l.take (k + 1) = l.take k ++ [l.getD k 0] := by
    rw [List.take_succ_eq_append_getElem h]; simp [List.getD_eq_getElem?_getD, List.getElem?_eq_getElem h]
  rw [e, val10_append, val10_cons]
  unfold val10
  rw [List.foldl_nil]
theorem val_take_le (l : List UInt8) (k : Nat) : val10 0 (l.take k) ≤ val10 0 l := by
  have e : val10 0 l = val10 (val10 0 (l.take k)) (l.drop k) := by rw [← val10_append, List.take_append_drop]
  rw [e]
  exact val10_ge _ _

section
variable {s t : ByteArray} (ht : t.data.toList = tail_ s.data.toList)
include ht
theorem no_len (h : t.size < 1 ∨ 19 < t.size) : whN s.data.toList = (0, false) := by
  refine whN_none fun v hv => ?_
  have f := isNum_facts hv
  rw [← ht, size_list] at f
  omega
theorem no_digit {k : Nat} (hk : k < t.size) (h : byte t k < 48 ∨ 57 < byte t k) : whN s.data.toList = (0, false) := by
  refine whN_none fun v hv => ?_
  have f := (isNum_facts hv).1
  rw [← ht] at f
  have := f _ (getD_mem t.data.toList k (by rw [size_list]; exact hk))
  unfold Digit at this
  rw [byte_nat] at h
  omega
theorem no_over {k : Nat} (hk : k < t.size) (h : 922337203685477580 < val10 0 (t.data.toList.take k) ∨ val10 0 (t.data.toList.take k) = 922337203685477580 ∧ 8 < byte t k - 48) : whN s.data.toList = (0, false) := by
  refine whN_none fun v hv => ?_
  obtain ⟨f1, f2, -⟩ := isNum_facts hv
  rw [← ht] at f1 f2
  have h1 := val_take_le t.data.toList (k + 1)
  rw [val_take_succ _ _ (by rw [size_list]; exact hk), f2] at h1
  obtain ⟨⟨g1, g2⟩, -⟩ := hv
  rw [byte_nat] at h
  omega
theorem end_num (hneg : neg_ s.data.toList = true) (v : Int) (hv : IsNum s.data.toList v) : v = -(val10 0 t.data.toList : Int) := by
  obtain ⟨f1, f2, f3, f4, f5, -⟩ := isNum_facts hv
  rw [← ht] at f2
  rw [hneg] at f5
  have : v < 0 := by simpa using f5.symm
  omega
theorem end_pos (hneg : neg_ s.data.toList = false) (v : Int) (hv : IsNum s.data.toList v) : v = (val10 0 t.data.toList : Int) := by
  obtain ⟨f1, f2, f3, f4, f5, -⟩ := isNum_facts hv
  rw [← ht] at f2
  rw [hneg] at f5
  have : ¬ v < 0 := by simpa using f5.symm
  omega
theorem no_min (hneg : neg_ s.data.toList = false) (h : val10 0 t.data.toList = 9223372036854775808) : whN s.data.toList = (0, false) := by
  refine whN_none fun v hv => ?_
  have := end_pos ht hneg v hv
  obtain ⟨⟨g1, g2⟩, -⟩ := hv
  omega
end
theorem no_eq {s : ByteArray} {n : Int} (hn : ∀ v, IsNum s.data.toList v → v = n) (h : Lib.itoa n ≠ s.data.toList) : whN s.data.toList = (0, false) := by
  refine whN_none fun v hv => ?_
  have := hn v hv
  subst this
  exact h hv.2.symm
theorem yes_eq {s : ByteArray} {n : Int} (hn : I64 n) (h : Lib.itoa n = s.data.toList) : whN s.data.toList = (n, true) := whN_num ⟨hn, h.symm⟩

def DigTo (l : List UInt8) (k : Nat) : Prop := val10 0 (l.take k) ≤ 9223372036854775808
/-- The number so far. -/
def WhRel (t : ByteArray) (n i : Value) : Prop := ∃ (k P : Nat), k ≤ t.size ∧ i = .int .i64 k ∧ n = .int .i64 (-(P : Int)) ∧ P = val10 0 (t.data.toList.take k) ∧ P ≤ 9223372036854775808
end Go.Proofs.YtlebcebihieiiaaDoor.C
