/-
  Plain: what two strings share at both ends, and which is ahead.
-/
import Derived.Test.YtmobnjcjpjeflaaDoorKinds
namespace Go.Proofs.YtmobnjcjpjeflaaDoor
open Go.RowKit
set_option linter.unusedVariables false

def cpre : List UInt8 → List UInt8 → Nat
  | x :: a, y :: b => if x = y then cpre a b + 1 else 0
  | _, _ => 0
def LPre (a b : List UInt8) (n : Nat) : Prop := n ≤ a.length ∧ n ≤ b.length ∧ (∀ j, j < n → a.getD j 0 = b.getD j 0) ∧ (n < a.length → n < b.length → a.getD n 0 ≠ b.getD n 0)
theorem cpre_is : ∀ a b : List UInt8, LPre a b (cpre a b) := by
  intro a
  induction a with
  | nil => intro b; refine ⟨by simp [cpre], by simp [cpre], fun j hj => by simp [cpre] at hj, fun h => by simp [cpre] at h⟩
  | cons x a ih =>
    intro b
    cases b with
    | nil => refine ⟨by simp [cpre], by simp [cpre], fun j hj => by simp [cpre] at hj, fun _ h => by simp [cpre] at h⟩
    | cons y b =>
      by_cases h : x = y
      · obtain ⟨h1, h2, h3, h4⟩ := ih b
        have e : cpre (x :: a) (y :: b) = cpre a b + 1 := by simp [cpre, h]
        rw [e]
        refine ⟨by simp; omega, by simp; omega, fun j hj => ?_, fun ha hb => ?_⟩
        · cases j with
          | zero => simpa using h
          | succ j => have := h3 j (by omega); simpa using this
        · have := h4 (by simpa using ha) (by simpa using hb); simpa using this
      · have e : cpre (x :: a) (y :: b) = 0 := by simp [cpre, h]
        rw [e]
        exact ⟨by simp, by simp, fun j hj => by omega, fun _ _ => by simpa using h⟩
theorem lpre_unique {a b : List UInt8} {n m : Nat} (hn : LPre a b n) (hm : LPre a b m) : n = m := by
  obtain ⟨h1, h2, h3, h4⟩ := hn
  obtain ⟨g1, g2, g3, g4⟩ := hm
  rcases Nat.lt_trichotomy n m with h | h | h
  · exact absurd (g3 n h) (h4 (by omega) (by omega))
  · exact h
  · exact absurd (h3 m h) (g4 (by omega) (by omega))
def preN (a b : ByteArray) : Nat := cpre a.data.toList b.data.toList
def sufN (a b : ByteArray) : Nat := cpre a.data.toList.reverse b.data.toList.reverse
theorem byte_inj {a b : ByteArray} {i j : Nat} : byte a i = byte b j ↔ a.data.toList.getD i 0 = b.data.toList.getD j 0 := by
  unfold byte
  constructor
  · intro h; exact UInt8.toNat_inj.1 (by omega)
  · intro h; rw [h]
theorem size_list (a : ByteArray) : a.data.toList.length = a.size := by simp

theorem preN_is {a b : ByteArray} {n : Nat} (h1 : n ≤ a.size) (h2 : n ≤ b.size) (h3 : ∀ j, j < n → byte a j = byte b j) (h4 : n < a.size → n < b.size → byte a n ≠ byte b n) : n = preN a b := by
  refine lpre_unique ⟨by rw [size_list]; exact h1, by rw [size_list]; exact h2, fun j hj => byte_inj.1 (h3 j hj), fun ha hb e => ?_⟩ (cpre_is _ _)
  rw [size_list] at ha hb
  exact h4 ha hb (byte_inj.2 e)
theorem getD_reverse (l : List UInt8) (j : Nat) (h : j < l.length) : l.reverse.getD j 0 = l.getD (l.length - 1 - j) 0 := by
  simp [List.getD_eq_getElem?_getD, List.getElem?_reverse h]
theorem sufN_is {a b : ByteArray} {n : Nat} (h1 : n ≤ a.size) (h2 : n ≤ b.size) (h3 : ∀ j, j < n → byte a (a.size - 1 - j) = byte b (b.size - 1 - j))
    (h4 : n < a.size → n < b.size → byte a (a.size - 1 - n) ≠ byte b (b.size - 1 - n)) : n = sufN a b := by
  refine lpre_unique ⟨by simpa using h1, by simpa using h2, fun j hj => ?_, fun ha hb e => ?_⟩ (cpre_is _ _)
  · rw [getD_reverse _ _ (by rw [size_list]; omega), getD_reverse _ _ (by rw [size_list]; omega), size_list, size_list]
    exact byte_inj.1 (h3 j hj)
  · rw [List.length_reverse, size_list] at ha hb
    rw [getD_reverse _ _ (by rw [size_list]; omega), getD_reverse _ _ (by rw [size_list]; omega), size_list, size_list] at e
    exact h4 ha hb (byte_inj.2 e)
theorem preN_le (a b : ByteArray) : preN a b ≤ a.size ∧ preN a b ≤ b.size := by
  have := cpre_is a.data.toList b.data.toList
  exact ⟨by rw [← size_list a]; exact this.1, by rw [← size_list b]; exact this.2.1⟩
def EqTo (a b : ByteArray) (k : Nat) : Prop := ∀ j, j < k → byte a j = byte b j
theorem eqTo_succ {a b : ByteArray} {k : Nat} (h : EqTo a b k) (e : byte a k = byte b k) : EqTo a b (k + 1) := by
  intro j hj
  rcases Nat.lt_or_ge j k with h1 | h1
  · exact h j h1
  · have : j = k := by omega
    subst this; exact e
def EqEnd (a b : ByteArray) (k : Nat) : Prop := ∀ j, j < k → byte a (a.size - 1 - j) = byte b (b.size - 1 - j)
theorem eqEnd_succ {a b : ByteArray} {k : Nat} (h : EqEnd a b k) (e : byte a (a.size - 1 - k) = byte b (b.size - 1 - k)) : EqEnd a b (k + 1) := by
  intro j hj
  rcases Nat.lt_or_ge j k with h1 | h1
  · exact h j h1
  · have : j = k := by omega
    subst this; exact e
end Go.Proofs.YtmobnjcjpjeflaaDoor
