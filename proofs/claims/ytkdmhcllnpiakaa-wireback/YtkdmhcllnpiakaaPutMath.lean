/-
  Plain facts on the bytes of numbers (layer 1, octet).
-/
import Derived.Test.YtkdmhcllnpiakaaMath
import Derived.Lib.BitFns
namespace Go.Proofs.Ytkdmhcllnpiakaa
set_option linter.unusedVariables false

/-- How many bytes a number has. -/
def nlen (x : Nat) : Nat := max 1 ((Lib.bitLen x + 6) / 7)
def encGo : Nat → Nat → List Int
  | 0, x => [(x : Int)]
  | f + 1, x => if x < 128 then [(x : Int)] else ((x % 128 + 128 : Nat) : Int) :: encGo f (x / 128)
def enc (x : Nat) : List Int := encGo 10 x
def encs : List Int → List Int
  | [] => []
  | x :: r => enc x.toNat ++ encs r
def sizes : List Int → Nat
  | [] => 0
  | x :: r => nlen x.toNat + sizes r

theorem bitLen_pos (x : Nat) (h : 0 < x) : 1 ≤ Lib.bitLen x := by
  unfold Lib.bitLen Lib.bitLenAux
  rw [if_neg (by omega)]; omega
theorem nlen_small {x : Nat} (h : x < 128) : nlen x = 1 := by
  have := Lib.bitLen_le x 7 (by omega) (by simpa using h)
  unfold nlen; omega
theorem nlen_big {x : Nat} (h : 128 ≤ x) (hx : x < 18446744073709551616) : nlen x = nlen (x / 128) + 1 := by
  have h1 := Lib.bitLen_shift 7 x (by simpa using h) (by simpa using hx)
  have h2 := bitLen_pos (x / 128) (by omega)
  simp at h1
  unfold nlen; omega
theorem nlen_pos (x : Nat) : 1 ≤ nlen x := by unfold nlen; omega
theorem nlen_le (x : Nat) (hx : x < 18446744073709551616) : nlen x ≤ 10 := by
  have := Lib.bitLen_le x 64 (by omega) (by simpa using hx)
  unfold nlen; omega
theorem big_of_nlen {x : Nat} (h : 2 ≤ nlen x) : 128 ≤ x := by
  rcases Nat.lt_or_ge x 128 with h1 | h1
  · rw [nlen_small h1] at h; omega
  · exact h1
theorem small_of_nlen {x : Nat} (h : nlen x = 1) (hx : x < 18446744073709551616) : x < 128 := by
  rcases Nat.lt_or_ge x 128 with h1 | h1
  · exact h1
  · rw [nlen_big h1 hx] at h; have := nlen_pos (x / 128); omega
theorem encGo_fuel (f : Nat) : ∀ (x : Nat), x < 128 ^ (f + 1) → ∀ g, f ≤ g → encGo g x = encGo f x := by
  induction f with
  | zero =>
    intro x hx g _
    simp at hx
    cases g with
    | zero => rfl
    | succ g => simp [encGo, hx]
  | succ f ih =>
    intro x hx g hg
    cases g with
    | zero => omega
    | succ g =>
      simp only [encGo]
      rw [ih (x / 128) (by rw [Nat.pow_succ] at hx; omega) g (by omega)]
theorem enc_small {x : Nat} (h : x < 128) : enc x = [(x : Int)] := by simp [enc, encGo, h]
theorem enc_big {x : Nat} (h : 128 ≤ x) (hx : x < 18446744073709551616) : enc x = ((x % 128 + 128 : Nat) : Int) :: enc (x / 128) := by
  unfold enc
  rw [encGo, if_neg (by omega), encGo_fuel 9 (x / 128) (by omega) 10 (by omega)]
theorem enc_len (n : Nat) : ∀ (x : Nat), nlen x = n → x < 18446744073709551616 → (enc x).length = n := by
  induction n with
  | zero => intro x h _; have := nlen_pos x; omega
  | succ n ih =>
    intro x h hx
    rcases Nat.lt_or_ge x 128 with h1 | h1
    · rw [enc_small h1]; rw [nlen_small h1] at h; simpa using h
    · rw [enc_big h1 hx, List.length_cons, ih (x / 128) (by rw [nlen_big h1 hx] at h; omega) (by omega)]
theorem enc_length {x : Nat} (hx : x < 18446744073709551616) : (enc x).length = nlen x := enc_len _ x rfl hx
theorem encs_append (a b : List Int) : encs (a ++ b) = encs a ++ encs b := by
  induction a with
  | nil => rfl
  | cons x r ih => simp [encs, ih]
theorem sizes_append (a b : List Int) : sizes (a ++ b) = sizes a + sizes b := by
  induction a with
  | nil => simp [sizes]
  | cons x r ih => simp [sizes, ih]; omega
def Words (ns : List Int) : Prop := ∀ j, j < ns.length → 0 ≤ ns.getD j 0 ∧ ns.getD j 0 < 18446744073709551616
theorem sizes_take_succ (ns : List Int) (k : Nat) (h : k < ns.length) : sizes (ns.take (k + 1)) = sizes (ns.take k) + nlen (ns.getD k 0).toNat := by
  rw [take_succ_getD ns k h, sizes_append]; simp [sizes]
theorem encs_take_succ (ns : List Int) (k : Nat) (h : k < ns.length) : encs (ns.take (k + 1)) = encs (ns.take k) ++ enc (ns.getD k 0).toNat := by
  rw [take_succ_getD ns k h, encs_append]; simp [encs]
theorem sizes_le (ns : List Int) (h : Words ns) (k : Nat) (hk : k ≤ ns.length) : sizes (ns.take k) ≤ 10 * k := by
  induction k with
  | zero => simp [sizes]
  | succ k ih =>
    rw [sizes_take_succ ns k (by omega)]
    have := ih (by omega)
    have := nlen_le (ns.getD k 0).toNat (by have := h k (by omega); omega)
    omega
theorem encs_length (ns : List Int) (h : Words ns) (k : Nat) (hk : k ≤ ns.length) : (encs (ns.take k)).length = sizes (ns.take k) := by
  induction k with
  | zero => simp [sizes, encs]
  | succ k ih =>
    rw [sizes_take_succ ns k (by omega), encs_take_succ ns k (by omega), List.length_append, ih (by omega), enc_length (by have := h k (by omega); omega)]
end Go.Proofs.Ytkdmhcllnpiakaa
