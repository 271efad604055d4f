/-
  Plain: numbers in tens, and the number that a text is.
-/
import Derived.Test.YtlebcebihieiiaaDoorCSame
namespace Go.Proofs.YtlebcebihieiiaaDoor.C
open Go.RowKit
set_option linter.unusedVariables false

def val10 (acc : Nat) (l : List UInt8) : Nat := l.foldl (fun a c => a * 10 + (c.toNat - 48)) acc
def Digit (c : UInt8) : Prop := 48 ≤ c.toNat ∧ c.toNat ≤ 57
theorem val10_append (acc : Nat) (a b : List UInt8) : val10 acc (a ++ b) = val10 (val10 acc a) b := by unfold val10; rw [List.foldl_append]
theorem val10_cons (acc : Nat) (c : UInt8) (l : List UInt8) : val10 acc (c :: l) = val10 (acc * 10 + (c.toNat - 48)) l := by unfold val10; rw [List.foldl_cons]
theorem val10_ge (l : List UInt8) : ∀ acc, acc ≤ val10 acc l := by
  induction l with
  | nil => intro acc; exact Nat.le_refl _
  | cons c l ih =>
    intro acc
    rw [val10_cons]
    have := ih (acc * 10 + (c.toNat - 48))
    omega
theorem digit_nat (d : Nat) (h : d < 10) : (UInt8.ofNat (48 + d)).toNat = 48 + d := by
  simp [UInt8.toNat_ofNat']; omega

theorem dec_step (u : Nat) : Lib.decDigits u = if u < 10 then [UInt8.ofNat (48 + u)] else Lib.decDigits (u / 10) ++ [UInt8.ofNat (48 + u % 10)] := by
  rw [Lib.decDigits]
  split <;> rfl
theorem dec_facts (n : Nat) : ∀ u, u < 10 ^ (n + 1) → (∀ c ∈ Lib.decDigits u, Digit c) ∧ val10 0 (Lib.decDigits u) = u ∧ 1 ≤ (Lib.decDigits u).length ∧ (Lib.decDigits u).length ≤ n + 1 := by
  induction n with
  | zero =>
    intro u hu
    simp at hu
    rw [dec_step, if_pos hu]
    have := digit_nat u hu
    refine ⟨fun c hc => ?_, ?_, by simp, by simp⟩
    · rw [List.mem_singleton] at hc; subst hc; unfold Digit; rw [this]; omega
    · simp only [val10, List.foldl_cons, List.foldl_nil]; rw [this]; omega
  | succ n ih =>
    intro u hu
    rw [dec_step]
    split
    · rename_i h
      have := digit_nat u h
      refine ⟨fun c hc => ?_, ?_, by simp, by simp⟩
      · rw [List.mem_singleton] at hc; subst hc; unfold Digit; rw [this]; omega
      · simp only [val10, List.foldl_cons, List.foldl_nil]; rw [this]; omega
    · obtain ⟨h1, h2, h3, h4⟩ := ih (u / 10) (by rw [Nat.pow_succ] at hu; omega)
      have := digit_nat (u % 10) (by omega)
      refine ⟨fun c hc => ?_, ?_, by simp, by simp; omega⟩
      · rcases List.mem_append.1 hc with h | h
        · exact h1 c h
        · rw [List.mem_singleton] at h; subst h; unfold Digit; rw [this]; omega
      · rw [val10_append, h2]
        simp only [val10, List.foldl_cons, List.foldl_nil]
        rw [this]; omega
theorem dec19 {u : Nat} (h : u ≤ 9223372036854775808) : (∀ c ∈ Lib.decDigits u, Digit c) ∧ val10 0 (Lib.decDigits u) = u ∧ 1 ≤ (Lib.decDigits u).length ∧ (Lib.decDigits u).length ≤ 19 :=
  dec_facts 18 u (by omega)

theorem parse_ok : ∀ (l : List UInt8) (acc : Nat), (∀ c ∈ l, Digit c) → val10 acc l ≤ 9223372036854775808 → Lib.parseUint10 acc l = .ok (val10 acc l) := by
  intro l
  induction l with
  | nil => intro acc _ _; rfl
  | cons c l ih =>
    intro acc hd hv
    have hc : 48 ≤ c.toNat ∧ c.toNat ≤ 57 := hd c (by simp)
    rw [val10_cons] at hv ⊢
    have hge := val10_ge l (acc * 10 + (c.toNat - 48))
    simp only [Lib.parseUint10]
    rw [if_pos hc, if_neg (by omega), if_neg (by omega)]
    exact ih _ (fun x hx => hd x (by simp [hx])) hv

/-- The text is the number v in tens. -/
def IsNum (l : List UInt8) (v : Int) : Prop := I64 v ∧ l = Lib.itoa v
/-- What stands behind a sign. -/
def tail_ (l : List UInt8) : List UInt8 := if 1 < l.length ∧ l.getD 0 0 = 45 then l.drop 1 else l
def neg_ (l : List UInt8) : Bool := decide (1 < l.length) && l.getD 0 0 == 45

theorem isNum_facts {l : List UInt8} {v : Int} (h : IsNum l v) : (∀ c ∈ tail_ l, Digit c) ∧ val10 0 (tail_ l) = v.natAbs ∧ 1 ≤ (tail_ l).length ∧ (tail_ l).length ≤ 19 ∧ neg_ l = decide (v < 0) ∧ l.length ≤ 20 ∧
    (v < 0 → l = 45 :: Lib.decDigits v.natAbs) ∧ (0 ≤ v → l = Lib.decDigits v.natAbs) ∧ tail_ l = Lib.decDigits v.natAbs := by
  obtain ⟨⟨h1, h2⟩, h⟩ := h
  obtain ⟨f1, f2, f3, f4⟩ := dec19 (u := v.natAbs) (by omega)
  unfold Lib.itoa at h
  by_cases hv : v < 0
  · rw [if_pos hv] at h
    have ht : tail_ l = Lib.decDigits v.natAbs := by
      unfold tail_
      rw [if_pos ⟨by rw [h]; simp; omega, by rw [h]; rfl⟩, h]; rfl
    rw [ht]
    refine ⟨f1, f2, f3, f4, ?_, by rw [h]; simp; omega, fun _ => h, fun h0 => by omega, rfl⟩
    unfold neg_
    rw [h]
    simp [hv]
    omega
  · rw [if_neg hv] at h
    have hn : v.toNat = v.natAbs := by omega
    rw [hn] at h
    have h45 : l.getD 0 0 ≠ 45 := by
      intro e
      rw [h] at e
      match hd : Lib.decDigits v.natAbs, f1, f3 with
      | [], _, f3 => simp at f3
      | c :: r, f1, _ =>
        rw [hd] at e
        simp at e
        have := f1 c (by simp)
        rw [e] at this
        exact absurd this.1 (by decide)
    have ht : tail_ l = Lib.decDigits v.natAbs := by
      unfold tail_
      rw [if_neg (fun e => h45 e.2), h]
    rw [ht]
    refine ⟨f1, f2, f3, f4, ?_, by rw [h]; omega, fun h0 => absurd h0 hv, fun _ => h, rfl⟩
    unfold neg_
    simp [hv]
    intro _
    simpa using h45

theorem atoi_num {l : List UInt8} {v : Int} (h : IsNum l v) : Lib.atoiAll l = .ok v := by
  obtain ⟨f1, f2, f3, f4, f5, f6, f7, f8, f9⟩ := isNum_facts h
  obtain ⟨⟨h1, h2⟩, hl⟩ := h
  rw [f9] at f1 f2 f3
  have hp := parse_ok (Lib.decDigits v.natAbs) 0 f1 (by rw [f2]; omega)
  rw [f2] at hp
  have hne : Lib.decDigits v.natAbs ≠ [] := by intro e; rw [e] at f3; simp at f3
  have hm : Lib.parseMag (Lib.decDigits v.natAbs) = .ok v.natAbs := by unfold Lib.parseMag; rw [if_neg hne, hp]
  by_cases hv : v < 0
  · rw [f7 hv]
    simp only [Lib.atoiAll]
    rw [if_pos (Or.inr (by decide)), hm]
    simp only
    rw [if_neg (by simp), if_neg (by intro e; omega), if_pos (by decide)]
    congr 1; omega
  · rw [f8 (by omega)]
    match hd : Lib.decDigits v.natAbs, hne, f1, hm with
    | [], hne, _, _ => exact absurd rfl hne
    | c :: r, _, f1, hm =>
      have hc := f1 c (by simp)
      have h43 : ¬ (c.toNat = 43 ∨ c.toNat = 45) := by unfold Digit at hc; omega
      have h45 : ¬ c.toNat = 45 := by omega
      simp only [Lib.atoiAll]
      rw [if_neg h43, hm]
      simp only
      rw [if_neg (by intro e; omega), if_neg (by intro e; exact h45 e.1), if_neg h45]
      congr 1; omega
theorem whN_num {l : List UInt8} {v : Int} (h : IsNum l v) : whN l = (v, true) := by
  have h1 := atoi_num h
  have h2 := (isNum_facts h).2.2.2.2.2.1
  unfold whN wholeN
  rw [if_neg (by omega), h1]
  simp only
  rw [if_pos h.2.symm]
theorem whN_none {l : List UInt8} (h : ∀ v, ¬ IsNum l v) : whN l = (0, false) := by
  unfold whN
  split
  · rfl
  · unfold wholeN
    rcases hat : Lib.atoiAll l with v | _ | _
    · simp only
      rw [if_neg]
      intro e
      exact h v ⟨Lib.atoiAll_bounds hat, e.symm⟩
    · rfl
    · rfl

/-- The digits of a number, none for 0. -/
def decD (u : Nat) : List UInt8 := if u = 0 then [] else Lib.decDigits u
theorem decD_step {u : Nat} (h : u ≠ 0) : decD u = decD (u / 10) ++ [UInt8.ofNat (48 + u % 10)] := by
  unfold decD
  rw [if_neg h, dec_step]
  split
  · rename_i h1
    rw [if_pos (by omega), Nat.mod_eq_of_lt h1]; rfl
  · rw [if_neg (by omega)]
theorem itoa_neg {n : Int} (h : n < 0) : Lib.itoa n = 45 :: decD n.natAbs := by
  unfold Lib.itoa decD
  rw [if_pos h, if_neg (by omega)]
theorem itoa_pos {n : Int} (h : 0 < n) : Lib.itoa n = decD n.natAbs := by
  unfold Lib.itoa decD
  rw [if_neg (by omega), if_neg (by omega)]
  congr 1; omega
theorem itoa_zero : Lib.itoa 0 = [48] := by
  have : Lib.decDigits 0 = [48] := by rw [Lib.decDigits_one (by omega)]; rfl
  simpa [Lib.itoa] using this
end Go.Proofs.YtlebcebihieiiaaDoor.C
