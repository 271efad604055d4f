/-
  Plain facts on bytes, numbers and lists for layer 1 (octet): what the first number of some bytes is, and what its bytes are. No program here.
-/
import Derived.Laws.BitsAllLaws
namespace Go.Proofs.Ytkdmhcllnpiakaa

/-- How many of the first m bytes, from the front on, are 128 or more. -/
def lead : Nat → List Int → Nat
  | 0, _ => 0
  | _ + 1, [] => 0
  | m + 1, b :: r => if 128 ≤ b then lead m r + 1 else 0

/-- The value of groups of seven, the least first. -/
def val : List Int → Int
  | [] => 0
  | b :: r => b % 128 + 128 * val r

def tkErr (bs : List Int) : Int :=
  if lead 10 bs = 10 then 3 else if lead 10 bs = bs.length then 4 else if lead 10 bs = 9 ∧ 1 < bs.getD 9 0 then 5 else if 0 < lead 10 bs ∧ bs.getD (lead 10 bs) 0 = 0 then 2 else 0
def tkLen (bs : List Int) : Int := if tkErr bs = 0 then (lead 10 bs : Int) + 1 else 0
def tkNum (bs : List Int) : Int := if tkErr bs = 0 then val (bs.take (lead 10 bs + 1)) else 0

def Bytes (bs : List Int) : Prop := ∀ j, j < bs.length → 0 ≤ bs.getD j 0 ∧ bs.getD j 0 ≤ 255

theorem lead_le (m : Nat) (bs : List Int) : lead m bs ≤ m := by
  induction m generalizing bs with
  | zero => simp [lead]
  | succ m ih =>
    cases bs with
    | nil => simp [lead]
    | cons b r => simp only [lead]; have := ih r; split <;> omega
theorem lead_le_len (m : Nat) (bs : List Int) : lead m bs ≤ bs.length := by
  induction m generalizing bs with
  | zero => simp [lead]
  | succ m ih =>
    cases bs with
    | nil => simp [lead]
    | cons b r => simp only [lead, List.length_cons]; have := ih r; split <;> omega

/-- Where the first i bytes are all 128 or more. -/
def AllBig (i : Nat) (bs : List Int) : Prop := ∀ j, j < i → 128 ≤ bs.getD j 0

theorem lead_ge (m i : Nat) (bs : List Int) (hi : i ≤ m) (hl : i ≤ bs.length) (h : AllBig i bs) : i ≤ lead m bs := by
  induction m generalizing i bs with
  | zero => omega
  | succ m ih =>
    cases i with
    | zero => omega
    | succ i =>
      cases bs with
      | nil => simp at hl
      | cons b r =>
        have h0 := h 0 (by omega)
        simp at h0
        simp only [lead, if_pos h0]
        have := ih i r (by omega) (by simpa using hl) (fun j hj => by have := h (j + 1) (by omega); simpa using this)
        omega
theorem lead_stop (m i : Nat) (bs : List Int) (hi : i < m) (hl : i < bs.length) (h : AllBig i bs) (hs : bs.getD i 0 < 128) : lead m bs = i := by
  induction m generalizing i bs with
  | zero => omega
  | succ m ih =>
    cases bs with
    | nil => simp at hl
    | cons b r =>
      cases i with
      | zero => simp at hs; simp only [lead]; rw [if_neg (by omega)]
      | succ i =>
        have h0 := h 0 (by omega)
        simp at h0
        simp only [lead, if_pos h0]
        have := ih i r (by omega) (by simpa using hl) (fun j hj => by have := h (j + 1) (by omega); simpa using this) (by simpa using hs)
        omega
theorem lead_full (m : Nat) (bs : List Int) (hl : m ≤ bs.length) (h : AllBig m bs) : lead m bs = m := by
  have := lead_ge m m bs (Nat.le_refl _) hl h; have := lead_le m bs; omega
theorem lead_all (m : Nat) (bs : List Int) (hl : bs.length ≤ m) (h : AllBig bs.length bs) : lead m bs = bs.length := by
  have := lead_ge m bs.length bs hl (Nat.le_refl _) h; have := lead_le_len m bs; omega
theorem lead_big (m : Nat) (bs : List Int) : AllBig (lead m bs) bs := by
  induction m generalizing bs with
  | zero => intro j hj; simp [lead] at hj
  | succ m ih =>
    cases bs with
    | nil => intro j hj; simp [lead] at hj
    | cons b r =>
      intro j hj
      simp only [lead] at hj
      split at hj
      · cases j with
        | zero => simpa
        | succ j => have := ih r j (by omega); simpa using this
      · omega
theorem lead_small (m : Nat) (bs : List Int) (hm : lead m bs < m) (hl : lead m bs < bs.length) : bs.getD (lead m bs) 0 < 128 := by
  induction m generalizing bs with
  | zero => omega
  | succ m ih =>
    cases bs with
    | nil => simp at hl
    | cons b r =>
      by_cases hb : 128 ≤ b
      · have e : lead (m + 1) (b :: r) = lead m r + 1 := by simp [lead, hb]
        rw [e] at hm hl ⊢
        have := ih r (by omega) (by simpa using hl)
        simpa using this
      · have e : lead (m + 1) (b :: r) = 0 := by simp [lead, hb]
        rw [e]
        simp
        omega

/-- The value of one more group. -/
theorem val_append (l : List Int) (b : Int) : val (l ++ [b]) = val l + 128 ^ l.length * (b % 128) := by
  induction l with
  | nil => simp [val]
  | cons a r ih =>
    simp only [List.cons_append, val, ih, List.length_cons, Int.pow_succ, Int.mul_add]
    have : (128 : Int) * (128 ^ r.length * (b % 128)) = 128 ^ r.length * 128 * (b % 128) := by
      rw [← Int.mul_assoc, Int.mul_comm 128 (128 ^ r.length)]
    rw [this]; omega
theorem val_nonneg (l : List Int) : 0 ≤ val l := by
  induction l with
  | nil => simp [val]
  | cons a r ih => simp only [val]; omega
theorem val_lt (l : List Int) : val l < 128 ^ l.length := by
  induction l with
  | nil => simp [val]
  | cons a r ih => simp only [val, List.length_cons, Int.pow_succ]; omega
theorem take_succ_getD (bs : List Int) (i : Nat) (h : i < bs.length) : bs.take (i + 1) = bs.take i ++ [bs.getD i 0] := by
  rw [List.take_succ_eq_append_getElem h]; simp [List.getD_eq_getElem?_getD, List.getElem?_eq_getElem h]

/-- a | b where a lies below the place at which b begins. -/
theorem or_join (i a b : Nat) (ha : a < 2 ^ i) (hb : b % 2 ^ i = 0) : a ||| b = a + b := by
  rw [Nat.or_comm, nat_join i b a hb ha, Nat.add_comm]

theorem or_step {bs : List Int} {k : Nat} {x : Int} (hk : k ≤ 9) (hl : k < bs.length) (hx : x = bs.getD k 0) (h0 : 0 ≤ x) (h1 : x ≤ 255) (h9 : k = 9 → x ≤ 1) :
    bits .or .u64 (val (bs.take k)) (IntKind.u64.wrap (x % 128 * 2 ^ (7 * k))) = val (bs.take (k + 1)) := by
  rw [take_succ_getD bs k hl, val_append, ← hx]
  have hlen : (bs.take k).length = k := by simp; omega
  have hlt := val_lt (bs.take k)
  have hnn := val_nonneg (bs.take k)
  rw [hlen] at hlt ⊢
  obtain ⟨a, ha⟩ : ∃ a : Nat, val (bs.take k) = a := ⟨(val (bs.take k)).toNat, by omega⟩
  obtain ⟨y, hy⟩ : ∃ y : Nat, x % 128 = y := ⟨(x % 128).toNat, by omega⟩
  have hy9 : k = 9 → y ≤ 1 := fun h => by have := h9 h; omega
  rw [ha] at hlt ⊢
  rw [hy]
  have hy1 : y < 128 := by omega
  clear hl hx hlen hnn ha h9
  have hpow : ((128 : Int) ^ k) = ((2 ^ (7 * k) : Nat) : Int) := by
    have : (128 : Int) ^ k = ((128 ^ k : Nat) : Int) := by simp
    rw [this, Nat.pow_mul]
  have hpow2 : ((2 : Int) ^ (7 * k)) = ((2 ^ (7 * k) : Nat) : Int) := by simp
  rw [hpow] at hlt ⊢
  rw [hpow2]
  have hpb : 2 ^ (7 * k) * y < 18446744073709551616 := by
    rcases (show k = 0 ∨ k = 1 ∨ k = 2 ∨ k = 3 ∨ k = 4 ∨ k = 5 ∨ k = 6 ∨ k = 7 ∨ k = 8 ∨ k = 9 by omega) with rfl | rfl | rfl | rfl | rfl | rfl | rfl | rfl | rfl | rfl <;> simp at hy9 ⊢ <;> omega
  have hab : a < 18446744073709551616 := by
    have : 2 ^ (7 * k) ≤ 9223372036854775808 := by
      have := Nat.pow_le_pow_right (n := 2) (by omega) (show 7 * k ≤ 63 by omega)
      simpa using this
    omega
  have hlt' : a < 2 ^ (7 * k) := by omega
  rw [IntKind.wrap_u64]
  have e1 : ∀ P : Nat, P * y < 18446744073709551616 → ((y : Int) * (P : Int)) % 18446744073709551616 = ((P * y : Nat) : Int) := by
    intro P h
    rw [← Int.natCast_mul, Nat.mul_comm y P]
    omega
  rw [e1 _ hpb, u64_or_nat a _ hab hpb, or_join (7 * k) a _ hlt' (by simp)]
  simp

def lastErr (i b : Int) : Int := if i = 9 ∧ 1 < b then 5 else if 0 < i ∧ b = 0 then 2 else 0

theorem tk_stop {bs : List Int} {k : Nat} {x : Int} (hk : k ≤ 9) (hl : k < bs.length) (hbig : AllBig k bs) (hx : x = bs.getD k 0) (hs : x < 128) :
    tkErr bs = lastErr k x ∧ lead 10 bs = k := by
  have e := lead_stop 10 k bs (by omega) hl hbig (by omega)
  refine ⟨?_, e⟩
  unfold tkErr lastErr
  rw [e, if_neg (by omega), if_neg (by omega), ← hx]
  by_cases h9 : k = 9
  · subst h9; rw [← hx]; simp
  · have h9' : ¬ ((k : Int) = 9) := by omega
    simp [h9, h9']
theorem tk_fail {bs : List Int} (h : tkErr bs ≠ 0) : tkNum bs = 0 ∧ tkLen bs = 0 := by simp [tkNum, tkLen, h]
theorem tk_ok {bs : List Int} (h : tkErr bs = 0) : tkNum bs = val (bs.take (lead 10 bs + 1)) ∧ tkLen bs = lead 10 bs + 1 := by simp [tkNum, tkLen, h]
theorem tk_long {bs : List Int} (hl : 10 ≤ bs.length) (hbig : AllBig 10 bs) : tkErr bs = 3 := by
  have e := lead_full 10 bs hl hbig
  simp [tkErr, e]
theorem tk_short {bs : List Int} (hl : bs.length < 10) (hbig : AllBig bs.length bs) : tkErr bs = 4 := by
  have e := lead_all 10 bs (by omega) hbig
  unfold tkErr
  rw [e, if_neg (by omega), if_pos rfl]
theorem allBig_succ {bs : List Int} {k : Nat} (h : AllBig k bs) (hk : 128 ≤ bs.getD k 0) : AllBig (k + 1) bs := by
  intro j hj
  rcases Nat.lt_or_ge j k with h1 | h1
  · exact h j h1
  · have : j = k := by omega
    subst this; exact hk
theorem lastErr_cases (i b : Int) : lastErr i b = 5 ∧ i = 9 ∧ 1 < b ∨ lastErr i b = 2 ∨ lastErr i b = 0 ∧ (i = 9 → b ≤ 1) := by
  unfold lastErr; (repeat' split) <;> simp <;> omega
end Go.Proofs.Ytkdmhcllnpiakaa
