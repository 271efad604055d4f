/-
  Plain: the order of strings.
-/
import Derived.Lib.Bytealg
import Derived.Lib.Strings
namespace Go.Proofs.Ytlkdklpglmglkaa
set_option linter.unusedVariables false
set_option maxRecDepth 100000

/-- Byte j of a string, as a number. -/
def byte (s : ByteArray) (j : Nat) : Int := ((s.data.toList.getD j 0).toNat : Int)
theorem byte_eq (s : ByteArray) (j : Nat) (h : j < s.size) : ((s[j]'h).toNat : Int) = byte s j := by
  unfold byte
  have h' : j < s.data.toList.length := by simpa using h
  simp [List.getD_eq_getElem?_getD, List.getElem?_eq_getElem h']
  rfl
theorem byte_bounds (s : ByteArray) (j : Nat) : 0 ≤ byte s j ∧ byte s j ≤ 255 := by
  unfold byte
  have := (s.data.toList.getD j 0).toNat_lt
  omega

theorem byte_inj {a b : ByteArray} {i j : Nat} : byte a i = byte b j ↔ a.data.toList.getD i 0 = b.data.toList.getD j 0 := by
  unfold byte
  constructor
  · intro h; exact UInt8.toNat_inj.1 (by omega)
  · intro h; rw [h]
theorem size_list (a : ByteArray) : a.data.toList.length = a.size := by simp
def EqTo (a b : ByteArray) (k : Nat) : Prop := ∀ j, j < k → byte a j = byte b j
theorem eqTo_succ {a b : ByteArray} {k : Nat} (h : EqTo a b k) (e : byte a k = byte b k) : EqTo a b (k + 1) := by
  intro j hj
  rcases Nat.lt_or_ge j k with h1 | h1
  · exact h j h1
  · have : j = k := by omega
    subst this; exact e
theorem cmp_drop : ∀ (k : Nat) (a b : List UInt8), k ≤ a.length → k ≤ b.length → (∀ j, j < k → a.getD j 0 = b.getD j 0) → Lib.compareBytes a b = Lib.compareBytes (a.drop k) (b.drop k) := by
  intro k
  induction k with
  | zero => intro a b _ _ _; simp
  | succ k ih =>
    intro a b ha hb h
    match a, b, ha, hb, h with
    | x :: a, y :: b, ha, hb, h =>
      have h0 : x = y := by have := h 0 (by omega); simpa using this
      subst h0
      have hx : ¬ x < x := by simp
      have := ih a b (by simpa using ha) (by simpa using hb) (fun j hj => by have := h (j + 1) (by omega); simpa using this)
      simp [Lib.compareBytes, hx, this]
theorem cmp_neg : ∀ a b : List UInt8, Lib.compareBytes b a = - Lib.compareBytes a b := by
  intro a
  induction a with
  | nil => intro b; cases b <;> simp [Lib.compareBytes]
  | cons x a ih =>
    intro b
    cases b with
    | nil => simp [Lib.compareBytes]
    | cons y b =>
      simp only [Lib.compareBytes]
      by_cases h1 : x < y
      · have h2 : ¬ y < x := by rw [UInt8.lt_iff_toNat_lt] at h1 ⊢; omega
        simp [h1, h2]
      · by_cases h2 : y < x
        · simp [h1, h2]
        · simp [h1, h2, ih b]
theorem cmp_bounds : ∀ a b : List UInt8, -1 ≤ Lib.compareBytes a b ∧ Lib.compareBytes a b ≤ 1 := by
  intro a
  induction a with
  | nil => intro b; cases b <;> simp [Lib.compareBytes]
  | cons x a ih =>
    intro b
    cases b with
    | nil => simp [Lib.compareBytes]
    | cons y b =>
      simp only [Lib.compareBytes]
      have := ih b
      split
      · omega
      · split <;> omega
def cmpN (a b : ByteArray) : Int := Lib.compareBytes a.data.toList b.data.toList
theorem eqTo_list {a b : ByteArray} {k : Nat} (h : EqTo a b k) : ∀ j, j < k → a.data.toList.getD j 0 = b.data.toList.getD j 0 := fun j hj => byte_inj.1 (h j hj)
theorem drop_cons (s : ByteArray) (k : Nat) (h : k < s.size) : s.data.toList.drop k = s.data.toList.getD k 0 :: s.data.toList.drop (k + 1) := by
  have h' : k < s.data.toList.length := by rw [size_list]; exact h
  rw [List.drop_eq_getElem_cons h']
  simp [List.getD_eq_getElem?_getD, List.getElem?_eq_getElem h']
theorem lt_byte {a b : ByteArray} {k : Nat} : a.data.toList.getD k 0 < b.data.toList.getD k 0 ↔ byte a k < byte b k := by
  unfold byte; rw [UInt8.lt_iff_toNat_lt]; omega
theorem cmpN_lt {a b : ByteArray} {k : Nat} (ha : k < a.size) (hb : k < b.size) (h : EqTo a b k) (hl : byte a k < byte b k) : cmpN a b = -1 := by
  unfold cmpN
  rw [cmp_drop k _ _ (by rw [size_list]; omega) (by rw [size_list]; omega) (eqTo_list h), drop_cons a k ha, drop_cons b k hb]
  simp only [Lib.compareBytes]
  rw [if_pos (lt_byte.2 hl)]
theorem cmpN_gt {a b : ByteArray} {k : Nat} (ha : k < a.size) (hb : k < b.size) (h : EqTo a b k) (hl : byte b k < byte a k) : cmpN a b = 1 := by
  unfold cmpN
  rw [cmp_drop k _ _ (by rw [size_list]; omega) (by rw [size_list]; omega) (eqTo_list h), drop_cons a k ha, drop_cons b k hb]
  simp only [Lib.compareBytes]
  rw [if_neg (fun e => by have := lt_byte.1 e; omega), if_pos (lt_byte.2 hl)]
theorem cmpN_end {a b : ByteArray} {k : Nat} (ha : k ≤ a.size) (hb : k ≤ b.size) (h : EqTo a b k) (he : k = a.size ∨ k = b.size) : cmpN a b = if a.size < b.size then -1 else if b.size < a.size then 1 else 0 := by
  unfold cmpN
  rw [cmp_drop k _ _ (by rw [size_list]; omega) (by rw [size_list]; omega) (eqTo_list h)]
  have hla : (a.data.toList.drop k).length = a.size - k := by rw [List.length_drop, size_list]
  have hlb : (b.data.toList.drop k).length = b.size - k := by rw [List.length_drop, size_list]
  generalize a.data.toList.drop k = x at *
  generalize b.data.toList.drop k = y at *
  match x, y, hla, hlb with
  | [], [], h1, h2 => simp at h1 h2; simp only [Lib.compareBytes]; rw [if_neg (by omega), if_neg (by omega)]
  | [], c :: r, h1, h2 => simp at h1 h2; simp only [Lib.compareBytes]; rw [if_pos (by omega)]
  | c :: r, [], h1, h2 => simp at h1 h2; simp only [Lib.compareBytes]; rw [if_neg (by omega), if_pos (by omega)]
  | c :: r, d :: s, h1, h2 => simp at h1 h2; omega

theorem cb_zero : ∀ a b : List UInt8, Lib.compareBytes a b = 0 → a = b := by
  intro a
  induction a with
  | nil => intro b; cases b <;> simp [Lib.compareBytes]
  | cons x a ih =>
    intro b
    cases b with
    | nil => simp [Lib.compareBytes]
    | cons y b =>
      simp only [Lib.compareBytes]
      by_cases h1 : x < y
      · simp [h1]
      · by_cases h2 : y < x
        · simp [h1, h2]
        · have : x = y := by rw [UInt8.lt_iff_toNat_lt] at h1 h2; exact UInt8.toNat_inj.1 (by omega)
          subst this
          simp
          exact ih b
theorem cb_self : ∀ a : List UInt8, Lib.compareBytes a a = 0
  | [] => rfl
  | x :: a => by simp [Lib.compareBytes, cb_self a]
theorem cb_trans : ∀ a b c : List UInt8, Lib.compareBytes a b < 0 → Lib.compareBytes b c < 0 → Lib.compareBytes a c < 0 := by
  intro a
  induction a with
  | nil => intro b c; cases b <;> cases c <;> simp [Lib.compareBytes]
  | cons x a ih =>
    intro b c
    cases b with
    | nil => simp [Lib.compareBytes]
    | cons y b =>
      cases c with
      | nil => simp [Lib.compareBytes]
      | cons z c =>
        simp only [Lib.compareBytes, UInt8.lt_iff_toNat_lt]
        intro h1 h2
        by_cases a1 : x.toNat < y.toNat
        · by_cases a2 : y.toNat < z.toNat
          · rw [if_pos (by omega)]; omega
          · rw [if_neg a2] at h2
            by_cases a3 : z.toNat < y.toNat
            · rw [if_pos a3] at h2; omega
            · rw [if_pos (by omega)]; omega
        · rw [if_neg a1] at h1
          by_cases a2 : y.toNat < x.toNat
          · rw [if_pos a2] at h1; omega
          · rw [if_neg a2] at h1
            by_cases a3 : y.toNat < z.toNat
            · rw [if_pos (by omega)]; omega
            · rw [if_neg a3] at h2
              by_cases a4 : z.toNat < y.toNat
              · rw [if_pos a4] at h2; omega
              · rw [if_neg a4] at h2
                rw [if_neg (by omega), if_neg (by omega)]
                exact ih b c h1 h2
theorem cmpN_zero {a b : ByteArray} (h : cmpN a b = 0) : a = b := by
  have := cb_zero _ _ h
  obtain ⟨⟨la⟩⟩ := a
  obtain ⟨⟨lb⟩⟩ := b
  simp at this
  rw [this]
theorem cmpN_self (a : ByteArray) : cmpN a a = 0 := cb_self _
theorem cmpN_neg (a b : ByteArray) : cmpN b a = - cmpN a b := cmp_neg _ _
theorem cmpN_trans {a b c : ByteArray} (h1 : cmpN a b < 0) (h2 : cmpN b c < 0) : cmpN a c < 0 := cb_trans _ _ _ h1 h2
theorem cmpN_bounds (a b : ByteArray) : -1 ≤ cmpN a b ∧ cmpN a b ≤ 1 := cmp_bounds _ _
theorem cmpN_total (a b : ByteArray) : cmpN a b < 0 ∨ a = b ∨ cmpN b a < 0 := by
  rcases (show cmpN a b < 0 ∨ cmpN a b = 0 ∨ 0 < cmpN a b by omega) with h | h | h
  · exact .inl h
  · exact .inr (.inl (cmpN_zero h))
  · exact .inr (.inr (by rw [cmpN_neg a b]; omega))
theorem cmpN_irrefl (a : ByteArray) : ¬ cmpN a a < 0 := by rw [cmpN_self]; omega
theorem cmpN_asymm {a b : ByteArray} (h : cmpN a b < 0) : ¬ cmpN b a < 0 := by rw [cmpN_neg a b]; omega
theorem cmpN_le_trans {a b c : ByteArray} (h1 : ¬ cmpN b a < 0) (h2 : ¬ cmpN c b < 0) : ¬ cmpN c a < 0 := by
  intro h
  rcases cmpN_total a b with h3 | h3 | h3
  · exact h2 (cmpN_trans h h3)
  · subst h3; exact h2 h
  · exact h1 h3
theorem cmpN_lt_le {a b c : ByteArray} (h1 : cmpN a b < 0) (h2 : ¬ cmpN c b < 0) : cmpN a c < 0 := by
  rcases cmpN_total b c with h3 | h3 | h3
  · exact cmpN_trans h1 h3
  · subst h3; exact h1
  · exact absurd h3 h2
theorem cmpN_le_lt {a b c : ByteArray} (h1 : ¬ cmpN b a < 0) (h2 : cmpN b c < 0) : cmpN a c < 0 := by
  rcases cmpN_total a b with h3 | h3 | h3
  · exact cmpN_trans h3 h2
  · subst h3; exact h2
  · exact absurd h3 h1
theorem cmpN_ne {a b : ByteArray} (h : cmpN a b < 0) : a ≠ b := fun e => by subst e; exact cmpN_irrefl a h
end Go.Proofs.Ytlkdklpglmglkaa
