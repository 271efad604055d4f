/-
  The forms of bytes, and what is read of them: plain mathematics. | How far escaped text goes: plain mathematics.
-/
import Derived.Lib.ItoaNum
import Derived.Lib.ParseIntB
import Derived.Lib.Strings
import Derived.Lib.Bytealg
namespace Go.Proofs.YtjnhcoflmechmaaGreatDoor.E
open Go
set_option linter.unusedVariables false

def dg (n : Nat) : List UInt8 :=
  if n < 10 then [UInt8.ofNat (48 + n)] else if n < 100 then [UInt8.ofNat (48 + n / 10), UInt8.ofNat (48 + n % 10)] else [UInt8.ofNat (48 + n / 10 / 10), UInt8.ofNat (48 + n / 10 % 10), UInt8.ofNat (48 + n % 10)]
theorem dg_eq (n : Nat) (h : n < 1000) : Lib.decDigits n = dg n := by
  unfold dg
  by_cases h1 : n < 10
  · rw [if_pos h1, Lib.decDigits, dif_pos h1]
  · rw [if_neg h1, Lib.decDigits, dif_neg h1]
    by_cases h2 : n < 100
    · rw [if_pos h2, Lib.decDigits, dif_pos (by omega)]; rfl
    · rw [if_neg h2, Lib.decDigits, dif_neg (by omega), Lib.decDigits, dif_pos (by omega)]; rfl

/-- The form of a byte. -/
def form (c : UInt8) : List UInt8 :=
  if c = 38 then [38, 97, 109, 112, 59] else if c = 60 then [38, 108, 116, 59] else if c = 62 then [38, 103, 116, 59] else if c = 34 then [38, 113, 117, 111, 116, 59]
  else if c < 32 ∨ c = 127 then [38, 35] ++ dg c.toNat ++ [59] else [c]

theorem byte_all {p : UInt8 → Bool} (h : ((List.range 256).all fun i => p (UInt8.ofNat i)) = true) (c : UInt8) : p c = true := by
  have := List.all_eq_true.1 h c.toNat (by simp; exact c.toNat_lt)
  simpa using this
theorem free_b : ((List.range 256).all fun i => (List.range 256).all fun j => !((form (UInt8.ofNat i)).isPrefixOf (form (UInt8.ofNat j))) || i == j) = true := by decide +kernel
theorem form_free {c d : UInt8} (h : form c <+: form d) : c = d := by
  have h1 := List.all_eq_true.1 free_b c.toNat (by simp; exact c.toNat_lt)
  have h2 := List.all_eq_true.1 h1 d.toNat (by simp; exact d.toNat_lt)
  simp at h2
  rcases h2 with h2 | h2
  · have := List.isPrefixOf_iff_prefix.2 h
    rw [h2] at this; cases this
  · exact UInt8.toNat_inj.1 h2
theorem form_one {c d : UInt8} {l : List UInt8} (h : form c <+: l) (k : form d <+: l) : c = d := by
  rcases Nat.le_total (form c).length (form d).length with hl | hl
  · exact form_free (List.prefix_of_prefix_length_le h k hl)
  · exact (form_free (List.prefix_of_prefix_length_le k h hl)).symm

/-- Is the form the byte itself? -/
def plainB (c : UInt8) : Bool := form c == [c]
theorem shape_b : ((List.range 256).all fun i => let c := UInt8.ofNat i; (form c == [c] && c != 38) || ((form c).head? == some 38 && form c == (form c).dropLast ++ [59] && !((form c).dropLast.contains 59) && decide ((form c).length ≤ 6) && decide (4 ≤ (form c).length))) = true := by decide +kernel
theorem form_shape (c : UInt8) : (form c = [c] ∧ c ≠ 38) ∨ (∃ r, form c = 38 :: r ∧ form c = (form c).dropLast ++ [59] ∧ (59 : UInt8) ∉ (form c).dropLast ∧ (form c).length ≤ 6 ∧ 4 ≤ (form c).length) := by
  have h := byte_all (p := fun c => (form c == [c] && c != 38) || ((form c).head? == some 38 && form c == (form c).dropLast ++ [59] && !((form c).dropLast.contains 59) && decide ((form c).length ≤ 6) && decide (4 ≤ (form c).length))) shape_b c
  simp at h
  rcases h with ⟨h1, h2⟩ | ⟨⟨⟨⟨h1, h2⟩, h3⟩, h4⟩, h5⟩
  · exact .inl ⟨h1, h2⟩
  · right
    cases hf : form c with
    | nil => rw [hf] at h1; simp at h1
    | cons a r =>
      rw [hf] at h1 h2 h3 h4 h5
      simp at h1
      subst h1
      exact ⟨r, rfl, h2, h3, h4, h5⟩
theorem form_pos (c : UInt8) : 1 ≤ (form c).length ∧ (form c).length ≤ 6 := by
  rcases form_shape c with ⟨h, _⟩ | ⟨r, h1, h2, h3, h4, h5⟩
  · rw [h]; simp
  · omega

def escL (l : List UInt8) : List UInt8 := l.flatMap form
theorem escL_append (a b : List UInt8) : escL (a ++ b) = escL a ++ escL b := by simp [escL]
theorem escL_length (l : List UInt8) : (escL l).length ≤ 6 * l.length := by
  induction l with
  | nil => simp [escL]
  | cons c r ih => have := form_pos c; simp [escL] at ih ⊢; omega

/-- The byte that decimal digits spell; 0 if they spell none. -/
def pu (l : List UInt8) : UInt8 :=
  match Lib.parseUintB 8 l with
  | .ok u => UInt8.ofNat u
  | _ => 0
theorem pu_ok {l : List UInt8} {u : Nat} (h : Lib.parseUintB 8 l = .ok u) : pu l = UInt8.ofNat u := by unfold pu; rw [h]
theorem pu_bad {l : List UInt8} (h : ∀ u, Lib.parseUintB 8 l ≠ .ok u) : pu l = 0 := by
  unfold pu
  split
  · rename_i u hu; exact absurd hu (h u)
  · rfl

/-- What a written form names, as the code reads it. -/
def nm (l : List UInt8) : UInt8 :=
  if l = [38, 97, 109, 112, 59] then 38 else if l = [38, 108, 116, 59] then 60 else if l = [38, 103, 116, 59] then 62 else if l = [38, 113, 117, 111, 116, 59] then 34
  else pu (Lib.trimSuffix (Lib.trimPrefix l [38, 35]) [59])
theorem nm_b : ((List.range 256).all fun i => let c := UInt8.ofNat i; form c == [c] || nm (form c) == c) = true := by decide +kernel
theorem nm_form {c : UInt8} (h : form c ≠ [c]) : nm (form c) = c := by
  have := byte_all (p := fun c => form c == [c] || nm (form c) == c) nm_b c
  simp at this
  rcases this with h1 | h1
  · exact absurd h1 h
  · exact h1

/-- What the code reads of a text that begins with an &: the byte, and how long its form is. -/
def rf (l : List UInt8) : UInt8 × Nat :=
  let e := Lib.indexByte (l.take (min l.length 6)) 59
  if e < 0 then (0, 0) else
  let w := l.take (e.toNat + 1)
  if form (nm w) = w then (nm w, w.length) else (0, 0)

theorem indexByte_at : ∀ (a b : List UInt8), (59 : UInt8) ∉ a → Lib.indexByte (a ++ 59 :: b) 59 = a.length
  | [], b, _ => by simp [Lib.indexByte]
  | x :: a, b, h => by
    have hx : (x == 59) = false := by simp at h ⊢; exact fun e => h.1 e.symm
    have ih := indexByte_at a b (fun hm => h (by simp [hm]))
    have hne : ((a.length : Int) == -1) = false := by simp
    simp only [List.cons_append, Lib.indexByte, hx, ih, hne]
    simp
theorem rf_some {c : UInt8} {l : List UInt8} (h : form c <+: l) (hc : form c ≠ [c]) : rf l = (c, (form c).length) := by
  rcases form_shape c with ⟨hh, _⟩ | ⟨r, h1, h2, h3, h4, h5⟩
  · exact absurd hh hc
  · obtain ⟨t, rfl⟩ := h
    have hm : (form c ++ t).take (min (form c ++ t).length 6) = (form c).dropLast ++ 59 :: (t.take (min (form c ++ t).length 6 - (form c).length)) := by
      rw [List.take_append, List.take_of_length_le (by simp; omega)]
      conv => lhs; rw [h2]
      simp
      omega
    have hi := indexByte_at (form c).dropLast (t.take (min (form c ++ t).length 6 - (form c).length)) h3
    have hdl : (form c).dropLast.length + 1 = (form c).length := by simp; omega
    have hw : (form c ++ t).take ((form c).dropLast.length + 1) = form c := by rw [hdl]; simp
    simp only [rf]
    rw [hm, hi, if_neg (by omega), Int.toNat_natCast, hw, nm_form hc, if_pos rfl]
theorem rf_none {l : List UInt8} (hl : l.head? = some 38) (h : ∀ c, ¬ form c <+: l) : rf l = (0, 0) := by
  simp only [rf]
  split
  · rfl
  · split
    · rename_i h2
      exact absurd (h2 ▸ List.take_prefix _ l) (h _)
    · rfl

def oneO (l : List UInt8) : Option UInt8 := ((List.range 256).map UInt8.ofNat).find? (fun c => (form c).isPrefixOf l)
theorem oneO_some {l : List UInt8} {c : UInt8} (h : form c <+: l) : oneO l = some c := by
  cases ho : oneO l with
  | none =>
    have := List.find?_eq_none.1 ho c (by simp; exact ⟨c.toNat, c.toNat_lt, by simp⟩)
    simp at this
    exact absurd h this
  | some d =>
    have := List.find?_some ho
    simp at this
    rw [form_one this h]
theorem oneO_none {l : List UInt8} (h : ∀ c, ¬ form c <+: l) : oneO l = none := by
  cases ho : oneO l with
  | none => rfl
  | some d =>
    have := List.find?_some ho
    simp at this
    exact absurd this (h d)
theorem oneO_of {l : List UInt8} {c : UInt8} (h : oneO l = some c) : form c <+: l := by
  have := List.find?_some h
  simpa using this
theorem oneO_not {l : List UInt8} (h : oneO l = none) (c : UInt8) : ¬ form c <+: l := fun hc => by rw [oneO_some hc] at h; cases h

/-- Of a text whose first byte is no &: the byte itself, if that is its form. -/
theorem oneO_plain {c : UInt8} {r : List UInt8} (hc : c ≠ 38) : oneO (c :: r) = if form c = [c] then some c else none := by
  split
  · rename_i h
    exact oneO_some (by rw [h]; exact ⟨r, rfl⟩)
  · rename_i h
    apply oneO_none
    intro d hd
    rcases form_shape d with ⟨hh, _⟩ | ⟨x, h1, _⟩
    · rw [hh] at hd
      obtain ⟨t, ht⟩ := hd
      simp at ht
      rw [ht.1] at hh
      exact h hh
    · rw [h1] at hd
      obtain ⟨t, ht⟩ := hd
      simp at ht
      exact hc ht.1.symm
theorem oneO_amp {r : List UInt8} : oneO (38 :: r) = if (rf (38 :: r)).2 = 0 then none else some (rf (38 :: r)).1 := by
  by_cases h : ∃ c, form c <+: 38 :: r
  · obtain ⟨c, hc⟩ := h
    have hne : form c ≠ [c] := by
      intro hh
      rw [hh] at hc
      obtain ⟨t, ht⟩ := hc
      simp at ht
      rw [ht.1] at hh
      exact absurd hh (by decide)
    have := form_pos c
    rw [oneO_some hc, rf_some hc hne, if_neg (by show ¬ (form c).length = 0; omega)]
  · have hh : ∀ c, ¬ form c <+: 38 :: r := fun c hc => h ⟨c, hc⟩
    rw [oneO_none hh, rf_none rfl hh, if_pos rfl]
theorem rf_len {r : List UInt8} (h : (rf (38 :: r)).2 ≠ 0) : (rf (38 :: r)).2 = (form (rf (38 :: r)).1).length ∧ form (rf (38 :: r)).1 <+: 38 :: r := by
  have h1 := oneO_amp (r := r)
  rw [if_neg h] at h1
  have hc := oneO_of h1
  have hne : form (rf (38 :: r)).1 ≠ [(rf (38 :: r)).1] := by
    intro hh
    rw [hh] at hc
    obtain ⟨t, ht⟩ := hc
    simp at ht
    rw [ht.1] at hh
    exact absurd hh (by decide)
  have h3 := rf_some hc hne
  exact ⟨congrArg Prod.snd h3, hc⟩

/-- What is unescaped: the text, the place and the error. -/
def un : Nat → List UInt8 → Nat → List UInt8 → List UInt8 × Nat × Int
  | 0, _, _, acc => (acc, 0, 0)
  | f + 1, l, p, acc => if l = [] then (acc, 0, 0) else
    match oneO l with
    | none => ([], p, 2)
    | some c => un f (l.drop (form c).length) (p + (form c).length) (acc ++ [c])
def unesc (l : List UInt8) : List UInt8 × Nat × Int := un l.length l 0 []
theorem un_nil (f p : Nat) (acc : List UInt8) : un f [] p acc = (acc, 0, 0) := by cases f <;> simp [un]
theorem un_none {f p : Nat} {l acc : List UInt8} (h0 : l ≠ []) (hf : l.length ≤ f) (h : oneO l = none) : un f l p acc = ([], p, 2) := by
  cases f with
  | zero => exact absurd (List.eq_nil_of_length_eq_zero (by omega)) h0
  | succ f => simp [un, h0, h]
theorem un_some {f p : Nat} {l acc : List UInt8} {c : UInt8} (h0 : l ≠ []) (h : oneO l = some c) : un (f + 1) l p acc = un f (l.drop (form c).length) (p + (form c).length) (acc ++ [c]) := by
  simp [un, h0, h]
theorem un_esc : ∀ (s : List UInt8) (f p : Nat) (acc : List UInt8), (escL s).length ≤ f → un f (escL s) p acc = (acc ++ s, 0, 0)
  | [], f, p, acc, _ => by simp [escL, un_nil]
  | c :: s, f, p, acc, h => by
    have hp := form_pos c
    have he : escL (c :: s) = form c ++ escL s := by simp [escL]
    rw [he] at h ⊢
    simp at h
    obtain ⟨g, rfl⟩ : ∃ g, f = g + 1 := ⟨f - 1, by omega⟩
    rw [un_some (c := c) (by intro h0; simp at h0; rw [h0.1] at hp; simp at hp) (oneO_some ⟨_, rfl⟩)]
    simp only [List.drop_left']
    rw [un_esc s g _ _ (by omega)]
    simp
theorem unesc_esc (s : List UInt8) : unesc (escL s) = (s, 0, 0) := by
  have := un_esc s (escL s).length 0 [] (Nat.le_refl _)
  simpa [unesc] using this
theorem un_only : ∀ (f : Nat) (l : List UInt8) (p : Nat) (acc : List UInt8), l.length ≤ f →
    ((un f l p acc).2.2 = 0 ∧ (un f l p acc).2.1 = 0 ∧ ∃ t, (un f l p acc).1 = acc ++ t ∧ escL t = l) ∨ ((un f l p acc).2.2 = 2 ∧ (un f l p acc).1 = [] ∧ (un f l p acc).2.1 < p + l.length)
  | 0, l, p, acc, h => by
    have : l = [] := List.eq_nil_of_length_eq_zero (by omega)
    subst this
    exact .inl ⟨rfl, rfl, [], by simp [un], rfl⟩
  | f + 1, l, p, acc, h => by
    by_cases h0 : l = []
    · subst h0
      exact .inl ⟨by simp [un], by simp [un], [], by simp [un], rfl⟩
    · have hlen : 1 ≤ l.length := by
        rcases Nat.eq_zero_or_pos l.length with h1 | h1
        · exact absurd (List.eq_nil_of_length_eq_zero h1) h0
        · exact h1
      cases ho : oneO l with
      | none =>
        rw [un_none h0 h ho]
        exact .inr ⟨rfl, rfl, by show p < p + l.length; omega⟩
      | some c =>
        obtain ⟨t, ht⟩ := oneO_of ho
        have hp := form_pos c
        rw [un_some h0 ho]
        have hd : l.drop (form c).length = t := by rw [← ht]; simp
        have hll : l.length = (form c).length + t.length := by rw [← ht]; simp
        rw [hd]
        rcases un_only f t (p + (form c).length) (acc ++ [c]) (by omega) with ⟨h1, h2, u, h3, h4⟩ | ⟨h1, h2, h3⟩
        · exact .inl ⟨h1, h2, c :: u, by rw [h3]; simp, by rw [← ht, ← h4]; simp [escL]⟩
        · exact .inr ⟨h1, h2, by omega⟩
theorem unesc_only (l : List UInt8) : ((unesc l).2.2 = 0 ∧ (unesc l).2.1 = 0 ∧ escL (unesc l).1 = l) ∨ ((unesc l).2.2 = 2 ∧ (unesc l).1 = [] ∧ (unesc l).2.1 < l.length) := by
  rcases un_only l.length l 0 [] (Nat.le_refl _) with ⟨h1, h2, t, h3, h4⟩ | ⟨h1, h2, h3⟩
  · exact .inl ⟨h1, h2, by rw [show unesc l = un l.length l 0 [] from rfl, h3]; simpa using h4⟩
  · exact .inr ⟨h1, h2, by simpa [unesc] using h3⟩
end Go.Proofs.YtjnhcoflmechmaaGreatDoor.E

namespace Go.Proofs.YtjnhcoflmechmaaGreatDoor.E
open Go
set_option linter.unusedVariables false
def signs : List UInt8 := [60, 62, 34]
/-- How many bytes stand up to the next of the three signs. -/
def spanN : List UInt8 → Nat
  | [] => 0
  | b :: l => if signs.contains b = true then 0 else spanN l + 1
theorem spanN_le : ∀ l : List UInt8, spanN l ≤ l.length
  | [] => Nat.le_refl _
  | b :: l => by
    have := spanN_le l
    unfold spanN
    rw [List.length_cons]
    split <;> omega
def spanI (l : List UInt8) (p : Int) : Int := if p < 0 ∨ (l.length : Int) ≤ p then 0 else (spanN (l.drop p.toNat) : Int)
end Go.Proofs.YtjnhcoflmechmaaGreatDoor.E
