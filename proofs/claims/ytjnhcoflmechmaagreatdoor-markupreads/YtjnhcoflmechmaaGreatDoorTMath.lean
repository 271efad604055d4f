/-
  Plain: the order of strings. | Plain: trees, their nodes by number, the first fault of a tree.
-/
import Derived.Lib.Bytealg
import Derived.Lib.Strings
namespace Go.Proofs.YtjnhcoflmechmaaGreatDoor
set_option linter.unusedVariables false
set_option maxRecDepth 100000

/-- Byte j of a string, as a number. -/
def byte (s : ByteArray) (j : Nat) : Int := ((s.data.toList.getD j 0).toNat : Int)
theorem byte_eq (s : ByteArray) (j : Nat) (h : j < s.size) : ((s[j]'h).toNat : Int) = byte s j := by
  unfold byte
  have h' : j < s.data.toList.length := by simpa using h
  simp [List.getD_eq_getElem?_getD, List.getElem?_eq_getElem h']
  rfl
theorem byte_bounds (s : ByteArray) (j : Nat) : 0 ≤ byte s j ∧ byte s j ≤ 255 := by
  unfold byte
  have := (s.data.toList.getD j 0).toNat_lt
  omega

theorem byte_inj {a b : ByteArray} {i j : Nat} : byte a i = byte b j ↔ a.data.toList.getD i 0 = b.data.toList.getD j 0 := by
  unfold byte
  constructor
  · intro h; exact UInt8.toNat_inj.1 (by omega)
  · intro h; rw [h]
theorem size_list (a : ByteArray) : a.data.toList.length = a.size := by simp
def EqTo (a b : ByteArray) (k : Nat) : Prop := ∀ j, j < k → byte a j = byte b j
theorem eqTo_succ {a b : ByteArray} {k : Nat} (h : EqTo a b k) (e : byte a k = byte b k) : EqTo a b (k + 1) := by
  intro j hj
  rcases Nat.lt_or_ge j k with h1 | h1
  · exact h j h1
  · have : j = k := by omega
    subst this; exact e
theorem cmp_drop : ∀ (k : Nat) (a b : List UInt8), k ≤ a.length → k ≤ b.length → (∀ j, j < k → a.getD j 0 = b.getD j 0) → Lib.compareBytes a b = Lib.compareBytes (a.drop k) (b.drop k) := by
  intro k
  induction k with
  | zero => intro a b _ _ _; simp
  | succ k ih =>
    intro a b ha hb h
    match a, b, ha, hb, h with
    | x :: a, y :: b, ha, hb, h =>
      have h0 : x = y := by have := h 0 (by omega); simpa using this
      subst h0
      have hx : ¬ x < x := by simp
      have := ih a b (by simpa using ha) (by simpa using hb) (fun j hj => by have := h (j + 1) (by omega); simpa using this)
      simp [Lib.compareBytes, hx, this]
theorem cmp_neg : ∀ a b : List UInt8, Lib.compareBytes b a = - Lib.compareBytes a b := by
  intro a
  induction a with
  | nil => intro b; cases b <;> simp [Lib.compareBytes]
  | cons x a ih =>
    intro b
    cases b with
    | nil => simp [Lib.compareBytes]
    | cons y b =>
      simp only [Lib.compareBytes]
      by_cases h1 : x < y
      · have h2 : ¬ y < x := by rw [UInt8.lt_iff_toNat_lt] at h1 ⊢; omega
        simp [h1, h2]
      · by_cases h2 : y < x
        · simp [h1, h2]
        · simp [h1, h2, ih b]
theorem cmp_bounds : ∀ a b : List UInt8, -1 ≤ Lib.compareBytes a b ∧ Lib.compareBytes a b ≤ 1 := by
  intro a
  induction a with
  | nil => intro b; cases b <;> simp [Lib.compareBytes]
  | cons x a ih =>
    intro b
    cases b with
    | nil => simp [Lib.compareBytes]
    | cons y b =>
      simp only [Lib.compareBytes]
      have := ih b
      split
      · omega
      · split <;> omega
def cmpN (a b : ByteArray) : Int := Lib.compareBytes a.data.toList b.data.toList
theorem eqTo_list {a b : ByteArray} {k : Nat} (h : EqTo a b k) : ∀ j, j < k → a.data.toList.getD j 0 = b.data.toList.getD j 0 := fun j hj => byte_inj.1 (h j hj)
theorem drop_cons (s : ByteArray) (k : Nat) (h : k < s.size) : s.data.toList.drop k = s.data.toList.getD k 0 :: s.data.toList.drop (k + 1) := by
  have h' : k < s.data.toList.length := by rw [size_list]; exact h
  rw [List.drop_eq_getElem_cons h']
  simp [List.getD_eq_getElem?_getD, List.getElem?_eq_getElem h']
theorem lt_byte {a b : ByteArray} {k : Nat} : a.data.toList.getD k 0 < b.data.toList.getD k 0 ↔ byte a k < byte b k := by
  unfold byte; rw [UInt8.lt_iff_toNat_lt]; omega
theorem cmpN_lt {a b : ByteArray} {k : Nat} (ha : k < a.size) (hb : k < b.size) (h : EqTo a b k) (hl : byte a k < byte b k) : cmpN a b = -1 := by
  unfold cmpN
  rw [cmp_drop k _ _ (by rw [size_list]; omega) (by rw [size_list]; omega) (eqTo_list h), drop_cons a k ha, drop_cons b k hb]
  simp only [Lib.compareBytes]
  rw [if_pos (lt_byte.2 hl)]
theorem cmpN_gt {a b : ByteArray} {k : Nat} (ha : k < a.size) (hb : k < b.size) (h : EqTo a b k) (hl : byte b k < byte a k) : cmpN a b = 1 := by
  unfold cmpN
  rw [cmp_drop k _ _ (by rw [size_list]; omega) (by rw [size_list]; omega) (eqTo_list h), drop_cons a k ha, drop_cons b k hb]
  simp only [Lib.compareBytes]
  rw [if_neg (fun e => by have := lt_byte.1 e; omega), if_pos (lt_byte.2 hl)]
theorem cmpN_end {a b : ByteArray} {k : Nat} (ha : k ≤ a.size) (hb : k ≤ b.size) (h : EqTo a b k) (he : k = a.size ∨ k = b.size) : cmpN a b = if a.size < b.size then -1 else if b.size < a.size then 1 else 0 := by
  unfold cmpN
  rw [cmp_drop k _ _ (by rw [size_list]; omega) (by rw [size_list]; omega) (eqTo_list h)]
  have hla : (a.data.toList.drop k).length = a.size - k := by rw [List.length_drop, size_list]
  have hlb : (b.data.toList.drop k).length = b.size - k := by rw [List.length_drop, size_list]
  generalize a.data.toList.drop k = x at *
  generalize b.data.toList.drop k = y at *
  match x, y, hla, hlb with
  | [], [], h1, h2 => simp at h1 h2; simp only [Lib.compareBytes]; rw [if_neg (by omega), if_neg (by omega)]
  | [], c :: r, h1, h2 => simp at h1 h2; simp only [Lib.compareBytes]; rw [if_pos (by omega)]
  | c :: r, [], h1, h2 => simp at h1 h2; simp only [Lib.compareBytes]; rw [if_neg (by omega), if_pos (by omega)]
  | c :: r, d :: s, h1, h2 => simp at h1 h2; omega

theorem cb_zero : ∀ a b : List UInt8, Lib.compareBytes a b = 0 → a = b := by
  intro a
  induction a with
  | nil => intro b; cases b <;> simp [Lib.compareBytes]
  | cons x a ih =>
    intro b
    cases b with
    | nil => simp [Lib.compareBytes]
    | cons y b =>
      simp only [Lib.compareBytes]
      by_cases h1 : x < y
      · simp [h1]
      · by_cases h2 : y < x
        · simp [h1, h2]
        · have : x = y := by rw [UInt8.lt_iff_toNat_lt] at h1 h2; exact UInt8.toNat_inj.1 (by omega)
          subst this
          simp
          exact ih b
theorem cb_self : ∀ a : List UInt8, Lib.compareBytes a a = 0
  | [] => rfl
  | x :: a => by simp [Lib.compareBytes, cb_self a]
theorem cb_trans : ∀ a b c : List UInt8, Lib.compareBytes a b < 0 → Lib.compareBytes b c < 0 → Lib.compareBytes a c < 0 := by
  intro a
  induction a with
  | nil => intro b c; cases b <;> cases c <;> simp [Lib.compareBytes]
  | cons x a ih =>
    intro b c
    cases b with
    | nil => simp [Lib.compareBytes]
    | cons y b =>
      cases c with
      | nil => simp [Lib.compareBytes]
      | cons z c =>
        simp only [Lib.compareBytes, UInt8.lt_iff_toNat_lt]
        intro h1 h2
        by_cases a1 : x.toNat < y.toNat
        · by_cases a2 : y.toNat < z.toNat
          · rw [if_pos (by omega)]; omega
          · rw [if_neg a2] at h2
            by_cases a3 : z.toNat < y.toNat
            · rw [if_pos a3] at h2; omega
            · rw [if_pos (by omega)]; omega
        · rw [if_neg a1] at h1
          by_cases a2 : y.toNat < x.toNat
          · rw [if_pos a2] at h1; omega
          · rw [if_neg a2] at h1
            by_cases a3 : y.toNat < z.toNat
            · rw [if_pos (by omega)]; omega
            · rw [if_neg a3] at h2
              by_cases a4 : z.toNat < y.toNat
              · rw [if_pos a4] at h2; omega
              · rw [if_neg a4] at h2
                rw [if_neg (by omega), if_neg (by omega)]
                exact ih b c h1 h2
theorem cmpN_zero {a b : ByteArray} (h : cmpN a b = 0) : a = b := by
  have := cb_zero _ _ h
  obtain ⟨⟨la⟩⟩ := a
  obtain ⟨⟨lb⟩⟩ := b
  simp at this
  rw [this]
theorem cmpN_self (a : ByteArray) : cmpN a a = 0 := cb_self _
theorem cmpN_neg (a b : ByteArray) : cmpN b a = - cmpN a b := cmp_neg _ _
theorem cmpN_trans {a b c : ByteArray} (h1 : cmpN a b < 0) (h2 : cmpN b c < 0) : cmpN a c < 0 := cb_trans _ _ _ h1 h2
theorem cmpN_bounds (a b : ByteArray) : -1 ≤ cmpN a b ∧ cmpN a b ≤ 1 := cmp_bounds _ _
theorem cmpN_total (a b : ByteArray) : cmpN a b < 0 ∨ a = b ∨ cmpN b a < 0 := by
  rcases (show cmpN a b < 0 ∨ cmpN a b = 0 ∨ 0 < cmpN a b by omega) with h | h | h
  · exact .inl h
  · exact .inr (.inl (cmpN_zero h))
  · exact .inr (.inr (by rw [cmpN_neg a b]; omega))
theorem cmpN_irrefl (a : ByteArray) : ¬ cmpN a a < 0 := by rw [cmpN_self]; omega
theorem cmpN_asymm {a b : ByteArray} (h : cmpN a b < 0) : ¬ cmpN b a < 0 := by rw [cmpN_neg a b]; omega
theorem cmpN_le_trans {a b c : ByteArray} (h1 : ¬ cmpN b a < 0) (h2 : ¬ cmpN c b < 0) : ¬ cmpN c a < 0 := by
  intro h
  rcases cmpN_total a b with h3 | h3 | h3
  · exact h2 (cmpN_trans h h3)
  · subst h3; exact h2 h
  · exact h1 h3
theorem cmpN_lt_le {a b c : ByteArray} (h1 : cmpN a b < 0) (h2 : ¬ cmpN c b < 0) : cmpN a c < 0 := by
  rcases cmpN_total b c with h3 | h3 | h3
  · exact cmpN_trans h1 h3
  · subst h3; exact h1
  · exact absurd h3 h2
theorem cmpN_le_lt {a b c : ByteArray} (h1 : ¬ cmpN b a < 0) (h2 : cmpN b c < 0) : cmpN a c < 0 := by
  rcases cmpN_total a b with h3 | h3 | h3
  · exact cmpN_trans h3 h2
  · subst h3; exact h2
  · exact absurd h3 h1
theorem cmpN_ne {a b : ByteArray} (h : cmpN a b < 0) : a ≠ b := fun e => by subst e; exact cmpN_irrefl a h
end Go.Proofs.YtjnhcoflmechmaaGreatDoor

namespace Go.Proofs.YtjnhcoflmechmaaGreatDoor
set_option linter.unusedVariables false
set_option maxRecDepth 100000
abbrev At := ByteArray × ByteArray
inductive Tr where
  | mk (tag key text : ByteArray) (as : List At) (kids : List Tr)
namespace Tr
def tag : Tr → ByteArray | .mk a _ _ _ _ => a
def key : Tr → ByteArray | .mk _ a _ _ _ => a
def text : Tr → ByteArray | .mk _ _ a _ _ => a
def as : Tr → List At | .mk _ _ _ a _ => a
def kids : Tr → List Tr | .mk _ _ _ _ a => a
end Tr
def noB : ByteArray := ⟨#[]⟩
/-- A node with its depth and the number of the one above. -/
structure It where
  t : Tr
  d : Nat
  up : Int
def hasKey (l : List It) (up : Int) (k : ByteArray) : Prop := ∃ x ∈ l, x.up = up ∧ x.t.key = k
open Classical in
noncomputable def nodeF (al : Tr → Int) (pre : List It) (x : It) : Int := if pre.length = 4096 then 12 else if 64 < x.d then 11 else if al x.t ≠ 0 then al x.t else if 0 ≤ x.up ∧ x.t.key ≠ noB ∧ hasKey pre x.up x.t.key then 10 else 0
mutual
noncomputable def visitL (al : Tr → Int) : Tr → Nat → Int → List It → List It × Int
  | .mk a b c s kids, d, up, l =>
    if nodeF al l ⟨.mk a b c s kids, d, up⟩ = 0 then visitK al kids (d + 1) l.length (l ++ [⟨.mk a b c s kids, d, up⟩]) else (l, nodeF al l ⟨.mk a b c s kids, d, up⟩)
noncomputable def visitK (al : Tr → Int) : List Tr → Nat → Int → List It → List It × Int
  | [], _, _, l => (l, 0)
  | k :: ks, d, up, l => if (visitL al k d up l).2 = 0 then visitK al ks d up (visitL al k d up l).1 else visitL al k d up l
end
mutual
def belowL : Tr → Nat → Int → List It → List It
  | .mk a b c s kids, d, up, l => if 4096 < l.length then l else if 64 < d then l ++ [⟨.mk a b c s kids, d, up⟩] else belowK kids (d + 1) l.length (l ++ [⟨.mk a b c s kids, d, up⟩])
def belowK : List Tr → Nat → Int → List It → List It
  | [], _, _, l => l
  | k :: ks, d, up, l => if 4096 < l.length then l else belowK ks d up (belowL k d up l)
end
theorem visitL_eq (al : Tr → Int) (t : Tr) (d : Nat) (up : Int) (l : List It) : visitL al t d up l = if nodeF al l ⟨t, d, up⟩ = 0 then visitK al t.kids (d + 1) l.length (l ++ [⟨t, d, up⟩]) else (l, nodeF al l ⟨t, d, up⟩) := by
  cases t; rw [visitL]; rfl
theorem belowL_eq (t : Tr) (d : Nat) (up : Int) (l : List It) : belowL t d up l = if 4096 < l.length then l else if 64 < d then l ++ [⟨t, d, up⟩] else belowK t.kids (d + 1) l.length (l ++ [⟨t, d, up⟩]) := by
  cases t; rw [belowL]; rfl
def Clean (al : Tr → Int) (l : List It) : Prop := ∀ i, (h : i < l.length) → nodeF al (l.take i) l[i] = 0
theorem Clean.le {al : Tr → Int} {l : List It} (h : Clean al l) : l.length ≤ 4096 := by
  rcases Nat.lt_or_ge 4096 l.length with h1 | h1
  · have := h 4096 h1
    rw [nodeF, if_pos (by simp; omega)] at this
    cases this
  · exact h1
theorem Clean.nil (al : Tr → Int) : Clean al [] := fun i h => by simp at h
theorem Clean.snoc {al : Tr → Int} {l : List It} {x : It} (h : Clean al l) (hx : nodeF al l x = 0) : Clean al (l ++ [x]) := by
  intro i hi
  rcases Nat.lt_or_ge i l.length with h1 | h1
  · rw [List.getElem_append_left h1, List.take_append_of_le_length (by omega)]; exact h i h1
  · have : i = l.length := by simp at hi; omega
    subst this
    simpa using hx
def VB (al : Tr → Int) (l : List It) (r : List It × Int) (m : List It) : Prop := l <+: m ∧ l <+: r.1 ∧ Clean al r.1 ∧ (r.2 = 0 → m = r.1) ∧ (r.2 ≠ 0 → ∃ x, (r.1 ++ [x]) <+: m ∧ nodeF al r.1 x = r.2)
mutual
theorem belowL_pre : ∀ (t : Tr) (d : Nat) (up : Int) (l : List It), l <+: belowL t d up l
  | .mk a b c s kids, d, up, l => by
    rw [belowL]
    split
    · exact List.prefix_refl _
    · split
      · exact List.prefix_append _ _
      · exact (List.prefix_append _ _).trans (belowK_pre kids _ _ _)
theorem belowK_pre : ∀ (ks : List Tr) (d : Nat) (up : Int) (l : List It), l <+: belowK ks d up l
  | [], _, _, l => by rw [belowK]; exact List.prefix_refl _
  | k :: ks, d, up, l => by
    rw [belowK]
    split
    · exact List.prefix_refl _
    · exact (belowL_pre k d up l).trans (belowK_pre ks _ _ _)
end
mutual
theorem visit_below (al : Tr → Int) : ∀ (t : Tr) (d : Nat) (up : Int) (l : List It), Clean al l → VB al l (visitL al t d up l) (belowL t d up l)
  | .mk a b c s kids, d, up, l, hc => by
    have hl := hc.le
    rw [visitL, belowL, if_neg (show ¬ 4096 < l.length by omega)]
    by_cases h0 : nodeF al l ⟨.mk a b c s kids, d, up⟩ = 0
    · have hd : ¬ 64 < d := by
        intro hd
        unfold nodeF at h0
        split at h0
        · cases h0
        · first | cases h0 | (rw [if_pos hd] at h0; cases h0)
      rw [if_pos h0, if_neg hd]
      obtain ⟨h1, h2, h3, h4, h5⟩ := visit_belowK al kids (d + 1) l.length (l ++ [⟨.mk a b c s kids, d, up⟩]) (hc.snoc h0)
      exact ⟨(List.prefix_append _ _).trans h1, (List.prefix_append _ _).trans h2, h3, h4, h5⟩
    · rw [if_neg h0]
      have hp : l <+: (if 64 < d then l ++ [⟨.mk a b c s kids, d, up⟩] else belowK kids (d + 1) l.length (l ++ [⟨.mk a b c s kids, d, up⟩])) ∧ (l ++ [⟨.mk a b c s kids, d, up⟩]) <+: (if 64 < d then l ++ [⟨.mk a b c s kids, d, up⟩] else belowK kids (d + 1) l.length (l ++ [⟨.mk a b c s kids, d, up⟩])) := by
        split
        · exact ⟨List.prefix_append _ _, List.prefix_refl _⟩
        · exact ⟨(List.prefix_append _ _).trans (belowK_pre _ _ _ _), belowK_pre _ _ _ _⟩
      exact ⟨hp.1, List.prefix_refl _, hc, fun h => absurd h h0, fun _ => ⟨_, hp.2, rfl⟩⟩
theorem visit_belowK (al : Tr → Int) : ∀ (ks : List Tr) (d : Nat) (up : Int) (l : List It), Clean al l → VB al l (visitK al ks d up l) (belowK ks d up l)
  | [], d, up, l, hc => by rw [visitK, belowK]; exact ⟨List.prefix_refl _, List.prefix_refl _, hc, fun _ => rfl, fun h => absurd rfl h⟩
  | k :: ks, d, up, l, hc => by
    have hl := hc.le
    obtain ⟨h1, h2, h3, h4, h5⟩ := visit_below al k d up l hc
    rw [visitK, belowK, if_neg (show ¬ 4096 < l.length by omega)]
    by_cases h0 : (visitL al k d up l).2 = 0
    · rw [if_pos h0, h4 h0]
      obtain ⟨g1, g2, g3, g4, g5⟩ := visit_belowK al ks d up _ h3
      exact ⟨h2.trans g1, h2.trans g2, g3, g4, g5⟩
    · rw [if_neg h0]
      obtain ⟨x, hx, he⟩ := h5 h0
      exact ⟨h1.trans (belowK_pre _ _ _ _), h2, h3, fun h => absurd h h0, fun _ => ⟨x, hx.trans (belowK_pre _ _ _ _), he⟩⟩
end
/-- The first fault of the nodes, with its number. -/
def FirstF (al : Tr → Int) (m : List It) (a e : Int) : Prop := (∃ i : Nat, ∃ h : i < m.length, a = i ∧ e = nodeF al (m.take i) m[i] ∧ e ≠ 0 ∧ ∀ j, (hj : j < m.length) → j < i → nodeF al (m.take j) m[j] = 0) ∨ (a = 0 ∧ e = 0 ∧ Clean al m)
theorem firstF_unique {al : Tr → Int} {m : List It} {a e a' e' : Int} (h : FirstF al m a e) (h' : FirstF al m a' e') : a = a' ∧ e = e' := by
  rcases h with ⟨i, hi, rfl, he, hf, hb⟩ | ⟨rfl, rfl, hb⟩ <;> rcases h' with ⟨i', hi', rfl, he', hf', hb'⟩ | ⟨rfl, rfl, hb'⟩
  · rcases Nat.lt_trichotomy i i' with h | h | h
    · exact absurd (he.trans (hb' i hi h)) hf
    · subst h; exact ⟨rfl, by rw [he, he']⟩
    · exact absurd (he'.trans (hb i' hi' h)) hf'
  · exact absurd (he.trans (hb' i hi)) hf
  · exact absurd (he'.trans (hb i' hi')) hf'
  · exact ⟨rfl, rfl⟩
noncomputable def seenL (al : Tr → Int) (t : Tr) : List It × Int := visitL al t 1 (-1) []
def itemsL (t : Tr) : List It := belowL t 1 (-1) []
theorem seen_first (al : Tr → Int) (t : Tr) : FirstF al (itemsL t) (if (seenL al t).2 = 0 then 0 else (seenL al t).1.length) (seenL al t).2 := by
  obtain ⟨h1, h2, h3, h4, h5⟩ := visit_below al t 1 (-1) [] (Clean.nil al)
  change ((seenL al t).2 = 0 → itemsL t = (seenL al t).1) at h4
  change ((seenL al t).2 ≠ 0 → ∃ x, ((seenL al t).1 ++ [x]) <+: itemsL t ∧ nodeF al (seenL al t).1 x = (seenL al t).2) at h5
  change Clean al (seenL al t).1 at h3
  by_cases h0 : (seenL al t).2 = 0
  · rw [if_pos h0, h4 h0, h0]; exact .inr ⟨rfl, rfl, h3⟩
  · rw [if_neg h0]
    obtain ⟨x, ⟨r, hx⟩, he⟩ := h5 h0
    refine .inl ⟨(seenL al t).1.length, by rw [← hx]; simp, rfl, ?_, h0, fun j hj hjl => ?_⟩
    · simp [← hx, he]
    · have := h3 j hjl
      simp only [← hx, List.append_assoc]
      rw [List.getElem_append_left hjl, List.take_append_of_le_length (by omega)]; exact this
def maxD : List It → Nat
  | [] => 0
  | x :: r => max x.d (maxD r)
theorem maxD_append (a b : List It) : maxD (a ++ b) = max (maxD a) (maxD b) := by
  induction a with
  | nil => simp [maxD]
  | cons x r ih => simp only [List.cons_append, maxD, ih]; omega
theorem maxD_snoc (a : List It) (x : It) : maxD (a ++ [x]) = max (maxD a) x.d := by rw [maxD_append]; simp [maxD]
/-- Each node's parent comes before it. -/
def Ups (l : List It) : Prop := ∀ x ∈ l, x.up < l.length
theorem Ups.snoc {l : List It} {x : It} (h : Ups l) (hx : x.up < l.length) : Ups (l ++ [x]) := by
  intro y hy
  simp only [List.length_append, List.length_cons, List.length_nil]
  rcases List.mem_append.1 hy with hy | hy
  · have := h y hy; omega
  · simp at hy; subst hy; omega
mutual
theorem visit_ext (al : Tr → Int) : ∀ (t : Tr) (d : Nat) (up : Int) (l : List It), Ups l → up < l.length → Ups (visitL al t d up l).1 ∧ ((visitL al t d up l).2 = 0 → ∃ ext, (visitL al t d up l).1 = l ++ ⟨t, d, up⟩ :: ext ∧ ∀ x ∈ ext, (l.length : Int) ≤ x.up)
  | .mk a b c s kids, d, up, l, hu, hup => by
    rw [visitL]
    by_cases h0 : nodeF al l ⟨.mk a b c s kids, d, up⟩ = 0
    · rw [if_pos h0]
      obtain ⟨h1, h2⟩ := visitK_ext al kids (d + 1) l.length (l ++ [⟨.mk a b c s kids, d, up⟩]) (hu.snoc hup) (by simp; omega)
      refine ⟨h1, fun h => ?_⟩
      obtain ⟨ext, he, hx⟩ := h2 h
      exact ⟨ext, by rw [he]; simp, hx⟩
    · rw [if_neg h0]
      exact ⟨hu, fun h => absurd h h0⟩
theorem visitK_ext (al : Tr → Int) : ∀ (ks : List Tr) (d : Nat) (up : Int) (l : List It), Ups l → up < l.length → Ups (visitK al ks d up l).1 ∧ ((visitK al ks d up l).2 = 0 → ∃ ext, (visitK al ks d up l).1 = l ++ ext ∧ ∀ x ∈ ext, up ≤ x.up)
  | [], d, up, l, hu, hup => by rw [visitK]; exact ⟨hu, fun _ => ⟨[], by simp, fun x hx => by simp at hx⟩⟩
  | k :: ks, d, up, l, hu, hup => by
    rw [visitK]
    obtain ⟨h1, h2⟩ := visit_ext al k d up l hu hup
    by_cases h0 : (visitL al k d up l).2 = 0
    · rw [if_pos h0]
      obtain ⟨ext, he, hx⟩ := h2 h0
      obtain ⟨g1, g2⟩ := visitK_ext al ks d up (visitL al k d up l).1 h1 (by rw [he]; simp; omega)
      refine ⟨g1, fun h => ?_⟩
      obtain ⟨ext', he', hx'⟩ := g2 h
      refine ⟨⟨k, d, up⟩ :: ext ++ ext', by rw [he', he]; simp, fun x hxx => ?_⟩
      simp only [List.cons_append, List.mem_cons, List.mem_append] at hxx
      rcases hxx with rfl | hxx | hxx
      · exact Int.le_refl _
      · have := hx x hxx; omega
      · exact hx' x hxx
    · rw [if_neg h0]
      exact ⟨h1, fun h => absurd h h0⟩
end
/-- The keys of the siblings so far. -/
def KeysAt (l : List It) (up : Int) (S : ByteArray → Prop) : Prop := ∀ k, S k ↔ k ≠ noB ∧ hasKey l up k
theorem hasKey_append {a b : List It} {up : Int} {k : ByteArray} : hasKey (a ++ b) up k ↔ hasKey a up k ∨ hasKey b up k := by
  unfold hasKey
  constructor
  · rintro ⟨x, hx, h⟩
    rcases List.mem_append.1 hx with hx | hx
    · exact .inl ⟨x, hx, h⟩
    · exact .inr ⟨x, hx, h⟩
  · rintro (⟨x, hx, h⟩ | ⟨x, hx, h⟩)
    · exact ⟨x, List.mem_append.2 (.inl hx), h⟩
    · exact ⟨x, List.mem_append.2 (.inr hx), h⟩
theorem hasKey_up {l : List It} {t : Tr} {d : Nat} {up : Int} {ext : List It} (hup : up < l.length) (hx : ∀ x ∈ ext, (l.length : Int) ≤ x.up) (k : ByteArray) : hasKey (l ++ ⟨t, d, up⟩ :: ext) up k ↔ hasKey l up k ∨ t.key = k := by
  rw [hasKey_append]
  constructor
  · rintro (h | ⟨x, hm, hu, hk⟩)
    · exact .inl h
    · rcases List.mem_cons.1 hm with rfl | hm
      · exact .inr hk
      · have := hx x hm; omega
  · rintro (h | h)
    · exact .inl h
    · exact .inr ⟨_, List.mem_cons_self, rfl, h⟩
theorem hasKey_new {l : List It} {x : It} (hu : Ups l) (hx : x.up < l.length) (k : ByteArray) : ¬ hasKey (l ++ [x]) l.length k := by
  rintro ⟨y, hy, h, _⟩
  rcases List.mem_append.1 hy with hy | hy
  · have := hu y hy; omega
  · simp at hy; subst hy; omega
end Go.Proofs.YtjnhcoflmechmaaGreatDoor
