/-
  Plain: trees, their nodes by number, the first fault of a tree.
-/
import Derived.Test.YtlkdklpglmglkaaAMath
namespace Go.Proofs.Ytlkdklpglmglkaa
set_option linter.unusedVariables false
set_option maxRecDepth 100000
abbrev At := ByteArray × ByteArray
inductive Tr where
  | mk (tag key text : ByteArray) (as : List At) (kids : List Tr)
namespace Tr
def tag : Tr → ByteArray | .mk a _ _ _ _ => a
def key : Tr → ByteArray | .mk _ a _ _ _ => a
def text : Tr → ByteArray | .mk _ _ a _ _ => a
def as : Tr → List At | .mk _ _ _ a _ => a
def kids : Tr → List Tr | .mk _ _ _ _ a => a
end Tr
def noB : ByteArray := ⟨#[]⟩
/-- A node with its depth and the number of the one above. -/
structure It where
  t : Tr
  d : Nat
  up : Int
def hasKey (l : List It) (up : Int) (k : ByteArray) : Prop := ∃ x ∈ l, x.up = up ∧ x.t.key = k
open Classical in
noncomputable def nodeF (al : Tr → Int) (pre : List It) (x : It) : Int := if pre.length = 4096 then 12 else if 64 < x.d then 11 else if al x.t ≠ 0 then al x.t else if 0 ≤ x.up ∧ x.t.key ≠ noB ∧ hasKey pre x.up x.t.key then 10 else 0
mutual
noncomputable def visitL (al : Tr → Int) : Tr → Nat → Int → List It → List It × Int
  | .mk a b c s kids, d, up, l =>
    if nodeF al l ⟨.mk a b c s kids, d, up⟩ = 0 then visitK al kids (d + 1) l.length (l ++ [⟨.mk a b c s kids, d, up⟩]) else (l, nodeF al l ⟨.mk a b c s kids, d, up⟩)
noncomputable def visitK (al : Tr → Int) : List Tr → Nat → Int → List It → List It × Int
  | [], _, _, l => (l, 0)
  | k :: ks, d, up, l => if (visitL al k d up l).2 = 0 then visitK al ks d up (visitL al k d up l).1 else visitL al k d up l
end
mutual
def belowL : Tr → Nat → Int → List It → List It
  | .mk a b c s kids, d, up, l => if 4096 < l.length then l else if 64 < d then l ++ [⟨.mk a b c s kids, d, up⟩] else belowK kids (d + 1) l.length (l ++ [⟨.mk a b c s kids, d, up⟩])
def belowK : List Tr → Nat → Int → List It → List It
  | [], _, _, l => l
  | k :: ks, d, up, l => if 4096 < l.length then l else belowK ks d up (belowL k d up l)
end
theorem visitL_eq (al : Tr → Int) (t : Tr) (d : Nat) (up : Int) (l : List It) : visitL al t d up l = if nodeF al l ⟨t, d, up⟩ = 0 then visitK al t.kids (d + 1) l.length (l ++ [⟨t, d, up⟩]) else (l, nodeF al l ⟨t, d, up⟩) := by
  cases t; rw [visitL]; rfl
theorem belowL_eq (t : Tr) (d : Nat) (up : Int) (l : List It) : belowL t d up l = if 4096 < l.length then l else if 64 < d then l ++ [⟨t, d, up⟩] else belowK t.kids (d + 1) l.length (l ++ [⟨t, d, up⟩]) := by
  cases t; rw [belowL]; rfl
def Clean (al : Tr → Int) (l : List It) : Prop := ∀ i, (h : i < l.length) → nodeF al (l.take i) l[i] = 0
theorem Clean.le {al : Tr → Int} {l : List It} (h : Clean al l) : l.length ≤ 4096 := by
  rcases Nat.lt_or_ge 4096 l.length with h1 | h1
  · have := h 4096 h1
    rw [nodeF, if_pos (by simp; omega)] at this
    cases this
  · exact h1
theorem Clean.nil (al : Tr → Int) : Clean al [] := fun i h => by simp at h
theorem Clean.snoc {al : Tr → Int} {l : List It} {x : It} (h : Clean al l) (hx : nodeF al l x = 0) : Clean al (l ++ [x]) := by
  intro i hi
  rcases Nat.lt_or_ge i l.length with h1 | h1
  · rw [List.getElem_append_left h1, List.take_append_of_le_length (by omega)]; exact h i h1
  · have : i = l.length := by simp at hi; omega
    subst this
    simpa using hx
def VB (al : Tr → Int) (l : List It) (r : List It × Int) (m : List It) : Prop := l <+: m ∧ l <+: r.1 ∧ Clean al r.1 ∧ (r.2 = 0 → m = r.1) ∧ (r.2 ≠ 0 → ∃ x, (r.1 ++ [x]) <+: m ∧ nodeF al r.1 x = r.2)
mutual
theorem belowL_pre : ∀ (t : Tr) (d : Nat) (up : Int) (l : List It), l <+: belowL t d up l
  | .mk a b c s kids, d, up, l => by
    rw [belowL]
    split
    · exact List.prefix_refl _
    · split
      · exact List.prefix_append _ _
      · exact (List.prefix_append _ _).trans (belowK_pre kids _ _ _)
theorem belowK_pre : ∀ (ks : List Tr) (d : Nat) (up : Int) (l : List It), l <+: belowK ks d up l
  | [], _, _, l => by rw [belowK]; exact List.prefix_refl _
  | k :: ks, d, up, l => by
    rw [belowK]
    split
    · exact List.prefix_refl _
    · exact (belowL_pre k d up l).trans (belowK_pre ks _ _ _)
end
mutual
theorem visit_below (al : Tr → Int) : ∀ (t : Tr) (d : Nat) (up : Int) (l : List It), Clean al l → VB al l (visitL al t d up l) (belowL t d up l)
  | .mk a b c s kids, d, up, l, hc => by
    have hl := hc.le
    rw [visitL, belowL, if_neg (show ¬ 4096 < l.length by omega)]
    by_cases h0 : nodeF al l ⟨.mk a b c s kids, d, up⟩ = 0
    · have hd : ¬ 64 < d := by
        intro hd
        unfold nodeF at h0
        split at h0
        · cases h0
        · first | cases h0 | (rw [if_pos hd] at h0; cases h0)
      rw [if_pos h0, if_neg hd]
      obtain ⟨h1, h2, h3, h4, h5⟩ := visit_belowK al kids (d + 1) l.length (l ++ [⟨.mk a b c s kids, d, up⟩]) (hc.snoc h0)
      exact ⟨(List.prefix_append _ _).trans h1, (List.prefix_append _ _).trans h2, h3, h4, h5⟩
    · rw [if_neg h0]
      have hp : l <+: (if 64 < d then l ++ [⟨.mk a b c s kids, d, up⟩] else belowK kids (d + 1) l.length (l ++ [⟨.mk a b c s kids, d, up⟩])) ∧ (l ++ [⟨.mk a b c s kids, d, up⟩]) <+: (if 64 < d then l ++ [⟨.mk a b c s kids, d, up⟩] else belowK kids (d + 1) l.length (l ++ [⟨.mk a b c s kids, d, up⟩])) := by
        split
        · exact ⟨List.prefix_append _ _, List.prefix_refl _⟩
        · exact ⟨(List.prefix_append _ _).trans (belowK_pre _ _ _ _), belowK_pre _ _ _ _⟩
      exact ⟨hp.1, List.prefix_refl _, hc, fun h => absurd h h0, fun _ => ⟨_, hp.2, rfl⟩⟩
theorem visit_belowK (al : Tr → Int) : ∀ (ks : List Tr) (d : Nat) (up : Int) (l : List It), Clean al l → VB al l (visitK al ks d up l) (belowK ks d up l)
  | [], d, up, l, hc => by rw [visitK, belowK]; exact ⟨List.prefix_refl _, List.prefix_refl _, hc, fun _ => rfl, fun h => absurd rfl h⟩
  | k :: ks, d, up, l, hc => by
    have hl := hc.le
    obtain ⟨h1, h2, h3, h4, h5⟩ := visit_below al k d up l hc
    rw [visitK, belowK, if_neg (show ¬ 4096 < l.length by omega)]
    by_cases h0 : (visitL al k d up l).2 = 0
    · rw [if_pos h0, h4 h0]
      obtain ⟨g1, g2, g3, g4, g5⟩ := visit_belowK al ks d up _ h3
      exact ⟨h2.trans g1, h2.trans g2, g3, g4, g5⟩
    · rw [if_neg h0]
      obtain ⟨x, hx, he⟩ := h5 h0
      exact ⟨h1.trans (belowK_pre _ _ _ _), h2, h3, fun h => absurd h h0, fun _ => ⟨x, hx.trans (belowK_pre _ _ _ _), he⟩⟩
end
/-- The first fault of the nodes, with its number. -/
def FirstF (al : Tr → Int) (m : List It) (a e : Int) : Prop := (∃ i : Nat, ∃ h : i < m.length, a = i ∧ e = nodeF al (m.take i) m[i] ∧ e ≠ 0 ∧ ∀ j, (hj : j < m.length) → j < i → nodeF al (m.take j) m[j] = 0) ∨ (a = 0 ∧ e = 0 ∧ Clean al m)
theorem firstF_unique {al : Tr → Int} {m : List It} {a e a' e' : Int} (h : FirstF al m a e) (h' : FirstF al m a' e') : a = a' ∧ e = e' := by
  rcases h with ⟨i, hi, rfl, he, hf, hb⟩ | ⟨rfl, rfl, hb⟩ <;> rcases h' with ⟨i', hi', rfl, he', hf', hb'⟩ | ⟨rfl, rfl, hb'⟩
  · rcases Nat.lt_trichotomy i i' with h | h | h
    · exact absurd (he.trans (hb' i hi h)) hf
    · subst h; exact ⟨rfl, by rw [he, he']⟩
    · exact absurd (he'.trans (hb i' hi' h)) hf'
  · exact absurd (he.trans (hb' i hi)) hf
  · exact absurd (he'.trans (hb i' hi')) hf'
  · exact ⟨rfl, rfl⟩
noncomputable def seenL (al : Tr → Int) (t : Tr) : List It × Int := visitL al t 1 (-1) []
def itemsL (t : Tr) : List It := belowL t 1 (-1) []
theorem seen_first (al : Tr → Int) (t : Tr) : FirstF al (itemsL t) (if (seenL al t).2 = 0 then 0 else (seenL al t).1.length) (seenL al t).2 := by
  obtain ⟨h1, h2, h3, h4, h5⟩ := visit_below al t 1 (-1) [] (Clean.nil al)
  change ((seenL al t).2 = 0 → itemsL t = (seenL al t).1) at h4
  change ((seenL al t).2 ≠ 0 → ∃ x, ((seenL al t).1 ++ [x]) <+: itemsL t ∧ nodeF al (seenL al t).1 x = (seenL al t).2) at h5
  change Clean al (seenL al t).1 at h3
  by_cases h0 : (seenL al t).2 = 0
  · rw [if_pos h0, h4 h0, h0]; exact .inr ⟨rfl, rfl, h3⟩
  · rw [if_neg h0]
    obtain ⟨x, ⟨r, hx⟩, he⟩ := h5 h0
    refine .inl ⟨(seenL al t).1.length, by rw [← hx]; simp, rfl, ?_, h0, fun j hj hjl => ?_⟩
    · simp [← hx, he]
    · have := h3 j hjl
      simp only [← hx, List.append_assoc]
      rw [List.getElem_append_left hjl, List.take_append_of_le_length (by omega)]; exact this
def maxD : List It → Nat
  | [] => 0
  | x :: r => max x.d (maxD r)
theorem maxD_append (a b : List It) : maxD (a ++ b) = max (maxD a) (maxD b) := by
  induction a with
  | nil => simp [maxD]
  | cons x r ih => simp only [List.cons_append, maxD, ih]; omega
theorem maxD_snoc (a : List It) (x : It) : maxD (a ++ [x]) = max (maxD a) x.d := by rw [maxD_append]; simp [maxD]
/-- Each node's parent comes before it. -/
def Ups (l : List It) : Prop := ∀ x ∈ l, x.up < l.length
theorem Ups.snoc {l : List It} {x : It} (h : Ups l) (hx : x.up < l.length) : Ups (l ++ [x]) := by
  intro y hy
  simp only [List.length_append, List.length_cons, List.length_nil]
  rcases List.mem_append.1 hy with hy | hy
  · have := h y hy; omega
  · simp at hy; subst hy; omega
mutual
theorem visit_ext (al : Tr → Int) : ∀ (t : Tr) (d : Nat) (up : Int) (l : List It), Ups l → up < l.length → Ups (visitL al t d up l).1 ∧ ((visitL al t d up l).2 = 0 → ∃ ext, (visitL al t d up l).1 = l ++ ⟨t, d, up⟩ :: ext ∧ ∀ x ∈ ext, (l.length : Int) ≤ x.up)
  | .mk a b c s kids, d, up, l, hu, hup => by
    rw [visitL]
    by_cases h0 : nodeF al l ⟨.mk a b c s kids, d, up⟩ = 0
    · rw [if_pos h0]
      obtain ⟨h1, h2⟩ := visitK_ext al kids (d + 1) l.length (l ++ [⟨.mk a b c s kids, d, up⟩]) (hu.snoc hup) (by simp; omega)
      refine ⟨h1, fun h => ?_⟩
      obtain ⟨ext, he, hx⟩ := h2 h
      exact ⟨ext, by rw [he]; simp, hx⟩
    · rw [if_neg h0]
      exact ⟨hu, fun h => absurd h h0⟩
theorem visitK_ext (al : Tr → Int) : ∀ (ks : List Tr) (d : Nat) (up : Int) (l : List It), Ups l → up < l.length → Ups (visitK al ks d up l).1 ∧ ((visitK al ks d up l).2 = 0 → ∃ ext, (visitK al ks d up l).1 = l ++ ext ∧ ∀ x ∈ ext, up ≤ x.up)
  | [], d, up, l, hu, hup => by rw [visitK]; exact ⟨hu, fun _ => ⟨[], by simp, fun x hx => by simp at hx⟩⟩
  | k :: ks, d, up, l, hu, hup => by
    rw [visitK]
    obtain ⟨h1, h2⟩ := visit_ext al k d up l hu hup
    by_cases h0 : (visitL al k d up l).2 = 0
    · rw [if_pos h0]
      obtain ⟨ext, he, hx⟩ := h2 h0
      obtain ⟨g1, g2⟩ := visitK_ext al ks d up (visitL al k d up l).1 h1 (by rw [he]; simp; omega)
      refine ⟨g1, fun h => ?_⟩
      obtain ⟨ext', he', hx'⟩ := g2 h
      refine ⟨⟨k, d, up⟩ :: ext ++ ext', by rw [he', he]; simp, fun x hxx => ?_⟩
      simp only [List.cons_append, List.mem_cons, List.mem_append] at hxx
      rcases hxx with rfl | hxx | hxx
      · exact Int.le_refl _
      · have := hx x hxx; omega
      · exact hx' x hxx
    · rw [if_neg h0]
      exact ⟨h1, fun h => absurd h h0⟩
end
/-- The keys of the siblings so far. -/
def KeysAt (l : List It) (up : Int) (S : ByteArray → Prop) : Prop := ∀ k, S k ↔ k ≠ noB ∧ hasKey l up k
theorem hasKey_append {a b : List It} {up : Int} {k : ByteArray} : hasKey (a ++ b) up k ↔ hasKey a up k ∨ hasKey b up k := by
  unfold hasKey
  constructor
  · rintro ⟨x, hx, h⟩
    rcases List.mem_append.1 hx with hx | hx
    · exact .inl ⟨x, hx, h⟩
    · exact .inr ⟨x, hx, h⟩
  · rintro (⟨x, hx, h⟩ | ⟨x, hx, h⟩)
    · exact ⟨x, List.mem_append.2 (.inl hx), h⟩
    · exact ⟨x, List.mem_append.2 (.inr hx), h⟩
theorem hasKey_up {l : List It} {t : Tr} {d : Nat} {up : Int} {ext : List It} (hup : up < l.length) (hx : ∀ x ∈ ext, (l.length : Int) ≤ x.up) (k : ByteArray) : hasKey (l ++ ⟨t, d, up⟩ :: ext) up k ↔ hasKey l up k ∨ t.key = k := by
  rw [hasKey_append]
  constructor
  · rintro (h | ⟨x, hm, hu, hk⟩)
    · exact .inl h
    · rcases List.mem_cons.1 hm with rfl | hm
      · exact .inr hk
      · have := hx x hm; omega
  · rintro (h | h)
    · exact .inl h
    · exact .inr ⟨_, List.mem_cons_self, rfl, h⟩
theorem hasKey_new {l : List It} {x : It} (hu : Ups l) (hx : x.up < l.length) (k : ByteArray) : ¬ hasKey (l ++ [x]) l.length k := by
  rintro ⟨y, hy, h, _⟩
  rcases List.mem_append.1 hy with hy | hy
  · have := hu y hy; omega
  · simp at hy; subst hy; omega
end Go.Proofs.Ytlkdklpglmglkaa
