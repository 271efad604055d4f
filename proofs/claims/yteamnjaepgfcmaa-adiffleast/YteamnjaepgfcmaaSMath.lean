/-
  Plain: sorted lists of attributes, and what a stable rearrangement keeps.
-/
import Derived.Test.YteamnjaepgfcmaaAMath
namespace Go.Proofs.Yteamnjaepgfcmaa
set_option linter.unusedVariables false

/-- An attribute: a name and a value. -/
abbrev At := ByteArray × ByteArray
def Srt (l : List At) : Prop := l.Pairwise fun x y => ¬ cmpN y.1 x.1 < 0
def fil (n : ByteArray) (l : List At) : List At := l.filter fun x => decide (x.1 = n)
def Stb (l l' : List At) : Prop := ∀ n, fil n l' = fil n l
theorem fil_append (n : ByteArray) (a b : List At) : fil n (a ++ b) = fil n a ++ fil n b := by simp [fil]
theorem mem_fil {n : ByteArray} {l : List At} {x : At} : x ∈ fil n l ↔ x ∈ l ∧ x.1 = n := by simp [fil]
theorem fil_none {n : ByteArray} {l : List At} (h : ∀ x ∈ l, x.1 ≠ n) : fil n l = [] := by
  unfold fil
  rw [List.filter_eq_nil_iff]
  intro x hx
  simpa using h x hx
theorem Stb.refl (l : List At) : Stb l l := fun _ => rfl
theorem Stb.trans {a b c : List At} (h1 : Stb a b) (h2 : Stb b c) : Stb a c := fun n => (h2 n).trans (h1 n)
theorem Stb.append {a a' b b' : List At} (h1 : Stb a a') (h2 : Stb b b') : Stb (a ++ b) (a' ++ b') := fun n => by rw [fil_append, fil_append, h1 n, h2 n]
theorem Stb.mem {l l' : List At} (h : Stb l l') (x : At) : x ∈ l' ↔ x ∈ l := by
  have := h x.1
  constructor
  · intro hx
    have h1 : x ∈ fil x.1 l' := mem_fil.2 ⟨hx, rfl⟩
    rw [this] at h1
    exact (mem_fil.1 h1).1
  · intro hx
    have h1 : x ∈ fil x.1 l := mem_fil.2 ⟨hx, rfl⟩
    rw [← this] at h1
    exact (mem_fil.1 h1).1
theorem Stb.swap {A B : List At} (h : ∀ b ∈ B, ∀ a ∈ A, b.1 ≠ a.1) : Stb (A ++ B) (B ++ A) := by
  intro n
  rw [fil_append, fil_append]
  cases hA : fil n A with
  | nil => simp
  | cons a r =>
    have ha : a ∈ fil n A := by rw [hA]; exact List.mem_cons_self
    obtain ⟨ha1, ha2⟩ := mem_fil.1 ha
    rw [fil_none (l := B) (fun b hb e => h b hb a ha1 (e.trans ha2.symm))]
    simp
theorem Srt.append {a b : List At} (ha : Srt a) (hb : Srt b) (h : ∀ x ∈ a, ∀ y ∈ b, ¬ cmpN y.1 x.1 < 0) : Srt (a ++ b) := List.pairwise_append.2 ⟨ha, hb, h⟩
theorem Srt.left {a b : List At} (h : Srt (a ++ b)) : Srt a := (List.pairwise_append.1 h).1
theorem Srt.right {a b : List At} (h : Srt (a ++ b)) : Srt b := (List.pairwise_append.1 h).2.1
theorem Srt.cross {a b : List At} (h : Srt (a ++ b)) : ∀ x ∈ a, ∀ y ∈ b, ¬ cmpN y.1 x.1 < 0 := (List.pairwise_append.1 h).2.2
theorem Srt.head {x : At} {a : List At} (h : Srt (x :: a)) : ∀ y ∈ x :: a, ¬ cmpN y.1 x.1 < 0 := by
  intro y hy
  rcases List.mem_cons.1 hy with rfl | hy
  · exact cmpN_irrefl _
  · exact (List.pairwise_cons.1 h).1 y hy
theorem Srt.last {x : At} {a : List At} (h : Srt (a ++ [x])) : ∀ y ∈ a ++ [x], ¬ cmpN x.1 y.1 < 0 := by
  intro y hy
  rcases List.mem_append.1 hy with hy | hy
  · exact h.cross y hy x (by simp)
  · simp at hy; subst hy; exact cmpN_irrefl _

/-- What is known where a pair of sorted lists is cut: the merge of the two halves is the merge of the whole. -/
theorem cut_ok {A1 A2 B1 B2 : List At} (hA : Srt (A1 ++ A2)) (hB : Srt (B1 ++ B2))
    (h1 : ∀ x A, A2 = x :: A → ∀ y B, B1 = B ++ [y] → cmpN y.1 x.1 < 0)
    (h2 : ∀ x A, A1 = A ++ [x] → ∀ y B, B2 = y :: B → ¬ cmpN y.1 x.1 < 0) {S T : List At}
    (hS : Srt S) (hT : Srt T) (sS : Stb (A1 ++ B1) S) (sT : Stb (A2 ++ B2) T) : Srt (S ++ T) ∧ Stb ((A1 ++ A2) ++ (B1 ++ B2)) (S ++ T) := by
  have c1 : ∀ b ∈ B1, ∀ a ∈ A2, cmpN b.1 a.1 < 0 := by
    intro b hb a ha
    rcases List.eq_nil_or_concat B1 with rfl | ⟨B, y, rfl⟩
    · simp at hb
    · cases A2 with
      | nil => simp at ha
      | cons x A =>
        have k1 := h1 x A rfl y B (by simp)
        have k2 := (hA.right).head a ha
        rw [List.concat_eq_append] at hb hB
        have k3 := (hB.left).last b hb
        exact cmpN_le_lt k3 (cmpN_lt_le k1 k2)
  have c2 : ∀ a ∈ A1, ∀ b ∈ B2, ¬ cmpN b.1 a.1 < 0 := by
    intro a ha b hb
    rcases List.eq_nil_or_concat A1 with rfl | ⟨A, x, rfl⟩
    · simp at ha
    · cases B2 with
      | nil => simp at hb
      | cons y B =>
        have k1 := h2 x A (by simp) y B rfl
        have k2 := (hB.right).head b hb
        rw [List.concat_eq_append] at ha hA
        have k3 := (hA.left).last a ha
        exact cmpN_le_trans k3 (cmpN_le_trans k1 k2)
  refine ⟨hS.append hT ?_, ?_⟩
  · intro x hx y hy
    rcases List.mem_append.1 ((sS.mem x).1 hx) with hx | hx <;> rcases List.mem_append.1 ((sT.mem y).1 hy) with hy | hy
    · exact hA.cross x hx y hy
    · exact c2 x hx y hy
    · exact cmpN_asymm (c1 x hx y hy)
    · exact hB.cross x hx y hy
  · have e : Stb ((A1 ++ A2) ++ (B1 ++ B2)) ((A1 ++ B1) ++ (A2 ++ B2)) := by
      have m : Stb (A2 ++ B1) (B1 ++ A2) := Stb.swap fun b hb a ha => cmpN_ne (c1 b hb a ha)
      have := ((Stb.refl A1).append m).append (Stb.refl B2)
      simpa [List.append_assoc] using this
    exact e.trans (sS.append sT)

/-- One element put into a sorted list behind it: x, then M1 less than x, then M2. -/
theorem put_ok {x : At} {M1 M2 : List At} (hM : Srt (M1 ++ M2)) (h1 : ∀ y B, M1 = B ++ [y] → cmpN y.1 x.1 < 0) (h2 : ∀ y B, M2 = y :: B → ¬ cmpN y.1 x.1 < 0) :
    Srt (M1 ++ x :: M2) ∧ Stb (x :: (M1 ++ M2)) (M1 ++ x :: M2) := by
  have c1 : ∀ b ∈ M1, cmpN b.1 x.1 < 0 := by
    intro b hb
    rcases List.eq_nil_or_concat M1 with rfl | ⟨B, y, rfl⟩
    · simp at hb
    · rw [List.concat_eq_append] at hb hM
      exact cmpN_le_lt ((hM.left).last b hb) (h1 y B (by simp))
  have c2 : ∀ b ∈ M2, ¬ cmpN b.1 x.1 < 0 := by
    intro b hb
    cases M2 with
    | nil => simp at hb
    | cons y B => exact cmpN_le_trans (h2 y B rfl) ((hM.right).head b hb)
  refine ⟨hM.left.append (List.pairwise_cons.2 ⟨c2, hM.right⟩) ?_, ?_⟩
  · intro a ha b hb
    rcases List.mem_cons.1 hb with rfl | hb
    · exact cmpN_asymm (c1 a ha)
    · exact hM.cross a ha b hb
  · have m : Stb ([x] ++ M1) (M1 ++ [x]) := Stb.swap fun b hb a ha => by simp at ha; subst ha; exact cmpN_ne (c1 b hb)
    have := m.append (Stb.refl M2)
    simpa [List.append_assoc] using this

/-- One element put into a sorted list ahead of it. -/
theorem pull_ok {y : At} {A1 A2 : List At} (hA : Srt (A1 ++ A2)) (h1 : ∀ x A, A1 = A ++ [x] → ¬ cmpN y.1 x.1 < 0) (h2 : ∀ x A, A2 = x :: A → cmpN y.1 x.1 < 0) :
    Srt (A1 ++ y :: A2) ∧ Stb ((A1 ++ A2) ++ [y]) (A1 ++ y :: A2) := by
  have c1 : ∀ a ∈ A1, ¬ cmpN y.1 a.1 < 0 := by
    intro a ha
    rcases List.eq_nil_or_concat A1 with rfl | ⟨A, x, rfl⟩
    · simp at ha
    · rw [List.concat_eq_append] at ha hA
      exact cmpN_le_trans ((hA.left).last a ha) (h1 x A (by simp))
  have c2 : ∀ a ∈ A2, cmpN y.1 a.1 < 0 := by
    intro a ha
    cases A2 with
    | nil => simp at ha
    | cons x A => exact cmpN_lt_le (h2 x A rfl) ((hA.right).head a ha)
  refine ⟨hA.left.append (List.pairwise_cons.2 ⟨fun a ha => cmpN_asymm (c2 a ha), hA.right⟩) ?_, ?_⟩
  · intro a ha b hb
    rcases List.mem_cons.1 hb with rfl | hb
    · exact c1 a ha
    · exact hA.cross a ha b hb
  · have m : Stb (A2 ++ [y]) ([y] ++ A2) := Stb.swap fun b hb a ha => by simp at hb; subst hb; exact cmpN_ne (c2 a ha)
    have := (Stb.refl A1).append m
    simpa [List.append_assoc] using this
end Go.Proofs.Yteamnjaepgfcmaa
