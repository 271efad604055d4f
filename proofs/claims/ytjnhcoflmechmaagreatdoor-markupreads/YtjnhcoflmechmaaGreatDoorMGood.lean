/-
  What is read of a short text is a tree of short strings. What Parse says. The mathematics.
-/
import Derived.Test.YtjnhcoflmechmaaGreatDoorMCut
namespace Go.Proofs.YtjnhcoflmechmaaGreatDoor.M
open Go.RowKit
set_option linter.unusedVariables false
theorem form_pos_b : ((List.range 256).all fun i => decide (1 ≤ (E.form (UInt8.ofNat i)).length)) = true := by decide +kernel
theorem esc_lenM : ∀ t : Bytes, t.length ≤ (E.escL t).length
  | [] => Nat.zero_le _
  | c :: r => by
    have h := E.byte_all (p := fun c => decide (1 ≤ (E.form c).length)) form_pos_b c
    have h1 : 1 ≤ (E.form c).length := of_decide_eq_true h
    have e : E.escL (c :: r) = E.form c ++ E.escL r := by simp [E.escL]
    rw [e, List.length_append, List.length_cons]
    have := esc_lenM r
    omega
theorem flat_len {l : List At} {a : At} (h : a ∈ l) : (attB a).length ≤ (l.flatMap attB).length := by
  induction l with
  | nil => cases h
  | cons x r ih =>
    rw [List.flatMap_cons, List.length_append]
    rcases List.mem_cons.1 h with rfl | h
    · omega
    · have := ih h; omega
theorem flat_cnt (l : List At) : l.length ≤ (l.flatMap attB).length := by
  induction l with
  | nil => exact Nat.le_refl _
  | cons x r ih =>
    rw [List.flatMap_cons, List.length_append, List.length_cons]
    have : 1 ≤ (attB x).length := by simp [attB]
    omega
theorem prT_pos (t : Tr) : 1 ≤ (prT t).length := by cases t; rw [prT]; simp [headB]
theorem prL_len {l : List Tr} {k : Tr} (h : k ∈ l) : (prT k).length ≤ (prL l).length := by
  induction l with
  | nil => cases h
  | cons x r ih =>
    rw [prL, List.length_append]
    rcases List.mem_cons.1 h with rfl | h
    · omega
    · have := ih h; omega
theorem prL_cnt (l : List Tr) : l.length ≤ (prL l).length := by
  induction l with
  | nil => exact Nat.le_refl _
  | cons x r ih =>
    rw [prL, List.length_append, List.length_cons]
    have := prT_pos x
    omega
theorem prT_parts (t : Tr) : t.tag.size ≤ (prT t).length ∧ t.key.size ≤ (prT t).length ∧ t.text.size ≤ (prT t).length ∧ (t.as.flatMap attB).length ≤ (prT t).length ∧ (prL t.kids).length ≤ (prT t).length := by
  obtain ⟨tag, key, text, atz, kids⟩ := t
  have hh : (headB (tag, key, atz)).length ≤ (prT (.mk tag key text atz kids)).length := by rw [prT]; simp
  have h1 : tag.size + key.size + (atz.flatMap attB).length ≤ (headB (tag, key, atz)).length := by
    simp only [headB, List.length_cons, List.length_append]
    have e1 : tag.data.toList.length = tag.size := size_list tag
    by_cases hk : key = noB
    · have : key.size = 0 := by rw [hk]; rfl
      omega
    · have := esc_lenM key.data.toList
      rw [if_neg hk]
      simp only [List.length_append, List.length_cons, List.length_nil]
      have e2 : key.data.toList.length = key.size := size_list key
      omega
  have h2 : text.size + (prL kids).length ≤ (prT (.mk tag key text atz kids)).length := by
    rw [prT]
    by_cases he : text = noB ∧ kids = []
    · have e1 : text.size = 0 := by rw [he.1]; rfl
      have e2 : (prL kids).length = 0 := by rw [he.2]; rfl
      omega
    · rw [if_neg he]
      have := esc_lenM text.data.toList
      have e2 : text.data.toList.length = text.size := size_list text
      simp only [List.length_append, List.length_cons]
      omega
  show tag.size ≤ _ ∧ key.size ≤ _ ∧ text.size ≤ _ ∧ (atz.flatMap attB).length ≤ _ ∧ (prL kids).length ≤ _
  omega
theorem att_size (a : At) : a.1.size ≤ (attB a).length ∧ a.2.size ≤ (attB a).length := by
  have := esc_lenM a.2.data.toList
  have e1 : a.1.data.toList.length = a.1.size := size_list a.1
  have e2 : a.2.data.toList.length = a.2.size := size_list a.2
  simp only [attB, List.length_cons, List.length_append]
  omega
theorem good_pr : ∀ t : Tr, (prT t).length ≤ 1000000 → GoodT t := by
  refine tr_ind fun t ih h => ?_
  obtain ⟨h1, h2, h3, h4, h5⟩ := prT_parts t
  have h6 := flat_cnt t.as
  have h7 := prL_cnt t.kids
  refine .mk (by unfold maxLen; omega) (by omega) (by omega) (by omega) (fun x hx => ?_) (by omega) (fun k hk => ih k hk ?_)
  · have a1 := flat_len hx
    have a2 := att_size x
    omega
  · have := prL_len hk; omega
theorem good_cut : ∀ t : Tr, GoodT t → GoodT (cutT t) := by
  refine tr_ind fun t ih h => ?_
  cases h with
  | mk h1 h2 h3 h4 h5 h6 sub =>
    refine .mk (by rw [cutT_tag]; exact h1) (by rw [cutT_key]; exact h2) (by rw [cutT_text]; exact h3) (by rw [cutT_as, List.length_take]; omega) (fun x hx => h5 x ?_) (by rw [cutT_kids]; simpa using h6) (fun k hk => ?_)
    · rw [cutT_as] at hx; exact List.mem_of_mem_take hx
    · rw [cutT_kids] at hk
      obtain ⟨y, hy, rfl⟩ := List.mem_map.1 hk
      exact ih y hy (sub y hy)
theorem good_node {l l' : Bytes} {t : Tr} (h : nodeP l = .ok t l') (hl : l.length ≤ 1000000) : GoodT t := by
  refine good_pr t ?_
  have := congrArg List.length (node_exact h).1
  rw [List.length_append] at this
  omega
abbrev zeroT : Tr := .mk noB noB noB [] []
/-- What is read of the whole text, ahead of the tree's own faults. -/
noncomputable def wholeP (l : Bytes) : Rd Tr := bnd (nodeP l) fun t l' => if l' = [] then .ok t [] else .bad l'.length 2
/-- What Parse says of a text: a tree, an index, an error. -/
def ParseM (s : ByteArray) (t : Tr) (a e : Int) : Prop := match wholeP s.data.toList with
  | .bad n _ => t = zeroT ∧ a = ((s.size - n : Nat) : Int) ∧ e = 2
  | .ok r _ => ∃ f g : Int, FirstF aloneT (itemsL r) f g ∧ ((g = 0 ∧ t = r ∧ a = 0 ∧ e = 0) ∨ (g ≠ 0 ∧ t = zeroT ∧ a = f ∧ e = g))
theorem parseM_unique {s : ByteArray} {t t' : Tr} {a e a' e' : Int} (h : ParseM s t a e) (h' : ParseM s t' a' e') : t = t' ∧ a = a' ∧ e = e' := by
  unfold ParseM at h h'
  revert h h'
  cases wholeP s.data.toList with
  | bad n er => rintro ⟨rfl, rfl, rfl⟩ ⟨rfl, rfl, rfl⟩; exact ⟨rfl, rfl, rfl⟩
  | ok r l =>
    rintro ⟨f, g, hf, h⟩ ⟨f', g', hf', h'⟩
    obtain ⟨rfl, rfl⟩ := firstF_unique hf hf'
    rcases h with ⟨h0, rfl, rfl, rfl⟩ | ⟨h0, rfl, rfl, rfl⟩ <;> rcases h' with ⟨h0', rfl, rfl, rfl⟩ | ⟨h0', rfl, rfl, rfl⟩
    · exact ⟨rfl, rfl, rfl⟩
    · exact absurd h0 h0'
    · exact absurd h0' h0
    · exact ⟨rfl, rfl, rfl⟩
theorem whole_ok {l l' : Bytes} {t : Tr} (h : wholeP l = .ok t l') : l' = [] ∧ nodeP l = .ok t [] ∧ l = prT t ∧ WordyT t := by
  obtain ⟨t', l1, h1, h⟩ := bnd_ok h
  split at h
  · rename_i h0
    subst h0
    cases h
    obtain ⟨e, hw, _⟩ := node_exact h1
    exact ⟨rfl, h1, by simpa using e, hw⟩
  · cases h
end Go.Proofs.YtjnhcoflmechmaaGreatDoor.M
