/-
  What is written as markup is read back: the mathematics.
-/
import Derived.Test.YtjnhcoflmechmaaGreatDoorMRound
import Derived.Test.YtjnhcoflmechmaaGreatDoorTree
namespace Go.Proofs.YtjnhcoflmechmaaGreatDoor.M
open Go.RowKit
set_option linter.unusedVariables false
theorem bnd_okE {α β : Type} (a : α) (l : Bytes) (f : α → Bytes → Rd β) : bnd (.ok a l) f = f a l := rfl
theorem word_of {t : ByteArray} (h : Wordy t) {c : UInt8} {r : Bytes} (hc : nameC c = false) : wordP (t.data.toList ++ c :: r) = .ok t (c :: r) := by
  obtain ⟨d, q, e, h1, h2⟩ := h
  have hs := takeWhile_stop (p := nameC) (a := d :: q) (r := c :: r) h2 (fun x l hx => by cases hx; exact hc)
  rw [e]
  unfold wordP
  simp only [List.cons_append]
  rw [if_pos h1]
  rw [show d :: (q ++ c :: r) = (d :: q) ++ c :: r from rfl, hs.1, hs.2]
  rw [← e, strB_eq]
theorem txt_of (t : ByteArray) {c : UInt8} {r : Bytes} (hc : E.signs.contains c = true) : txtP (E.escL t.data.toList ++ c :: r) = .ok t (c :: r) := by
  have hs : E.spanN (E.escL t.data.toList ++ c :: r) = (E.escL t.data.toList).length := spanN_free _ _ _ (escL_signs _) hc
  unfold txtP
  rw [hs, List.take_left', List.drop_left', E.unesc_esc]
  · simp [strB_eq]
  · rfl
  · rfl
theorem att_of {a : At} (h : Wordy a.1) (r : Bytes) : attP (a.1.data.toList ++ [61, 34] ++ E.escL a.2.data.toList ++ [34] ++ r) = .ok a r := by
  have e : a.1.data.toList ++ [61, 34] ++ E.escL a.2.data.toList ++ [34] ++ r = a.1.data.toList ++ 61 :: 34 :: (E.escL a.2.data.toList ++ 34 :: r) := by simp
  rw [e]
  unfold attP
  rw [word_of h (by decide), bnd_okE, show 61 :: 34 :: (E.escL a.2.data.toList ++ 34 :: r) = [61, 34] ++ (E.escL a.2.data.toList ++ 34 :: r) from rfl, preP_app, bnd_okE, txt_of _ (by decide), bnd_okE, show 34 :: r = [34] ++ r from rfl, preP_app]
  rfl
theorem atts_of : ∀ (atz : List At) (rest : Bytes), (∀ a ∈ atz, Wordy a.1) → ([32] : Bytes).isPrefixOf rest = false → attsP (atz.flatMap attB ++ rest) = .ok atz rest
  | [], rest, _, h => by
    rw [attsP_eq]
    simp only [List.flatMap_nil, List.nil_append]
    rw [preP_no h]
  | a :: atz, rest, hw, h => by
    have ih := atts_of atz rest (fun b hb => hw b (by simp [hb])) h
    have e : (a :: atz).flatMap attB ++ rest = [32] ++ (a.1.data.toList ++ [61, 34] ++ E.escL a.2.data.toList ++ [34] ++ (atz.flatMap attB ++ rest)) := by simp [attB]
    rw [attsP_eq, e, preP_app]
    simp only
    rw [att_of (hw a (by simp)), bnd_okE, ih]
    rfl
theorem low_ne {c : UInt8} (h : lowC c = true) : c ≠ 35 ∧ c ≠ 47 := by
  constructor <;> (rintro rfl; exact absurd h (by decide))
theorem key_of {key : ByteArray} {atz : List At} {c : UInt8} {r : Bytes} (hw : ∀ a ∈ atz, Wordy a.1) (hc : c = 47 ∨ c = 62) :
    keyP ((if key = noB then [] else [32, 35, 61, 34] ++ E.escL key.data.toList ++ [34]) ++ (atz.flatMap attB ++ c :: r)) = .ok key (atz.flatMap attB ++ c :: r) := by
  by_cases hk : key = noB
  · rw [if_pos hk, hk, List.nil_append]
    unfold keyP
    have hp : ([32, 35, 61, 34] : Bytes).isPrefixOf (atz.flatMap attB ++ c :: r) = false := by
      cases atz with
      | nil => rcases hc with rfl | rfl <;> rfl
      | cons a q =>
        obtain ⟨d, q', e, h1, _⟩ := hw a (by simp)
        have h2 := (low_ne h1).1
        simp [attB, e, List.isPrefixOf, Ne.symm h2]
    rw [preP_no hp]
  · rw [if_neg hk]
    have e : [32, 35, 61, 34] ++ E.escL key.data.toList ++ [34] ++ (atz.flatMap attB ++ c :: r) = [32, 35, 61, 34] ++ (E.escL key.data.toList ++ 34 :: (atz.flatMap attB ++ c :: r)) := by simp
    rw [e]
    unfold keyP
    rw [preP_app]
    simp only
    rw [txt_of _ (by decide), bnd_okE, if_neg hk, show 34 :: (atz.flatMap attB ++ c :: r) = [34] ++ (atz.flatMap attB ++ c :: r) from rfl, preP_app]
    rfl
theorem head_of {h : Hd} {c : UInt8} {r : Bytes} (hw : Wordy h.1) (hws : ∀ a ∈ h.2.2, Wordy a.1) (hc : c = 47 ∨ c = 62) : headP (headB h ++ c :: r) = .ok h (c :: r) := by
  obtain ⟨tag, key, atz⟩ := h
  have e : headB (tag, key, atz) ++ c :: r = [60] ++ (tag.data.toList ++ ((if key = noB then [] else [32, 35, 61, 34] ++ E.escL key.data.toList ++ [34]) ++ (atz.flatMap attB ++ c :: r))) := by simp [headB]
  have hk := key_of (key := key) (r := r) hws hc
  rw [e]
  unfold headP
  rw [preP_app, bnd_okE]
  generalize hg : (if key = noB then [] else [32, 35, 61, 34] ++ E.escL key.data.toList ++ [34]) ++ (atz.flatMap attB ++ c :: r) = rest at hk ⊢
  obtain ⟨d, q, hr, hd⟩ : ∃ d q, rest = d :: q ∧ nameC d = false := by
    rw [← hg]
    by_cases hk' : key = noB
    · rw [if_pos hk', List.nil_append]
      cases atz with
      | nil => exact ⟨c, r, rfl, by rcases hc with rfl | rfl <;> decide⟩
      | cons a q => exact ⟨32, _, rfl, by decide⟩
    · rw [if_neg hk']; exact ⟨32, _, rfl, by decide⟩
  rw [hr, word_of hw hd, ← hr, bnd_okE, hk, bnd_okE, atts_of atz (c :: r) hws (by rcases hc with rfl | rfl <;> rfl)]
  rfl
theorem kidC_end (r : Bytes) : kidC (60 :: 47 :: r) = false := by simp [kidC, List.isPrefixOf]
theorem prT_head {t : Tr} (h : WordyT t) (r : Bytes) : ∃ c q, prT t ++ r = 60 :: c :: q ∧ lowC c = true := by
  cases h with
  | mk h1 h2 h3 =>
    obtain ⟨tag, key, text, atz, kids⟩ := t
    obtain ⟨c, q, e, hc, _⟩ := h1
    have e' : tag.data.toList = c :: q := e
    obtain ⟨q2, hq2⟩ : ∃ q2, prT (.mk tag key text atz kids) ++ r = 60 :: c :: q2 := by
      rw [prT]
      simp only [headB, e', List.cons_append]
      exact ⟨_, rfl⟩
    exact ⟨c, q2, hq2, hc⟩
theorem kidC_node {t : Tr} (h : WordyT t) (r : Bytes) : kidC (prT t ++ r) = true := by
  obtain ⟨c, q, e, hc⟩ := prT_head h r
  rw [e]
  have := (low_ne hc).2
  simp [kidC, List.isPrefixOf, Ne.symm this]
theorem kids_of : ∀ (ks : List Tr) (r : Bytes), (∀ k ∈ ks, WordyT k ∧ ∀ r, nodeP (prT k ++ r) = .ok k r) → kidC r = false → kidsP (prL ks ++ r) = .ok ks r
  | [], r, _, h => by
    show kidsP r = _
    rw [kidsP_eq, if_neg (by rw [h]; decide)]
  | k :: ks, r, hk, h => by
    have ih := kids_of ks r (fun x hx => hk x (by simp [hx])) h
    obtain ⟨hw, hn⟩ := hk k (by simp)
    have e : prL (k :: ks) ++ r = prT k ++ (prL ks ++ r) := by rw [prL, List.append_assoc]
    rw [e, kidsP_eq, if_pos (kidC_node hw _), hn, bnd_okE, ih]
    rfl
theorem end_of (t : Tr) (r : Bytes) : endP t ([60, 47] ++ (t.tag.data.toList ++ [62]) ++ r) = .ok t r := by
  have e : [60, 47] ++ (t.tag.data.toList ++ [62]) ++ r = [60, 47] ++ (t.tag.data.toList ++ ([62] ++ r)) := by simp
  rw [e]
  unfold endP
  rw [preP_app, bnd_okE, preP_app, bnd_okE, preP_app]
  rfl
theorem node_of : ∀ t : Tr, WordyT t → ∀ r, nodeP (prT t ++ r) = .ok t r := by
  refine tr_ind fun t ih hw r => ?_
  have hws := hw
  cases hw with
  | mk h1 h2 h3 =>
    obtain ⟨tag, key, text, atz, kids⟩ := t
    rw [prT, nodeP_eq]
    by_cases he : text = noB ∧ kids = []
    · rw [if_pos he]
      obtain ⟨rfl, rfl⟩ := he
      have e : headB (tag, key, atz) ++ [47, 62] ++ r = headB (tag, key, atz) ++ 47 :: (62 :: r) := by simp
      rw [e, head_of h1 h2 (.inl rfl)]
      simp only
      rw [show 47 :: (62 :: r) = [47, 62] ++ r from rfl, preP_app]
    · rw [if_neg he]
      have e : headB (tag, key, atz) ++ 62 :: (E.escL text.data.toList ++ (prL kids ++ ([60, 47] ++ (tag.data.toList ++ [62])))) ++ r = headB (tag, key, atz) ++ 62 :: (E.escL text.data.toList ++ (prL kids ++ ([60, 47] ++ (tag.data.toList ++ [62]) ++ r))) := by simp
      rw [e, head_of h1 h2 (.inr rfl)]
      have hp : ([47, 62] : Bytes).isPrefixOf (62 :: (E.escL text.data.toList ++ (prL kids ++ ([60, 47] ++ (tag.data.toList ++ [62]) ++ r)))) = false := rfl
      simp only
      rw [preP_no hp]
      rw [show 62 :: (E.escL text.data.toList ++ (prL kids ++ ([60, 47] ++ (tag.data.toList ++ [62]) ++ r))) = [62] ++ (E.escL text.data.toList ++ (prL kids ++ ([60, 47] ++ (tag.data.toList ++ [62]) ++ r))) from rfl, preP_app, bnd_okE]
      obtain ⟨q, hq⟩ : ∃ q, prL kids ++ ([60, 47] ++ (tag.data.toList ++ [62]) ++ r) = 60 :: q := by
        cases kids with
        | nil => exact ⟨_, rfl⟩
        | cons k ks =>
          obtain ⟨c, q, e, _⟩ := prT_head (h3 k (by simp [Tr.kids])) (prL ks ++ ([60, 47] ++ (tag.data.toList ++ [62]) ++ r))
          exact ⟨_, by rw [prL, List.append_assoc, e]⟩
      rw [hq, txt_of _ (by decide), ← hq, bnd_okE, kids_of kids _ (fun k hk => ⟨h3 k hk, ih k hk (h3 k hk)⟩) (show kidC ([60, 47] ++ (tag.data.toList ++ [62]) ++ r) = false from kidC_end _)]
      show (if text = noB ∧ kids = [] then Rd.bad _ 2 else endP (Tr.mk tag key text atz kids) ([60, 47] ++ (tag.data.toList ++ [62]) ++ r)) = _
      rw [if_neg he]
      exact end_of (.mk tag key text atz kids) r
end Go.Proofs.YtjnhcoflmechmaaGreatDoor.M
