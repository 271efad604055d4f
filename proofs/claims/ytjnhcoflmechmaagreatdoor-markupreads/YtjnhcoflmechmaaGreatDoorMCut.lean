/-
  A tree whose nodes keep 65 attributes has the same first fault. How many nodes a text may begin. The mathematics.
-/
import Derived.Test.YtjnhcoflmechmaaGreatDoorMStack
import Derived.Test.YtjnhcoflmechmaaGreatDoorICheck
namespace Go.Proofs.YtjnhcoflmechmaaGreatDoor.M
open Go.RowKit
set_option linter.unusedVariables false
mutual
def cutT : Tr → Tr
  | .mk tag key text atz kids => .mk tag key text (atz.take 65) (cutK kids)
def cutK : List Tr → List Tr
  | [] => []
  | k :: r => cutT k :: cutK r
end
theorem cutK_map (l : List Tr) : cutK l = l.map cutT := by
  induction l with
  | nil => rfl
  | cons x r ih => rw [cutK, ih]; rfl
theorem cutT_eq (t : Tr) : cutT t = .mk t.tag t.key t.text (t.as.take 65) (t.kids.map cutT) := by cases t; rw [cutT, cutK_map]; rfl
theorem cutT_tag (t : Tr) : (cutT t).tag = t.tag := by rw [cutT_eq]; rfl
theorem cutT_key (t : Tr) : (cutT t).key = t.key := by rw [cutT_eq]; rfl
theorem cutT_text (t : Tr) : (cutT t).text = t.text := by rw [cutT_eq]; rfl
theorem cutT_as (t : Tr) : (cutT t).as = t.as.take 65 := by rw [cutT_eq]; rfl
theorem cutT_kids (t : Tr) : (cutT t).kids = t.kids.map cutT := by rw [cutT_eq]; rfl
theorem cutT_add (f k : Tr) : cutT (addK f k) = addK (cutT f) (cutT k) := by rw [cutT_eq, cutT_eq f]; cases f; simp [addK, Tr.tag, Tr.key, Tr.text, Tr.as, Tr.kids]
theorem faultL_take (l : List At) {i : Nat} (h : i ≤ 64) : faultL (l.take 65) i = faultL l i := by
  have e : ∀ j, j ≤ 64 → (l.take 65).getD j noAt = l.getD j noAt := fun j hj => by
    rw [List.getD_eq_getElem?_getD, List.getD_eq_getElem?_getD, List.getElem?_take, if_pos (by omega)]
  unfold faultL
  rw [e _ (by omega), e _ h]
theorem faultL_64 (l : List At) : faultL l 64 = 12 := by unfold faultL faultX; rw [if_pos rfl]
theorem check_take {l : List At} {a e : Int} (h : CheckP l a e) : CheckP (l.take 65) a e := by
  rcases h with ⟨i, hi, rfl, he, hf, hb⟩ | ⟨rfl, rfl, hb⟩
  · have h64 : i ≤ 64 := by
      rcases Nat.lt_or_ge 64 i with h1 | h1
      · have := hb 64 h1; rw [faultL_64] at this; cases this
      · exact h1
    refine .inl ⟨i, by rw [List.length_take]; omega, rfl, by rw [faultL_take l h64]; exact he, by rw [faultL_take l h64]; exact hf, fun j hj => ?_⟩
    rw [faultL_take l (by omega)]; exact hb j hj
  · have h64 : l.length ≤ 64 := by
      rcases Nat.lt_or_ge 64 l.length with h1 | h1
      · have := hb 64 h1; rw [faultL_64] at this; cases this
      · exact h1
    rw [List.take_of_length_le (by omega)]
    exact .inr ⟨rfl, rfl, hb⟩
theorem check_ex (l : List At) : ∃ a e, CheckP l a e := by
  have key : ∀ n, (∃ i : Nat, i < n ∧ faultL l i ≠ 0 ∧ ∀ j, j < i → faultL l j = 0) ∨ ∀ j, j < n → faultL l j = 0 := by
    intro n
    induction n with
    | zero => exact .inr (fun j hj => by omega)
    | succ n ih =>
      rcases ih with ⟨i, h1, h2, h3⟩ | ih
      · exact .inl ⟨i, by omega, h2, h3⟩
      · by_cases h : faultL l n = 0
        · refine .inr (fun j hj => ?_)
          rcases Nat.lt_or_ge j n with h1 | h1
          · exact ih j h1
          · rw [show j = n by omega]; exact h
        · exact .inl ⟨n, by omega, h, ih⟩
  rcases key l.length with ⟨i, h1, h2, h3⟩ | h
  · exact ⟨i, _, .inl ⟨i, h1, rfl, rfl, h2, h3⟩⟩
  · exact ⟨0, 0, .inr ⟨rfl, rfl, h⟩⟩
theorem attE_take (l : List At) : attE (l.take 65) = attE l := by
  obtain ⟨a, e, h⟩ := check_ex l
  rw [← attE_of h, ← attE_of (check_take h)]
theorem attE_len {l : List At} (h : attE l = 0) : l.length ≤ 64 := by
  obtain ⟨a, e, hc⟩ := check_ex l
  have he := attE_of hc
  rw [h] at he
  subst he
  rcases hc with ⟨i, hi, rfl, he, hf, hb⟩ | ⟨rfl, _, hb⟩
  · exact absurd he.symm hf
  · rcases Nat.lt_or_ge 64 l.length with h1 | h1
    · have := hb 64 h1; rw [faultL_64] at this; cases this
    · exact h1
theorem alone_cut (t : Tr) : aloneT (cutT t) = aloneT t := by
  unfold aloneT
  rw [cutT_tag, cutT_key, cutT_text, cutT_as, attE_take]
theorem alone_len {t : Tr} (h : aloneT t = 0) : t.as.length ≤ 64 := by
  unfold aloneT at h
  split at h
  · cases h
  · split at h
    · cases h
    · exact attE_len h
def cutI (x : It) : It := ⟨cutT x.t, x.d, x.up⟩
theorem hasKey_cut (l : List It) (up : Int) (k : ByteArray) : hasKey (l.map cutI) up k ↔ hasKey l up k := by
  unfold hasKey
  constructor
  · rintro ⟨x, hx, h1, h2⟩
    obtain ⟨y, hy, rfl⟩ := List.mem_map.1 hx
    exact ⟨y, hy, h1, by rw [← h2]; exact (cutT_key y.t).symm⟩
  · rintro ⟨x, hx, h1, h2⟩
    exact ⟨cutI x, List.mem_map.2 ⟨x, hx, rfl⟩, h1, by rw [← h2]; exact cutT_key x.t⟩
theorem nodeF_cut (l : List It) (x : It) : nodeF aloneT (l.map cutI) (cutI x) = nodeF aloneT l x := by
  unfold nodeF
  rw [List.length_map, show (cutI x).d = x.d from rfl, show (cutI x).up = x.up from rfl, show (cutI x).t = cutT x.t from rfl, alone_cut, cutT_key, propext (hasKey_cut l x.up x.t.key)]
mutual
theorem below_cut : ∀ (t : Tr) (d : Nat) (up : Int) (l : List It), belowL (cutT t) d up (l.map cutI) = (belowL t d up l).map cutI
  | .mk a b c s kids, d, up, l => by
    rw [belowL_eq, belowL_eq, List.length_map]
    by_cases h1 : 4096 < l.length
    · rw [if_pos h1, if_pos h1]
    · rw [if_neg h1, if_neg h1]
      have e : l.map cutI ++ [(⟨cutT (.mk a b c s kids), d, up⟩ : It)] = (l ++ [(⟨.mk a b c s kids, d, up⟩ : It)]).map cutI := by simp [cutI]
      rw [e]
      by_cases h2 : 64 < d
      · rw [if_pos h2, if_pos h2]
      · rw [if_neg h2, if_neg h2]
        exact belowK_cut kids (d + 1) l.length (l ++ [⟨.mk a b c s kids, d, up⟩])
theorem belowK_cut : ∀ (ks : List Tr) (d : Nat) (up : Int) (l : List It), belowK (cutK ks) d up (l.map cutI) = (belowK ks d up l).map cutI
  | [], d, up, l => by rw [cutK, belowK, belowK]
  | k :: ks, d, up, l => by
    rw [cutK, belowK, belowK, List.length_map]
    by_cases h1 : 4096 < l.length
    · rw [if_pos h1, if_pos h1]
    · rw [if_neg h1, if_neg h1, below_cut k d up l]
      exact belowK_cut ks d up _
end
theorem items_cut (t : Tr) : itemsL (cutT t) = (itemsL t).map cutI := below_cut t 1 (-1) []
theorem first_cut {t : Tr} {a e : Int} (h : FirstF aloneT (itemsL (cutT t)) a e) : FirstF aloneT (itemsL t) a e := by
  rw [items_cut] at h
  have key : ∀ i, (hi : i < (itemsL t).length) → nodeF aloneT (((itemsL t).map cutI).take i) (((itemsL t).map cutI)[i]'(by simpa using hi)) = nodeF aloneT ((itemsL t).take i) (itemsL t)[i] := fun i hi => by
    rw [← List.map_take, List.getElem_map]; exact nodeF_cut _ _
  rcases h with ⟨i, hi, rfl, he, hf, hb⟩ | ⟨rfl, rfl, hb⟩
  · have hi' : i < (itemsL t).length := by simpa using hi
    refine .inl ⟨i, hi', rfl, by rw [← key i hi']; exact he, hf, fun j hj hji => ?_⟩
    rw [← key j hj]; exact hb j (by simpa using hj) hji
  · refine .inr ⟨rfl, rfl, fun j hj => ?_⟩
    rw [← key j hj]; exact hb j (by simpa using hj)
/-- Each node of a tree without a fault has none by itself. -/
inductive AllT (p : Tr → Prop) : Tr → Prop
  | mk {t : Tr} (h : p t) (sub : ∀ k ∈ t.kids, AllT p k) : AllT p t
mutual
theorem visit_all (al : Tr → Int) : ∀ (t : Tr) (d : Nat) (up : Int) (l : List It), (visitL al t d up l).2 = 0 → AllT (fun t => al t = 0) t
  | .mk a b c s kids, d, up, l, h => by
    rw [visitL_eq] at h
    split at h
    · rename_i h0
      refine .mk ?_ (visit_allK al kids _ _ _ h)
      unfold nodeF at h0
      split at h0
      · cases h0
      · split at h0
        · cases h0
        · split at h0
          · exact h0
          · rename_i hn; exact Classical.not_not.1 hn
    · rename_i h0; exact absurd h h0
theorem visit_allK (al : Tr → Int) : ∀ (ks : List Tr) (d : Nat) (up : Int) (l : List It), (visitK al ks d up l).2 = 0 → ∀ k ∈ ks, AllT (fun t => al t = 0) k
  | [], d, up, l, h => fun k hk => by cases hk
  | k :: ks, d, up, l, h => by
    rw [visitK] at h
    split at h
    · rename_i h0
      intro x hx
      rcases List.mem_cons.1 hx with hx | hx
      · rw [hx]; exact visit_all al k d up l h0
      · exact visit_allK al ks d up _ h x hx
    · rename_i h0; exact absurd h h0
end
theorem cut_all : ∀ t : Tr, AllT (fun t => aloneT t = 0) t → cutT t = t := by
  refine tr_ind fun t ih h => ?_
  cases h with
  | mk h sub =>
    have hk : t.kids.map cutT = t.kids := by
      conv => rhs; rw [← List.map_id t.kids]
      exact List.map_congr_left (fun k hk => ih k hk (sub k hk))
    have := alone_len h
    rw [cutT_eq, hk, List.take_of_length_le (by omega)]
    cases t; rfl
theorem cut_ok {t : Tr} (h : okT t) : cutT t = t := cut_all t (visit_all aloneT t 1 (-1) [] h)
theorem first_ok {t : Tr} {a : Int} (h : FirstF aloneT (itemsL t) a 0) : okT t := (firstF_unique (seen_first aloneT t) h).2
theorem cut_ok' {t : Tr} (h : okT (cutT t)) : cutT t = t := by
  refine cut_ok ?_
  have h1 := seen_first aloneT (cutT t)
  rw [show (seenL aloneT (cutT t)).2 = 0 from h] at h1
  exact first_ok (first_cut h1)
/-- How many kids a text may begin. -/
def cntK : Bytes → Nat
  | [] => 0
  | c :: r => (if kidC (c :: r) then 1 else 0) + cntK r
theorem cntK_suf {a b : Bytes} (h : a <:+ b) : cntK a ≤ cntK b := by
  obtain ⟨p, rfl⟩ := h
  induction p with
  | nil => exact Nat.le_refl _
  | cons c r ih => rw [List.cons_append, cntK]; omega
theorem cntK_le (a : Bytes) : cntK a ≤ a.length := by
  induction a with
  | nil => exact Nat.le_refl _
  | cons c r ih => rw [cntK, List.length_cons]; split <;> omega
theorem cntK_cons_le (c : UInt8) (r : Bytes) : cntK (c :: r) ≤ 1 + cntK r := by rw [cntK]; split <;> omega
theorem kidC_not {c : UInt8} {r : Bytes} (h : c ≠ 60) : kidC (c :: r) = false := by
  simp [kidC, List.isPrefixOf, Ne.symm h]
theorem cntK_free : ∀ (a r : Bytes), (∀ x ∈ a, x ≠ 60) → cntK (a ++ r) = cntK r
  | [], r, h => rfl
  | c :: a, r, h => by
    rw [List.cons_append, cntK, kidC_not (h c (by simp)), cntK_free a r (fun x hx => h x (by simp [hx]))]
    simp
theorem start_kid {l l' : Bytes} {p : Bool × Tr} (h : startP l = .ok p l') : kidC l = true ∧ cntK l' + 1 ≤ cntK l := by
  obtain ⟨hd, l1, h1, h⟩ := bnd_ok h
  obtain ⟨e, ⟨c, r, hc, hlow, _⟩, _⟩ := headP_ok h1
  have hsuf : l' <:+ l1 := by
    split at h
    · rename_i u l2 h2
      cases h
      exact (preP_suf h2).1
    · obtain ⟨u, l2, h2, h⟩ := bnd_ok h
      obtain ⟨t, l3, h3, h⟩ := bnd_ok h
      split at h
      · cases h
      · cases h
        exact (txtP_suf h3).1.trans (preP_suf h2).1
  obtain ⟨q, hq⟩ : ∃ q, l = 60 :: c :: (q ++ l1) := ⟨_, by rw [e]; unfold headB; rw [hc]; simp only [List.cons_append]; rfl⟩
  have hk : kidC (60 :: c :: (q ++ l1)) = true := by
    have := (low_ne hlow).2
    simp [kidC, List.isPrefixOf, Ne.symm this]
  refine ⟨by rw [hq]; exact hk, ?_⟩
  rw [hq, cntK, hk]
  have := cntK_suf (hsuf.trans (show l1 <:+ c :: (q ++ l1) from ⟨c :: q, rfl⟩))
  simp; omega
theorem wordy_free {t : ByteArray} (h : Wordy t) : ∀ x ∈ t.data.toList, x ≠ 60 := by
  obtain ⟨c, r, e, _, h2⟩ := h
  intro x hx
  rw [e] at hx
  rintro rfl
  exact absurd (h2 _ hx) (by decide)
theorem esc_free (l : Bytes) : ∀ x ∈ E.escL l, x ≠ 60 := by
  intro x hx
  rintro rfl
  exact absurd (escL_signs l _ hx) (by decide)
theorem attB_free {a : At} (h : Wordy a.1) : ∀ x ∈ attB a, x ≠ 60 := by
  intro x hx
  simp only [attB, List.mem_cons, List.mem_append, List.not_mem_nil, or_false] at hx
  rcases hx with rfl | ((hx | rfl | rfl) | hx) | rfl
  · decide
  · exact wordy_free h x hx
  · decide
  · decide
  · exact esc_free _ x hx
  · decide
theorem headB_tail {h : Hd} (hw : Wordy h.1) (hws : ∀ a ∈ h.2.2, Wordy a.1) : ∃ q, headB h = 60 :: q ∧ ∀ x ∈ q, x ≠ 60 := by
  refine ⟨_, rfl, fun x hx => ?_⟩
  simp only [List.mem_append] at hx
  rcases hx with (hx | hx) | hx
  · exact wordy_free hw x hx
  · split at hx
    · cases hx
    · simp only [List.mem_append, List.mem_cons, List.not_mem_nil, or_false] at hx
      rcases hx with (hx | hx) | rfl
      · rcases hx with rfl | rfl | rfl | rfl <;> decide
      · exact esc_free _ x hx
      · decide
  · obtain ⟨a, ha, hx⟩ := List.mem_flatMap.1 hx
    exact attB_free (hws a ha) x hx
theorem cntK_end {t : ByteArray} (h : Wordy t) (r : Bytes) : cntK ([60, 47] ++ (t.data.toList ++ [62]) ++ r) = cntK r := by
  have e : [60, 47] ++ (t.data.toList ++ [62]) ++ r = 60 :: ((47 :: (t.data.toList ++ [62])) ++ r) := by simp
  rw [e, cntK, show kidC (60 :: (47 :: (t.data.toList ++ [62]) ++ r)) = false from kidC_end _, cntK_free _ _ (fun x hx => ?_)]
  · simp
  · simp only [List.mem_cons, List.mem_append, List.not_mem_nil, or_false] at hx
    rcases hx with rfl | hx | rfl
    · decide
    · exact wordy_free h x hx
    · decide
theorem cntK_pr : ∀ t : Tr, WordyT t → ∀ r, cntK (prT t ++ r) ≤ sizeT t + cntK r := by
  refine tr_ind fun t ih hw r => ?_
  cases hw with
  | mk h1 h2 h3 =>
    obtain ⟨tag, key, text, atz, kids⟩ := t
    obtain ⟨q, hq, hfree⟩ := headB_tail (h := (tag, key, atz)) h1 h2
    have hks : ∀ (ks : List Tr), (∀ k ∈ ks, k ∈ kids) → ∀ r, cntK (prL ks ++ r) ≤ sizeK ks + cntK r := by
      intro ks
      induction ks with
      | nil => intro _ r; show cntK r ≤ _; omega
      | cons k ks ihk =>
        intro hm r
        have a1 := ih k (hm k (by simp)) (h3 k (hm k (by simp))) (prL ks ++ r)
        have a2 := ihk (fun x hx => hm x (by simp [hx])) r
        rw [prL, List.append_assoc]
        have e : sizeK (k :: ks) = sizeT k + sizeK ks := by rw [sizeK]
        omega
    rw [prT, hq, sizeT_eq]
    simp only [List.cons_append]
    refine Nat.le_trans (cntK_cons_le _ _) ?_
    rw [List.append_assoc, cntK_free q _ hfree]
    have hrest : cntK ((if text = noB ∧ kids = [] then [47, 62] else 62 :: (E.escL text.data.toList ++ (prL kids ++ ([60, 47] ++ (tag.data.toList ++ [62]))))) ++ r) ≤ sizeK kids + cntK r := by
      split
      · rw [cntK_free [47, 62] r (fun x hx => by simp only [List.mem_cons, List.not_mem_nil, or_false] at hx; rcases hx with rfl | rfl <;> decide)]
        omega
      · have e : 62 :: (E.escL text.data.toList ++ (prL kids ++ ([60, 47] ++ (tag.data.toList ++ [62])))) ++ r = (62 :: E.escL text.data.toList) ++ (prL kids ++ ([60, 47] ++ (tag.data.toList ++ [62]) ++ r)) := by simp
        rw [e, cntK_free _ _ (fun x hx => by
          rcases List.mem_cons.1 hx with rfl | hx
          · decide
          · exact esc_free _ x hx)]
        have := hks kids (fun k hk => hk) ([60, 47] ++ (tag.data.toList ++ [62]) ++ r)
        rw [cntK_end (t := tag) h1] at this
        exact this
    show _ ≤ 1 + sizeK kids + cntK r
    exact Nat.le_trans (Nat.add_le_add_left hrest 1) (by omega)
end Go.Proofs.YtjnhcoflmechmaaGreatDoor.M
