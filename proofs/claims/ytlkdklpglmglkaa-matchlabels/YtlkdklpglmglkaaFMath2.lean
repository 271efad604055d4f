/-
  Plain: the rows of a tree, and back; the sizes of subtrees.
-/
import Derived.Test.YtlkdklpglmglkaaFMath
import Derived.Test.YtlkdklpglmglkaaWeigh
namespace Go.Proofs.Ytlkdklpglmglkaa
set_option linter.unusedVariables false
def ro (x : It) : Rw := ⟨0, x.up + 1, x.t.tag, x.t.key, x.t.text, x.t.as⟩
def zid (r : Rw) : Rw := ⟨0, r.up, r.tag, r.key, r.text, r.as⟩
mutual
def rowsT : Tr → Int → Nat → List Rw
  | .mk a b c s ks, up, n => ⟨0, up, a, b, c, s⟩ :: rowsK ks ((n : Int) + 1) (n + 1)
def rowsK : List Tr → Int → Nat → List Rw
  | [], _, _ => []
  | k :: ks, up, n => rowsT k up n ++ rowsK ks up (n + sizeT k)
end
theorem rowsT_eq (t : Tr) (up : Int) (n : Nat) : rowsT t up n = ⟨0, up, t.tag, t.key, t.text, t.as⟩ :: rowsK t.kids ((n : Int) + 1) (n + 1) := by cases t; rw [rowsT]; rfl
mutual
theorem rowsT_length : ∀ (t : Tr) (up : Int) (n : Nat), (rowsT t up n).length = sizeT t
  | .mk a b c s ks, up, n => by rw [rowsT, sizeT, List.length_cons, rowsK_length]; omega
theorem rowsK_length : ∀ (ks : List Tr) (up : Int) (n : Nat), (rowsK ks up n).length = sizeK ks
  | [], up, n => by rw [rowsK, sizeK]; rfl
  | k :: ks, up, n => by rw [rowsK, sizeK, List.length_append, rowsT_length, rowsK_length]
end
theorem rowsK_append : ∀ (a b : List Tr) (up : Int) (n : Nat), rowsK (a ++ b) up n = rowsK a up n ++ rowsK b up (n + sizeK a)
  | [], b, up, n => by simp [rowsK, sizeK]
  | k :: a, b, up, n => by rw [List.cons_append, rowsK, rowsK, rowsK_append a b, sizeK, List.append_assoc, Nat.add_assoc]
theorem rowsK_take {ks : List Tr} {j : Nat} (hj : j < ks.length) (up : Int) (n : Nat) : rowsK (ks.take (j + 1)) up n = rowsK (ks.take j) up n ++ rowsT ks[j] up (n + sizeK (ks.take j)) := by
  have e : ks.take (j + 1) = ks.take j ++ [ks[j]] := by simp
  rw [e, rowsK_append]; simp [rowsK]
mutual
theorem all_ro : ∀ (t : Tr) (d : Nat) (up : Int) (l : List It), (allL t d up l).map ro = l.map ro ++ rowsT t (up + 1) l.length ∧ (allL t d up l).length = l.length + sizeT t
  | .mk a b c s ks, d, up, l => by
    rw [allL, rowsT, sizeT]
    obtain ⟨h1, h2⟩ := allK_ro ks (d + 1) l.length (l ++ [⟨.mk a b c s ks, d, up⟩])
    rw [h1, h2]
    simp [ro, Tr.tag, Tr.key, Tr.text, Tr.as]
    omega
theorem allK_ro : ∀ (ks : List Tr) (d : Nat) (up : Int) (l : List It), (allK ks d up l).map ro = l.map ro ++ rowsK ks (up + 1) l.length ∧ (allK ks d up l).length = l.length + sizeK ks
  | [], d, up, l => by rw [allK, rowsK, sizeK]; simp
  | k :: ks, d, up, l => by
    rw [allK, rowsK, sizeK]
    obtain ⟨h1, h2⟩ := all_ro k d up l
    obtain ⟨h3, h4⟩ := allK_ro ks d up (allL k d up l)
    rw [h3, h4, h1, h2]
    simp
    omega
end
mutual
theorem rowsT_id : ∀ (t : Tr) (up : Int) (n : Nat), ∀ r ∈ rowsT t up n, zid r = r
  | .mk a b c s ks, up, n, r, hr => by
    rw [rowsT] at hr
    rcases List.mem_cons.1 hr with rfl | hr
    · rfl
    · exact rowsK_id ks _ _ r hr
theorem rowsK_id : ∀ (ks : List Tr) (up : Int) (n : Nat), ∀ r ∈ rowsK ks up n, zid r = r
  | [], up, n, r, hr => by rw [rowsK] at hr; simp at hr
  | k :: ks, up, n, r, hr => by
    rw [rowsK] at hr
    rcases List.mem_append.1 hr with hr | hr
    · exact rowsT_id k _ _ r hr
    · exact rowsK_id ks _ _ r hr
end
theorem itsR_ro {l : List Rw} (hf : FormTo l l.length) : (itsR l l.length).map ro = l.map zid := by
  apply List.ext_getElem (by simp [itsR])
  intro i h1 h2
  have hi : i < l.length := by simpa using h2
  simp only [itsR, List.map_map, List.getElem_map, List.getElem_range, Function.comp]
  rw [itR, ro, treeR_eq hf]
  simp only [Nat.add_sub_cancel, rwAt_eq hi]
  simp [zid, Rw.node, Tr.tag, Tr.key, Tr.text, Tr.as]
theorem rows_tree {l : List Rw} (hf : FormTo l l.length) (hl : 0 < l.length) : rowsT (treeR l 1) 0 0 = l.map zid ∧ sizeT (treeR l 1) = l.length := by
  obtain ⟨h1, h2⟩ := all_ro (treeR l 1) 1 (-1) []
  rw [all_rows hf hl] at h1 h2
  rw [itsR_ro hf] at h1
  rw [itsR_length] at h2
  exact ⟨by simpa using h1.symm, by simpa using h2.symm⟩
/-! A tree is told by its rows. -/
mutual
theorem rowsT_inj : ∀ (t t' : Tr) (up : Int) (n : Nat) (X X' : List Rw), rowsT t up n ++ X = rowsT t' up n ++ X' → (∀ r, X.head? = some r → r.up ≤ n) → (∀ r, X'.head? = some r → r.up ≤ n) → t = t' ∧ X = X'
  | .mk a b c s ks, .mk a' b' c' s' ks', up, n, X, X', h, h1, h2 => by
    rw [rowsT, rowsT, List.cons_append, List.cons_append] at h
    injection h with h3 h4
    injection h3 with _ _ e1 e2 e3 e4
    obtain ⟨e5, e6⟩ := rowsK_inj ks ks' ((n : Int) + 1) (n + 1) X X' h4 (fun r hr => by have := h1 r hr; omega) (fun r hr => by have := h2 r hr; omega) (by omega)
    subst e1; subst e2; subst e3; subst e4; subst e5
    exact ⟨rfl, e6⟩
theorem rowsK_inj : ∀ (ks ks' : List Tr) (up : Int) (n : Nat) (X X' : List Rw), rowsK ks up n ++ X = rowsK ks' up n ++ X' → (∀ r, X.head? = some r → r.up < up) → (∀ r, X'.head? = some r → r.up < up) → up ≤ n → ks = ks' ∧ X = X'
  | [], [], up, n, X, X', h, h1, h2, hn => by rw [rowsK] at h; exact ⟨rfl, by simpa using h⟩
  | [], k' :: ks', up, n, X, X', h, h1, h2, hn => by
    rw [rowsK, rowsK, rowsT_eq] at h
    simp only [List.nil_append, List.cons_append] at h
    have := h1 _ (by rw [h]; rfl)
    simp at this
  | k :: ks, [], up, n, X, X', h, h1, h2, hn => by
    rw [rowsK, rowsK, rowsT_eq] at h
    simp only [List.nil_append, List.cons_append] at h
    have := h2 _ (by rw [← h]; rfl)
    simp at this
  | k :: ks, k' :: ks', up, n, X, X', h, h1, h2, hn => by
    rw [rowsK, rowsK, List.append_assoc, List.append_assoc] at h
    have hd : ∀ (q : List Tr) (m : Nat) (Y : List Rw), (∀ r, Y.head? = some r → r.up < up) → ∀ r, (rowsK q up m ++ Y).head? = some r → r.up ≤ n := by
      intro q m Y hY r hr
      cases q with
      | nil => rw [rowsK] at hr; have := hY r (by simpa using hr); omega
      | cons q qs =>
        rw [rowsK, rowsT_eq] at hr
        simp at hr
        subst hr
        simpa using hn
    obtain ⟨e1, e2⟩ := rowsT_inj k k' up n _ _ h (hd _ _ _ h1) (hd _ _ _ h2)
    subst e1
    obtain ⟨e3, e4⟩ := rowsK_inj ks ks' up (n + sizeT k) X X' e2 h1 h2 (by omega)
    subst e3
    exact ⟨rfl, e4⟩
end
def Seg (L : List Rw) (n : Nat) (R : List Rw) : Prop := ∃ pre X, L = pre ++ R ++ X ∧ pre.length = n
theorem Seg.cons {L : List Rw} {n : Nat} {r : Rw} {R : List Rw} (h : Seg L n (r :: R)) : rwAt L n = r ∧ Seg L (n + 1) R := by
  obtain ⟨pre, X, rfl, rfl⟩ := h
  refine ⟨by simp [rwAt, List.getD_eq_getElem?_getD], ⟨pre ++ [r], X, by simp, by simp⟩⟩
theorem Seg.split {L : List Rw} {n : Nat} {A B : List Rw} (h : Seg L n (A ++ B)) : Seg L n A ∧ Seg L (n + A.length) B := by
  obtain ⟨pre, X, rfl, rfl⟩ := h
  exact ⟨⟨pre, B ++ X, by simp, rfl⟩, ⟨pre ++ A, X, by simp, by simp⟩⟩
mutual
theorem formT : ∀ (t : Tr) (up : Int) (n : Nat) (L : List Rw), Seg L n (rowsT t up n) → FormTo L n → (if n = 0 then up = 0 else 1 ≤ up ∧ up.toNat ∈ chain L n) → FormTo L (n + sizeT t) ∧ n + 1 ∈ chain L (n + sizeT t)
  | .mk a b c s ks, up, n, L, hs, hf, hu => by
    rw [rowsT] at hs
    obtain ⟨h1, h2⟩ := hs.cons
    have hok : okAt L n := by unfold okAt; rw [h1]; exact hu
    have hf1 := hf.step hok
    obtain ⟨g1, g2⟩ := formK ks ((n : Int) + 1) (n + 1) L h2 hf1 (by omega) (by omega) (by
      have e : ((n : Int) + 1).toNat = n + 1 := by omega
      rw [e]; exact chain_self hf1 (by omega) (Nat.le_refl _))
    have e : ((n : Int) + 1).toNat = n + 1 := by omega
    rw [e] at g2
    rw [sizeT, show n + (1 + sizeK ks) = n + 1 + sizeK ks by omega]
    exact ⟨g1, g2⟩
theorem formK : ∀ (ks : List Tr) (up : Int) (n : Nat) (L : List Rw), Seg L n (rowsK ks up n) → FormTo L n → 1 ≤ n → 1 ≤ up → up.toNat ∈ chain L n → FormTo L (n + sizeK ks) ∧ up.toNat ∈ chain L (n + sizeK ks)
  | [], up, n, L, hs, hf, h1, hu, hc => by rw [sizeK]; exact ⟨hf, hc⟩
  | k :: ks, up, n, L, hs, hf, h1, hu, hc => by
    rw [rowsK] at hs
    obtain ⟨s1, s2⟩ := hs.split
    rw [rowsT_length] at s2
    obtain ⟨g1, g2⟩ := formT k up n L s1 hf (by rw [if_neg (by omega)]; exact ⟨hu, hc⟩)
    have hsz := sizeT_pos k
    have hr : rwAt L n = ⟨0, up, k.tag, k.key, k.text, k.as⟩ := by rw [rowsT_eq] at s1; exact s1.cons.1
    have hup : up.toNat ∈ chain L (n + 1) := by
      rw [chain_succ (g1 n (by omega)), hr]
      have h4 := (chain_le L _ _ hc)
      show up.toNat ∈ (n + 1) :: chain L up.toNat
      exact List.mem_cons_of_mem _ (chain_self g1 h4.1 (by omega))
    obtain ⟨g3, g4⟩ := formK ks up (n + sizeT k) L s2 g1 (by omega) hu (chain_sub _ _ _ g2 hup)
    rw [sizeK, ← Nat.add_assoc]
    exact ⟨g3, g4⟩
end
theorem form_rows (t : Tr) : FormTo (rowsT t 0 0) (rowsT t 0 0).length := by
  have := (formT t 0 0 (rowsT t 0 0) ⟨[], [], by simp, rfl⟩ (fun i hi => by omega) rfl).1
  rw [rowsT_length]
  simpa using this
theorem tree_rows (t : Tr) : treeR (rowsT t 0 0) 1 = t := by
  have hf := form_rows t
  have hl : 0 < (rowsT t 0 0).length := by rw [rowsT_length]; exact sizeT_pos t
  have h1 := (rows_tree hf hl).1
  have h2 : (rowsT t 0 0).map zid = rowsT t 0 0 := by
    conv => rhs; rw [← List.map_id (rowsT t 0 0)]
    apply List.map_congr_left
    intro r hr
    exact rowsT_id t 0 0 r hr
  rw [h2] at h1
  exact (rowsT_inj (treeR (rowsT t 0 0) 1) t 0 0 [] [] (by rw [h1]) (fun r hr => by simp at hr) (fun r hr => by simp at hr)).1
/-! Sizes. -/
theorem span_char {l : List Rw} (hf : FormTo l l.length) {h : Nat} (h1 : 1 ≤ h) (hl : h ≤ l.length) : h - 1 + sizeT (treeR l h) ≤ l.length ∧ ∀ x, h ≤ x → x ≤ l.length → (h ∈ chain l x ↔ x ≤ h - 1 + sizeT (treeR l h)) := by
  obtain ⟨e, he, hel, ha, hx⟩ := sub_all hf l.length h (by omega) h1 hl
  have h2 := (all_ro (treeR l h) (chain l h).length ((rwAt l (h - 1)).up - 1) (itsR l (h - 1))).2
  rw [ha, itsR_length, itsR_length] at h2
  rw [← h2]
  exact ⟨hel, hx⟩
open Classical in
noncomputable def spanTo (l : List Rw) (h : Nat) : Nat → Nat
  | 0 => 0
  | i + 1 => spanTo l h i + (if h = 0 ∨ h ∈ chain l (i + 1) then 1 else 0)
theorem spanTo_zero (l : List Rw) : ∀ n, spanTo l 0 n = n
  | 0 => rfl
  | n + 1 => by rw [spanTo, spanTo_zero l n]; simp
theorem spanTo_part {l : List Rw} (hf : FormTo l l.length) {h : Nat} (h1 : 1 ≤ h) (hl : h ≤ l.length) : ∀ n, n ≤ l.length → spanTo l h n = min n (h - 1 + sizeT (treeR l h)) - (h - 1)
  | 0, _ => by rw [spanTo]; omega
  | n + 1, hn => by
    have hs := sizeT_pos (treeR l h)
    rw [spanTo, spanTo_part hf h1 hl n (by omega)]
    by_cases hx : h ≤ n + 1
    · have hc := (span_char hf h1 hl).2 (n + 1) hx hn
      by_cases hm : h ∈ chain l (n + 1)
      · rw [if_pos (.inr hm)]
        have := hc.1 hm
        omega
      · rw [if_neg (by rintro (h2 | h2)
                       · omega
                       · exact hm h2)]
        have : ¬ n + 1 ≤ h - 1 + sizeT (treeR l h) := fun h2 => hm (hc.2 h2)
        omega
    · rw [if_neg (by rintro (h2 | h2)
                     · omega
                     · have := (chain_le l _ _ h2).2; omega)]
      omega
theorem spanTo_all {l : List Rw} (hf : FormTo l l.length) {h : Nat} (h1 : 1 ≤ h) (hl : h ≤ l.length) : spanTo l h l.length = sizeT (treeR l h) := by
  rw [spanTo_part hf h1 hl l.length (Nat.le_refl _)]
  have := (span_char hf h1 hl).1
  omega
theorem kidsAf_step {l : List Rw} {k m : Nat} (hm : m < l.length) : kidsAf l k m = (if (rwAt l m).up = k then [m + 1] else []) ++ kidsAf l k (m + 1) := kidsTo_split l.length (by omega)
theorem kidsAf_last (l : List Rw) (k : Nat) : kidsAf l k l.length = [] := by
  apply List.filter_eq_nil_iff.2
  intro x hx
  have := (mem_kidsTo.1 hx).2.1
  simp; omega
theorem kids_zero {l : List Rw} (hf : FormTo l l.length) (hl : 0 < l.length) : kidsAf l 0 0 = [1] := by
  have h0 : (rwAt l 0).up = ((0 : Nat) : Int) := hf 0 hl
  rw [kidsAf_kid hl h0]
  have : kidsAf l 0 (0 + 1) = [] := by
    apply List.filter_eq_nil_iff.2
    intro x hx hlt
    obtain ⟨h1, h2, h3⟩ := mem_kidsTo.1 hx
    have h4 : 0 + 1 < x := by simpa using hlt
    have := (okAt_mem (hf (x - 1) (by omega)) (by omega)).1
    rw [h3] at this
    omega
  rw [this]
theorem size_kids {l : List Rw} (hf : FormTo l l.length) (h : Nat) : sizeT (treeR l h) = 1 + sizeK ((kidsAf l h h).map (treeR l)) := by
  rw [treeR_eq hf, Rw.node, sizeT, kids_all hf]
noncomputable def spanAt (l : List Rw) (h k : Nat) : Nat := if h < k then sizeT (treeR l k) else sizeK ((kidsAf l k h).map (treeR l))
theorem spanAt_last (l : List Rw) {k : Nat} (hk : k ≤ l.length) : spanAt l l.length k = 0 := by rw [spanAt, if_neg (by omega), kidsAf_last]; rfl
theorem spanAt_self {l : List Rw} (hf : FormTo l l.length) (h : Nat) : spanAt l h h + 1 = sizeT (treeR l h) := by rw [spanAt, if_neg (by omega), size_kids hf]; omega
theorem spanAt_step {l : List Rw} (hf : FormTo l l.length) {h k : Nat} (hh : h < l.length) : spanAt l h k = (if k = h + 1 then sizeT (treeR l (h + 1)) else if (rwAt l h).up = k then spanAt l (h + 1) k + sizeT (treeR l (h + 1)) else spanAt l (h + 1) k) := by
  by_cases hk : k = h + 1
  · subst hk
    rw [if_pos rfl, spanAt, if_pos (by omega)]
  · rw [if_neg hk]
    by_cases h1 : h < k
    · have hu : ¬ (rwAt l h).up = k := by have := (okAt_up (hf h hh)); omega
      rw [if_neg hu, spanAt, spanAt, if_pos h1, if_pos (by omega)]
    · rw [spanAt, spanAt, if_neg h1, if_neg (show ¬ h + 1 < k by omega), kidsAf_step hh]
      by_cases hu : (rwAt l h).up = k
      · rw [if_pos hu, if_pos hu]
        simp only [List.cons_append, List.nil_append, List.map_cons, sizeK]
        omega
      · rw [if_neg hu, if_neg hu]; rfl
theorem spanAt_end {l : List Rw} (hf : FormTo l l.length) {k : Nat} (hk : k ≤ l.length) : spanAt l 0 k = spanTo l k l.length := by
  rcases Nat.eq_zero_or_pos k with h0 | h0
  · subst h0
    rw [spanTo_zero, spanAt, if_neg (by omega)]
    rcases Nat.eq_zero_or_pos l.length with h1 | h1
    · have := kidsAf_last l 0
      rw [h1] at this
      rw [this, h1]; rfl
    · rw [kids_zero hf h1]
      simp only [List.map_cons, List.map_nil, sizeK]
      rw [(rows_tree hf h1).2]; rfl
  · rw [spanAt, if_pos h0, spanTo_all hf h0 hk]
end Go.Proofs.Ytlkdklpglmglkaa
