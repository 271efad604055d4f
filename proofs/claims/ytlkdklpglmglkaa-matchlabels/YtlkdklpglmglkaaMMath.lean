/-
  Plain: the labels of rows, and which rows match.
-/
import Derived.Test.YtlkdklpglmglkaaMLab
import Derived.Test.YtlkdklpglmglkaaFCheck
namespace Go.Proofs.Ytlkdklpglmglkaa
open K (Lab)
set_option linter.unusedVariables false
set_option maxRecDepth 100000
/-- The node that labelsOf makes of a row. -/
def ndR (l : List Rw) (k : Nat) : Tr := .mk (rwAt l (k - 1)).tag (rwAt l (k - 1)).key noB [] []
def cntR (l : List Rw) (h : Int) (t : ByteArray) : Nat → Nat
  | 0 => 0
  | n + 1 => cntR l h t n + (if (rwAt l n).up = h ∧ (rwAt l n).key = noB ∧ (rwAt l n).tag = t then 1 else 0)
def labR (l : List Rw) (i : Nat) : Lab := ⟨(rwAt l i).tag, (rwAt l i).key, if (rwAt l i).key = noB then (cntR l (rwAt l i).up (rwAt l i).tag (i + 1) : Int) else 0⟩
theorem cntR_le (l : List Rw) (h : Int) (t : ByteArray) : ∀ n, cntR l h t n ≤ n
  | 0 => Nat.le_refl _
  | n + 1 => by
    rw [cntR]
    have := cntR_le l h t n
    split <;> omega
theorem cntR_mono (l : List Rw) (h : Int) (t : ByteArray) {n m : Nat} (hm : n ≤ m) : cntR l h t n ≤ cntR l h t m := by
  induction m with
  | zero => have : n = 0 := by omega
            subst this; exact Nat.le_refl _
  | succ m ih =>
    rcases Nat.lt_or_ge m n with h1 | h1
    · have : n = m + 1 := by omega
      subst this; exact Nat.le_refl _
    · rw [cntR]; have := ih h1; omega
theorem cnt_kids (l : List Rw) (h : Int) (t : ByteArray) : ∀ n, cnt ((kidsTo l h n).map (ndR l)) t = cntR l h t n
  | 0 => rfl
  | n + 1 => by
    have ih := cnt_kids l h t n
    rw [kidsTo, cntR]
    by_cases hu : (rwAt l n).up = h
    · rw [if_pos hu, List.map_append, cnt, List.countP_append]
      rw [cnt] at ih
      rw [ih]
      congr 1
      by_cases hk : (rwAt l n).key = noB ∧ (rwAt l n).tag = t
      · rw [if_pos ⟨hu, hk⟩]; simp [free, ndR, Tr.key, Tr.tag, hk.1, hk.2]
      · rw [if_neg (fun q => hk q.2)]
        have hk' : ¬ (rwAt l n).key = noB ∨ ¬ (rwAt l n).tag = t := by
          by_cases h1 : (rwAt l n).key = noB
          · exact .inr (fun h2 => hk ⟨h1, h2⟩)
          · exact .inl h1
        rcases hk' with h1 | h1 <;> simp [free, ndR, Tr.key, Tr.tag, h1]
    · rw [if_neg hu, if_neg (fun q => hu q.1), ih]; rfl
theorem kidsTo_pre (l : List Rw) (h : Int) {n m : Nat} (hm : n ≤ m) : kidsTo l h n <+: kidsTo l h m := by
  induction m with
  | zero => have : n = 0 := by omega
            subst this; exact List.prefix_refl _
  | succ m ih =>
    rcases Nat.lt_or_ge m n with h1 | h1
    · have : n = m + 1 := by omega
      subst this; exact List.prefix_refl _
    · rw [kidsTo]
      split
      · exact (ih h1).trans (List.prefix_append _ _)
      · exact ih h1
theorem kidsTo_sorted (l : List Rw) (h : Int) : ∀ n, (kidsTo l h n).Pairwise (· < ·)
  | 0 => List.Pairwise.nil
  | n + 1 => by
    rw [kidsTo]
    split
    · rw [List.pairwise_append]
      refine ⟨kidsTo_sorted l h n, List.pairwise_singleton _ _, fun x hx y hy => ?_⟩
      have := (mem_kidsTo.1 hx).2.1
      simp at hy
      omega
    · exact kidsTo_sorted l h n
theorem kids_inj {l : List Rw} {h : Int} {n i j : Nat} (hi : i < (kidsTo l h n).length) (hj : j < (kidsTo l h n).length) (he : (kidsTo l h n)[i] = (kidsTo l h n)[j]) : i = j := by
  have hs := List.pairwise_iff_getElem.1 (kidsTo_sorted l h n)
  rcases Nat.lt_trichotomy i j with h1 | h1 | h1
  · have := hs i j hi hj h1; omega
  · exact h1
  · have := hs j i hj hi h1; omega
theorem kids_take {l : List Rw} {h : Int} {m j : Nat} (hj : j < (kidsTo l h m).length) : kidsTo l h (kidsTo l h m)[j] = (kidsTo l h m).take (j + 1) := by
  obtain ⟨k, hk⟩ : ∃ k, k = (kidsTo l h m)[j] := ⟨_, rfl⟩
  have hmem : k ∈ kidsTo l h m := by rw [hk]; exact List.getElem_mem _
  obtain ⟨h1, h2, h3⟩ := mem_kidsTo.1 hmem
  obtain ⟨k', rfl⟩ : ∃ k', k = k' + 1 := ⟨k - 1, by omega⟩
  rw [← hk]
  have e1 : kidsTo l h (k' + 1) = kidsTo l h k' ++ [k' + 1] := by rw [kidsTo, if_pos (by simpa using h3)]
  have hpre := kidsTo_pre l h h2
  have hlen : (kidsTo l h (k' + 1)).length = (kidsTo l h k').length + 1 := by rw [e1]; simp
  have hle := hpre.length_le
  have hget : (kidsTo l h m)[(kidsTo l h k').length]'(by omega) = k' + 1 := by
    have := List.IsPrefix.getElem hpre (i := (kidsTo l h k').length) (by omega)
    rw [← this]
    simp [e1]
  have hjj : (kidsTo l h k').length = j := kids_inj (by omega) hj (by rw [hget, hk])
  rw [List.prefix_iff_eq_take.1 hpre, hlen, hjj]
theorem labs_kids (l : List Rw) (h : Int) : labsOf ((kidsH l h).map (ndR l)) = (kidsH l h).map (fun k => labR l (k - 1)) := by
  apply List.ext_getElem?
  intro j
  by_cases hj : j < (kidsH l h).length
  · have hj' : j < ((kidsH l h).map (ndR l)).length := by simpa using hj
    rw [firstL_get (Nat.le_refl _) hj' _ (List.getElem?_eq_getElem hj'), List.getElem?_map, List.getElem?_eq_getElem hj, Option.map_some]
    congr 1
    obtain ⟨k, hk⟩ : ∃ k, k = (kidsH l h)[j] := ⟨_, rfl⟩
    have hmem : k ∈ kidsH l h := by rw [hk]; exact List.getElem_mem _
    obtain ⟨h1, h2, h3⟩ := mem_kidsTo.1 hmem
    have e : ((kidsH l h).map (ndR l)).take (j + 1) = (kidsTo l h k).map (ndR l) := by rw [← List.map_take, hk]; congr 1; exact (kids_take hj).symm
    rw [e, List.getElem_map, ← hk]
    unfold labOf labR
    rw [cnt_kids]
    have e2 : (ndR l k).tag = (rwAt l (k - 1)).tag := rfl
    have e3 : (ndR l k).key = (rwAt l (k - 1)).key := rfl
    rw [e2, e3, h3, show k - 1 + 1 = k by omega]
  · rw [List.getElem?_eq_none (by rw [firstL_length (Nat.le_refl _)]; simpa using hj), List.getElem?_eq_none (by simpa using hj)]
/-! Labels of valid rows. -/
theorem errR_clean {l : List Rw} (he : errR l = 0) : FormTo l l.length ∧ ∀ j, j < l.length → nodeF aloneT (itsR l j) (itR l j) = 0 := by
  have hf : FormTo l l.length := by
    apply Classical.byContradiction
    intro hn
    rw [errR_bad hn] at he
    cases he
  refine ⟨hf, fun j hj => ?_⟩
  have h0 : l ≠ [] := fun h => by rw [h] at hj; simp at hj
  rw [errR_ok hf h0] at he
  have hcl : Clean aloneT (seenL aloneT (treeR l 1)).1 := (visit_all aloneT (treeR l 1) 1 (-1) [] (Clean.nil aloneT)).2.2.1
  rw [← seen_ok aloneT _ he, all_rows hf (by omega)] at hcl
  have := hcl j (by rw [itsR_length]; exact hj)
  rw [itsR_take l (by omega), itsR_get] at this
  exact this
theorem no_twin {l : List Rw} (he : errR l = 0) {i j : Nat} (hij : i < j) (hj : j < l.length) (hk : (rwAt l j).key ≠ noB) (hu : (rwAt l i).up = (rwAt l j).up) : (rwAt l i).key ≠ (rwAt l j).key := by
  obtain ⟨hf, hc⟩ := errR_clean he
  intro hkk
  have hn := hc j hj
  have hup := (okAt_mem (hf j hj) (by omega)).1
  have e1 : (itR l j).up = (rwAt l j).up - 1 := rfl
  have e2 : (itR l j).t.key = (rwAt l j).key := treeR_key hf j
  have hh : 0 ≤ (itR l j).up ∧ (itR l j).t.key ≠ noB ∧ hasKey (itsR l j) (itR l j).up (itR l j).t.key := by
    rw [e1, e2]
    exact ⟨by omega, hk, (hasKey_its hf).2 ⟨i, hij, hu, hkk⟩⟩
  unfold nodeF at hn
  split at hn
  · cases hn
  · split at hn
    · cases hn
    · split at hn
      · rename_i h1; exact h1 hn
      · first | cases hn | (rw [if_pos hh] at hn; cases hn)
theorem labR_apart {l : List Rw} (he : errR l = 0) {i j : Nat} (hij : i < j) (hj : j < l.length) (hu : (rwAt l i).up = (rwAt l j).up) : labR l i ≠ labR l j := by
  intro e
  have e1 : (rwAt l i).tag = (rwAt l j).tag := congrArg Lab.tag e
  have e2 : (rwAt l i).key = (rwAt l j).key := congrArg Lab.key e
  by_cases hk : (rwAt l j).key = noB
  · have e3 := congrArg Lab.n e
    simp only [labR, e1, e2, hk, hu, if_true] at e3
    have e4 : cntR l (rwAt l j).up (rwAt l j).tag (i + 1) = cntR l (rwAt l j).up (rwAt l j).tag (j + 1) := Int.ofNat.inj e3
    have h1 := cntR_mono l (rwAt l j).up (rwAt l j).tag (show i + 1 ≤ j by omega)
    have h2 : cntR l (rwAt l j).up (rwAt l j).tag (j + 1) = cntR l (rwAt l j).up (rwAt l j).tag j + 1 := by rw [cntR, if_pos ⟨rfl, hk, rfl⟩]
    omega
  · exact no_twin he hij hj hk hu e2
theorem labR_uniq {l : List Rw} (he : errR l = 0) {i j : Nat} (hi : i < l.length) (hj : j < l.length) (hu : (rwAt l i).up = (rwAt l j).up) (h : labR l i = labR l j) : i = j := by
  rcases Nat.lt_trichotomy i j with h1 | h1 | h1
  · exact absurd h (labR_apart he h1 hj hu)
  · exact h1
  · exact absurd h.symm (labR_apart he h1 hi hu.symm)
/-! Matches. -/
def lastM (a b : List Rw) (pu : Int) (i : Nat) : Nat → Nat
  | 0 => 0
  | k + 1 => if (rwAt a k).up = pu ∧ labR a k = labR b i then k + 1 else lastM a b pu i k
theorem lastM_le (a b : List Rw) (pu : Int) (i : Nat) : ∀ n, lastM a b pu i n ≤ n
  | 0 => Nat.le_refl _
  | n + 1 => by rw [lastM]; have := lastM_le a b pu i n; split <;> omega
theorem lastM_hit {a b : List Rw} {pu : Int} {i : Nat} : ∀ {n : Nat}, lastM a b pu i n ≠ 0 → (rwAt a (lastM a b pu i n - 1)).up = pu ∧ labR a (lastM a b pu i n - 1) = labR b i
  | 0, h => absurd rfl h
  | n + 1, h => by
    rw [lastM] at h ⊢
    split
    · rename_i h1; simpa using h1
    · rename_i h1
      rw [if_neg h1] at h
      exact lastM_hit h
theorem lastM_miss {a b : List Rw} {pu : Int} {i : Nat} : ∀ {n : Nat}, lastM a b pu i n = 0 → ∀ k, k < n → ¬ ((rwAt a k).up = pu ∧ labR a k = labR b i)
  | 0, _, k, hk => by omega
  | n + 1, h, k, hk => by
    rw [lastM] at h
    split at h
    · omega
    · rename_i h1
      rcases Nat.lt_or_ge k n with h2 | h2
      · exact lastM_miss h k h2
      · have : k = n := by omega
        subst this; exact h1
theorem lastM_of {a b : List Rw} (he : errR a = 0) {pu : Int} {i k : Nat} (hk : k < a.length) (hu : (rwAt a k).up = pu) (hl : labR a k = labR b i) : lastM a b pu i a.length = k + 1 := by
  by_cases h0 : lastM a b pu i a.length = 0
  · exact absurd ⟨hu, hl⟩ (lastM_miss h0 k hk)
  · obtain ⟨h1, h2⟩ := lastM_hit h0
    have hle := lastM_le a b pu i a.length
    have := labR_uniq he (i := lastM a b pu i a.length - 1) (j := k) (by omega) hk (by rw [h1, hu]) (by rw [h2, hl])
    omega
def mAt (a b : List Rw) (out : List Nat) (i : Nat) : Nat :=
  let pu := if 0 < (rwAt b i).up then out.getD ((rwAt b i).up.toNat - 1) 0 else 0
  if (rwAt b i).up = 0 ∨ 0 < pu then lastM a b (pu : Int) i a.length else 0
def mtL (a b : List Rw) : Nat → List Nat
  | 0 => []
  | n + 1 => mtL a b n ++ [mAt a b (mtL a b n) n]
def mt (a b : List Rw) (i : Nat) : Nat := mAt a b (mtL a b i) i
theorem mtL_length (a b : List Rw) : ∀ n, (mtL a b n).length = n
  | 0 => rfl
  | n + 1 => by rw [mtL, List.length_append, mtL_length a b n]; rfl
theorem mtL_get (a b : List Rw) : ∀ {n i : Nat}, i < n → (mtL a b n).getD i 0 = mt a b i
  | 0, i, h => by omega
  | n + 1, i, h => by
    rw [mtL, List.getD_eq_getElem?_getD]
    rcases Nat.lt_or_ge i n with h1 | h1
    · rw [List.getElem?_append_left (by rw [mtL_length]; exact h1), ← List.getD_eq_getElem?_getD]
      exact mtL_get a b h1
    · have : i = n := by omega
      subst this
      rw [List.getElem?_append_right (by rw [mtL_length]; exact Nat.le_refl _), mtL_length, Nat.sub_self]; rfl
theorem mtL_eq (a b : List Rw) (n : Nat) : mtL a b n = (List.range n).map (mt a b) := by
  induction n with
  | zero => rfl
  | succ n ih => rw [mtL, List.range_succ, List.map_append, ← ih]; rfl
/-- The partner of a handle; that of the holder is the holder. -/
def pm (a b : List Rw) (h : Nat) : Nat := if h = 0 then 0 else mt a b (h - 1)
theorem mt_eq {a b : List Rw} (hf : FormTo b b.length) {i : Nat} (hi : i < b.length) : mt a b i = if (rwAt b i).up.toNat = 0 ∨ pm a b (rwAt b i).up.toNat ≠ 0 then lastM a b (pm a b (rwAt b i).up.toNat : Nat) i a.length else 0 := by
  obtain ⟨h1, h2⟩ := okAt_up (hf i hi)
  unfold mt mAt
  by_cases h0 : (rwAt b i).up = 0
  · have e : (rwAt b i).up.toNat = 0 := by omega
    have hn : ¬ 0 < (rwAt b i).up := by omega
    simp [h0, pm]
  · have hpos : 0 < (rwAt b i).up := by omega
    have e : (mtL a b i).getD ((rwAt b i).up.toNat - 1) 0 = pm a b (rwAt b i).up.toNat := by rw [mtL_get a b (by omega), pm, if_neg (by omega)]
    simp only [if_pos hpos, e]
    by_cases hp : pm a b (rwAt b i).up.toNat = 0
    · rw [if_neg (by rw [hp]; omega), if_neg (by rw [hp]; omega)]
    · rw [if_pos (.inr (by omega)), if_pos (.inr hp)]
theorem mt_le {a b : List Rw} (hf : FormTo b b.length) {i : Nat} (hi : i < b.length) : mt a b i ≤ a.length := by
  rw [mt_eq hf hi]
  split
  · exact lastM_le _ _ _ _ _
  · omega
theorem pm_le {a b : List Rw} (hf : FormTo b b.length) {h : Nat} (hh : h ≤ b.length) : pm a b h ≤ a.length := by
  unfold pm
  split
  · omega
  · exact mt_le hf (by omega)
/-- What a match means. -/
theorem mt_hit {a b : List Rw} (hf : FormTo b b.length) {i : Nat} (hi : i < b.length) (h : mt a b i ≠ 0) :
    ((rwAt b i).up.toNat = 0 ∨ pm a b (rwAt b i).up.toNat ≠ 0) ∧ (rwAt a (mt a b i - 1)).up = (pm a b (rwAt b i).up.toNat : Nat) ∧ labR a (mt a b i - 1) = labR b i := by
  have e := mt_eq (a := a) hf hi
  by_cases hc : (rwAt b i).up.toNat = 0 ∨ pm a b (rwAt b i).up.toNat ≠ 0
  · rw [if_pos hc] at e
    rw [e] at h ⊢
    exact ⟨hc, lastM_hit h⟩
  · rw [if_neg hc] at e; exact absurd e h
theorem mt_of {a b : List Rw} (ha : errR a = 0) (hf : FormTo b b.length) {i k : Nat} (hi : i < b.length) (hk : k < a.length) (hc : (rwAt b i).up.toNat = 0 ∨ pm a b (rwAt b i).up.toNat ≠ 0) (hu : (rwAt a k).up = (pm a b (rwAt b i).up.toNat : Nat)) (hl : labR a k = labR b i) : mt a b i = k + 1 := by
  rw [mt_eq hf hi, if_pos hc]
  exact lastM_of ha hk hu hl
/-- Matching is symmetric. -/
theorem mt_back {a b : List Rw} (ha : errR a = 0) (hb : errR b = 0) : ∀ i, i < b.length → mt a b i ≠ 0 → mt b a (mt a b i - 1) = i + 1 := by
  have hfa := (errR_clean ha).1
  have hfb := (errR_clean hb).1
  intro i
  induction i using Nat.strongRecOn with
  | _ i ih =>
    intro hi h
    obtain ⟨hc, hu, hl⟩ := mt_hit hfb hi h
    have hle := mt_le (a := a) hfb hi
    obtain ⟨u1, u2⟩ := okAt_up (hfb i hi)
    have hk : mt a b i - 1 < a.length := by omega
    have hun : (rwAt a (mt a b i - 1)).up.toNat = pm a b (rwAt b i).up.toNat := by rw [hu]; rfl
    have key : ((rwAt a (mt a b i - 1)).up.toNat = 0 ∨ pm b a (rwAt a (mt a b i - 1)).up.toNat ≠ 0) ∧ pm b a (rwAt a (mt a b i - 1)).up.toNat = (rwAt b i).up.toNat := by
      rw [hun]
      by_cases h0 : (rwAt b i).up.toNat = 0
      · rw [h0, pm, if_pos rfl]
        exact ⟨.inl rfl, rfl⟩
      · have hp : pm a b (rwAt b i).up.toNat ≠ 0 := by
          rcases hc with h1 | h1
          · exact absurd h1 h0
          · exact h1
        have hm : pm a b (rwAt b i).up.toNat = mt a b ((rwAt b i).up.toNat - 1) := by rw [pm, if_neg h0]
        have := ih ((rwAt b i).up.toNat - 1) (by omega) (by omega) (by rw [← hm]; exact hp)
        rw [← hm] at this
        have e : pm b a (pm a b (rwAt b i).up.toNat) = (rwAt b i).up.toNat := by rw [pm, if_neg hp, this]; omega
        rw [e]
        exact ⟨.inr h0, rfl⟩
    exact mt_of hb hfa hk hi key.1 (by rw [key.2]; omega) hl.symm
theorem mt_self {a : List Rw} (ha : errR a = 0) : ∀ i, i < a.length → mt a a i = i + 1 := by
  have hfa := (errR_clean ha).1
  intro i
  induction i using Nat.strongRecOn with
  | _ i ih =>
    intro hi
    obtain ⟨u1, u2⟩ := okAt_up (hfa i hi)
    by_cases h0 : (rwAt a i).up.toNat = 0
    · exact mt_of ha hfa hi hi (.inl h0) (by rw [h0, pm, if_pos rfl]; omega) rfl
    · have e : pm a a (rwAt a i).up.toNat = (rwAt a i).up.toNat := by rw [pm, if_neg h0, ih _ (by omega) (by omega)]; omega
      exact mt_of ha hfa hi hi (.inr (by rw [e]; exact h0)) (by rw [e]; omega) rfl
end Go.Proofs.Ytlkdklpglmglkaa
