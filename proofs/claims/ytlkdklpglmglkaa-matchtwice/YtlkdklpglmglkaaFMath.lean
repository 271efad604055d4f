/-
  Plain: rows, the chain of a handle, the tree of rows, and the rows of a tree.
-/
import Derived.Test.YtlkdklpglmglkaaTMath
namespace Go.Proofs.Ytlkdklpglmglkaa
set_option linter.unusedVariables false
structure Rw where
  id : Int
  up : Int
  tag : ByteArray
  key : ByteArray
  text : ByteArray
  as : List At
def noRw : Rw := ⟨0, 0, noB, noB, noB, []⟩
def Rw.node (r : Rw) (ks : List Tr) : Tr := .mk r.tag r.key r.text r.as ks
def rwAt (l : List Rw) (i : Nat) : Rw := l.getD i noRw
theorem rwAt_eq {l : List Rw} {i : Nat} (h : i < l.length) : rwAt l i = l[i] := by simp [rwAt, List.getD_eq_getElem?_getD, h]
def upN (l : List Rw) (x : Nat) : Nat := (rwAt l (x - 1)).up.toNat
def chain (l : List Rw) (x : Nat) : List Nat := if h : 0 < x ∧ upN l x < x then x :: chain l (upN l x) else []
termination_by x
decreasing_by exact h.2
def okAt (l : List Rw) (i : Nat) : Prop := if i = 0 then (rwAt l i).up = 0 else 1 ≤ (rwAt l i).up ∧ (rwAt l i).up.toNat ∈ chain l i
def FormTo (l : List Rw) (n : Nat) : Prop := ∀ i, i < n → okAt l i
theorem FormTo.mono {l : List Rw} {n m : Nat} (h : FormTo l n) (hm : m ≤ n) : FormTo l m := fun i hi => h i (by omega)
theorem FormTo.step {l : List Rw} {n : Nat} (h : FormTo l n) (hn : okAt l n) : FormTo l (n + 1) := fun i hi => by
  rcases Nat.lt_or_ge i n with h1 | h1
  · exact h i h1
  · have : i = n := by omega
    subst this; exact hn
theorem chain_zero (l : List Rw) : chain l 0 = [] := by rw [chain]; simp
theorem chain_le (l : List Rw) : ∀ (x y : Nat), y ∈ chain l x → 1 ≤ y ∧ y ≤ x := by
  intro x
  induction x using Nat.strongRecOn with
  | _ x ih =>
    intro y hy
    rw [chain] at hy
    split at hy
    · rename_i h
      rcases List.mem_cons.1 hy with rfl | hy
      · exact ⟨h.1, Nat.le_refl _⟩
      · have := ih _ h.2 y hy; omega
    · simp at hy
theorem okAt_up {l : List Rw} {i : Nat} (h : okAt l i) : 0 ≤ (rwAt l i).up ∧ (rwAt l i).up.toNat ≤ i := by
  unfold okAt at h
  split at h
  · rw [h]; simp
  · exact ⟨by omega, (chain_le l i _ h.2).2⟩
theorem chain_succ {l : List Rw} {x : Nat} (h : okAt l x) : chain l (x + 1) = (x + 1) :: chain l (rwAt l x).up.toNat := by
  have e : upN l (x + 1) = (rwAt l x).up.toNat := rfl
  rw [chain, dif_pos ⟨by omega, by rw [e]; have := (okAt_up h).2; omega⟩, e]
theorem chain_self {l : List Rw} {n x : Nat} (hf : FormTo l n) (h1 : 1 ≤ x) (hx : x ≤ n) : x ∈ chain l x := by
  obtain ⟨y, rfl⟩ : ∃ y, x = y + 1 := ⟨x - 1, by omega⟩
  rw [chain_succ (hf y (by omega))]; exact List.mem_cons_self
theorem chain_sub {l : List Rw} : ∀ (x y z : Nat), y ∈ chain l x → z ∈ chain l y → z ∈ chain l x := by
  intro x
  induction x using Nat.strongRecOn with
  | _ x ih =>
    intro y z hy hz
    rw [chain] at hy
    split at hy
    · rename_i h
      rcases List.mem_cons.1 hy with rfl | hy
      · exact hz
      · rw [chain, dif_pos h]; exact List.mem_cons_of_mem _ (ih _ h.2 y z hy hz)
    · simp at hy
theorem chain_mid {l : List Rw} : ∀ (x y z : Nat), y ∈ chain l x → z ∈ chain l x → y ≤ z → y ∈ chain l z := by
  intro x
  induction x using Nat.strongRecOn with
  | _ x ih =>
    intro y z hy hz hle
    have hy0 := hy
    rw [chain] at hy hz
    split at hy
    · rename_i h
      rw [dif_pos h] at hz
      rcases List.mem_cons.1 hz with rfl | hz
      · exact hy0
      · rcases List.mem_cons.1 hy with rfl | hy
        · have := (chain_le l _ z hz).2; omega
        · exact ih _ h.2 y z hy hz hle
    · simp at hy
theorem okAt_mem {l : List Rw} {x : Nat} (h : okAt l x) (hx : 1 ≤ x) : 1 ≤ (rwAt l x).up ∧ (rwAt l x).up.toNat ∈ chain l x := by
  unfold okAt at h
  rwa [if_neg (by omega)] at h
theorem sub_down1 {l : List Rw} {n h x : Nat} (hf : FormTo l n) (h1 : 1 ≤ h) (hx : h ≤ x) (hxn : x < n) (hm : h ∈ chain l (x + 1)) : h ∈ chain l x := by
  rw [chain_succ (hf x hxn)] at hm
  rcases List.mem_cons.1 hm with h2 | hm
  · omega
  · exact chain_sub _ _ _ (okAt_mem (hf x hxn) (by omega)).2 hm
theorem sub_down {l : List Rw} {n h : Nat} (hf : FormTo l n) (h1 : 1 ≤ h) : ∀ (d y : Nat), h ≤ y → y + d ≤ n → h ∈ chain l (y + d) → h ∈ chain l y
  | 0, y, hy, hn, hm => hm
  | d + 1, y, hy, hn, hm => sub_down hf h1 d y hy (by omega) (sub_down1 hf h1 (by omega) (by omega) hm)
/-- The handles of the rows below one. -/
def kidsTo (l : List Rw) (h : Int) : Nat → List Nat
  | 0 => []
  | n + 1 => if (rwAt l n).up = h then kidsTo l h n ++ [n + 1] else kidsTo l h n
def kidsH (l : List Rw) (h : Int) : List Nat := kidsTo l h l.length
theorem mem_kidsTo {l : List Rw} {h : Int} {k : Nat} : ∀ {n : Nat}, k ∈ kidsTo l h n ↔ 1 ≤ k ∧ k ≤ n ∧ (rwAt l (k - 1)).up = h
  | 0 => by simp [kidsTo]; omega
  | n + 1 => by
    rw [kidsTo]
    split
    · rename_i hu
      rw [List.mem_append, mem_kidsTo]
      simp only [List.mem_singleton]
      constructor
      · rintro (⟨h1, h2, h3⟩ | rfl)
        · exact ⟨h1, by omega, h3⟩
        · exact ⟨by omega, by omega, by simpa using hu⟩
      · rintro ⟨h1, h2, h3⟩
        rcases Nat.lt_or_ge n k with h4 | h4
        · exact .inr (by omega)
        · exact .inl ⟨h1, h4, h3⟩
    · rename_i hu
      rw [mem_kidsTo]
      constructor
      · rintro ⟨h1, h2, h3⟩; exact ⟨h1, by omega, h3⟩
      · rintro ⟨h1, h2, h3⟩
        refine ⟨h1, ?_, h3⟩
        rcases Nat.lt_or_ge n k with h4 | h4
        · have e : k - 1 = n := by omega
          rw [e] at h3; exact absurd h3 hu
        · exact h4
theorem kid_gt {l : List Rw} (hf : FormTo l l.length) {h k : Nat} (hk : k ∈ kidsH l h) : h < k ∧ k ≤ l.length := by
  obtain ⟨h1, h2, h3⟩ := mem_kidsTo.1 hk
  have := (okAt_up (hf (k - 1) (by omega))).2
  rw [h3] at this
  omega
def treeF (l : List Rw) : Nat → Nat → Tr
  | 0, h => (rwAt l (h - 1)).node []
  | f + 1, h => (rwAt l (h - 1)).node ((kidsH l h).map (treeF l f))
theorem kids_last {l : List Rw} (hf : FormTo l l.length) {h : Nat} (hh : l.length ≤ h) : kidsH l h = [] := by
  apply List.eq_nil_iff_forall_not_mem.2
  intro k hk
  have := kid_gt hf hk
  omega
theorem treeF_stable {l : List Rw} (hf : FormTo l l.length) : ∀ (f g h : Nat), l.length ≤ f + h → l.length ≤ g + h → treeF l f h = treeF l g h
  | 0, 0, h, _, _ => rfl
  | 0, g + 1, h, h1, _ => by rw [treeF, treeF, kids_last hf (by omega)]; rfl
  | f + 1, 0, h, _, h1 => by rw [treeF, treeF, kids_last hf (by omega)]; rfl
  | f + 1, g + 1, h, h1, h2 => by
    rw [treeF, treeF]
    congr 1
    apply List.map_congr_left
    intro k hk
    have := kid_gt hf hk
    exact treeF_stable hf f g k (by omega) (by omega)
def treeR (l : List Rw) (h : Nat) : Tr := treeF l l.length h
theorem treeR_eq {l : List Rw} (hf : FormTo l l.length) (h : Nat) : treeR l h = (rwAt l (h - 1)).node ((kidsH l h).map (treeR l)) := by
  rw [treeR, treeF_stable hf l.length (l.length + 1) h (by omega) (by omega), treeF]
  rfl
/-! All nodes of a tree by their numbers. -/
mutual
def allL : Tr → Nat → Int → List It → List It
  | .mk a b c s kids, d, up, l => allK kids (d + 1) l.length (l ++ [⟨.mk a b c s kids, d, up⟩])
def allK : List Tr → Nat → Int → List It → List It
  | [], _, _, l => l
  | k :: ks, d, up, l => allK ks d up (allL k d up l)
end
theorem allL_eq (t : Tr) (d : Nat) (up : Int) (l : List It) : allL t d up l = allK t.kids (d + 1) l.length (l ++ [⟨t, d, up⟩]) := by cases t; rw [allL]; rfl
mutual
theorem allL_pre : ∀ (t : Tr) (d : Nat) (up : Int) (l : List It), l <+: allL t d up l
  | .mk a b c s kids, d, up, l => by rw [allL]; exact (List.prefix_append _ _).trans (allK_pre kids _ _ _)
theorem allK_pre : ∀ (ks : List Tr) (d : Nat) (up : Int) (l : List It), l <+: allK ks d up l
  | [], _, _, l => by rw [allK]; exact List.prefix_refl _
  | k :: ks, d, up, l => by rw [allK]; exact (allL_pre k d up l).trans (allK_pre ks _ _ _)
end
mutual
theorem visit_all (al : Tr → Int) : ∀ (t : Tr) (d : Nat) (up : Int) (l : List It), Clean al l → VB al l (visitL al t d up l) (allL t d up l)
  | .mk a b c s kids, d, up, l, hc => by
    rw [visitL, allL]
    by_cases h0 : nodeF al l ⟨.mk a b c s kids, d, up⟩ = 0
    · rw [if_pos h0]
      obtain ⟨h1, h2, h3, h4, h5⟩ := visit_allK al kids (d + 1) l.length (l ++ [⟨.mk a b c s kids, d, up⟩]) (hc.snoc h0)
      exact ⟨(List.prefix_append _ _).trans h1, (List.prefix_append _ _).trans h2, h3, h4, h5⟩
    · rw [if_neg h0]
      exact ⟨(List.prefix_append _ _).trans (allK_pre _ _ _ _), List.prefix_refl _, hc, fun h => absurd h h0, fun _ => ⟨_, allK_pre _ _ _ _, rfl⟩⟩
theorem visit_allK (al : Tr → Int) : ∀ (ks : List Tr) (d : Nat) (up : Int) (l : List It), Clean al l → VB al l (visitK al ks d up l) (allK ks d up l)
  | [], d, up, l, hc => by rw [visitK, allK]; exact ⟨List.prefix_refl _, List.prefix_refl _, hc, fun _ => rfl, fun h => absurd rfl h⟩
  | k :: ks, d, up, l, hc => by
    obtain ⟨h1, h2, h3, h4, h5⟩ := visit_all al k d up l hc
    rw [visitK, allK]
    by_cases h0 : (visitL al k d up l).2 = 0
    · rw [if_pos h0, h4 h0]
      obtain ⟨g1, g2, g3, g4, g5⟩ := visit_allK al ks d up _ h3
      exact ⟨h2.trans g1, h2.trans g2, g3, g4, g5⟩
    · rw [if_neg h0]
      obtain ⟨x, hx, he⟩ := h5 h0
      exact ⟨h1.trans (allK_pre _ _ _ _), h2, h3, fun h => absurd h h0, fun _ => ⟨x, hx.trans (allK_pre _ _ _ _), he⟩⟩
end
theorem seen_all (al : Tr → Int) (t : Tr) : FirstF al (allL t 1 (-1) []) (if (seenL al t).2 = 0 then 0 else (seenL al t).1.length) (seenL al t).2 := by
  obtain ⟨h1, h2, h3, h4, h5⟩ := visit_all al t 1 (-1) [] (Clean.nil al)
  change ((seenL al t).2 = 0 → allL t 1 (-1) [] = (seenL al t).1) at h4
  change ((seenL al t).2 ≠ 0 → ∃ x, ((seenL al t).1 ++ [x]) <+: allL t 1 (-1) [] ∧ nodeF al (seenL al t).1 x = (seenL al t).2) at h5
  change Clean al (seenL al t).1 at h3
  by_cases h0 : (seenL al t).2 = 0
  · rw [if_pos h0, h4 h0, h0]; exact .inr ⟨rfl, rfl, h3⟩
  · rw [if_neg h0]
    obtain ⟨x, ⟨r, hx⟩, he⟩ := h5 h0
    refine .inl ⟨(seenL al t).1.length, by rw [← hx]; simp, rfl, ?_, h0, fun j hj hjl => ?_⟩
    · simp [← hx, he]
    · have := h3 j hjl
      simp only [← hx, List.append_assoc]
      rw [List.getElem_append_left hjl, List.take_append_of_le_length (by omega)]; exact this
theorem seen_ok (al : Tr → Int) (t : Tr) (h : (seenL al t).2 = 0) : allL t 1 (-1) [] = (seenL al t).1 := (visit_all al t 1 (-1) [] (Clean.nil al)).2.2.2.1 h
/-- The item of a row. -/
def itR (l : List Rw) (i : Nat) : It := ⟨treeR l (i + 1), (chain l (i + 1)).length, (rwAt l i).up - 1⟩
def itsR (l : List Rw) (n : Nat) : List It := (List.range n).map (itR l)
theorem itsR_length (l : List Rw) (n : Nat) : (itsR l n).length = n := by simp [itsR]
theorem itsR_succ (l : List Rw) (n : Nat) : itsR l n ++ [itR l n] = itsR l (n + 1) := by simp [itsR, List.range_succ]
def kidsAf (l : List Rw) (h m : Nat) : List Nat := (kidsH l h).filter (m < ·)
theorem kidsTo_split {l : List Rw} {h : Int} {m : Nat} : ∀ n, m + 1 ≤ n → (kidsTo l h n).filter (m < ·) = (if (rwAt l m).up = h then [m + 1] else []) ++ (kidsTo l h n).filter (m + 1 < ·)
  | 0, hn => by omega
  | n + 1, hn => by
    rcases Nat.lt_or_ge m n with h1 | h1
    · have ih := kidsTo_split (l := l) (h := h) (m := m) n (by omega)
      rw [kidsTo]
      by_cases hu : (rwAt l n).up = h
      · rw [if_pos hu, List.filter_append, List.filter_append, ih]
        have e1 : [n + 1].filter (fun x => decide (m < x)) = [n + 1] := by simp; omega
        have e2 : [n + 1].filter (fun x => decide (m + 1 < x)) = [n + 1] := by simp; omega
        rw [e1, e2, List.append_assoc]
      · rw [if_neg hu, ih]
    · have hmn : m = n := by omega
      subst hmn
      have e0 : ∀ k, m ≤ k → (kidsTo l h m).filter (fun x => decide (k < x)) = [] := by
        intro k hk
        apply List.filter_eq_nil_iff.2
        intro x hx
        have := (mem_kidsTo.1 hx).2.1
        simp; omega
      rw [kidsTo]
      by_cases hu : (rwAt l m).up = h
      · rw [if_pos hu, if_pos hu, List.filter_append, List.filter_append, e0 m (by omega), e0 (m + 1) (by omega)]; simp
      · rw [if_neg hu, if_neg hu, e0 m (by omega), e0 (m + 1) (by omega)]; rfl
theorem kidsAf_kid {l : List Rw} {h m : Nat} (hm : m < l.length) (hu : (rwAt l m).up = h) : kidsAf l h m = (m + 1) :: kidsAf l h (m + 1) := by
  have := kidsTo_split (l := l) (h := (h : Int)) (m := m) l.length (by omega)
  rw [if_pos hu] at this
  exact this
theorem kids_all {l : List Rw} (hf : FormTo l l.length) (h : Nat) : kidsAf l h h = kidsH l h := by
  apply List.filter_eq_self.2
  intro k hk
  have := kid_gt hf hk
  simp; omega
theorem sub_kids {l : List Rw} (hf : FormTo l l.length) (h : Nat) (h1 : 1 ≤ h) (hin : h ≤ l.length)
    (IH : ∀ k, h < k → k ≤ l.length → ∃ e, k ≤ e ∧ e ≤ l.length ∧ allL (treeR l k) (chain l k).length ((rwAt l (k - 1)).up - 1) (itsR l (k - 1)) = itsR l e ∧ ∀ x, k ≤ x → x ≤ l.length → (k ∈ chain l x ↔ x ≤ e)) :
    ∀ (g m : Nat), l.length - m ≤ g → h ≤ m → m ≤ l.length → h ∈ chain l m → (m < l.length → h ∈ chain l (m + 1) → (rwAt l m).up = h) →
      ∃ e, m ≤ e ∧ e ≤ l.length ∧ allK ((kidsAf l h m).map (treeR l)) ((chain l h).length + 1) ((h : Int) - 1) (itsR l m) = itsR l e ∧ ∀ x, m ≤ x → x ≤ l.length → (h ∈ chain l x ↔ x ≤ e) := by
  intro g
  induction g with
  | zero =>
    intro m hg hm hml hin' hbd
    have hmn : m = l.length := by omega
    have hk : kidsAf l h m = [] := by
      apply List.filter_eq_nil_iff.2
      intro k hk
      have := (kid_gt hf hk).2
      simp; omega
    refine ⟨m, Nat.le_refl _, hml, by rw [hk]; rfl, fun x hx hxl => ⟨fun _ => by omega, fun _ => ?_⟩⟩
    have : x = m := by omega
    rw [this]; exact hin'
  | succ g ih =>
    intro m hg hm hml hin' hbd
    by_cases hc : m < l.length ∧ h ∈ chain l (m + 1)
    · have hu := hbd hc.1 hc.2
      obtain ⟨e1, he1, he1l, hall, hch⟩ := IH (m + 1) (by omega) (by omega)
      have hok := hf m hc.1
      have hcm : chain l (m + 1) = (m + 1) :: chain l h := by rw [chain_succ hok, hu]; rfl
      have hself := chain_self hf (show 1 ≤ m + 1 by omega) (show m + 1 ≤ l.length by omega)
      have hin1 : m + 1 ∈ chain l e1 := (hch e1 he1 he1l).2 (Nat.le_refl _)
      have hh1 : h ∈ chain l e1 := chain_sub _ _ _ hin1 hc.2
      have hk : kidsAf l h m = (m + 1) :: kidsAf l h e1 := by
        rw [kidsAf_kid hc.1 hu]
        congr 1
        apply List.filter_congr
        intro k hk
        rcases Nat.lt_or_ge e1 k with h2 | h2
        · simp; omega
        · have h3 : ¬ m + 1 < k := by
            intro h3
            obtain ⟨k1, k2, k3⟩ := mem_kidsTo.1 hk
            have hin2 : m + 1 ∈ chain l k := (hch k (by omega) (by omega)).2 h2
            obtain ⟨k', rfl⟩ : ∃ k', k = k' + 1 := ⟨k - 1, by omega⟩
            rw [chain_succ (hf k' (by omega))] at hin2
            rcases List.mem_cons.1 hin2 with h4 | h4
            · omega
            · simp only [Nat.add_sub_cancel] at k3
              rw [k3] at h4
              have := (chain_le l _ _ h4).2
              omega
          simp; omega
      obtain ⟨e, he, hel, hall2, hch2⟩ := ih e1 (by omega) (by omega) he1l hh1 (by
        intro hlt hin2
        have hok1 := hf e1 hlt
        obtain ⟨u1, u2⟩ := okAt_mem hok1 (by omega)
        rw [chain_succ hok1] at hin2
        have hle : h ≤ (rwAt l e1).up.toNat := by
          rcases List.mem_cons.1 hin2 with h4 | h4
          · omega
          · exact (chain_le l _ _ h4).2
        have hno : ¬ m + 1 ∈ chain l (e1 + 1) := fun hx => by have := (hch (e1 + 1) (by omega) (by omega)).1 hx; omega
        have hlt2 : (rwAt l e1).up.toNat < m + 1 := by
          rcases Nat.lt_or_ge (rwAt l e1).up.toNat (m + 1) with h4 | h4
          · exact h4
          · exact absurd (by rw [chain_succ hok1]; exact List.mem_cons_of_mem _ (chain_mid _ _ _ hin1 u2 h4)) hno
        have h5 := chain_mid _ _ _ u2 hin1 (by omega)
        rw [hcm] at h5
        rcases List.mem_cons.1 h5 with h6 | h6
        · omega
        · have := (chain_le l _ _ h6).2
          omega)
      refine ⟨e, by omega, hel, ?_, fun x hx hxl => ?_⟩
      · rw [hk, List.map_cons, allK]
        have hd : (chain l (m + 1)).length = (chain l h).length + 1 := by rw [hcm]; rfl
        simp only [Nat.add_sub_cancel] at hall
        rw [hd, hu] at hall
        rw [hall]; exact hall2
      · rcases Nat.lt_or_ge x e1 with h2 | h2
        · refine ⟨fun _ => by omega, fun _ => ?_⟩
          obtain ⟨d, rfl⟩ : ∃ d, e1 = x + d := ⟨e1 - x, by omega⟩
          exact sub_down hf h1 d x (by omega) (by omega) hh1
        · exact hch2 x h2 hxl
    · have hno : ∀ x, m < x → x ≤ l.length → ¬ h ∈ chain l x := by
        intro x hx hxl hm2
        obtain ⟨d, rfl⟩ : ∃ d, x = m + 1 + d := ⟨x - (m + 1), by omega⟩
        exact hc ⟨by omega, sub_down hf h1 d (m + 1) (by omega) hxl hm2⟩
      have hk : kidsAf l h m = [] := by
        apply List.filter_eq_nil_iff.2
        intro k hk hmk
        have hmk' : m < k := by simpa using hmk
        obtain ⟨k1, k2, k3⟩ := mem_kidsTo.1 hk
        obtain ⟨k', rfl⟩ : ∃ k', k = k' + 1 := ⟨k - 1, by omega⟩
        refine hno (k' + 1) hmk' k2 ?_
        rw [chain_succ (hf k' (by omega))]
        simp only [Nat.add_sub_cancel] at k3
        rw [k3]
        exact List.mem_cons_of_mem _ (chain_self hf h1 (by omega))
      refine ⟨m, Nat.le_refl _, hml, by rw [hk]; rfl, fun x hx hxl => ⟨fun h2 => ?_, fun h2 => ?_⟩⟩
      · rcases Nat.lt_or_ge m x with h3 | h3
        · exact absurd h2 (hno x h3 hxl)
        · exact h3
      · have : x = m := by omega
        rw [this]; exact hin'
theorem sub_all {l : List Rw} (hf : FormTo l l.length) : ∀ (g h : Nat), l.length - h ≤ g → 1 ≤ h → h ≤ l.length →
    ∃ e, h ≤ e ∧ e ≤ l.length ∧ allL (treeR l h) (chain l h).length ((rwAt l (h - 1)).up - 1) (itsR l (h - 1)) = itsR l e ∧ ∀ x, h ≤ x → x ≤ l.length → (h ∈ chain l x ↔ x ≤ e) := by
  intro g
  induction g with
  | zero =>
    intro h hg h1 hl
    have IH : ∀ k, h < k → k ≤ l.length → ∃ e, k ≤ e ∧ e ≤ l.length ∧ allL (treeR l k) (chain l k).length ((rwAt l (k - 1)).up - 1) (itsR l (k - 1)) = itsR l e ∧ ∀ x, k ≤ x → x ≤ l.length → (k ∈ chain l x ↔ x ≤ e) := fun k hk hkl => by omega
    obtain ⟨e, he, hel, ha, hx⟩ := sub_kids hf h h1 hl IH 0 h (by omega) (Nat.le_refl _) hl (chain_self hf h1 hl) (fun hlt => by omega)
    refine ⟨e, he, hel, ?_, hx⟩
    obtain ⟨h', rfl⟩ : ∃ h', h = h' + 1 := ⟨h - 1, by omega⟩
    rw [kids_all hf] at ha
    rw [allL_eq, itsR_length]
    simp only [Nat.add_sub_cancel]
    have e2 := itsR_succ l h'
    unfold itR at e2
    rw [e2]
    have e3 : (treeR l (h' + 1)).kids = (kidsH l ((h' + 1 : Nat) : Int)).map (treeR l) := by rw [treeR_eq hf]; rfl
    rw [e3]
    have e4 : (((h' + 1 : Nat) : Int) - 1) = (h' : Int) := by omega
    rw [e4] at ha
    exact ha
  | succ g ih =>
    intro h hg h1 hl
    have IH := fun k (hk : h < k) (hkl : k ≤ l.length) => ih k (by omega) (by omega) hkl
    obtain ⟨e, he, hel, ha, hx⟩ := sub_kids hf h h1 hl IH l.length h (by omega) (Nat.le_refl _) hl (chain_self hf h1 hl) (by
      intro hlt hin
      have hok := hf h hlt
      obtain ⟨u1, u2⟩ := okAt_mem hok h1
      rw [chain_succ hok] at hin
      rcases List.mem_cons.1 hin with h4 | h4
      · omega
      · have a1 := (chain_le l _ _ h4).2
        have a2 := (chain_le l _ _ u2).2
        omega)
    refine ⟨e, he, hel, ?_, hx⟩
    obtain ⟨h', rfl⟩ : ∃ h', h = h' + 1 := ⟨h - 1, by omega⟩
    rw [kids_all hf] at ha
    rw [allL_eq, itsR_length]
    simp only [Nat.add_sub_cancel]
    have e2 := itsR_succ l h'
    unfold itR at e2
    rw [e2]
    have e3 : (treeR l (h' + 1)).kids = (kidsH l ((h' + 1 : Nat) : Int)).map (treeR l) := by rw [treeR_eq hf]; rfl
    rw [e3]
    have e4 : (((h' + 1 : Nat) : Int) - 1) = (h' : Int) := by omega
    rw [e4] at ha
    exact ha
theorem root_all {l : List Rw} (hf : FormTo l l.length) : ∀ x, 1 ≤ x → x ≤ l.length → 1 ∈ chain l x := by
  intro x
  induction x using Nat.strongRecOn with
  | _ x ih =>
    intro h1 hx
    obtain ⟨y, rfl⟩ : ∃ y, x = y + 1 := ⟨x - 1, by omega⟩
    have hok := hf y (by omega)
    rw [chain_succ hok]
    rcases Nat.eq_zero_or_pos y with h0 | h0
    · subst h0; exact List.mem_cons_self
    · obtain ⟨u1, u2⟩ := okAt_mem hok h0
      have := (chain_le l _ _ u2).2
      exact List.mem_cons_of_mem _ (ih _ (by omega) (by omega) (by omega))
/-- The nodes of the tree of rows that stand right are the rows, in order. -/
theorem all_rows {l : List Rw} (hf : FormTo l l.length) (hl : 0 < l.length) : allL (treeR l 1) 1 (-1) [] = itsR l l.length := by
  obtain ⟨e, he, hel, ha, hx⟩ := sub_all hf l.length 1 (by omega) (Nat.le_refl _) hl
  have h0 : (rwAt l 0).up = 0 := hf 0 hl
  have hc : chain l 1 = [1] := by
    have := chain_succ (hf 0 hl)
    rw [h0] at this
    simpa [chain_zero] using this
  have : e = l.length := Nat.le_antisymm hel ((hx l.length hl (Nat.le_refl _)).1 (root_all hf _ hl (Nat.le_refl _)))
  rw [this, hc] at ha
  simpa [h0, itsR] using ha
end Go.Proofs.Ytlkdklpglmglkaa
