/-
  The piles: the mathematics, without the program.
-/
import Derived.Test.YtplkfiffgcjmdaaMath
namespace Go.Proofs.Ytplkfiffgcjmdaa

def pileTo (l : List Int) (k j : Nat) : List Nat := (List.range k).filter (fun i => decide (en l i = j + 1))
def pileL (l : List Int) (j : Nat) : List Nat := pileTo l l.length j
theorem pileTo_zero (l : List Int) (j : Nat) : pileTo l 0 j = [] := rfl
theorem pileTo_hit {l : List Int} {k j : Nat} (h : en l k = j + 1) : pileTo l (k + 1) j = pileTo l k j ++ [k] := by
  simp [pileTo, List.range_succ, List.filter_append, h]
theorem pileTo_miss {l : List Int} {k j : Nat} (h : en l k ≠ j + 1) : pileTo l (k + 1) j = pileTo l k j := by
  simp [pileTo, List.range_succ, List.filter_append, h]
theorem pileTo_length (l : List Int) (k j : Nat) : (pileTo l k j).length ≤ k := by
  have := List.length_filter_le (fun i => decide (en l i = j + 1)) (List.range k)
  simpa [pileTo] using this
theorem pileL_mem {l : List Int} {j a : Nat} : a ∈ pileL l j ↔ a < l.length ∧ en l a = j + 1 := by
  simp [pileL, pileTo]
theorem pileL_up (l : List Int) (j : Nat) : (pileL l j).Pairwise (· < ·) := List.Pairwise.filter _ List.pairwise_lt_range
theorem pileL_at {l : List Int} {j i : Nat} (h : i < (pileL l j).length) : (pileL l j).getD i 0 < l.length ∧ en l ((pileL l j).getD i 0) = j + 1 ∧ 0 ≤ el l ((pileL l j).getD i 0) := by
  have hm : (pileL l j).getD i 0 ∈ pileL l j := by rw [getD_lt h]; exact List.getElem_mem _
  obtain ⟨h1, h2⟩ := pileL_mem.1 hm
  refine ⟨h1, h2, ?_⟩
  rcases Int.lt_or_le (el l ((pileL l j).getD i 0)) 0 with hn | hn
  · rw [en_neg hn] at h2; omega
  · exact hn
theorem pileL_next {l : List Int} {j i k : Nat} (hik : i < k) (h : k < (pileL l j).length) : (pileL l j).getD i 0 < (pileL l j).getD k 0 ∧ el l ((pileL l j).getD k 0) ≤ el l ((pileL l j).getD i 0) := by
  have h1 : (pileL l j).getD i 0 < (pileL l j).getD k 0 := by
    rw [getD_lt h, getD_lt (by omega)]
    exact List.pairwise_iff_getElem.1 (pileL_up l j) i k (by omega) h hik
  have a := pileL_at (l := l) (j := j) (i := i) (by omega)
  have b := pileL_at h
  exact ⟨h1, en_pile h1 (by omega) a.2.2⟩
theorem en_down {l : List Int} (i : Nat) : ∀ v, 1 ≤ v → v ≤ en l i → ∃ j, j ≤ i ∧ en l j = v := by
  induction i using Nat.strongRecOn with
  | _ i ih =>
    intro v h1 h2
    rcases Nat.lt_or_ge v (en l i) with h | h
    · have h0 : 0 ≤ el l i := by
        rcases Int.lt_or_le (el l i) 0 with hn | hn
        · rw [en_neg hn] at h; omega
        · exact hn
      rcases en_from h0 with h3 | ⟨k, hk, _, _, h3⟩
      · omega
      · obtain ⟨j, hj, he⟩ := ih k hk v h1 (by omega)
        exact ⟨j, by omega, he⟩
    · exact ⟨i, Nat.le_refl _, by omega⟩
theorem pileL_pos {l : List Int} {j : Nat} (h : j < lenL l) : 0 < (pileL l j).length := by
  rcases mx_hit (en l) l.length with h1 | ⟨k, hk, h1⟩
  · unfold lenL at h; omega
  · obtain ⟨i, hi, he⟩ := en_down (l := l) k (j + 1) (by omega) (by unfold lenL at h; omega)
    exact List.length_pos_of_mem (pileL_mem.2 ⟨by omega, he⟩)

/-- The first piles, one behind the other. -/
def flat (l : List Int) : Nat → List Nat
  | 0 => []
  | k + 1 => flat l k ++ pileL l k
theorem flat_mem {l : List Int} {k a : Nat} (h : a ∈ flat l k) : 1 ≤ en l a ∧ en l a ≤ k := by
  induction k with
  | zero => simp [flat] at h
  | succ k ih =>
    simp only [flat, List.mem_append] at h
    rcases h with h | h
    · have := ih h; omega
    · have := (pileL_mem.1 h).2; omega
theorem met_not {l : List Int} {k i : Nat} (h : i < (pileL l k).length) : ¬ (pileL l k).getD i 0 ∈ flat l k ++ (pileL l k).take i := by
  intro hm
  rcases List.mem_append.1 hm with hm | hm
  · have h1 := (flat_mem hm).2
    have h2 := (pileL_at h).2.1
    omega
  · obtain ⟨a, ha, he⟩ := List.getElem_of_mem hm
    simp at ha
    rw [List.getElem_take, ← getD_lt (d := 0) (by omega)] at he
    have := (pileL_next (l := l) (j := k) (i := a) (k := i) (by omega) h).1
    omega
theorem take_getDN {s : List Nat} {j : Nat} (h : j < s.length) : s.take (j + 1) = s.take j ++ [s.getD j 0] := by
  rw [getD_lt h]; exact List.take_succ_eq_append_getElem h
theorem met_step {l : List Int} {k i : Nat} (h : i < (pileL l k).length) : flat l k ++ (pileL l k).take (i + 1) = flat l k ++ (pileL l k).take i ++ [(pileL l k).getD i 0] := by
  rw [take_getDN h, List.append_assoc]
def cntTo (l : List Int) (k : Nat) : Nat := (List.range k).countP (fun i => decide (0 ≤ el l i))
theorem cnt_succ (l : List Int) (k : Nat) : cntTo l (k + 1) = cntTo l k + (if 0 ≤ el l k then 1 else 0) := by
  unfold cntTo
  rw [List.range_succ, List.countP_append]
  simp [List.countP_cons]
theorem cnt_le (l : List Int) (k : Nat) : cntTo l k ≤ k := by
  have := List.countP_le_length (p := fun i => decide (0 ≤ el l i)) (l := List.range k)
  simpa [cntTo] using this
theorem countP_split (p q r : Nat → Bool) (h : ∀ a, r a = (p a || q a)) (hd : ∀ a, ¬ (p a = true ∧ q a = true)) (s : List Nat) : s.countP r = s.countP p + s.countP q := by
  induction s with
  | nil => rfl
  | cons a s ih =>
    rw [List.countP_cons, List.countP_cons, List.countP_cons, ih, h a]
    have := hd a
    cases hp : p a <;> cases hq : q a <;> simp_all <;> omega
theorem flat_length (l : List Int) (k : Nat) : (flat l k).length = (List.range l.length).countP (fun i => decide (1 ≤ en l i ∧ en l i ≤ k)) := by
  induction k with
  | zero =>
    rw [List.countP_eq_zero.2]
    · rfl
    · intro a _; simp; omega
  | succ k ih =>
    simp only [flat, List.length_append, ih]
    have : (pileL l k).length = (List.range l.length).countP (fun i => decide (en l i = k + 1)) := by
      rw [List.countP_eq_length_filter]; rfl
    rw [this]
    refine (countP_split _ _ _ (fun a => ?_) (fun a => ?_) _).symm
    · rw [Bool.eq_iff_iff, Bool.or_eq_true, decide_eq_true_iff, decide_eq_true_iff, decide_eq_true_iff]; omega
    · rw [decide_eq_true_iff, decide_eq_true_iff]; omega
theorem flat_all (l : List Int) : (flat l (lenL l)).length = cntTo l l.length := by
  rw [flat_length]
  unfold cntTo
  apply List.countP_congr
  intro a ha
  simp only [List.mem_range] at ha
  have h1 := mx_le (en l) ha
  have h2 := en_zero (l := l) (i := a)
  rw [decide_eq_true_iff, decide_eq_true_iff]
  unfold lenL
  omega
theorem flat_le (l : List Int) (k : Nat) : (flat l k).length ≤ l.length := by
  rw [flat_length]
  have := List.countP_le_length (p := fun i => decide (1 ≤ en l i ∧ en l i ≤ k)) (l := List.range l.length)
  simpa using this
end Go.Proofs.Ytplkfiffgcjmdaa
