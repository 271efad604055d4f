/-
  Without the skipped elements the same elements are chosen: the mathematics, without the program.
-/
import Derived.Test.YtplkfiffgcjmdaaMath
namespace Go.Proofs.Ytplkfiffgcjmdaa

def restTo (l : List Int) (k : Nat) : List Int := (l.take k).filter (fun x => decide (0 ≤ x))
def pos (l : List Int) (k : Nat) : Nat := (restTo l k).length
def restL (l : List Int) : List Int := restTo l l.length
theorem take_el {l : List Int} {j : Nat} (h : j < l.length) : l.take (j + 1) = l.take j ++ [el l j] := by
  unfold el; rw [getD_lt h]; exact List.take_succ_eq_append_getElem h
theorem rest_hit {l : List Int} {k : Nat} (hk : k < l.length) (h : 0 ≤ el l k) : restTo l (k + 1) = restTo l k ++ [el l k] := by
  simp [restTo, take_el hk, List.filter_append, h]
theorem rest_miss {l : List Int} {k : Nat} (hk : k < l.length) (h : el l k < 0) : restTo l (k + 1) = restTo l k := by
  have : ¬ 0 ≤ el l k := by omega
  simp [restTo, take_el hk, List.filter_append, this]
theorem pos_hit {l : List Int} {k : Nat} (hk : k < l.length) (h : 0 ≤ el l k) : pos l (k + 1) = pos l k + 1 := by
  unfold pos; rw [rest_hit hk h]; simp
theorem pos_miss {l : List Int} {k : Nat} (hk : k < l.length) (h : el l k < 0) : pos l (k + 1) = pos l k := by
  unfold pos; rw [rest_miss hk h]
theorem pos_le (l : List Int) (k : Nat) : pos l k ≤ k := by
  have := List.length_filter_le (fun x => decide (0 ≤ x)) (l.take k)
  simp only [List.length_take] at this
  unfold pos restTo
  omega
theorem pos_mono {l : List Int} {k n : Nat} (h : k ≤ n) (hn : n ≤ l.length) : pos l k ≤ pos l n := by
  induction n with
  | zero => obtain rfl : k = 0 := by omega
            exact Nat.le_refl _
  | succ n ih =>
    rcases Nat.lt_or_ge k (n + 1) with h1 | h1
    · have := ih (by omega) (by omega)
      rcases Int.lt_or_le (el l n) 0 with h2 | h2
      · rw [pos_miss (by omega) h2]; exact this
      · rw [pos_hit (by omega) h2]; omega
    · obtain rfl : k = n + 1 := by omega
      exact Nat.le_refl _
theorem pos_lt {l : List Int} {k n : Nat} (h : k < n) (hn : n ≤ l.length) (h0 : 0 ≤ el l k) : pos l k < pos l n := by
  have := pos_mono (l := l) (k := k + 1) (n := n) (by omega) hn
  rw [pos_hit (by omega) h0] at this
  omega
theorem rest_at {l : List Int} {k n : Nat} (h : k < n) (hn : n ≤ l.length) (h0 : 0 ≤ el l k) : (restTo l n).getD (pos l k) 0 = el l k := by
  induction n with
  | zero => omega
  | succ n ih =>
    rcases Nat.lt_or_ge k n with h1 | h1
    · have hlt := pos_lt h1 (by omega) h0
      have hi := ih h1 (by omega)
      rcases Int.lt_or_le (el l n) 0 with h2 | h2
      · rw [rest_miss (by omega) h2]; exact hi
      · rw [rest_hit (by omega) h2, getD_snoc, if_pos (show pos l k < (restTo l n).length from hlt)]; exact hi
    · obtain rfl : k = n := by omega
      rw [rest_hit (by omega) h0, getD_snoc, if_neg (by unfold pos; omega), if_pos (show pos l k = (restTo l k).length from rfl)]
theorem rest_el {l : List Int} {k : Nat} (h : k < l.length) (h0 : 0 ≤ el l k) : el (restL l) (pos l k) = el l k := rest_at h (Nat.le_refl _) h0
theorem pos_onto {l : List Int} {i : Nat} (hi : i ≤ l.length) : ∀ j, j < pos l i → ∃ k, k < i ∧ 0 ≤ el l k ∧ pos l k = j := by
  induction i with
  | zero => intro j hj; have := pos_le l 0; omega
  | succ i ih =>
    intro j hj
    rcases Int.lt_or_le (el l i) 0 with h2 | h2
    · rw [pos_miss (by omega) h2] at hj
      obtain ⟨k, hk, r⟩ := ih (by omega) j hj
      exact ⟨k, by omega, r⟩
    · rw [pos_hit (by omega) h2] at hj
      rcases Nat.lt_or_ge j (pos l i) with h3 | h3
      · obtain ⟨k, hk, r⟩ := ih (by omega) j h3
        exact ⟨k, by omega, r⟩
      · exact ⟨i, by omega, h2, by omega⟩
theorem en_rest {l : List Int} (i : Nat) : i < l.length → 0 ≤ el l i → en (restL l) (pos l i) = en l i := by
  induction i using Nat.strongRecOn with
  | _ i ih =>
    intro hi h0
    have he := rest_el hi h0
    have h0' : 0 ≤ el (restL l) (pos l i) := by omega
    apply Nat.le_antisymm
    · rcases en_from h0' with h1 | ⟨j, hj, hj0, hjl, h1⟩
      · rw [h1]; exact en_pos h0
      · obtain ⟨k, hk, hk0, rfl⟩ := pos_onto (Nat.le_of_lt hi) j hj
        have hek := rest_el (show k < l.length by omega) hk0
        have := en_more hk hk0 (by omega : el l k < el l i)
        rw [h1, ih k hk (by omega) hk0]; exact this
    · rcases en_from h0 with h1 | ⟨k, hk, hk0, hkl, h1⟩
      · rw [h1]; exact en_pos h0'
      · have hek := rest_el (show k < l.length by omega) hk0
        have := en_more (l := restL l) (pos_lt hk (Nat.le_of_lt hi) hk0) (by omega) (by omega)
        rw [h1, ← ih k hk (by omega) hk0]; exact this
theorem mx_rest {l : List Int} {n : Nat} (hn : n ≤ l.length) : mx (en (restL l)) (pos l n) = mx (en l) n := by
  induction n with
  | zero => have : pos l 0 = 0 := by have := pos_le l 0; omega
            rw [this]; rfl
  | succ n ih =>
    have h1 := ih (by omega)
    rcases Int.lt_or_le (el l n) 0 with h2 | h2
    · rw [pos_miss (by omega) h2, h1]
      simp only [mx, en_neg h2]; omega
    · rw [pos_hit (by omega) h2]
      simp only [mx, h1, en_rest n (by omega) h2]
theorem lenL_rest (l : List Int) : lenL (restL l) = lenL l := by
  have := mx_rest (Nat.le_refl l.length)
  exact this
theorem chosen_rest {l : List Int} {lim : Nat} (hl : lim ≤ l.length) : ∀ w, chosen (restL l) (pos l lim) w = (chosen l lim w).map (pos l) := by
  induction lim with
  | zero =>
    intro w
    have : pos l 0 = 0 := by have := pos_le l 0; omega
    rw [this]; rfl
  | succ k ih =>
    intro w
    cases w with
    | zero => rw [chosen_zero, chosen_zero]; rfl
    | succ w =>
      rcases Int.lt_or_le (el l k) 0 with h2 | h2
      · rw [pos_miss (by omega) h2, chosen_miss (l := l) (by rw [en_neg h2]; omega)]
        exact ih (by omega) _
      · rw [pos_hit (by omega) h2]
        by_cases he : en l k = w + 1
        · rw [chosen_hit he, chosen_hit (by rw [en_rest k (by omega) h2]; exact he), ih (by omega)]
          simp
        · rw [chosen_miss he, chosen_miss (by rw [en_rest k (by omega) h2]; exact he), ih (by omega)]
theorem longL_rest (l : List Int) : longL (restL l) = (longL l).map (pos l) := by
  unfold longL
  rw [lenL_rest, ← chosen_rest (Nat.le_refl _)]
  rfl
/-- The members of the two choices. -/
theorem skips_at {l : List Int} {i : Nat} (h : i < (longL l).length) : (longL l).getD i 0 < l.length ∧ (longL (restL l)).getD i 0 < (restL l).length ∧ el (restL l) ((longL (restL l)).getD i 0) = el l ((longL l).getD i 0) := by
  have hm : (longL l).getD i 0 ∈ longL l := by rw [getD_lt h]; exact List.getElem_mem _
  have hl := (longL_chain l).low _ hm
  have e : (longL (restL l)).getD i 0 = pos l ((longL l).getD i 0) := by
    rw [longL_rest, getD_lt (by simpa using h), getD_lt h]; simp
  rw [e]
  refine ⟨hl.1, pos_lt hl.1 (Nat.le_refl _) hl.2, rest_el hl.1 hl.2⟩
end Go.Proofs.Ytplkfiffgcjmdaa
