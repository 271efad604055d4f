/-
  Plain: which lists are valid, and what With and Without make of them.
-/
import Derived.Test.YteamnjaepgfcmaaRNorm
namespace Go.Proofs.Yteamnjaepgfcmaa
open Go.RowKit Go.Sort
set_option linter.unusedVariables false
def ValidL (l : List At) : Prop := ∀ j, j < l.length → faultL l j = 0
theorem check_zero {l : List At} {a : Int} (h : CheckP l a 0) : ValidL l := by
  rcases h with ⟨i, hi, _, h1, h2, _⟩ | ⟨_, _, h⟩
  · exact absurd h1.symm h2
  · exact h
theorem check_not {l : List At} {a e : Int} (h : CheckP l a e) (he : e ≠ 0) : ¬ ValidL l := by
  intro hv
  rcases h with ⟨i, hi, _, h1, h2, _⟩ | ⟨_, h0, _⟩
  · exact h2 (hv i hi)
  · exact he h0
theorem adj_sts : ∀ {l : List At}, (∀ j, (hj : j + 1 < l.length) → cmpN l[j].1 l[j + 1].1 < 0) → StS l
  | [], _ => StS.nil
  | [x], _ => by simp [StS]
  | x :: y :: r, h => by
    have ih : StS (y :: r) := adj_sts fun j hj => by have := h (j + 1) (by simpa using hj); simpa using this
    have h0 : cmpN x.1 y.1 < 0 := h 0 (by simp)
    refine List.pairwise_cons.2 ⟨fun z hz => ?_, ih⟩
    rcases List.mem_cons.1 hz with rfl | hz
    · exact h0
    · exact cmpN_trans h0 ((List.pairwise_cons.1 ih).1 z hz)
structure Good (l : List At) : Prop where
  len : l.length ≤ 64
  nm : ∀ x ∈ l, okN x.1 = true ∧ x.2.size ≤ 65536
  sts : StS l
theorem faultX_zero {i : Nat} {p x : At} (h : faultX i p x = 0) : i ≠ 64 ∧ okN x.1 = true ∧ x.2.size ≤ 65536 ∧ (i ≠ 0 → cmpN p.1 x.1 < 0) := by
  unfold faultX at h
  by_cases h1 : i = 64
  · rw [if_pos h1] at h; omega
  · rw [if_neg h1] at h
    cases h2 : okN x.1 with
    | false => rw [h2, if_pos rfl] at h; omega
    | true =>
      rw [h2, if_neg (by simp)] at h
      by_cases h3 : 65536 < x.2.size
      · rw [if_pos h3] at h; omega
      · rw [if_neg h3] at h
        refine ⟨h1, rfl, by omega, fun h0 => ?_⟩
        rw [if_neg h0] at h
        unfold ordF at h
        by_cases h4 : p.1 = x.1
        · rw [if_pos h4] at h; omega
        · rw [if_neg h4] at h
          by_cases h5 : 0 < cmpN p.1 x.1
          · rw [if_pos h5] at h; omega
          · have : cmpN p.1 x.1 ≠ 0 := fun e => h4 (cmpN_zero e)
            omega
theorem valid_good {l : List At} (h : ValidL l) : Good l := by
  have hlen : l.length ≤ 64 := by
    rcases Nat.lt_or_ge 64 l.length with h1 | h1
    · have := h 64 h1
      unfold faultL faultX at this
      simp at this
    · exact h1
  refine ⟨hlen, fun x hx => ?_, adj_sts fun j hj => ?_⟩
  · obtain ⟨i, hi, rfl⟩ := List.getElem_of_mem hx
    have := faultX_zero (h i hi)
    rw [getD_at hi] at this
    exact ⟨this.2.1, this.2.2.1⟩
  · have := (faultX_zero (h (j + 1) hj)).2.2.2 (by omega)
    rw [getD_at hj, Nat.add_sub_cancel, getD_at (by omega)] at this
    exact this
theorem good_valid {l : List At} (h : Good l) : ValidL l := by
  intro j hj
  have hlen := h.len
  obtain ⟨h1, h2⟩ := h.nm l[j] (List.getElem_mem hj)
  unfold faultL
  rw [getD_at hj]
  unfold faultX
  rw [if_neg (by omega), h1, if_neg (by simp), if_neg (by omega)]
  by_cases h0 : j = 0
  · rw [if_pos h0]
  · rw [if_neg h0, getD_at (show j - 1 < l.length by omega)]
    have h3 : cmpN l[j - 1].1 l[j].1 < 0 := List.pairwise_iff_getElem.1 h.sts (j - 1) j (by omega) hj (by omega)
    unfold ordF
    rw [if_neg (cmpN_ne h3), if_neg (by omega)]
theorem good_without {l : List At} (h : Good l) (n : ByteArray) : Good (withoutL l n) :=
  ⟨Nat.le_trans (without_le l n) h.len, fun x hx => h.nm x (List.mem_filter.1 hx).1, sts_without h.sts n⟩
theorem without_lt {l : List At} {n : ByteArray} (h : hasL l n = true) : (withoutL l n).length < l.length := by
  obtain ⟨x, hx, hn⟩ := hasL_iff.1 h
  unfold withoutL
  exact List.length_filter_lt_length_iff_exists.2 ⟨x, hx, by simp [hn]⟩
theorem without_same {l : List At} {n : ByteArray} (h : hasL l n = false) : withoutL l n = l := by
  unfold withoutL
  exact List.filter_eq_self.2 fun x hx => by simpa using hasL_not.1 h x hx
theorem good_with {l : List At} (h : Good l) {n v : ByteArray} (hn : okN n = true) (hv : v.size ≤ 65536) (hy : (withoutL l n).length < 64) : Good (withL l n v) := by
  refine ⟨?_, fun x hx => ?_, sts_with h.sts n v⟩
  · cases hh : hasL l n with
    | true => unfold withL; rw [hh, if_pos rfl, len_repl]; exact h.len
    | false => rw [without_same hh] at hy; unfold withL; rw [hh, if_neg (by simp), len_ins]; omega
  · rcases mem_with hx with rfl | hx
    · exact ⟨hn, hv⟩
    · exact h.nm x hx
theorem with_good {l : List At} (h : Good l) {n v : ByteArray} (hw : Good (withL l n v)) : okN n = true ∧ v.size ≤ 65536 ∧ (withoutL l n).length < 64 := by
  obtain ⟨h1, h2⟩ := hw.nm (n, v) (getL_some (get_with_self l n v))
  refine ⟨h1, h2, ?_⟩
  have h3 := h.len
  cases hh : hasL l n with
  | true => have := without_lt hh; omega
  | false =>
    rw [without_same hh]
    have := hw.len
    unfold withL at this
    rw [hh, if_neg (by simp), len_ins] at this
    omega
end Go.Proofs.Yteamnjaepgfcmaa
