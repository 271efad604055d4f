/-
  Plain: what was put is taken, whatever stands behind.
-/
import Derived.Test.YtkdmhcllnpiakaaOneMath
import Derived.Test.YtkdmhcllnpiakaaAll
namespace Go.Proofs.Ytkdmhcllnpiakaa
open Go.RowKit
set_option linter.unusedVariables false

theorem val_enc (n : Nat) : ∀ x : Nat, nlen x = n → x < 18446744073709551616 → val (enc x) = x := by
  induction n with
  | zero => intro x h _; have := nlen_pos x; omega
  | succ n ih =>
    intro x h hx
    rcases Nat.lt_or_ge x 128 with h1 | h1
    · rw [enc_small h1]; simp [val]; omega
    · rw [enc_big h1 hx]
      simp only [val]
      rw [ih (x / 128) (by rw [nlen_big h1 hx] at h; omega) (by omega)]
      omega
theorem enc_ne (x : Nat) : enc x ≠ [] := by
  unfold enc encGo
  split <;> simp
theorem canon_enc (n : Nat) : ∀ x : Nat, nlen x = n → x < 18446744073709551616 → Canon (enc x) := by
  induction n with
  | zero => intro x h _; have := nlen_pos x; omega
  | succ n ih =>
    intro x h hx
    rcases Nat.lt_or_ge x 128 with h1 | h1
    · rw [enc_small h1]; simp [Canon]; omega
    · have hn : nlen (x / 128) = n := by rw [nlen_big h1 hx] at h; omega
      rw [enc_big h1 hx]
      simp only [Canon]
      rw [if_neg (enc_ne _), val_enc n _ hn (by omega)]
      exact ⟨by omega, by omega, by omega, ih _ hn (by omega)⟩
theorem canon_facts : ∀ (l : List Int) (n : Nat), Canon l → l.length = n + 1 → AllBig n l ∧ 0 ≤ l.getD n 0 ∧ l.getD n 0 < 128 ∧ (0 < n → l.getD n 0 ≠ 0) ∧ (∀ j, j < l.length → 0 ≤ l.getD j 0 ∧ l.getD j 0 ≤ 255) := by
  intro l
  induction l with
  | nil => intro n h; exact h.elim
  | cons b r ih =>
    intro n h hl
    simp only [Canon] at h
    split at h
    · rename_i hr
      subst hr
      have hn : n = 0 := by simpa using hl.symm
      subst hn
      refine ⟨fun j hj => by omega, by simpa using h.1, by simpa using h.2, fun h => by omega, fun j hj => ?_⟩
      have : j = 0 := by simp at hj; omega
      subst this; simp; omega
    · rename_i hr
      obtain ⟨h1, h2, h3, h4⟩ := h
      cases n with
      | zero => simp at hl; exact absurd hl hr
      | succ n =>
        obtain ⟨g1, g2, g3, g4, g5⟩ := ih n h4 (by simpa using hl)
        refine ⟨fun j hj => ?_, by simpa using g2, by simpa using g3, fun _ => ?_, fun j hj => ?_⟩
        · cases j with
          | zero => simpa
          | succ j => have := g1 j (by omega); simpa using this
        · cases n with
          | zero =>
            match r, hr, hl with
            | [c], _, _ =>
              intro e
              simp at e
              apply h3
              simp [val, e]
          | succ n => have := g4 (by omega); simpa using this
        · cases j with
          | zero => simp; omega
          | succ j => have := g5 j (by simpa using hj); simpa using this

theorem getD_append_left (a b : List Int) (j : Nat) (h : j < a.length) : (a ++ b).getD j 0 = a.getD j 0 := by
  simp [List.getD_eq_getElem?_getD, List.getElem?_append_left h]

theorem tk_enc {x : Nat} (rest : List Int) (hx : x < 18446744073709551616) : tkErr (enc x ++ rest) = 0 ∧ tkNum (enc x ++ rest) = x ∧ tkLen (enc x ++ rest) = nlen x := by
  obtain ⟨n, hn⟩ : ∃ n, nlen x = n + 1 := ⟨nlen x - 1, by have := nlen_pos x; omega⟩
  have hl : (enc x).length = n + 1 := by rw [enc_length hx, hn]
  have h10 := nlen_le x hx
  obtain ⟨g1, g2, g3, g4, g5⟩ := canon_facts (enc x) n (canon_enc _ x rfl hx) hl
  have hbig : AllBig n (enc x ++ rest) := fun j hj => by rw [getD_append_left _ _ _ (by omega)]; exact g1 j hj
  have hd : (enc x ++ rest).getD n 0 = (enc x).getD n 0 := getD_append_left _ _ _ (by omega)
  have hlen : n < (enc x ++ rest).length := by rw [List.length_append]; omega
  obtain ⟨he, hlead⟩ := tk_stop (bs := enc x ++ rest) (k := n) (by omega) hlen hbig rfl (by rw [hd]; exact g3)
  have hv := val_enc _ x rfl hx
  have h9 : n = 9 → (enc x).getD n 0 ≤ 1 := by
    intro h9
    have ht : enc x = (enc x).take n ++ [(enc x).getD n 0] := by
      rw [← take_succ_getD (enc x) n (by omega), List.take_of_length_le (by omega)]
    have hv' := hv
    rw [ht, val_append] at hv'
    have := val_nonneg ((enc x).take n)
    have hlt : ((enc x).take n).length = 9 := by simp; omega
    rw [hlt] at hv'
    omega
  have he0 : tkErr (enc x ++ rest) = 0 := by
    rw [he, hd]
    unfold lastErr
    rw [if_neg (by omega), if_neg (by intro h; exact g4 (by omega) h.2)]
  obtain ⟨h1, h2⟩ := tk_ok he0
  refine ⟨he0, ?_, by rw [h2, hlead]; omega⟩
  rw [h1, hlead, List.take_append_of_le_length (by omega), List.take_of_length_le (by omega), hv]

theorem bytes_enc {x : Nat} (hx : x < 18446744073709551616) : Bytes (enc x) := by
  obtain ⟨n, hn⟩ : ∃ n, nlen x = n + 1 := ⟨nlen x - 1, by have := nlen_pos x; omega⟩
  exact (canon_facts (enc x) n (canon_enc _ x rfl hx) (by rw [enc_length hx, hn])).2.2.2.2
theorem bytes_append {a b : List Int} (ha : Bytes a) (hb : Bytes b) : Bytes (a ++ b) := by
  intro j hj
  rcases Nat.lt_or_ge j a.length with h | h
  · rw [getD_append_left _ _ _ h]; exact ha j h
  · have := hb (j - a.length) (by simp at hj; omega)
    simpa [List.getD_eq_getElem?_getD, List.getElem?_append_right h] using this
theorem words_cons {x : Int} {l : List Int} (h : Words (x :: l)) : (0 ≤ x ∧ x < 18446744073709551616) ∧ Words l :=
  ⟨by have := h 0 (by simp); simpa using this, fun j hj => by have := h (j + 1) (by simp; omega); simpa using this⟩
theorem bytes_encs : ∀ l : List Int, Words l → Bytes (encs l) := by
  intro l
  induction l with
  | nil => intro _ j hj; simp [encs] at hj
  | cons x r ih =>
    intro h
    obtain ⟨h1, h2⟩ := words_cons h
    exact bytes_append (bytes_enc (by omega)) (ih h2)
theorem encs_ge (l : List Int) (h : Words l) : l.length ≤ (encs l).length := by
  induction l with
  | nil => simp
  | cons x r ih =>
    obtain ⟨h1, h2⟩ := words_cons h
    have := ih h2
    have hle := enc_length (x := x.toNat) (by omega)
    have hnp := nlen_pos x.toNat
    simp only [encs, List.length_cons, List.length_append]
    omega
theorem encs_drop_cons (l : List Int) (k : Nat) (h : k < l.length) : encs (l.drop k) = enc (l.getD k 0).toNat ++ encs (l.drop (k + 1)) := by
  rw [List.drop_eq_getElem_cons h]
  simp [encs, List.getD_eq_getElem?_getD, List.getElem?_eq_getElem h]
theorem encs_all_length (l : List Int) (h : Words l) : (encs l).length = sizes l := by
  have := encs_length l h l.length (Nat.le_refl _)
  rwa [List.take_length] at this
end Go.Proofs.Ytkdmhcllnpiakaa
