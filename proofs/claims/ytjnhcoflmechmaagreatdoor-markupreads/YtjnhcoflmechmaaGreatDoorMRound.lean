/-
  What is read of markup is written as it stood, and what is written is read back: the mathematics.
-/
import Derived.Test.YtjnhcoflmechmaaGreatDoorMParse
namespace Go.Proofs.YtjnhcoflmechmaaGreatDoor.M
open Go.RowKit
set_option linter.unusedVariables false
mutual
def prT : Tr → Bytes
  | .mk tag key text atz kids => headB (tag, key, atz) ++ (if text = noB ∧ kids = [] then [47, 62] else 62 :: (E.escL text.data.toList ++ (prL kids ++ ([60, 47] ++ (tag.data.toList ++ [62])))))
def prL : List Tr → Bytes
  | [] => []
  | k :: r => prT k ++ prL r
end
theorem prL_append (a b : List Tr) : prL (a ++ b) = prL a ++ prL b := by
  induction a with
  | nil => simp [prL]
  | cons x r ih => rw [List.cons_append, prL, prL, ih, List.append_assoc]
inductive WordyT : Tr → Prop
  | mk {t : Tr} (h1 : Wordy t.tag) (h2 : ∀ a ∈ t.as, Wordy a.1) (h3 : ∀ k ∈ t.kids, WordyT k) : WordyT t
theorem endP_ok {t x : Tr} {l l' : Bytes} (h : endP t l = .ok x l') : x = t ∧ l = [60, 47] ++ (t.tag.data.toList ++ [62]) ++ l' := by
  obtain ⟨u, l1, h1, h⟩ := bnd_ok h
  obtain ⟨u, l2, h2, h⟩ := bnd_ok h
  obtain ⟨u, l3, h3, h⟩ := bnd_ok h
  cases h
  refine ⟨rfl, ?_⟩
  rw [preP_ok h1, preP_ok h2, preP_ok h3]
  simp
theorem kid_read : ∀ n : Nat, (∀ (l l' : Bytes) (t : Tr), l.length ≤ n → nodeP l = .ok t l' → l = prT t ++ l' ∧ WordyT t ∧ l'.length + 2 ≤ l.length) ∧ (∀ (l l' : Bytes) (ks : List Tr), l.length ≤ n → kidsP l = .ok ks l' → l = prL ks ++ l' ∧ (∀ k ∈ ks, WordyT k) ∧ kidC l' = false) := by
  intro n
  have hn : ∀ n, (∀ (l l' : Bytes) (ks : List Tr), l.length < n → kidsP l = .ok ks l' → l = prL ks ++ l' ∧ (∀ k ∈ ks, WordyT k) ∧ kidC l' = false) → ∀ (l l' : Bytes) (t : Tr), l.length ≤ n → nodeP l = .ok t l' → l = prT t ++ l' ∧ WordyT t ∧ l'.length + 2 ≤ l.length := by
    intro n ihk l l' t hl h
    rw [nodeP] at h
    split at h
    · cases h
    · rename_i hd l1 hh
      obtain ⟨e1, hw, hws⟩ := headP_ok hh
      have s1 := (headP_suf hh).2
      split at h
      · rename_i u l2 h2
        cases h
        refine ⟨?_, .mk hw hws (fun k hk => by cases hk), ?_⟩
        · rw [prT, if_pos ⟨rfl, rfl⟩, e1, preP_ok h2]
          simp
        · have := (preP_suf h2).2; omega
      · split at h
        · cases h
        · rename_i u l2 h2
          split at h
          · cases h
          · rename_i tx l3 h3
            split at h
            · rename_i hlt
              split at h
              · cases h
              · rename_i ks l4 h4
                obtain ⟨e4, hk, _⟩ := ihk l3 l4 ks (by omega) h4
                split at h
                · cases h
                · rename_i hne
                  obtain ⟨rfl, e5⟩ := endP_ok h
                  have s2 := (preP_suf h2).2
                  have s3 := (txtP_suf h3).2
                  have s4 := congrArg List.length e4
                  have s5 := congrArg List.length e5
                  refine ⟨?_, .mk hw hws hk, ?_⟩
                  · rw [prT, if_neg hne, e1, preP_ok h2, txtP_ok h3, e4, e5]
                    simp [Tr.tag]
                  · simp only [List.length_append] at s4 s5; omega
            · cases h
  have hk : ∀ n, (∀ (l l' : Bytes) (ks : List Tr), l.length < n → kidsP l = .ok ks l' → l = prL ks ++ l' ∧ (∀ k ∈ ks, WordyT k) ∧ kidC l' = false) → ∀ (l l' : Bytes) (ks : List Tr), l.length ≤ n → kidsP l = .ok ks l' → l = prL ks ++ l' ∧ (∀ k ∈ ks, WordyT k) ∧ kidC l' = false := by
    intro n ihk l l' ks hl h
    rw [kidsP] at h
    split at h
    · split at h
      · cases h
      · rename_i k l1 h1
        obtain ⟨e1, hw, s1⟩ := hn n ihk l l1 k hl h1
        split at h
        · split at h
          · cases h
          · rename_i ks' l2 h2
            cases h
            obtain ⟨e2, hws, hc⟩ := ihk l1 l' ks' (by omega) h2
            refine ⟨?_, fun x hx => ?_, hc⟩
            · rw [prL, e1, e2, List.append_assoc]
            · rcases List.mem_cons.1 hx with rfl | hx
              · exact hw
              · exact hws x hx
        · cases h
    · rename_i hc
      cases h
      exact ⟨rfl, fun k hk => (by cases hk), by simpa using hc⟩
  induction n with
  | zero => exact ⟨hn 0 (fun _ _ _ h => by omega), hk 0 (fun _ _ _ h => by omega)⟩
  | succ n ih => exact ⟨hn (n + 1) (fun l l' ks h => ih.2 l l' ks (by omega)), hk (n + 1) (fun l l' ks h => ih.2 l l' ks (by omega))⟩
theorem node_exact {l l' : Bytes} {t : Tr} (h : nodeP l = .ok t l') : l = prT t ++ l' ∧ WordyT t ∧ l'.length + 2 ≤ l.length := (kid_read l.length).1 l l' t (Nat.le_refl _) h
theorem kids_exact {l l' : Bytes} {ks : List Tr} (h : kidsP l = .ok ks l') : l = prL ks ++ l' ∧ (∀ k ∈ ks, WordyT k) ∧ kidC l' = false := (kid_read l.length).2 l l' ks (Nat.le_refl _) h
/-- The recursion without its guards. -/
theorem nodeP_eq (l : Bytes) : nodeP l = match headP l with
  | .bad n e => .bad n e
  | .ok h l1 => match preP [47, 62] l1 with
    | .ok _ l2 => .ok (.mk h.1 h.2.1 noB h.2.2 []) l2
    | .bad _ _ => bnd (preP [62] l1) fun _ l2 => bnd (txtP l2) fun t l3 => bnd (kidsP l3) fun ks l4 => if t = noB ∧ ks = [] then .bad l4.length 2 else endP (.mk h.1 h.2.1 t h.2.2 ks) l4 := by
  rw [nodeP]
  cases hh : headP l with
  | bad n e => rfl
  | ok h l1 =>
    have s1 := (headP_suf hh).2
    simp only
    cases h2 : preP [47, 62] l1 with
    | ok u l2 => rfl
    | bad n e =>
      simp only
      cases h3 : preP [62] l1 with
      | bad n e => rfl
      | ok u l2 =>
        have s2 := (preP_suf h3).2
        show _ = bnd (txtP l2) _
        simp only
        cases h4 : txtP l2 with
        | bad n e => rfl
        | ok t l3 =>
          have s3 := (txtP_suf h4).2
          simp only
          rw [if_pos (by omega)]
          show _ = bnd (kidsP l3) _
          cases kidsP l3 <;> rfl
theorem kidsP_eq (l : Bytes) : kidsP l = if kidC l then bnd (nodeP l) fun k l1 => bnd (kidsP l1) fun ks l2 => .ok (k :: ks) l2 else .ok [] l := by
  rw [kidsP]
  split
  · cases h : nodeP l with
    | bad n e => rfl
    | ok k l1 =>
      have := (node_exact h).2.2
      simp only
      rw [if_pos (by omega)]
      show _ = bnd (kidsP l1) _
      cases kidsP l1 <;> rfl
  · rfl
end Go.Proofs.YtjnhcoflmechmaaGreatDoor.M
