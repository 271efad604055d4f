/-
  tendrillaw11.VtreeParts: true, whatever the tree.
-/
import Derived.Test.YtlebcebihieiiaaVMath2
namespace Go.Proofs.Ytlebcebihieiiaa
open Go.RowKit Go.Sort
set_option linter.unusedVariables false
theorem ok_char (t : Tr) : (okT t ↔ GoodV t ∧ depT t ≤ 64 ∧ sizeT t ≤ 4096) ∧ (okT t → (seenL aloneT t).1.length = sizeT t ∧ maxD (seenL aloneT t).1 = depT t) := by
  obtain ⟨h1, h2⟩ := vis_char t 1 (-1) [] (fun x hx => by simp at hx) (by simp) (by simp) (by omega)
  refine ⟨?_, fun h => ?_⟩
  · refine Iff.trans h1 ⟨fun ⟨a, b, c, _⟩ => ⟨a, by omega, by simpa using c⟩, fun ⟨a, b, c⟩ => ⟨a, by omega, by simpa using c, fun h => by simp at h⟩⟩
  · obtain ⟨a, b⟩ := h2 h
    refine ⟨by simpa [seenL] using a, ?_⟩
    have b' : maxD (seenL aloneT t).1 = max (maxD []) (1 + depT t - 1) := b
    rw [b']; simp [maxD]
open Classical in
noncomputable def sizeV (t : Tr) : Int := if (seenL aloneT t).2 = 0 then ((seenL aloneT t).1.length : Int) else 0
open Classical in
noncomputable def depV (t : Tr) : Int := if (seenL aloneT t).2 = 0 then (maxD (seenL aloneT t).1 : Int) else 0
theorem sizeV_eq (t : Tr) : (if (seenL aloneT t).2 = 0 then ((seenL aloneT t).1.length : Int) else 0) = sizeV t := by unfold sizeV; congr
theorem depV_eq (t : Tr) : (if (seenL aloneT t).2 = 0 then (maxD (seenL aloneT t).1 : Int) else 0) = depV t := by unfold depV; congr
theorem sizeV_ok {t : Tr} (h : okT t) : sizeV t = sizeT t := by rw [← sizeV_eq, if_pos (show (seenL aloneT t).2 = 0 from h), ((ok_char t).2 h).1]
theorem depV_ok {t : Tr} (h : okT t) : depV t = depT t := by rw [← depV_eq, if_pos (show (seenL aloneT t).2 = 0 from h), ((ok_char t).2 h).2]
theorem sizeV_no {t : Tr} (h : ¬ okT t) : sizeV t = 0 := by rw [← sizeV_eq, if_neg (show ¬ (seenL aloneT t).2 = 0 from h)]
theorem depV_no {t : Tr} (h : ¬ okT t) : depV t = 0 := by rw [← depV_eq, if_neg (show ¬ (seenL aloneT t).2 = 0 from h)]
theorem sizeV_facts (t : Tr) : 0 ≤ sizeV t ∧ sizeV t ≤ sizeT t ∧ (0 < sizeV t ↔ okT t) := by
  by_cases h : okT t
  · rw [sizeV_ok h]; have := sizeT_pos t; exact ⟨by omega, by omega, ⟨fun _ => h, fun _ => by omega⟩⟩
  · rw [sizeV_no h]; exact ⟨by omega, by omega, ⟨fun h' => by omega, fun h' => absurd h' h⟩⟩
theorem depV_facts (t : Tr) : 0 ≤ depV t ∧ depV t ≤ 64 := by
  by_cases h : okT t
  · rw [depV_ok h]; have := ((ok_char t).1.1 h).2.1; omega
  · rw [depV_no h]; omega
def KeyOkAt (t : Tr) (i k : Nat) : Prop := ∀ j, (hj : j < t.kids.length) → (hi : i < t.kids.length) → j < k → t.kids[i].key = noB ∨ t.kids[j].key ≠ t.kids[i].key
def PartsOk (t : Tr) (i : Nat) : Prop := aloneT t = 0 ∧ ∀ i', (hi : i' < t.kids.length) → i' < i → okT t.kids[i'] ∧ KeyOkAt t i' i'
theorem PartsOk.step {t : Tr} {i : Nat} (hi : i < t.kids.length) : PartsOk t (i + 1) ↔ (PartsOk t i ∧ okT t.kids[i]) ∧ KeyOkAt t i i := by
  constructor
  · rintro ⟨h1, h2⟩
    exact ⟨⟨⟨h1, fun i' hi' hl => h2 i' hi' (by omega)⟩, (h2 i hi (by omega)).1⟩, (h2 i hi (by omega)).2⟩
  · rintro ⟨⟨⟨h1, h2⟩, h3⟩, h4⟩
    refine ⟨h1, fun i' hi' hl => ?_⟩
    rcases Nat.lt_or_ge i' i with h | h
    · exact h2 i' hi' h
    · have : i' = i := by omega
      subst this
      exact ⟨h3, h4⟩
theorem KeyOkAt.step {t : Tr} {i k : Nat} (hi : i < t.kids.length) (hk : k < t.kids.length) : KeyOkAt t i (k + 1) ↔ KeyOkAt t i k ∧ (t.kids[i].key = noB ∨ t.kids[k].key ≠ t.kids[i].key) := by
  constructor
  · intro h
    exact ⟨fun j hj hi' hjk => h j hj hi' (by omega), h k hk hi (by omega)⟩
  · rintro ⟨h1, h2⟩ j hj hi' hjk
    rcases Nat.lt_or_ge j k with h | h
    · exact h1 j hj hi' h
    · have : j = k := by omega
      subst this; exact h2
theorem sizeK_mem {ks : List Tr} {k : Tr} (h : k ∈ ks) : sizeT k ≤ sizeK ks := by
  induction ks with
  | nil => simp at h
  | cons a r ih =>
    rw [sizeK]
    rcases List.mem_cons.1 h with rfl | h
    · omega
    · have := ih h; omega
theorem parts_good {t : Tr} (h : PartsOk t t.kids.length) : GoodV t := by
  obtain ⟨h1, h2⟩ := h
  refine .mk h1 (keysOk_iff.2 (fun i hi => ?_)) (fun k hk => ?_)
  · by_cases hk : t.kids[i].key = noB
    · exact .inl hk
    · refine .inr ⟨fun h => h, fun j hj => ?_⟩
      rcases (h2 i hi hi).2 j (by omega) hi hj with h | h
      · exact absurd h hk
      · exact h
  · obtain ⟨j, hj, rfl⟩ := List.getElem_of_mem hk
    exact ((ok_char _).1.1 (h2 j hj hj).1).1
theorem parts_of_ok {t : Tr} (h : okT t) (hs : sizeT t ≤ 4096) : PartsOk t t.kids.length ∧ depK t.kids ≤ 63 := by
  obtain ⟨g1, g2, g3⟩ := (ok_char t).1.1 h
  obtain ⟨e1, e2, e3⟩ := goodV_iff.1 g1
  rw [depT_eq] at g2
  rw [sizeT_eq] at g3
  refine ⟨⟨e1, fun i hi _ => ⟨(ok_char _).1.2 ⟨e3 _ (List.getElem_mem _), ?_, ?_⟩, fun j hj hi' hji => ?_⟩⟩, by omega⟩
  · have := depK_le (List.getElem_mem hi); omega
  · have := sizeK_mem (List.getElem_mem hi); omega
  · rcases (keysOk_iff.1 e2) i hi with h | ⟨_, h⟩
    · exact .inl h
    · exact .inr (h j hji)
theorem ok_of_parts {t : Tr} (h : PartsOk t t.kids.length) (hd : depK t.kids ≤ 63) (hs : sizeT t ≤ 4096) : okT t := (ok_char t).1.2 ⟨parts_good h, by rw [depT_eq]; omega, hs⟩
end Go.Proofs.Ytlebcebihieiiaa
