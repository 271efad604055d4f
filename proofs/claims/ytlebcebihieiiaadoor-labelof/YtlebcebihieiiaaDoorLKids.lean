/-
  Plain: the labels of the kids of a right tree are right labels, no two alike.
-/
import Derived.Test.YtlebcebihieiiaaDoorLFind
import Derived.Test.YtlebcebihieiiaaDoorVOk
namespace Go.Proofs.YtlebcebihieiiaaDoor
open Go.RowKit Go.Sort
set_option linter.unusedVariables false
theorem alone_parts {k : Tr} (h : aloneT k = 0) : wfB tagB k.tag = true ∧ k.key.size ≤ 65536 := by
  unfold aloneT at h
  by_cases h1 : wfB tagB k.tag = false
  · rw [if_pos h1] at h; cases h
  · rw [if_neg h1] at h
    by_cases h2 : 65536 < k.key.size ∨ 65536 < k.text.size
    · rw [if_pos h2] at h; cases h
    · exact ⟨by simpa using h1, by omega⟩
theorem labs_good {t : Tr} (h : okT t) (hl : t.kids.length ≤ 1000000) {i : Nat} (hi : i < (labsOf t.kids).length) : LabOk (labsOf t.kids)[i] ∧ findL (labsOf t.kids) (labsOf t.kids)[i] = i := by
  obtain ⟨ha, hk, hg⟩ := goodV_iff.1 ((ok_char t).1.1 h).1
  have hi' : i < t.kids.length := by rw [firstL_length (Nat.le_refl _)] at hi; exact hi
  have gi := List.getElem?_eq_getElem hi'
  have e := firstL_get (Nat.le_refl _) hi' _ gi
  have e2 : (labsOf t.kids)[i] = labOf (t.kids.take (i + 1)) t.kids[i] := by
    rw [List.getElem?_eq_getElem hi] at e; exact Option.some.inj e
  refine ⟨?_, findL_hit hi rfl (fun j hj hji he => labs_apart hk hji hi' (by rw [List.getElem?_eq_getElem hj, List.getElem?_eq_getElem hi, he]))⟩
  obtain ⟨h1, h2⟩ := alone_parts (goodV_iff.1 (hg _ (List.getElem_mem hi'))).1
  rw [e2]
  refine ⟨h1, ?_⟩
  have c := cnt_le t.kids (i + 1) t.kids[i].tag
  by_cases hk0 : t.kids[i].key = noS
  · have c2 := cnt_pos gi hk0
    have e3 : (labOf (t.kids.take (i + 1)) t.kids[i]).n = (cnt (t.kids.take (i + 1)) t.kids[i].tag : Int) := by unfold labOf; rw [if_pos hk0]
    exact .inl ⟨hk0, by rw [e3]; omega, by rw [e3]; exact ⟨by omega, by omega⟩⟩
  · exact .inr ⟨hk0, h2, by unfold labOf; rw [if_neg hk0]⟩
end Go.Proofs.YtlebcebihieiiaaDoor
