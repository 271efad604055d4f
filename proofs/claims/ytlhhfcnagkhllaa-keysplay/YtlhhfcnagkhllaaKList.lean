/-
  slices.SortFunc at labels; the table's list.
-/
import Derived.Test.YtlhhfcnagkhllaaKAll
namespace Go.Proofs.Ytlhhfcnagkhllaa
open Go.RowKit Go.Maps
set_option linter.unusedVariables false

set_option maxHeartbeats 2000000 in
theorem labCompare_ex (a b : Lab) (w : World) : Calls Try.prog 27 #[labV a, labV b] w fun e w' => e = .returned (.int .i64 (cmpLab a b)) ∧ w' = (w.alloc (.cells (labCells a) 30)).alloc (.cells (labCells b) 30) := by
  obtain ⟨w1, hw1⟩ : ∃ w1, w1 = (w.alloc (.cells (labCells a) 30)).alloc (.cells (labCells b) 30) := ⟨_, rfl⟩
  have hb1 : Below w.heap.size w w1 := by rw [hw1]; exact ((Below.refl _ _).alloc (Nat.le_refl _) _).alloc (by simp) _
  obtain ⟨⟨a1, a2, a3⟩, b1, b2, b3⟩ := two_boxes w a b
  rw [← hw1] at a1 a2 a3 b1 b2 b3
  have C1 := Lib.hid (strCompare_any a.tag b.tag w1); have C2 := Lib.hid (strCompare_any a.key b.key w1); have C3 := Lib.hid (intCompare_any a.n b.n w1)
  have HCL := Lib.hid (show cmpLab a b = if cmpN a.tag b.tag ≠ 0 then cmpN a.tag b.tag else if cmpN a.key b.key ≠ 0 then cmpN a.key b.key else cmp3 a.n b.n from rfl)
  generalize cmpLab a b = r at HCL ⊢
  generalize cmpN a.tag b.tag = x at C1 HCL
  generalize cmpN a.key b.key = y at C2 HCL
  generalize cmp3 a.n b.n = z at C3 HCL
  have HW := Lib.hid hw1
  clear hw1
  by_cases h1 : x = 0
  · by_cases h2 : y = 0
    · have HR := Lib.hid (show r = z by rw [HCL.out]; simp [h1, h2])
      subst h1 h2
      go_enter Try.func27, Try.ntmps27
      go_wp2_with fail
      rw [← HW.out]
      refine C1.out.mono ?_
      rintro e w2 ⟨rfl, rfl⟩
      go_wp2_with fail
      refine C2.out.mono ?_
      rintro e w2 ⟨rfl, rfl⟩
      go_wp2_with fail
      refine C3.out.mono ?_
      rintro e w2 ⟨rfl, rfl⟩
      go_wp2_with fail
      go_ret
      exact ⟨ret_int HR.out.symm, HW.out⟩
    · have HR := Lib.hid (show r = y by rw [HCL.out]; simp [h1, h2])
      have hd : (y != 0) = true := by simpa using h2
      subst h1
      go_enter Try.func27, Try.ntmps27
      go_wp2_with fail
      rw [← HW.out]
      refine C1.out.mono ?_
      rintro e w2 ⟨rfl, rfl⟩
      go_wp2_with fail
      refine C2.out.mono ?_
      rintro e w2 ⟨rfl, rfl⟩
      go_wp2_with fail
      go_ret
      exact ⟨ret_int HR.out.symm, HW.out⟩
  · have HR := Lib.hid (show r = x by rw [HCL.out]; simp [h1])
    have hd : (x != 0) = true := by simpa using h1
    go_enter Try.func27, Try.ntmps27
    go_wp2_with fail
    rw [← HW.out]
    refine C1.out.mono ?_
    rintro e w2 ⟨rfl, rfl⟩
    go_wp2_with fail
    go_ret
    exact ⟨ret_int HR.out.symm, HW.out⟩


instance : Inhabited Lab := ⟨noLab⟩
theorem labs_at : ∀ (ss : List Lab) (j : Nat), j < ss.length * 3 → (labs ss)[j]? = some ((encL (ss.getD (j / 3) noLab)).getD (j % 3) undef)
  | [], j, h => by simp at h
  | L :: ss, j, h => by
    by_cases h3 : j < 3
    · have e1 : j / 3 = 0 := by omega
      have e2 : j % 3 = j := by omega
      rw [e1, e2]
      match j, h3 with
      | 0, _ => rfl
      | 1, _ => rfl
      | 2, _ => rfl
    · have h' : j - 3 < ss.length * 3 := by simp at h; omega
      have ih := labs_at ss (j - 3) h'
      have e1 : j / 3 = (j - 3) / 3 + 1 := by omega
      have e2 : j % 3 = (j - 3) % 3 := by omega
      rw [e1, e2]
      simp only [labs, List.flatMap_cons] at ih ⊢
      rw [List.getElem?_append_right (by simp [encL]; omega)]
      simp only [encL, List.length_cons, List.length_nil] at ih ⊢
      rw [ih]
      simp
section
open Go.Shelf Go.Lib Go.Sort
theorem flat_labs (d : Array Lab) : (flatK encL 3 d).toList = labs d.toList := by
  apply List.ext_getElem?
  intro j
  by_cases h : j < d.size * 3
  · rw [labs_at d.toList j (by simpa using h)]
    have h1 := get_flatK encL 3 d j h
    have hs : j < (flatK encL 3 d).size := by simpa using h
    rw [getElem!_pos _ j hs] at h1
    rw [Array.getElem?_toList, Array.getElem?_eq_getElem hs, h1]
    have hq : j / 3 < d.size := by omega
    have e1 : d[j / 3]! = d.toList.getD (j / 3) noLab := by rw [getElem!_pos d _ hq]; simp [List.getD_eq_getElem?_getD, hq]
    rw [e1]
    generalize d.toList.getD (j / 3) noLab = L
    have hm : j % 3 < 3 := Nat.mod_lt _ (by omega)
    congr 1
    match j % 3, hm with
    | 0, _ => rfl
    | 1, _ => rfl
    | 2, _ => rfl
  · rw [List.getElem?_eq_none (by simp; omega), List.getElem?_eq_none (by rw [labs_length]; simp; omega)]
theorem kept_sortWorldK (w : World) (g m : Nat) (d : Array Lab) (os : Array Obj) : Kept (· = g) w (sortWorldK encL 3 w g 0 m d os) := by
  unfold sortWorldK putRowK
  refine ⟨rfl, rfl, rfl, by simp, fun k hk hne => ?_⟩
  rw [heap_grow_old _ _ (by simpa using hk)]
  have : g ≠ k := fun e => hne e.symm
  simp [putRow, mapBlock, Sort.ahead, Array.getElem?_modify, this]
theorem own_sortWorldK {w : World} {base g cap m n : Nat} {os : Array Obj} {xs : List Value} {d : Array Lab} (h : w.ownsRow base 30 3 (.slice (some ⟨g, 0, none⟩) n cap) n xs) (hd : d.size = n) :
    (sortWorldK encL 3 w g 0 m d os).ownsRow base 30 3 (.slice (some ⟨g, 0, none⟩) n cap) n (labs d.toList) := by
  refine ⟨by rw [labs_length]; simp [hd], .inr ?_⟩
  rcases h.2 with ⟨hn, _⟩ | ⟨g', cap', cur, he, hg, hh, h1, h2, hs, ht⟩
  · cases hn
  · simp at he
    obtain ⟨rfl, rfl⟩ := he
    have hgl : g < w.heap.size := (Array.getElem?_eq_some_iff.1 hh).1
    refine ⟨g, cap, putCells id 0 (flatK encL 3 d) cur, rfl, hg, ?_, h1, h2, by simp [putCells, hs], ?_⟩
    · unfold sortWorldK putRowK
      rw [heap_grow_old _ _ (by simpa using hgl)]
      simp [putRow, mapBlock, Sort.ahead, Array.getElem?_modify, hh, onCells]
    · rw [← flat_labs]
      apply List.ext_getElem?
      intro j
      by_cases hj : j < n * 3
      · rw [List.getElem?_take_of_lt (by omega), Array.getElem?_toList]
        simp [putCells, hd, hj, show j < cur.size by omega]
      · rw [List.getElem?_take_eq_none (by omega), List.getElem?_eq_none (by simp; omega)]
end

theorem swo_lab : Go.Sort.SWO (Go.Proofs.ltOf cmpLab) where
  irrefl := fun x => by unfold Go.Proofs.ltOf; rw [cmpLab_self]; decide
  trans := fun x y z h1 h2 => by
    unfold Go.Proofs.ltOf at *
    have := cmpLab_trans (by simpa using h1) (by simpa using h2)
    simpa using this
  ntrans := fun x y z h1 h2 => by
    unfold Go.Proofs.ltOf at *
    simp at h1 h2 ⊢
    rcases (show cmpLab x z < 0 ∨ 0 ≤ cmpLab x z by omega) with h | h
    · exfalso
      have a1 := cmpLab_neg x y
      have a2 := cmpLab_neg y z
      rcases Int.lt_or_eq_of_le h2 with h3 | h3
      · have h4 := cmpLab_trans (a := z) (b := y) (c := x) (by omega)
        rcases Int.lt_or_eq_of_le h1 with h5 | h5
        · have h6 := h4 (by omega)
          have := cmpLab_neg x z
          omega
        · have e := cmpLab_zero (a := x) (b := y) (by omega)
          subst e
          omega
      · have e := cmpLab_zero (a := y) (b := z) (by omega)
        subst e
        omega
    · exact h
section
open Go.Shelf Go.Lib Go.Sort
set_option maxHeartbeats 4000000 in
theorem sortL_any (g cap : Nat) (ss : List Lab) (base : Nat) (w : World) (hl : ss.length ≤ 1000000) (hown : w.ownsRow base 30 3 (.slice (some ⟨g, 0, none⟩) ss.length cap) ss.length (labs ss)) :
    Calls Try.prog 32 #[.slice (some ⟨g, 0, none⟩) ss.length cap, .func (.func 27) #[] #[]] w fun e w' => e = .returned (.tuple #[]) ∧ ∃ t : List Lab, t.Perm ss ∧ (t.Pairwise fun a b => ¬ cmpLab b a < 0) ∧
      w'.ownsRow base 30 3 (.slice (some ⟨g, 0, none⟩) ss.length cap) ss.length (labs t) ∧ Kept (· = g) w w' := by
  have hgl : g < w.heap.size := (hown.lt g rfl).2
  have hH : HoldsK encL 3 w g 0 ss.toArray := by
    intro j hj
    have hj' : j < ss.length * 3 := by simpa using hj
    refine ⟨?_, by rw [Nat.zero_add]; exact hown.frozenAt j⟩
    rw [Nat.zero_add, hown.cellAt j (by omega)]
    have e := flat_labs ss.toArray
    have h1 : (flatK encL 3 ss.toArray)[j]! = (flatK encL 3 ss.toArray)[j]'hj := getElem!_pos _ j hj
    rw [h1]
    have h2 : (labs ss)[j]? = (flatK encL 3 ss.toArray).toList[j]? := by rw [e]
    rw [h2, Array.getElem?_toList, Array.getElem?_eq_getElem hj]
    rfl
  have hcmp : Go.Proofs.CmpLays Try.prog 27 #[] encL 3 cmpLab g 0 ss.toArray.size w := by
    intro m os dk hdk x y
    refine (labCompare_ex x y _).mono fun e w' hh => ⟨hh.1, 0, #[.cells (labCells x) 30, .cells (labCells y) 30], ?_⟩
    rw [hh.2, alloc_eq_grow, alloc_eq_grow, grow_grow]
    rfl
  have hcon := Go.Proofs.AnyQ.slices_SortFunc (α := Lab) Try.sortL 3 (fun w => by kernel_rfl) (fun w => by kernel_rfl) encL (fun _ => rfl) (fun x v hv => by simp [encL] at hv; rcases hv with rfl | rfl | rfl <;> rfl) cmpLab swo_lab 27 #[] g 0 cap ss.toArray w (enters_of Try.func27 (by kernel_rfl) rfl) hcmp hH hgl (by simp; omega)
  change Calls Try.prog 32 _ _ _ at hcon
  have e0 : ss.toArray.size = ss.length := by simp
  rw [e0] at hcon
  refine hcon.mono ?_
  rintro e w' ⟨rfl, d', n, os, hp, hsrt, rfl⟩
  have hsz : d'.size = ss.length := by rw [hp.1, e0]
  refine ⟨rfl, d'.toList, ?_, ?_, own_sortWorldK hown hsz, kept_sortWorldK w g n d' os⟩
  · have h1 := hp.2.2
    have e1 : (d'.extract 0 ss.length) = d' := by rw [← hsz]; simp
    have e2 : (ss.toArray.extract 0 ss.length) = ss.toArray := by rw [← e0]; simp
    rw [e1, e2] at h1
    simpa using h1
  · refine List.pairwise_iff_getElem.2 fun i j hi hj hij => ?_
    have hi' : i < d'.size := by simpa using hi
    have hj' : j < d'.size := by simpa using hj
    have h1 := hsrt i j (by omega) hij (by omega)
    rw [getElem!_pos d' i hi', getElem!_pos d' j hj'] at h1
    unfold Go.Proofs.ltOf at h1
    simpa using h1
end
end Go.Proofs.Ytlhhfcnagkhllaa
