/-
  Plain: insertion sort keeps the order of equals; blocks that are sorted.
-/
import Derived.Test.YteamnjaepgfcmaaSymMath
import Derived.Test.YteamnjaepgfcmaaCmp
import Derived.Sort.LotA
namespace Go.Proofs.Yteamnjaepgfcmaa
open Go.RowKit Go.Sort
set_option linter.unusedVariables false

theorem split_at (d : Array At) (j : Nat) (h : j + 1 < d.size) : ∃ L1 x y L3, d.toList = L1 ++ x :: y :: L3 ∧ L1.length = j := by
  have hl : j + 1 < d.toList.length := by simpa using h
  refine ⟨d.toList.take j, d.toList[j], d.toList[j + 1], d.toList.drop (j + 2), ?_, by simp; omega⟩
  rw [← List.drop_eq_getElem_cons hl, ← List.drop_eq_getElem_cons (by omega), List.take_append_drop]
theorem adj_swap {d : Array At} {j : Nat} (h : j + 1 < d.size) (hl : cmpN d[j + 1]!.1 d[j]!.1 < 0) : Stb d.toList (swp d (j + 1) j).toList := by
  obtain ⟨L1, x, y, L3, hd, hj⟩ := split_at d j h
  have hx : d[j]! = x := at_list hd hj.symm
  have hy : d[j + 1]! = y := at_list (L1 := L1 ++ [x]) (L2 := L3) (by rw [hd]; simp) (by simp; omega)
  have hc : swp d (j + 1) j = swp d j (j + 1) := by
    unfold swp
    rw [Array.setIfInBounds_comm _ _ (by omega)]
  have hs := (swp_list (d := d) (L1 := L1) (L2 := []) (L3 := L3) (x := x) (y := y) (by rw [hd]; simp) (i := j) (j := j + 1) hj.symm (by simp; omega)).1
  rw [hc, hs, hd]
  rw [hx, hy] at hl
  have m : Stb ([x] ++ [y]) ([y] ++ [x]) := Stb.swap fun b hb a ha => by simp at ha hb; subst ha hb; exact cmpN_ne hl
  have := ((Stb.refl L1).append m).append (Stb.refl L3)
  simpa using this
theorem insInner_stb (a : Nat) : ∀ (j : Nat) (d : Array At), j < d.size → Stb d.toList (insInner (Go.Proofs.ltOf cfA) a j d).toList ∧ (insInner (Go.Proofs.ltOf cfA) a j d).size = d.size
  | 0, d, _ => ⟨Stb.refl _, rfl⟩
  | j + 1, d, h => by
    rw [insInner]
    split
    · rename_i hc
      simp only [Bool.and_eq_true] at hc
      have hl : cmpN d[j + 1]!.1 d[j]!.1 < 0 := of_decide_eq_true hc.2
      have ih := insInner_stb a j (swp d (j + 1) j) (by rw [size_swp]; omega)
      exact ⟨(adj_swap h hl).trans ih.1, by rw [ih.2, size_swp]⟩
    · exact ⟨Stb.refl _, rfl⟩
theorem insOuter_stb (a b : Nat) : ∀ (n i : Nat) (d : Array At), b - i = n → b ≤ d.size → Stb d.toList (insOuter (Go.Proofs.ltOf cfA) a b i d).toList
  | 0, i, d, hn, hb => by rw [insOuter, if_neg (by omega)]; exact Stb.refl _
  | n + 1, i, d, hn, hb => by
    rw [insOuter, if_pos (by omega)]
    have h1 := insInner_stb a i d (by omega)
    exact h1.1.trans (insOuter_stb a b n (i + 1) _ (by omega) (by rw [h1.2]; exact hb))
theorem take_of_eq {d d' : Array At} {a : Nat} (hs : d'.size = d.size) (h : ∀ i, i < a → d'[i]! = d[i]!) : d'.toList.take a = d.toList.take a := by
  apply List.ext_getElem
  · simp [hs]
  · intro i h1 h2
    simp at h1 h2
    have := h i (by omega)
    rw [getElem!_pos d' i (by omega), getElem!_pos d i (by omega)] at this
    simpa using this
theorem drop_of_eq {d d' : Array At} {b : Nat} (hs : d'.size = d.size) (h : ∀ i, b ≤ i → d'[i]! = d[i]!) : d'.toList.drop b = d.toList.drop b := by
  apply List.ext_getElem
  · simp [hs]
  · intro i h1 h2
    simp at h1 h2
    have := h (b + i) (by omega)
    rw [getElem!_pos d' (b + i) (by omega), getElem!_pos d (b + i) (by omega)] at this
    simpa using this
/-- Insertion sort of a stretch: sorted, the order of equals kept, all else as it was. -/
theorem ins_list {d : Array At} {P X Z : List At} {a b : Nat} (hd : d.toList = P ++ X ++ Z) (ha : P.length = a) (hb : a + X.length = b) :
    ∃ S : List At, (Sort.insertionSort (Go.Proofs.ltOf cfA) d a b).toList = P ++ S ++ Z ∧ S.length = X.length ∧ Srt S ∧ Stb X S := by
  have hsz : b ≤ d.size := by rw [size_list' hd]; simp; omega
  obtain ⟨⟨h1, h2, _⟩, h4⟩ := insertionSort_holds (lt := Go.Proofs.ltOf cfA) swo_at d a b (by omega) hsz
  have h5 : Stb d.toList (Sort.insertionSort (Go.Proofs.ltOf cfA) d a b).toList := insOuter_stb a b _ (a + 1) d rfl hsz
  generalize Sort.insertionSort (Go.Proofs.ltOf cfA) d a b = d' at *
  have t1 := take_of_eq (a := a) h1 (fun i hi => h2 i (.inl hi))
  have t2 := drop_of_eq (b := b) h1 (fun i hi => h2 i (.inr hi))
  rw [hd] at t1 t2
  have e1 : (P ++ X ++ Z).take a = P := by rw [← ha, List.append_assoc, List.take_left']; rfl
  have e2 : (P ++ X ++ Z).drop b = Z := List.drop_left' (by simp; omega)
  rw [e1] at t1
  rw [e2] at t2
  have hd' : d'.toList = P ++ (d'.toList.drop a).take (b - a) ++ Z := by
    conv => lhs; rw [← List.take_append_drop a d'.toList, t1, ← List.take_append_drop (b - a) (d'.toList.drop a), List.drop_drop, show a + (b - a) = b by omega, t2]
    simp
  refine ⟨(d'.toList.drop a).take (b - a), hd', ?_, ?_, ?_⟩
  · simp [h1]; omega
  · refine List.pairwise_iff_getElem.2 fun i j hi hj hij => ?_
    have hi' : a + i < d'.size := by simp at hi; omega
    have hj' : a + j < d'.size := by simp at hj; omega
    have := h4 (a + i) (a + j) (by omega) (by omega) (by simp at hj; omega)
    rw [getElem!_pos d' (a + i) hi', getElem!_pos d' (a + j) hj'] at this
    have := of_decide_eq_false this
    simpa [cfA] using this
  · intro n
    have := h5 n
    rw [hd, hd', fil_append, fil_append, fil_append, fil_append] at this
    exact List.append_cancel_left (List.append_cancel_right this)

/-! Blocks. -/
inductive Blk (bs : Nat) : List At → Prop
  | last (X : List At) : X.length ≤ bs → Srt X → Blk bs X
  | cons (X r : List At) : X.length = bs → Srt X → Blk bs r → Blk bs (X ++ r)
inductive Full (bs : Nat) : List At → Prop
  | nil : Full bs []
  | snoc (Q X : List At) : Full bs Q → X.length = bs → Srt X → Full bs (Q ++ X)
theorem Full.blk {bs : Nat} {Q : List At} (h : Full bs Q) : ∀ {r : List At}, Blk bs r → Blk bs (Q ++ r) := by
  induction h with
  | nil => intro r h; exact h
  | snoc Q X hQ hX hS ih => intro r h; rw [List.append_assoc]; exact ih (.cons X r hX hS h)
theorem Blk.split {bs : Nat} {l : List At} (h : Blk bs l) (hl : bs ≤ l.length) : ∃ X r, l = X ++ r ∧ X.length = bs ∧ Srt X ∧ Blk bs r := by
  cases h with
  | last _ h1 h2 => exact ⟨l, [], by simp, by omega, h2, .last [] (by simp) List.Pairwise.nil⟩
  | cons X r h1 h2 h3 => exact ⟨X, r, rfl, h1, h2, h3⟩
theorem Blk.small {bs : Nat} {l : List At} (h : Blk bs l) (hl : l.length ≤ bs) : Srt l := by
  cases h with
  | last _ h1 h2 => exact h2
  | cons X r h1 h2 h3 =>
    have : r = [] := List.eq_nil_of_length_eq_zero (by simp at hl; omega)
    rw [this, List.append_nil]; exact h2
end Go.Proofs.Yteamnjaepgfcmaa
