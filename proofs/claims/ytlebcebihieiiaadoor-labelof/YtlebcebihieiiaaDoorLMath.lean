/-
  Plain: the label that a text is.
-/
import Derived.Test.YtlebcebihieiiaaDoorLText
import Derived.Test.YtlebcebihieiiaaDoorCNumMath
import Derived.Test.YtlebcebihieiiaaDoorEForms
import Derived.Test.YtlebcebihieiiaaDoorESpan
namespace Go.Proofs.YtlebcebihieiiaaDoor
open Go.RowKit Go.Sort
set_option linter.unusedVariables false
theorem bsize (s : ByteArray) : s.data.toList.length = s.size := Array.length_toList
theorem bext {a b : ByteArray} (h : a.data.toList = b.data.toList) : a = b := C.ext_toList h
theorem pre_list (s : ByteArray) (i : Nat) : (s.extract 0 i).data.toList = s.data.toList.take i := by rw [C.extract_list]; rw [List.drop_zero, Nat.sub_zero]
theorem rest_list (s : ByteArray) (i : Nat) : (s.extract i s.size).data.toList = s.data.toList.drop i := by
  rw [C.extract_list, List.take_of_length_le]
  rw [List.length_drop, bsize]; omega
theorem pre_size (s : ByteArray) (i : Nat) (h : i ≤ s.size) : (s.extract 0 i).size = i := by rw [← bsize, pre_list, List.length_take, bsize]; omega
theorem rest_size (s : ByteArray) (i : Nat) : (s.extract i s.size).size = s.size - i := by rw [← bsize, rest_list, List.length_drop, bsize]
theorem byte_pre (s : ByteArray) (i j : Nat) (hj : j < i) : byte (s.extract 0 i) j = byte s j := by
  unfold byte
  rw [pre_list]
  congr 2
  rw [List.getD_eq_getElem?_getD, List.getD_eq_getElem?_getD, List.getElem?_take_of_lt hj]
theorem tag_mark {t : ByteArray} (h : wfB tagB t = true) {j : Nat} (hj : j < t.size) : byte t j ≠ 58 ∧ byte t j ≠ 35 := by
  simp only [wfB, Bool.and_eq_true, decide_eq_true_eq, List.all_eq_true, List.mem_range, Bool.or_eq_true, beq_iff_eq] at h
  obtain ⟨⟨⟨h1, h2⟩, h3⟩, h4⟩ := h
  have hp := h4 j hj
  rcases Nat.eq_zero_or_pos j with h0 | h0
  · subst h0
    simp only [lowB, Bool.and_eq_true, decide_eq_true_eq] at h3
    omega
  · have h5 : tagB (byte t j) = true := by rcases hp with hp | hp; omega; exact hp
    simp only [tagB, lowB, Bool.or_eq_true, Bool.and_eq_true, decide_eq_true_eq, beq_iff_eq] at h5
    omega
theorem tag_size {t : ByteArray} (h : wfB tagB t = true) : 1 ≤ t.size ∧ t.size ≤ 32 := by
  simp only [wfB, Bool.and_eq_true, decide_eq_true_eq] at h
  exact ⟨h.1.1.1, h.1.1.2⟩
abbrev restOf (s : ByteArray) (i : Nat) : ByteArray := s.extract (i + 1) s.size
def NumAt (r : ByteArray) (x : Lab) : Prop := C.whN r.data.toList = (x.n, true) ∧ 1 ≤ x.n ∧ x.key = noS
def KeyAt (r : ByteArray) (x : Lab) : Prop := (E.unesc r.data.toList).2.2 = 0 ∧ x.key = E.str (E.unesc r.data.toList).1 ∧ x.key ≠ noS ∧ x.key.size ≤ 65536 ∧ x.n = 0
/-- The label x, its tag's end at i, is what the text s is. -/
def IsAt (s : ByteArray) (i : Nat) (x : Lab) : Prop := i < s.size ∧ wfB tagB (s.extract 0 i) = true ∧ x.tag = s.extract 0 i ∧ ((byte s i = 58 ∧ NumAt (restOf s i) x) ∨ (byte s i = 35 ∧ KeyAt (restOf s i) x))
def ReadIs (s : ByteArray) (o : Option Lab) : Prop := ∀ x, o = some x ↔ ∃ i, IsAt s i x
theorem numAt_one {r : ByteArray} {x y : Lab} (h : NumAt r x) (h' : NumAt r y) (ht : x.tag = y.tag) : x = y := by
  obtain ⟨a, b, c⟩ := h; obtain ⟨a', b', c'⟩ := h'
  rw [a] at a'
  cases x; cases y; simp_all
theorem keyAt_one {r : ByteArray} {x y : Lab} (h : KeyAt r x) (h' : KeyAt r y) (ht : x.tag = y.tag) : x = y := by
  obtain ⟨a, b, c, d, e⟩ := h; obtain ⟨a', b', c', d', e'⟩ := h'
  cases x; cases y; simp_all
theorem mark_at {s : ByteArray} {i : Nat} {x : Lab} (h : IsAt s i x) : byte s i = 58 ∨ byte s i = 35 := by
  rcases h.2.2.2 with h | h
  · exact .inl h.1
  · exact .inr h.1
theorem isAt_le {s : ByteArray} {i j : Nat} {x y : Lab} (h : IsAt s i x) (h' : IsAt s j y) : ¬ i < j := fun hlt => by
  have hm := tag_mark h'.2.1 (j := i) (by rw [pre_size s j (by have := h'.1; omega)]; exact hlt)
  rw [byte_pre s j i hlt] at hm
  rcases mark_at h with h | h
  · exact hm.1 h
  · exact hm.2 h
theorem isAt_one {s : ByteArray} {i j : Nat} {x y : Lab} (h : IsAt s i x) (h' : IsAt s j y) : i = j ∧ x = y := by
  have hij : i = j := by have := isAt_le h h'; have := isAt_le h' h; omega
  subst hij
  obtain ⟨_, _, ht, hx⟩ := h
  obtain ⟨_, _, ht', hy⟩ := h'
  have he := ht.trans ht'.symm
  refine ⟨rfl, ?_⟩
  rcases hx with ⟨a, hx⟩ | ⟨a, hx⟩ <;> rcases hy with ⟨b, hy⟩ | ⟨b, hy⟩
  · exact numAt_one hx hy he
  · omega
  · omega
  · exact keyAt_one hx hy he
theorem readIs_some {s : ByteArray} {i : Nat} {x : Lab} (h : IsAt s i x) : ReadIs s (some x) := fun y => ⟨fun e => by cases e; exact ⟨i, h⟩, fun ⟨j, hj⟩ => by rw [(isAt_one h hj).2]⟩
theorem readIs_none {s : ByteArray} (h : ∀ i x, ¬ IsAt s i x) : ReadIs s none := fun y => ⟨(fun e => nomatch e), (fun ⟨j, hj⟩ => absurd hj (h j y))⟩
theorem readIs_eq {s : ByteArray} {o o' : Option Lab} (h : ReadIs s o) (h' : ReadIs s o') : o = o' := Option.ext fun x => (h x).trans (h' x).symm
theorem split_at (s : ByteArray) (i : Nat) (hi : i < s.size) (c : UInt8) (hc : byte s i = c.toNat) : s.data.toList = s.data.toList.take i ++ [c] ++ s.data.toList.drop (i + 1) := by
  have hl : i < s.data.toList.length := by rw [bsize]; exact hi
  have hg : s.data.toList[i] = c := by
    unfold byte at hc
    rw [List.getD_eq_getElem?_getD, List.getElem?_eq_getElem hl, Option.getD_some] at hc
    exact UInt8.toNat_inj.1 (by omega)
  rw [← hg, List.append_assoc, List.singleton_append, List.getElem_cons_drop, List.take_append_drop]
theorem whN_is {l : List UInt8} {n : Int} (h : C.whN l = (n, true)) : C.IsNum l n := by
  by_cases hv : ∃ v, C.IsNum l v
  · obtain ⟨v, hv⟩ := hv
    rw [C.whN_num hv] at h
    cases h; exact hv
  · rw [C.whN_none (fun v hn => hv ⟨v, hn⟩)] at h
    cases h
theorem app_list (a b : ByteArray) : (a ++ b).data.toList = a.data.toList ++ b.data.toList := by simp
theorem isAt_text {s : ByteArray} {i : Nat} {x : Lab} (h : IsAt s i x) : textS x = s := by
  obtain ⟨hi, hw, ht, hx⟩ := h
  apply bext
  rcases hx with ⟨hb, hn, h1, hk⟩ | ⟨hb, hu, hk, hne, hsz, hn⟩
  · have e := (whN_is hn).2
    rw [rest_list] at e
    rw [show textS x = numT x by simp [textS, hk]]
    unfold numT
    rw [app_list, app_list, ht, pre_list, C.str_data, ← e]
    exact (split_at s i hi 58 hb).symm
  · have e : E.escL (E.unesc (restOf s i).data.toList).1 = (restOf s i).data.toList := by
      rcases E.unesc_only (restOf s i).data.toList with h | h
      · exact h.2.2
      · rw [h.1] at hu; cases hu
    rw [show textS x = keyT x by simp [textS, hne]]
    unfold keyT
    rw [app_list, app_list, ht, pre_list, hk]
    rw [show (E.str (E.unesc (restOf s i).data.toList).1).data.toList = (E.unesc (restOf s i).data.toList).1 from rfl]
    rw [show (E.str (E.escL (E.unesc (restOf s i).data.toList).1)).data.toList = E.escL (E.unesc (restOf s i).data.toList).1 from rfl]
    rw [e, rest_list]
    exact (split_at s i hi 35 hb).symm
theorem isAt_wf {s : ByteArray} {i : Nat} {x : Lab} (h : IsAt s i x) : LWf x := by
  obtain ⟨hi, hw, ht, hx⟩ := h
  have hts := tag_size hw
  rw [← ht] at hts
  rcases hx with ⟨hb, hn, h1, hk⟩ | ⟨hb, hu, hk, hne, hsz, hn⟩
  · refine ⟨by omega, ?_, (whN_is hn).1⟩
    rw [hk]; exact Nat.zero_le _
  · exact ⟨by omega, by omega, by rw [hn]; exact ⟨by omega, by omega⟩⟩
/-- What a label of a right tree is. -/
def LabOk (x : Lab) : Prop := wfB tagB x.tag = true ∧ ((x.key = noS ∧ 1 ≤ x.n ∧ C.I64 x.n) ∨ (x.key ≠ noS ∧ x.key.size ≤ 65536 ∧ x.n = 0))
theorem labOk_wf {x : Lab} (h : LabOk x) : LWf x := by
  have hts := tag_size h.1
  rcases h.2 with ⟨a, b, c⟩ | ⟨a, b, c⟩
  · refine ⟨by omega, ?_, c⟩
    rw [a]; exact Nat.zero_le _
  · exact ⟨by omega, by omega, by rw [c]; exact ⟨by omega, by omega⟩⟩
theorem text_parts (t r : ByteArray) (c : UInt8) : let s := t ++ ⟨#[c]⟩ ++ r
    t.size < s.size ∧ s.extract 0 t.size = t ∧ byte s t.size = c.toNat ∧ (restOf s t.size).data.toList = r.data.toList := by
  intro s
  have hl : s.data.toList = t.data.toList ++ c :: r.data.toList := by
    show (t ++ ⟨#[c]⟩ ++ r).data.toList = _
    rw [app_list, app_list]; simp
  have hsz : s.size = t.size + 1 + r.size := by rw [← bsize, hl, List.length_append, List.length_cons, bsize, bsize]; omega
  refine ⟨by omega, bext ?_, ?_, ?_⟩
  · rw [pre_list, hl, ← bsize t, List.take_left]
  · unfold byte
    rw [hl, List.getD_eq_getElem?_getD, ← bsize t, List.getElem?_append_right (Nat.le_refl _), Nat.sub_self]
    rfl
  · rw [rest_list, hl, ← bsize t, List.drop_append, Nat.add_sub_cancel_left, List.drop_of_length_le (Nat.le_add_right _ _)]; rfl
theorem labOk_at {x : Lab} (h : LabOk x) : IsAt (textS x) x.tag.size x := by
  rcases h.2 with ⟨a, b, c⟩ | ⟨a, b, c⟩
  · rw [show textS x = numT x by simp [textS, a]]
    obtain ⟨h1, h2, h3, h4⟩ := text_parts x.tag (C.str (Lib.itoa x.n)) 58
    refine ⟨h1, by rw [show numT x = x.tag ++ ⟨#[58]⟩ ++ C.str (Lib.itoa x.n) from rfl, h2]; exact h.1, h2.symm, .inl ⟨h3, ?_, b, a⟩⟩
    rw [show numT x = x.tag ++ ⟨#[58]⟩ ++ C.str (Lib.itoa x.n) from rfl, h4, C.str_data]
    exact C.whN_num ⟨c, rfl⟩
  · rw [show textS x = keyT x by simp [textS, a]]
    obtain ⟨h1, h2, h3, h4⟩ := text_parts x.tag (E.str (E.escL x.key.data.toList)) 35
    have hu : E.unesc (E.str (E.escL x.key.data.toList)).data.toList = (x.key.data.toList, 0, 0) := E.unesc_esc _
    refine ⟨h1, by rw [show keyT x = x.tag ++ ⟨#[35]⟩ ++ E.str (E.escL x.key.data.toList) from rfl, h2]; exact h.1, h2.symm, .inr ⟨h3, ?_, ?_, a, b, c⟩⟩
    · rw [show keyT x = x.tag ++ ⟨#[35]⟩ ++ E.str (E.escL x.key.data.toList) from rfl, h4, hu]
    · rw [show keyT x = x.tag ++ ⟨#[35]⟩ ++ E.str (E.escL x.key.data.toList) from rfl, h4, hu]
      exact bext rfl
theorem labOk_read {x : Lab} {o : Option Lab} (h : LabOk x) (ho : ReadIs (textS x) o) : o = some x := (ho x).2 ⟨_, labOk_at h⟩
theorem labOk_text {x : Lab} (h : LabOk x) : (textS x).size ≤ 400000 := by
  have hts := tag_size h.1
  rcases h.2 with ⟨a, b, c⟩ | ⟨a, b, c⟩
  · rw [show textS x = numT x by simp [textS, a]]
    have := itoa_small x.n c
    unfold numT
    rw [ByteArray.size_append, ByteArray.size_append]
    have : (⟨#[58]⟩ : ByteArray).size = 1 := rfl
    omega
  · rw [show textS x = keyT x by simp [textS, a]]
    have h6 := E.escL_length x.key.data.toList
    have e : (E.str (E.escL x.key.data.toList)).size = (E.escL x.key.data.toList).length := List.size_toArray
    rw [bsize] at h6
    unfold keyT
    rw [ByteArray.size_append, ByteArray.size_append]
    have : (⟨#[35]⟩ : ByteArray).size = 1 := rfl
    omega
end Go.Proofs.YtlebcebihieiiaaDoor
