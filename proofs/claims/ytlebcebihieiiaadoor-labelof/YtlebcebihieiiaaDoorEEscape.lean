/-
  escape.Escape: what it answers.
-/
import Derived.Test.YtlebcebihieiiaaDoorELength
import Derived.Test.YtlebcebihieiiaaDoorEBuild
namespace Go.Proofs.YtlebcebihieiiaaDoor.E
open Go.RowKit
set_option linter.unusedVariables false

theorem at_below {B b : Nat} {p : Value} {bs : List Value} {w w' : World} (h : Lib.BuilderAt 83 5 B b p bs w) (hb : Below w.heap.size w w') : Lib.BuilderAt 83 5 B b p bs w' := by
  obtain ⟨hB, v, hbk, hown, hne⟩ := h
  refine ⟨hB, v, (hb.block b (Array.getElem?_eq_some_iff.1 hbk).1).trans hbk, ⟨hown.1, ?_⟩, hne⟩
  rcases hown.2 with hn | ⟨g, cap, cur, rfl, hg, hh, r⟩
  · exact .inl hn
  · exact .inr ⟨g, cap, cur, rfl, hg, (hb.block g (Array.getElem?_eq_some_iff.1 hh).1).trans hh, r⟩
theorem heap_below {w w' : World} {F : Nat} {o : Obj} (h : w.heap[F]? = some o) (hb : Below w.heap.size w w') : w'.heap[F]? = some o := (hb.block F (Array.getElem?_eq_some_iff.1 h).1).trans h

def EscRel (s : ByteArray) (w : World) (F : Nat) (i : Value) (wr : World) : Prop :=
  ∃ k : Nat, k ≤ s.size ∧ i = .int .i64 k ∧ Lib.BuilderAt 83 5 w.heap.size w.heap.size (.pointer (some ⟨w.heap.size, 0, none⟩)) (Lib.byteCells (escL (s.data.toList.take k))) wr ∧ wr.heap[F]? = some (.cells #[.string s] 9 (0, 0)) ∧ Below w.heap.size w wr

set_option maxHeartbeats 2000000 in
theorem escape_any (s : ByteArray) (w : World) (hs : s.size ≤ 900000) (hv : Vars w) : Calls Tryd.prog 27 #[.string s] w (StrPost w (escL s.data.toList)) := by
  have h4 := hv.2.2.2
  have hel := escL_length s.data.toList
  rw [show s.data.toList.length = s.size by simp] at hel
  go_enter Tryd.func27, Tryd.ntmps27
  go_wp2_with fail
  obtain ⟨w1, hw1⟩ : ∃ w1, w1 = w.alloc (.cells #[.pointer none, .slice none 0 0] 83) := ⟨_, rfl⟩
  rw [← hw1]
  have hbk1 : w1.heap[w.heap.size]? = some (.cells #[.pointer none, .slice none 0 0] 83 (0, 0)) := by rw [hw1]; exact heap_alloc_new w _
  have hb1 : Below w.heap.size w w1 := by rw [hw1]; exact (Below.refl _ _).alloc (Nat.le_refl _) _
  clear hw1
  refine (length_any s w1 hs (hv.below h4 hb1)).mono ?_
  rintro e w2 ⟨rfl, hb2⟩
  have hb12 := hb1.trans (hb2.mono hb1.size)
  go_wp2_with fail
  refine (Tryd.Builder_Grow_fresh w.heap.size w.heap.size (escL s.data.toList).length w2 (Nat.le_refl _) (heap_below hbk1 hb2) hb12.size (by omega)).mono ?_
  rintro e w3 ⟨rfl, hat3, hb3⟩
  have hb13 := hb12.trans hb3
  go_wp2_with fail
  refine (formsOf_any s w3).mono ?_
  rintro e w4 ⟨rfl, hw4⟩
  have hF4 : w4.heap[w3.heap.size]? = some (.cells #[.string s] 9 (0, 0)) := by rw [← hw4]; exact heap_alloc_new w3 _
  have hb4 : Below w3.heap.size w3 w4 := by rw [← hw4]; exact (Below.refl _ _).alloc (Nat.le_refl _) _
  have hFb : w3.heap.size ≠ w.heap.size := by
    have := hat3.lt
    omega
  have hat4 := at_below hat3 hb4
  have hb14 := hb13.trans (hb4.mono hb13.size)
  clear hw4 hat3 hb4 hb3 hb12 hb2 hbk1
  go_wp2
  go_loopw [13] (EscRel s w w3.heap.size) (fun i _ => s.size - (intOf i).toNat)
  case atStart => exact ⟨0, by omega, rfl, by simpa [escL, Lib.byteCells] using hat4, hF4, hb14⟩
  case round =>
    obtain ⟨k, hk, rfl, hat, hF, hbel⟩ := hrel
    clear hat4 hF4 hb14
    have hel2 := escL_length (s.data.toList.take k)
    rw [take_len s k hk] at hel2
    have hbl := Lib.byteCells_length (escL (s.data.toList.take k))
    have hbl' : (Lib.byteCells (escL (s.data.toList.take k))).length ≤ 5400000 := by omega
    clear hbl
    by_cases hlt : k < s.size
    · obtain ⟨c, hc⟩ : ∃ c, s[k] = c := ⟨_, rfl⟩
      have HT := Lib.hid (take_esc s k hlt hc)
      have hfp := form_pos c
      have CF := Lib.hid (form_any s k w3.heap.size c wr hlt hc (by omega) (by rw [Lib.cell_of_heap hF]; rfl) (hv.below h4 hbel))
      have HSS := Lib.hid (str_size (form c))
      have hfs : (str (form c)).size ≤ 6 := by rw [HSS.out]; exact hfp.2
      clear hc
      have HAT := Lib.hid hat; clear hat
      go_wp2_with fail
      refine CF.out.mono ?_
      rintro e w5 ⟨rfl, hb5⟩
      go_wp2_with fail
      refine (writeString_any w.heap.size w.heap.size _ (str (form c)) w5 (.inr (at_below HAT.out hb5)) (by omega) (Nat.le_trans hbel.size hb5.size)).mono ?_
      rintro e w6 ⟨rfl, hat6, hb6, hst6⟩
      go_wp2
      refine ⟨⟨k + 1, by omega, by go_num, ?_, hst6 _ _ _ _ hFb (by decide) (heap_below hF hb5), (hbel.trans (hb5.mono hbel.size)).trans hb6⟩, by simp [intOf]; omega⟩
      rw [HT.out, Lib.byteCells_append]
      exact hat6
    · obtain rfl : k = s.size := by omega
      have he : s.data.toList.take s.size = s.data.toList := List.take_of_length_le (by simp)
      rw [he] at hat
      clear hel2 he hbl'
      go_wp2_with fail
      refine (Tryd.Builder_String_any w.heap.size w.heap.size (escL s.data.toList) wr (.inr hat) hbel.size).mono ?_
      rintro e w7 ⟨rfl, hb7⟩
      go_wp2
      go_ret
      exact ⟨rfl, hbel.trans hb7⟩
end Go.Proofs.YtlebcebihieiiaaDoor.E
