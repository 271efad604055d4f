/-
  chars.Decimal, chars.Whole and the law's own 'same': what they answer.
-/
import Derived.Test.YtlebcebihieiiaaDoorVars
import Derived.WalkLawsBesides
import Derived.Outline
import Derived.Lib.Hide
import Derived.Test.YtlebcebihieiiaaDoorShelf
import Derived.Lib.SmallJoins
import Derived.Lib.AppendIntMem
namespace Go.Proofs.YtlebcebihieiiaaDoor.C
open Go.RowKit
set_option linter.unusedVariables false

theorem str_list (r : ByteArray) : r.toList = r.data.toList := by obtain ⟨⟨l⟩⟩ := r; simp
theorem ext_toList {a b : ByteArray} (h : a.data.toList = b.data.toList) : a = b := by
  apply ByteArray.ext
  exact Array.toList_inj.1 h
theorem extract_list (s : ByteArray) (i j : Nat) : (s.extract i j).data.toList = (s.data.toList.drop i).take (j - i) := by simp
def I64 (n : Int) : Prop := -9223372036854775808 ≤ n ∧ n ≤ 9223372036854775807
def str (l : List UInt8) : ByteArray := ⟨l.toArray⟩
theorem str_data (l : List UInt8) : (str l).data.toList = l := rfl

theorem decimal_any (n : Int) (w : World) (hn : I64 n) (hv : Vars w) : Calls Tryd.prog 28 #[.int .i64 n] w fun e w' => e = .returned (.string (str (Lib.itoa n))) ∧ Below w.heap.size w w' := by
  have c := Tryd.strconv_Itoa n hn.1 hn.2 w hv.1
  have C := Lib.hid c; clear c
  go_enter Tryd.func28, Tryd.ntmps28
  go_wp2_with (go_at_call 50; refine C.out.mono ?_; rintro e w' ⟨rfl, k, os, rfl⟩)
  go_ret
  exact ⟨rfl, Lib.below_grow _ _ (Nat.le_refl _) _ _⟩

/-- The number that a text is, if it is one. -/
def wholeN (l : List UInt8) : Int × Bool :=
  match Lib.atoiAll l with
  | .ok v => if Lib.itoa v = l then (v, true) else (0, false)
  | _ => (0, false)
def whN (l : List UInt8) : Int × Bool := if 20 < l.length then (0, false) else wholeN l
def WholePost (w : World) (l : List UInt8) (e : Ending) (w' : World) : Prop := e = .returned (.tuple #[.int .i64 (whN l).1, .bool (whN l).2]) ∧ Below w.heap.size w w'
theorem wholePost_mk {w w' : World} {l : List UInt8} {n : Int} {b : Bool} (h : whN l = (n, b)) (hb : Below w.heap.size w w') : WholePost w l (.returned (.tuple #[.int .i64 n, .bool b])) w' := by
  unfold WholePost
  rw [h]
  exact ⟨rfl, hb⟩
theorem str_of {s : ByteArray} {l : List UInt8} (h : l = s.data.toList) : str l = s := ext_toList (by rw [str_data, h])
theorem below_or {w w1 : World} {t : TypeId} (h : w1 = w ∨ ∃ x, w1 = Lib.bytesWorld w t x) : Below w.heap.size w w1 := by
  rcases h with rfl | ⟨x, rfl⟩
  · exact Below.refl _ _
  · exact Joins.below_bytesWorld _ _ _ _ (Nat.le_refl _)

set_option maxHeartbeats 1000000 in
theorem whole_any (s : ByteArray) (w : World) (hs : s.size ≤ 100000) (hv : Vars w) : Calls Tryd.prog 44 #[.string s] w (WholePost w s.data.toList) := by
  by_cases h20 : 20 < s.size
  · have h20' : (20 : Int) < (s.size : Int) := by omega
    have hf : whN s.data.toList = (0, false) := if_pos (by rw [size_list]; exact h20)
    have HF := Lib.hid hf; clear hf
    go_enter Tryd.func44, Tryd.ntmps44
    go_wp2_with fail
    go_ret2
    exact wholePost_mk HF.out (Below.refl _ _)
  · have h20' : ¬ (20 : Int) < (s.size : Int) := by omega
    have hf : whN s.data.toList = wholeN s.data.toList := if_neg (by rw [size_list]; exact h20)
    have HF := Lib.hid hf; clear hf
    obtain ⟨hv1, ⟨t1, p1, hc1⟩, ⟨t2, p2, hc2⟩, hv4⟩ := id hv
    rcases hat : Lib.atoiAll s.data.toList with v | _ | _
    · have hb := Lib.atoiAll_bounds hat
      have ct := Tryd.strconv_Atoi_ok s (by omega) v hat w
      have CT := Lib.hid ct; clear ct
      by_cases he : Lib.itoa v = s.data.toList
      · have hw : wholeN s.data.toList = (v, true) := by simp [wholeN, hat, he]
        have HW := Lib.hid hw
        have HS := Lib.hid (str_of he); clear hw hat he
        have heq : (s.toList != s.toList) = false := by simp
        go_enter Tryd.func44, Tryd.ntmps44
        go_wp2_with fail
        refine CT.out.mono ?_
        rintro e w1 ⟨rfl, hor⟩
        have hb1 := below_or hor
        clear hor
        go_wp2_with fail
        refine (decimal_any v w1 hb (hv.belowC hb1)).mono ?_
        rintro e w2 ⟨rfl, hb2⟩
        rw [HS.out]
        go_wp2_with fail
        go_ret2
        exact wholePost_mk (HF.out.trans HW.out) (hb1.trans (hb2.mono hb1.size))
      · have hw : wholeN s.data.toList = (0, false) := by simp [wholeN, hat, he]
        have HW := Lib.hid hw
        have hne : ((str (Lib.itoa v)).toList != s.toList) = true := by rw [str_list, str_list, str_data]; simpa using he
        have hne2 : ((str (Lib.itoa v)).toList == s.toList) = false := by rw [str_list, str_list, str_data]; simpa using he
        clear hw hat he
        go_enter Tryd.func44, Tryd.ntmps44
        go_wp2_with fail
        refine CT.out.mono ?_
        rintro e w1 ⟨rfl, hor⟩
        have hb1 := below_or hor
        clear hor
        go_wp2_with fail
        refine (decimal_any v w1 hb (hv.belowC hb1)).mono ?_
        rintro e w2 ⟨rfl, hb2⟩
        go_wp2_with fail
        go_ret2
        exact wholePost_mk (HF.out.trans HW.out) (hb1.trans (hb2.mono hb1.size))
    · have hw : wholeN s.data.toList = (0, false) := by simp [wholeN, hat]
      have ct := Any.strconv_Atoi_syntax Tryd.laysC172 s (by omega) hat (.iface t1 p1) w hc1 (Or.inr ⟨_, _, rfl⟩)
      have CT := Lib.hid ct; clear ct
      have HW := Lib.hid hw; clear hw hat
      go_enter Tryd.func44, Tryd.ntmps44
      go_wp2_with fail
      refine CT.out.mono ?_
      rintro e w1 ⟨N, rfl, hN, hN2, hb⟩
      go_wp2_with fail
      go_ret2
      exact wholePost_mk (HF.out.trans HW.out) hb
    · have hw : wholeN s.data.toList = (0, false) := by simp [wholeN, hat]
      have ct := Any.strconv_Atoi_range Tryd.laysC172 s (by omega) hat (.iface t2 p2) w hc2 (Or.inr ⟨_, _, rfl⟩)
      have CT := Lib.hid ct; clear ct
      have HW := Lib.hid hw; clear hw hat
      go_enter Tryd.func44, Tryd.ntmps44
      go_wp2_with fail
      refine CT.out.mono ?_
      rintro e w1 ⟨N, rfl, hN, hN2, hb⟩
      go_wp2_with fail
      go_ret2
      exact wholePost_mk (HF.out.trans HW.out) hb

end Go.Proofs.YtlebcebihieiiaaDoor.C
