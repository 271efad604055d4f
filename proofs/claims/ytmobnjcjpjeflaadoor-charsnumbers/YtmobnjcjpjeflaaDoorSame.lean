/-
  chars.Decimal, chars.Whole and the law's own 'same': what they answer.
-/
import Derived.Test.YtmobnjcjpjeflaaDoorWords
import Derived.Test.YtmobnjcjpjeflaaDoorShelf
import Derived.Lib.SmallJoins
import Derived.Lib.AppendIntMem
namespace Go.Proofs.YtmobnjcjpjeflaaDoor
open Go.RowKit
set_option linter.unusedVariables false

theorem gPow : Tryd.prog.globalNamed "internal/strconv.uint64pow10" = some 3 := by kernel_rfl

/-- What the library's variables hold. -/
def Vars (w : World) : Prop :=
  Lib.TabIs Tryd.prog w "internal/strconv.uint64pow10" .u64 Lib.pow10Tab ∧ (∃ t p, w.cell? ⟨1, 0, none⟩ = some (.iface t p)) ∧ (∃ t p, w.cell? ⟨2, 0, none⟩ = some (.iface t p)) ∧ 4 ≤ w.heap.size
theorem Vars.below {w w' : World} (h : Vars w) (hb : Below w.heap.size w w') : Vars w' := by
  obtain ⟨h1, ⟨t, p, h2⟩, ⟨t', p', h3⟩, h4⟩ := h
  refine ⟨var?_below hb gPow (by omega) h1, ⟨t, p, (hb.cell (p := ⟨1, 0, none⟩) (by show 1 < _; omega)).trans h2⟩, ⟨t', p', (hb.cell (p := ⟨2, 0, none⟩) (by show 2 < _; omega)).trans h3⟩, ?_⟩
  have := hb.size; omega
def I64 (n : Int) : Prop := -9223372036854775808 ≤ n ∧ n ≤ 9223372036854775807
def str (l : List UInt8) : ByteArray := ⟨l.toArray⟩
theorem str_data (l : List UInt8) : (str l).data.toList = l := rfl

theorem decimal_any (n : Int) (w : World) (hn : I64 n) (hv : Vars w) : Calls Tryd.prog 21 #[.int .i64 n] w fun e w' => e = .returned (.string (str (Lib.itoa n))) ∧ Below w.heap.size w w' := by
  have c := Tryd.strconv_Itoa n hn.1 hn.2 w hv.1
  have C := Lib.hid c; clear c
  go_enter Tryd.func21, Tryd.ntmps21
  go_wp2_with (go_at_call 31; refine C.out.mono ?_; rintro e w' ⟨rfl, k, os, rfl⟩)
  go_ret
  exact ⟨rfl, Lib.below_grow _ _ (Nat.le_refl _) _ _⟩

/-- The number that a text is, if it is one. -/
def wholeN (l : List UInt8) : Int × Bool :=
  match Lib.atoiAll l with
  | .ok v => if Lib.itoa v = l then (v, true) else (0, false)
  | _ => (0, false)
def whN (l : List UInt8) : Int × Bool := if 20 < l.length then (0, false) else wholeN l
def WholePost (w : World) (l : List UInt8) (e : Ending) (w' : World) : Prop := e = .returned (.tuple #[.int .i64 (whN l).1, .bool (whN l).2]) ∧ Below w.heap.size w w'
theorem wholePost_mk {w w' : World} {l : List UInt8} {n : Int} {b : Bool} (h : whN l = (n, b)) (hb : Below w.heap.size w w') : WholePost w l (.returned (.tuple #[.int .i64 n, .bool b])) w' := by
  unfold WholePost
  rw [h]
  exact ⟨rfl, hb⟩
theorem str_of {s : ByteArray} {l : List UInt8} (h : l = s.data.toList) : str l = s := ext_toList (by rw [str_data, h])
theorem below_or {w w1 : World} {t : TypeId} (h : w1 = w ∨ ∃ x, w1 = Lib.bytesWorld w t x) : Below w.heap.size w w1 := by
  rcases h with rfl | ⟨x, rfl⟩
  · exact Below.refl _ _
  · exact Joins.below_bytesWorld _ _ _ _ (Nat.le_refl _)

set_option maxHeartbeats 1000000 in
theorem whole_any (s : ByteArray) (w : World) (hs : s.size ≤ 100000) (hv : Vars w) : Calls Tryd.prog 19 #[.string s] w (WholePost w s.data.toList) := by
  by_cases h20 : 20 < s.size
  · have h20' : (20 : Int) < (s.size : Int) := by omega
    have hf : whN s.data.toList = (0, false) := if_pos (by rw [size_list]; exact h20)
    have HF := Lib.hid hf; clear hf
    go_enter Tryd.func19, Tryd.ntmps19
    go_wp2_with fail
    go_ret2
    exact wholePost_mk HF.out (Below.refl _ _)
  · have h20' : ¬ (20 : Int) < (s.size : Int) := by omega
    have hf : whN s.data.toList = wholeN s.data.toList := if_neg (by rw [size_list]; exact h20)
    have HF := Lib.hid hf; clear hf
    obtain ⟨hv1, ⟨t1, p1, hc1⟩, ⟨t2, p2, hc2⟩, hv4⟩ := id hv
    rcases hat : Lib.atoiAll s.data.toList with v | _ | _
    · have hb := Lib.atoiAll_bounds hat
      have ct := Tryd.strconv_Atoi_ok s (by omega) v hat w
      have CT := Lib.hid ct; clear ct
      by_cases he : Lib.itoa v = s.data.toList
      · have hw : wholeN s.data.toList = (v, true) := by simp [wholeN, hat, he]
        have HW := Lib.hid hw
        have HS := Lib.hid (str_of he); clear hw hat he
        have heq : (s.toList != s.toList) = false := by simp
        go_enter Tryd.func19, Tryd.ntmps19
        go_wp2_with fail
        refine CT.out.mono ?_
        rintro e w1 ⟨rfl, hor⟩
        have hb1 := below_or hor
        clear hor
        go_wp2_with fail
        refine (decimal_any v w1 hb (hv.below hb1)).mono ?_
        rintro e w2 ⟨rfl, hb2⟩
        rw [HS.out]
        go_wp2_with fail
        go_ret2
        exact wholePost_mk (HF.out.trans HW.out) (hb1.trans (hb2.mono hb1.size))
      · have hw : wholeN s.data.toList = (0, false) := by simp [wholeN, hat, he]
        have HW := Lib.hid hw
        have hne : ((str (Lib.itoa v)).toList != s.toList) = true := by rw [str_list, str_list, str_data]; simpa using he
        have hne2 : ((str (Lib.itoa v)).toList == s.toList) = false := by rw [str_list, str_list, str_data]; simpa using he
        clear hw hat he
        go_enter Tryd.func19, Tryd.ntmps19
        go_wp2_with fail
        refine CT.out.mono ?_
        rintro e w1 ⟨rfl, hor⟩
        have hb1 := below_or hor
        clear hor
        go_wp2_with fail
        refine (decimal_any v w1 hb (hv.below hb1)).mono ?_
        rintro e w2 ⟨rfl, hb2⟩
        go_wp2_with fail
        go_ret2
        exact wholePost_mk (HF.out.trans HW.out) (hb1.trans (hb2.mono hb1.size))
    · have hw : wholeN s.data.toList = (0, false) := by simp [wholeN, hat]
      have ct := Any.strconv_Atoi_syntax Tryd.laysC172 s (by omega) hat (.iface t1 p1) w hc1 (Or.inr ⟨_, _, rfl⟩)
      have CT := Lib.hid ct; clear ct
      have HW := Lib.hid hw; clear hw hat
      go_enter Tryd.func19, Tryd.ntmps19
      go_wp2_with fail
      refine CT.out.mono ?_
      rintro e w1 ⟨N, rfl, hN, hN2, hb⟩
      go_wp2_with fail
      go_ret2
      exact wholePost_mk (HF.out.trans HW.out) hb
    · have hw : wholeN s.data.toList = (0, false) := by simp [wholeN, hat]
      have ct := Any.strconv_Atoi_range Tryd.laysC172 s (by omega) hat (.iface t2 p2) w hc2 (Or.inr ⟨_, _, rfl⟩)
      have CT := Lib.hid ct; clear ct
      have HW := Lib.hid hw; clear hw hat
      go_enter Tryd.func19, Tryd.ntmps19
      go_wp2_with fail
      refine CT.out.mono ?_
      rintro e w1 ⟨N, rfl, hN, hN2, hb⟩
      go_wp2_with fail
      go_ret2
      exact wholePost_mk (HF.out.trans HW.out) hb

theorem c_pre : preN ⟨#[97, 98, 99, 100]⟩ ⟨#[97, 98, 120, 100]⟩ = 2 := by decide
theorem c_suf : sufN ((⟨#[97, 98, 99, 100]⟩ : ByteArray).extract 2 (⟨#[97, 98, 99, 100]⟩ : ByteArray).size) ((⟨#[97, 98, 120, 100]⟩ : ByteArray).extract 2 (⟨#[97, 98, 120, 100]⟩ : ByteArray).size) = 1 := by decide +kernel
theorem c_words : okW [97, 32, 98, 99] = ([[97], [98, 99]], true) := by decide
theorem c_whole : whN [48, 48, 55] = (0, false) := by
  have h1 : Lib.atoiAll [48, 48, 55] = .ok 7 := by decide
  have h2 : Lib.itoa 7 = [55] := by
    have : Lib.decDigits 7 = [55] := by rw [Lib.decDigits_one (by omega)]; rfl
    simpa [Lib.itoa] using this
  simp [whN, wholeN, h1, h2]
theorem c_itoa : Lib.itoa (-70) = [45, 55, 48] := by
  have : Lib.decDigits 70 = [55, 48] := by rw [Lib.decDigits_two (by omega) (by omega)]; rfl
  simpa [Lib.itoa] using this
theorem c_tag1 : wfB tagB ⟨#[104, 49]⟩ = true := by decide
theorem c_tag2 : wfB tagB ⟨#[49]⟩ = false := by decide
theorem map_inj : ∀ {a b : List ByteArray}, a.map (·.data.toList) = b.map (·.data.toList) → a = b := by
  intro a
  induction a with
  | nil => intro b h; cases b with
    | nil => rfl
    | cons => simp at h
  | cons x a ih => intro b h; cases b with
    | nil => simp at h
    | cons y b =>
      simp only [List.map_cons, List.cons.injEq] at h
      rw [ext_toList h.1, ih h.2]
theorem rowS_lit {w : World} (ss : List ByteArray) : RowS (w.alloc (.cells (ss.map Value.string).toArray 9)) (w.heap.size + 1) (some ⟨w.heap.size, 0, none⟩) ss := by
  intro _
  refine ⟨w.heap.size, 0, rfl, by omega, fun j hj => ?_⟩
  have : (w.alloc (.cells (ss.map Value.string).toArray 9)).cell? ⟨w.heap.size, 0 + j, none⟩ = (ss.map Value.string).toArray[0 + j]? := cell_of_row _ _ _ _ _ (0, 0) (heap_alloc_new w _)
  rw [this]
  simp [List.getD_eq_getElem?_getD, List.getElem?_eq_getElem hj]

set_option maxHeartbeats 2000000 in
theorem same_law (w : World) (hv : Vars w) : Calls Tryd.prog 7 #[] w fun e w' => e = .returned (.bool true) ∧ Below w.heap.size w w' := by
  go_enter Tryd.func7, Tryd.ntmps7
  go_wp2_with fail
  refine (common_any _ _ _ (by decide) (by decide)).mono ?_
  rintro e w1 ⟨rfl, n, hw1⟩
  have hb1 : Below w.heap.size w w1 := by rw [hw1]; exact below_drewN (Below.refl _ _) n
  clear hw1
  rw [c_pre, c_suf]
  go_wp2_with fail
  refine (words_any ⟨#[97, 32, 98, 99]⟩ _ (by decide)).mono ?_
  rintro e w2 ⟨v2, ws, rfl, hws, hown, hb2⟩
  have hws' : ws = [⟨#[97]⟩, ⟨#[98, 99]⟩] := map_inj (by rw [hws, show (⟨#[97, 32, 98, 99]⟩ : ByteArray).data.toList = [97, 32, 98, 99] from rfl, c_words]; rfl)
  subst hws'
  rw [show (⟨#[97, 32, 98, 99]⟩ : ByteArray).data.toList = [97, 32, 98, 99] from rfl, c_words]
  obtain ⟨A2, cap2, hv2, hr2, -⟩ := rowS_own hown
  rw [hv2]
  clear hws hv2 hown
  have hb02 := hb1.trans (hb2.mono hb1.size)
  go_wp2_with fail
  refine (whole_any ⟨#[48, 48, 55]⟩ w2 (by decide) (hv.below hb02)).mono ?_
  rintro e w3 ⟨rfl, hb3⟩
  rw [show (⟨#[48, 48, 55]⟩ : ByteArray).data.toList = [48, 48, 55] from rfl, c_whole]
  have hb03 := hb02.trans (hb3.mono hb02.size)
  go_wp2_with fail
  have hb3a : Below w2.heap.size w2 (w3.alloc (.cells #[.string ⟨#[97]⟩, .string ⟨#[98, 99]⟩] 9)) := hb3.alloc hb3.size _
  have hb03a : Below w.heap.size w (w3.alloc (.cells #[.string ⟨#[97]⟩, .string ⟨#[98, 99]⟩] 9)) := hb03.alloc hb03.size _
  refine (texts_any A2 (some ⟨w3.heap.size, 0, none⟩) cap2 2 [⟨#[97]⟩, ⟨#[98, 99]⟩] (w3.heap.size + 1) _ (rowS_more (rowS_below hr2 hb3a) (by have := hb3.size; omega)) (rowS_lit [⟨#[97]⟩, ⟨#[98, 99]⟩]) (by simp)).mono ?_
  rintro e w4 ⟨rfl, m, hw4⟩
  have hb04 : Below w.heap.size w w4 := by rw [hw4]; exact below_drewN hb03a m
  clear hw4 hr2
  go_wp2_with fail
  refine (tag_any ⟨#[104, 49]⟩ w4 (by decide)).mono ?_
  rintro e w5 ⟨rfl, rfl⟩
  rw [c_tag1]
  go_wp2_with fail
  refine (tag_any ⟨#[49]⟩ w4 (by decide)).mono ?_
  rintro e w5 ⟨rfl, rfl⟩
  rw [c_tag2]
  go_wp2_with fail
  refine (decimal_any (-70) w4 ⟨by omega, by omega⟩ (hv.below hb04)).mono ?_
  rintro e w5 ⟨rfl, hb5⟩
  rw [c_itoa]
  have heq : ((str [45, 55, 48]).toList == (⟨#[45, 55, 48]⟩ : ByteArray).toList) = true := by simp [str]
  go_wp2_with fail
  go_ret
  refine ⟨ret_bool ?_, hb04.trans (hb5.mono hb04.size)⟩
  first | exact heq | simp [str]
end Go.Proofs.YtmobnjcjpjeflaaDoor
