/-
  chars.Compare, tendrilref02.Compare, and tendrillaw02.CharsPairs: it answers true, whatever the two texts.
-/
import Derived.Test.YtmobnjcjpjeflaaDoorSame
namespace Go.Proofs.YtmobnjcjpjeflaaDoor
open Go.RowKit
set_option linter.unusedVariables false

theorem cmp_drop : ∀ (k : Nat) (a b : List UInt8), k ≤ a.length → k ≤ b.length → (∀ j, j < k → a.getD j 0 = b.getD j 0) → Lib.compareBytes a b = Lib.compareBytes (a.drop k) (b.drop k) := by
  intro k
  induction k with
  | zero => intro a b _ _ _; simp
  | succ k ih =>
    intro a b ha hb h
    match a, b, ha, hb, h with
    | x :: a, y :: b, ha, hb, h =>
      have h0 : x = y := by have := h 0 (by omega); simpa using this
      subst h0
      have hx : ¬ x < x := by simp
      have := ih a b (by simpa using ha) (by simpa using hb) (fun j hj => by have := h (j + 1) (by omega); simpa using this)
      simp [Lib.compareBytes, hx, this]
theorem cmp_neg : ∀ a b : List UInt8, Lib.compareBytes b a = - Lib.compareBytes a b := by
  intro a
  induction a with
  | nil => intro b; cases b <;> simp [Lib.compareBytes]
  | cons x a ih =>
    intro b
    cases b with
    | nil => simp [Lib.compareBytes]
    | cons y b =>
      simp only [Lib.compareBytes]
      by_cases h1 : x < y
      · have h2 : ¬ y < x := by rw [UInt8.lt_iff_toNat_lt] at h1 ⊢; omega
        simp [h1, h2]
      · by_cases h2 : y < x
        · simp [h1, h2]
        · simp [h1, h2, ih b]
theorem cmp_bounds : ∀ a b : List UInt8, -1 ≤ Lib.compareBytes a b ∧ Lib.compareBytes a b ≤ 1 := by
  intro a
  induction a with
  | nil => intro b; cases b <;> simp [Lib.compareBytes]
  | cons x a ih =>
    intro b
    cases b with
    | nil => simp [Lib.compareBytes]
    | cons y b =>
      simp only [Lib.compareBytes]
      have := ih b
      split
      · omega
      · split <;> omega
def cmpN (a b : ByteArray) : Int := Lib.compareBytes a.data.toList b.data.toList
theorem eqTo_list {a b : ByteArray} {k : Nat} (h : EqTo a b k) : ∀ j, j < k → a.data.toList.getD j 0 = b.data.toList.getD j 0 := fun j hj => byte_inj.1 (h j hj)
theorem drop_cons (s : ByteArray) (k : Nat) (h : k < s.size) : s.data.toList.drop k = s.data.toList.getD k 0 :: s.data.toList.drop (k + 1) := by
  have h' : k < s.data.toList.length := by rw [size_list]; exact h
  rw [List.drop_eq_getElem_cons h']
  simp [List.getD_eq_getElem?_getD, List.getElem?_eq_getElem h']
theorem lt_byte {a b : ByteArray} {k : Nat} : a.data.toList.getD k 0 < b.data.toList.getD k 0 ↔ byte a k < byte b k := by
  unfold byte; rw [UInt8.lt_iff_toNat_lt]; omega
theorem cmpN_lt {a b : ByteArray} {k : Nat} (ha : k < a.size) (hb : k < b.size) (h : EqTo a b k) (hl : byte a k < byte b k) : cmpN a b = -1 := by
  unfold cmpN
  rw [cmp_drop k _ _ (by rw [size_list]; omega) (by rw [size_list]; omega) (eqTo_list h), drop_cons a k ha, drop_cons b k hb]
  simp only [Lib.compareBytes]
  rw [if_pos (lt_byte.2 hl)]
theorem cmpN_gt {a b : ByteArray} {k : Nat} (ha : k < a.size) (hb : k < b.size) (h : EqTo a b k) (hl : byte b k < byte a k) : cmpN a b = 1 := by
  unfold cmpN
  rw [cmp_drop k _ _ (by rw [size_list]; omega) (by rw [size_list]; omega) (eqTo_list h), drop_cons a k ha, drop_cons b k hb]
  simp only [Lib.compareBytes]
  rw [if_neg (fun e => by have := lt_byte.1 e; omega), if_pos (lt_byte.2 hl)]
theorem cmpN_end {a b : ByteArray} {k : Nat} (ha : k ≤ a.size) (hb : k ≤ b.size) (h : EqTo a b k) (he : k = a.size ∨ k = b.size) : cmpN a b = if a.size < b.size then -1 else if b.size < a.size then 1 else 0 := by
  unfold cmpN
  rw [cmp_drop k _ _ (by rw [size_list]; omega) (by rw [size_list]; omega) (eqTo_list h)]
  have hla : (a.data.toList.drop k).length = a.size - k := by rw [List.length_drop, size_list]
  have hlb : (b.data.toList.drop k).length = b.size - k := by rw [List.length_drop, size_list]
  generalize a.data.toList.drop k = x at *
  generalize b.data.toList.drop k = y at *
  match x, y, hla, hlb with
  | [], [], h1, h2 => simp at h1 h2; simp only [Lib.compareBytes]; rw [if_neg (by omega), if_neg (by omega)]
  | [], c :: r, h1, h2 => simp at h1 h2; simp only [Lib.compareBytes]; rw [if_pos (by omega)]
  | c :: r, [], h1, h2 => simp at h1 h2; simp only [Lib.compareBytes]; rw [if_neg (by omega), if_pos (by omega)]
  | c :: r, d :: s, h1, h2 => simp at h1 h2; omega

theorem compare_any (a b : ByteArray) (w : World) : Calls Tryd.prog 14 #[.string a, .string b] w fun e w' => e = .returned (.int .i64 (cmpN a b)) ∧ w = w' := by
  have c := Tryd.strings_Compare a b w
  have C := Lib.hid c; clear c
  go_enter Tryd.func14, Tryd.ntmps14
  go_wp2_with (go_at_call 29; refine C.out.mono ?_; rintro e w' ⟨rfl, rfl⟩)
  go_ret
  exact ⟨rfl, rfl⟩

set_option maxHeartbeats 1000000 in
theorem refCompare_any (a b : ByteArray) (w : World) (ha : a.size ≤ 100000) (hb : b.size ≤ 100000) :
    Calls Tryd.prog 15 #[.string a, .string b] w fun e w' => e = .returned (.int .i64 (cmpN a b)) ∧ ∃ n, w' = w.drewN n := by
  go_enter Tryd.func15, Tryd.ntmps15
  go_wp2
  go_loopw [5] (PreRel a b w) (fun i _ => 100000 - (intOf i).toNat)
  case atStart => exact ⟨0, 0, by omega, by omega, rfl, fun j hj => by omega, rfl⟩
  case round =>
    obtain ⟨k, n, hka, hkb, rfl, heq, hwr⟩ := hrel
    have HQ := Lib.hid heq; clear heq
    have HW := Lib.hid hwr; clear hwr
    by_cases hlt : k < a.size ∧ k < b.size
    · obtain ⟨hla, hlb⟩ := hlt
      have ea := byte_eq a k hla
      have eb := byte_eq b k hlb
      rcases (show byte a k < byte b k ∨ byte b k < byte a k ∨ byte a k = byte b k by omega) with hx | hx | hx
      · have hr := cmpN_lt hla hlb HQ.out hx
        have HR := Lib.hid hr; clear hr
        go_wp2_with fail
        go_quiet (fail)
        go_wp2_with fail
        go_ret
        exact ⟨ret_int HR.out.symm, n + nq, by rw [HW.out, World.drewN_drewN]⟩
      · have hr := cmpN_gt hla hlb HQ.out hx
        have HR := Lib.hid hr; clear hr
        have hx' : decide (byte a k < byte b k) = false := by simp; omega
        go_wp2_with fail
        go_quiet (fail)
        go_wp2_with fail
        obtain ⟨w0, hw0⟩ : ∃ w0, w0 = wr.drewN nq := ⟨_, rfl⟩
        rw [← hw0]
        have HW0 := Lib.hid hw0; clear hw0
        have HQQ := Lib.hid (show ∃ q, w0 = w.drewN q from ⟨n + nq, by rw [HW0.out, HW.out, World.drewN_drewN]⟩)
        go_quiet (fail)
        go_wp2_with fail
        go_ret
        refine ⟨ret_int HR.out.symm, ?_⟩
        obtain ⟨q, hq⟩ := HQQ.out
        exact ⟨_, by rw [hq, World.drewN_drewN]⟩
      · have hx1 : decide (byte a k < byte b k) = false := by simp; omega
        have hx2 : decide (byte b k < byte a k) = false := by simp; omega
        have HX := Lib.hid hx; clear hx
        go_wp2_with fail
        go_quiet (fail)
        go_wp2_with fail
        obtain ⟨w0, hw0⟩ : ∃ w0, w0 = wr.drewN nq := ⟨_, rfl⟩
        rw [← hw0]
        have HW0 := Lib.hid hw0; clear hw0
        have HQQ := Lib.hid (show ∃ q, w0 = w.drewN q from ⟨n + nq, by rw [HW0.out, HW.out, World.drewN_drewN]⟩)
        go_quiet (fail)
        go_wp2_with fail
        refine ⟨?_, by simp [intOf]; omega⟩
        obtain ⟨q, hq⟩ := HQQ.out
        exact ⟨k + 1, q + nq, by omega, by omega, by go_num, eqTo_succ HQ.out HX.out, by rw [hq, World.drewN_drewN]⟩
    · have hr := cmpN_end hka hkb HQ.out (by omega)
      have HR := Lib.hid hr; clear hr
      have hex : (decide (k < a.size) = false) ∨ (decide (k < a.size) = true ∧ decide (k < b.size) = false) := by simp; omega
      have hsz : a.size < b.size ∨ b.size < a.size ∧ decide (a.size < b.size) = false ∨ decide (a.size < b.size) = false ∧ decide (b.size < a.size) = false := by simp; omega
      clear hlt
      rcases hex with hge | ⟨hla, hge⟩
      all_goals
        rcases hsz with hz | ⟨hz1, hz2⟩ | ⟨hz1, hz2⟩
        · go_wp2_with fail
          go_ret
          exact ⟨ret_int (by rw [HR.out, if_pos hz]), n, HW.out⟩
        · go_wp2_with fail
          go_ret
          exact ⟨ret_int (by rw [HR.out, if_neg (by omega), if_pos hz1]), n, HW.out⟩
        · go_wp2_with fail
          go_ret
          have h1 : ¬ a.size < b.size := by simpa using hz1
          have h2 : ¬ b.size < a.size := by simpa using hz2
          exact ⟨ret_int (by rw [HR.out, if_neg h1, if_neg h2]), n, HW.out⟩

set_option maxHeartbeats 1000000 in
theorem pairs_law (a b : ByteArray) (w : World) (ha : a.size ≤ maxLen) (hb : b.size ≤ maxLen) (hv : Vars w) : Calls Tryd.prog 4 #[.string a, .string b] w fun e w' => e = .returned (.bool true) ∧ Below w.heap.size w w' := by
  by_cases hl : 5000 < a.size
  · have hl' : (5000 : Int) < (a.size : Int) := by omega
    go_enter Tryd.func4, Tryd.ntmps4
    go_wp2_with fail
    refine (same_law w hv).mono ?_
    rintro e w1 ⟨rfl, hb⟩
    go_wp2_with fail
    go_ret
    exact ⟨rfl, hb⟩
  · have hl' : ¬ (5000 : Int) < (a.size : Int) := by omega
    by_cases hm : 5000 < b.size
    · have hm' : (5000 : Int) < (b.size : Int) := by omega
      go_enter Tryd.func4, Tryd.ntmps4
      go_wp2_with fail
      refine (same_law w hv).mono ?_
      rintro e w1 ⟨rfl, hb⟩
      go_wp2_with fail
      go_ret
      exact ⟨rfl, hb⟩
    · have hm' : ¬ (5000 : Int) < (b.size : Int) := by omega
      have hcb := cmp_bounds a.data.toList b.data.toList
      have hneg : cmpN b a = - cmpN a b := cmp_neg _ _
      have HN := Lib.hid hneg; clear hneg
      go_enter Tryd.func4, Tryd.ntmps4
      go_wp2_with fail
      refine (common_any a b w (by omega) (by omega)).mono ?_
      rintro e w1 ⟨rfl, n1, hw1⟩
      have hb1 : Below w.heap.size w w1 := by rw [hw1]; exact below_drewN (Below.refl _ _) n1
      clear hw1
      go_wp2_with fail
      refine (refCommon_any a b w1 (by omega) (by omega)).mono ?_
      rintro e w2 ⟨rfl, n2, hw2⟩
      have hb2 : Below w.heap.size w w2 := by rw [hw2]; exact below_drewN hb1 n2
      clear hw2
      go_wp2_with fail
      refine (compare_any a b w2).mono ?_
      rintro e w3 ⟨rfl, rfl⟩
      go_wp2_with fail
      refine (refCompare_any a b w2 (by omega) (by omega)).mono ?_
      rintro e w3 ⟨rfl, n3, hw3⟩
      have hb3 : Below w.heap.size w w3 := by rw [hw3]; exact below_drewN hb2 n3
      clear hw3
      go_wp2_with fail
      refine (compare_any b a w3).mono ?_
      rintro e w4 ⟨rfl, rfl⟩
      rw [HN.out]
      go_wp2_with fail
      refine (compare_any a b w3).mono ?_
      rintro e w4 ⟨rfl, rfl⟩
      have hc1 : -1 ≤ cmpN a b := hcb.1
      have hc2 : cmpN a b ≤ 1 := hcb.2
      have hz : 0 - cmpN a b = - cmpN a b := by omega
      go_wp2_with fail
      refine (same_law w3 (hv.below hb3)).mono ?_
      rintro e w4 ⟨rfl, hb4⟩
      go_wp2_with fail
      go_ret
      exact ⟨rfl, hb3.trans (hb4.mono hb3.size)⟩
end Go.Proofs.YtmobnjcjpjeflaaDoor
