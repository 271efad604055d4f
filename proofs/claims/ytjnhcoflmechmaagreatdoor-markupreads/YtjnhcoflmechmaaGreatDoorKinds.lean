/-
  An attribute in memory: two cells. | The order of names: strings.Compare, chars.Compare, compareNames, sameName, and the reference's Compare. | chars.Name, chars.Fits and tendrilref02.Named: what they answer.
-/
import Derived.WalkKit
import Derived.Lib.Hide
import Derived.Below
import Derived.Test.YtjnhcoflmechmaaGreatDoorChecked
import Derived.Test.YtjnhcoflmechmaaGreatDoorTMath
import Derived.Sort.WalkB2
import Derived.Sort.WalkB12
import Derived.Deep.LoopGhost
import Derived.Sort.Grow
import Derived.Shelf.SlSortCmp.QuietGrown
import Derived.WalkLawsBesides
import Derived.Outline
namespace Go.Proofs.YtjnhcoflmechmaaGreatDoor
open Go.RowKit Go.Sort
set_option linter.unusedVariables false
set_option maxRecDepth 100000

def encA (x : At) : List Value := [.string x.1, .string x.2]
theorem encA_len (x : At) : (encA x).length = 2 := rfl
theorem encA_one (x : At) : ∀ v ∈ encA x, v.oneCell' = true := by
  intro v hv
  simp [encA] at hv
  rcases hv with rfl | rfl <;> rfl
end Go.Proofs.YtjnhcoflmechmaaGreatDoor

namespace Go.Proofs.YtjnhcoflmechmaaGreatDoor
open Go.RowKit Go.Sort
set_option linter.unusedVariables false
set_option maxRecDepth 100000

theorem ret_int {a b : Int} (h : a = b) : (Ending.returned (.int .i64 a)) = .returned (.int .i64 b) := by rw [h]
theorem ret_bool {a b : Bool} (h : a = b) : (Ending.returned (.bool a)) = .returned (.bool b) := by rw [h]
theorem below_drewN (B : Nat) (w : World) (n : Nat) : Below B w (w.drewN n) := ⟨rfl, rfl, rfl, Nat.le_refl _, fun _ _ => rfl⟩

theorem eqB (a b : ByteArray) : (a.toList == b.toList) = decide (a = b) := by
  rw [Lib.toList_data, Lib.toList_data]
  by_cases h : a = b
  · subst h; simp
  · rw [decide_eq_false h, beq_eq_false_iff_ne]
    intro e
    apply h
    obtain ⟨⟨la⟩⟩ := a
    obtain ⟨⟨lb⟩⟩ := b
    simp at e
    rw [e]
def PreRel (a b : ByteArray) (w : World) (i : Value) (wr : World) : Prop := ∃ k n : Nat, k ≤ a.size ∧ k ≤ b.size ∧ i = .int .i64 k ∧ EqTo a b k ∧ wr = w.drewN n
set_option maxHeartbeats 1000000 in
theorem compareString_any (a b : ByteArray) (w : World) : Calls Tryz.prog 152 #[.string a, .string b] w fun e w' => e = .returned (.int .i64 (cmpN a b)) ∧ w = w' := by
  go_enter Tryz.func152, Tryz.ntmps152
  go_wp2
  rw [run_callFunc_extern Tryz.func175 (by kernel_rfl) (by kernel_rfl) (by kernel_rfl) (e := Extern.BytealgCompare.compare) (by kernel_rfl), Lib.run_compareString]
  simp only [Result.andThen]
  rw [Oper.upon_value]
  go_wp2
  go_ret
  exact ⟨rfl, rfl⟩
theorem strCompare_any (a b : ByteArray) (w : World) : Calls Tryz.prog 125 #[.string a, .string b] w fun e w' => e = .returned (.int .i64 (cmpN a b)) ∧ w = w' := by
  have C := Lib.hid (compareString_any a b w)
  go_enter Tryz.func125, Tryz.ntmps125
  go_wp2_with fail
  refine C.out.mono ?_
  rintro e w1 ⟨rfl, rfl⟩
  go_wp2
  go_ret
  exact ⟨rfl, rfl⟩
set_option maxHeartbeats 1000000 in
theorem refCompare_any (a b : ByteArray) (w : World) (ha : a.size ≤ 100000000) (hb : b.size ≤ 100000000) :
    Calls Tryz.prog 55 #[.string a, .string b] w fun e w' => e = .returned (.int .i64 (cmpN a b)) ∧ ∃ n, w' = w.drewN n := by
  go_enter Tryz.func55, Tryz.ntmps55
  go_wp2
  go_loopw [5] (PreRel a b w) (fun i _ => 100000000 - (intOf i).toNat)
  case atStart => exact ⟨0, 0, by omega, by omega, rfl, fun j hj => by omega, rfl⟩
  case round =>
    obtain ⟨k, n, hka, hkb, rfl, heq, hwr⟩ := hrel
    have HQ := Lib.hid heq; clear heq
    have HW := Lib.hid hwr; clear hwr
    by_cases hlt : k < a.size ∧ k < b.size
    · obtain ⟨hla, hlb⟩ := hlt
      have ea := byte_eq a k hla
      have eb := byte_eq b k hlb
      rcases (show byte a k < byte b k ∨ byte b k < byte a k ∨ byte a k = byte b k by omega) with hx | hx | hx
      · have hr := cmpN_lt hla hlb HQ.out hx
        have HR := Lib.hid hr; clear hr
        go_wp2_with fail
        go_quiet (fail)
        go_wp2_with fail
        go_ret
        exact ⟨ret_int HR.out.symm, n + nq, by rw [HW.out, World.drewN_drewN]⟩
      · have hr := cmpN_gt hla hlb HQ.out hx
        have HR := Lib.hid hr; clear hr
        have hx' : decide (byte a k < byte b k) = false := by simp; omega
        go_wp2_with fail
        go_quiet (fail)
        go_wp2_with fail
        obtain ⟨w0, hw0⟩ : ∃ w0, w0 = wr.drewN nq := ⟨_, rfl⟩
        rw [← hw0]
        have HW0 := Lib.hid hw0; clear hw0
        have HQQ := Lib.hid (show ∃ q, w0 = w.drewN q from ⟨n + nq, by rw [HW0.out, HW.out, World.drewN_drewN]⟩)
        go_quiet (fail)
        go_wp2_with fail
        go_ret
        refine ⟨ret_int HR.out.symm, ?_⟩
        obtain ⟨q, hq⟩ := HQQ.out
        exact ⟨_, by rw [hq, World.drewN_drewN]⟩
      · have hx1 : decide (byte a k < byte b k) = false := by simp; omega
        have hx2 : decide (byte b k < byte a k) = false := by simp; omega
        have HX := Lib.hid hx; clear hx
        go_wp2_with fail
        go_quiet (fail)
        go_wp2_with fail
        obtain ⟨w0, hw0⟩ : ∃ w0, w0 = wr.drewN nq := ⟨_, rfl⟩
        rw [← hw0]
        have HW0 := Lib.hid hw0; clear hw0
        have HQQ := Lib.hid (show ∃ q, w0 = w.drewN q from ⟨n + nq, by rw [HW0.out, HW.out, World.drewN_drewN]⟩)
        go_quiet (fail)
        go_wp2_with fail
        refine ⟨?_, by simp [intOf]; omega⟩
        obtain ⟨q, hq⟩ := HQQ.out
        exact ⟨k + 1, q + nq, by omega, by omega, by go_num, eqTo_succ HQ.out HX.out, by rw [hq, World.drewN_drewN]⟩
    · have hr := cmpN_end hka hkb HQ.out (by omega)
      have HR := Lib.hid hr; clear hr
      have hex : (decide (k < a.size) = false) ∨ (decide (k < a.size) = true ∧ decide (k < b.size) = false) := by simp; omega
      have hsz : a.size < b.size ∨ b.size < a.size ∧ decide (a.size < b.size) = false ∨ decide (a.size < b.size) = false ∧ decide (b.size < a.size) = false := by simp; omega
      clear hlt
      rcases hex with hge | ⟨hla, hge⟩
      all_goals
        rcases hsz with hz | ⟨hz1, hz2⟩ | ⟨hz1, hz2⟩
        · go_wp2_with fail
          go_ret
          exact ⟨ret_int (by rw [HR.out, if_pos hz]), n, HW.out⟩
        · go_wp2_with fail
          go_ret
          exact ⟨ret_int (by rw [HR.out, if_neg (by omega), if_pos hz1]), n, HW.out⟩
        · go_wp2_with fail
          go_ret
          have h1 : ¬ a.size < b.size := by simpa using hz1
          have h2 : ¬ b.size < a.size := by simpa using hz2
          exact ⟨ret_int (by rw [HR.out, if_neg h1, if_neg h2]), n, HW.out⟩


theorem charsCompare_any (a b : ByteArray) (w : World) : Calls Tryz.prog 90 #[.string a, .string b] w fun e w' => e = .returned (.int .i64 (cmpN a b)) ∧ w = w' := by
  have C := Lib.hid (strCompare_any a b w)
  go_enter Tryz.func90, Tryz.ntmps90
  go_wp2_with fail
  refine C.out.mono ?_
  rintro e w1 ⟨rfl, rfl⟩
  go_wp2
  go_ret
  exact ⟨rfl, rfl⟩

/-! Attributes as parameters. -/
def atV (x : At) : Value := .agg #[.string x.1, .string x.2]
def atCells (x : At) : Array Value := #[.string x.1, .string x.2]
theorem atV_enc (x : At) : atV x = .agg (encA x).toArray := rfl
theorem box_cells (w : World) (x : At) : (w.alloc (.cells (atCells x) 63)).cell? ⟨w.heap.size, 0, none⟩ = some (.string x.1) ∧ (w.alloc (.cells (atCells x) 63)).cell? ⟨w.heap.size, 1, none⟩ = some (.string x.2) := by
  constructor <;> simp [atCells]
theorem two_boxes (w : World) (a b : At) : (((w.alloc (.cells (atCells a) 63)).alloc (.cells (atCells b) 63)).cell? ⟨w.heap.size, 0, none⟩ = some (.string a.1) ∧ ((w.alloc (.cells (atCells a) 63)).alloc (.cells (atCells b) 63)).cell? ⟨w.heap.size, 1, none⟩ = some (.string a.2)) ∧
    (((w.alloc (.cells (atCells a) 63)).alloc (.cells (atCells b) 63)).cell? ⟨w.heap.size + 1, 0, none⟩ = some (.string b.1) ∧ ((w.alloc (.cells (atCells a) 63)).alloc (.cells (atCells b) 63)).cell? ⟨w.heap.size + 1, 1, none⟩ = some (.string b.2)) := by
  have h1 := box_cells w a
  have h2 := box_cells (w.alloc (.cells (atCells a) 63)) b
  have hs : (w.alloc (.cells (atCells a) 63)).heap.size = w.heap.size + 1 := by simp
  rw [hs] at h2
  have hb : Below (w.alloc (.cells (atCells a) 63)).heap.size (w.alloc (.cells (atCells a) 63)) ((w.alloc (.cells (atCells a) 63)).alloc (.cells (atCells b) 63)) := (Below.refl _ _).alloc (Nat.le_refl _) _
  exact ⟨⟨(hb.cell (p := ⟨w.heap.size, 0, none⟩) (by simp)).trans h1.1, (hb.cell (p := ⟨w.heap.size, 1, none⟩) (by simp)).trans h1.2⟩, h2⟩
def two (w : World) (a b : At) : World := (w.alloc (.cells (atCells a) 63)).alloc (.cells (atCells b) 63)
theorem below_two (w : World) (a b : At) : Below w.heap.size w (two w a b) := ((Below.refl _ _).alloc (Nat.le_refl _) _).alloc (by simp) _
theorem two_grow (w : World) (a b : At) : two w a b = grow w #[.cells (atCells a) 63, .cells (atCells b) 63] := by
  unfold two
  rw [alloc_eq_grow, alloc_eq_grow, grow_grow]
  rfl
set_option maxHeartbeats 1000000 in
theorem compareNames_ex (a b : At) (w : World) : Calls Tryz.prog 194 #[atV a, atV b] w fun e w' => e = .returned (.int .i64 (cmpN a.1 b.1)) ∧ w' = two w a b := by
  obtain ⟨w1, hw1⟩ : ∃ w1, w1 = two w a b := ⟨_, rfl⟩
  obtain ⟨⟨a1, a2⟩, b1, b2⟩ := two_boxes w a b
  change (two w a b).cell? _ = _ at a1 a2 b1 b2
  rw [← hw1] at a1 a2 b1 b2
  have C1 := Lib.hid (charsCompare_any a.1 b.1 w1)
  have HW := Lib.hid hw1
  clear hw1
  unfold atV
  go_enter Tryz.func194, Tryz.ntmps194
  go_wp2_with fail
  rw [show (w.alloc (.cells #[.string a.1, .string a.2] 63)).alloc (.cells #[.string b.1, .string b.2] 63) = w1 from HW.out.symm]
  go_wp2_with fail
  refine C1.out.mono ?_
  rintro e w2 ⟨rfl, rfl⟩
  go_wp2_with fail
  go_ret
  exact ⟨rfl, HW.out⟩
end Go.Proofs.YtjnhcoflmechmaaGreatDoor

namespace Go.Proofs.YtjnhcoflmechmaaGreatDoor
open Go.RowKit Go.Sort
set_option linter.unusedVariables false
set_option maxRecDepth 100000

def lowB (c : Int) : Bool := decide (97 ≤ c) && decide (c ≤ 122)
def tagB (c : Int) : Bool := lowB c || (decide (48 ≤ c) && decide (c ≤ 57)) || c == 45
def nameB (c : Int) : Bool := tagB c || c == 58 || c == 46

theorem isLower_any (c : Int) (w : World) (h0 : 0 ≤ c) (h1 : c ≤ 255) : Calls Tryz.prog 176 #[.int .u8 c] w fun e w' => e = .returned (.bool (lowB c)) ∧ w = w' := by
  go_enter Tryz.func176, Tryz.ntmps176
  go_wp2
  all_goals (go_ret; refine ⟨ret_bool ?_, rfl⟩; rw [Bool.eq_iff_iff]; simp [lowB]; omega)

theorem inTag_any (c : Int) (w : World) (h0 : 0 ≤ c) (h1 : c ≤ 255) : Calls Tryz.prog 154 #[.int .u8 c] w fun e w' => e = .returned (.bool (tagB c)) ∧ w = w' := by
  by_cases hl : lowB c = true
  · go_enter Tryz.func154, Tryz.ntmps154
    go_wp2_with fail
    refine (isLower_any _ _ h0 h1).mono ?_
    rintro e w' ⟨rfl, rfl⟩
    go_wp2_with fail
    all_goals (go_ret; refine ⟨ret_bool ?_, rfl⟩; simp [tagB, hl])
  · have hl' : lowB c = false := by simpa using hl
    go_enter Tryz.func154, Tryz.ntmps154
    go_wp2_with fail
    refine (isLower_any _ _ h0 h1).mono ?_
    rintro e w' ⟨rfl, rfl⟩
    go_wp2_with fail
    all_goals (go_ret; refine ⟨ret_bool ?_, rfl⟩; rw [Bool.eq_iff_iff]; simp [tagB, hl']; omega)

theorem inName_any (c : Int) (w : World) (h0 : 0 ≤ c) (h1 : c ≤ 255) : Calls Tryz.prog 162 #[.int .u8 c] w fun e w' => e = .returned (.bool (nameB c)) ∧ w = w' := by
  by_cases hl : tagB c = true
  · go_enter Tryz.func162, Tryz.ntmps162
    go_wp2_with fail
    refine (inTag_any _ _ h0 h1).mono ?_
    rintro e w' ⟨rfl, rfl⟩
    go_wp2_with fail
    all_goals (go_ret; refine ⟨ret_bool ?_, rfl⟩; simp [nameB, hl])
  · have hl' : tagB c = false := by simpa using hl
    go_enter Tryz.func162, Tryz.ntmps162
    go_wp2_with fail
    refine (inTag_any _ _ h0 h1).mono ?_
    rintro e w' ⟨rfl, rfl⟩
    go_wp2_with fail
    all_goals (go_ret; refine ⟨ret_bool ?_, rfl⟩; rw [Bool.eq_iff_iff]; simp [nameB, hl'] <;> omega)

def AllP (p : Int → Bool) (s : ByteArray) (k : Nat) : Prop := ∀ j, 1 ≤ j → j < k → p (byte s j) = true
def wfB (p : Int → Bool) (s : ByteArray) : Bool := decide (1 ≤ s.size) && decide (s.size ≤ 32) && lowB (byte s 0) && (List.range s.size).all fun j => j == 0 || p (byte s j)
theorem allP_succ {p : Int → Bool} {s : ByteArray} {k : Nat} (h : AllP p s k) (hp : p (byte s k) = true) : AllP p s (k + 1) := by
  intro j h1 h2
  rcases Nat.lt_or_ge j k with h3 | h3
  · exact h j h1 h3
  · have : j = k := by omega
    subst this; exact hp
theorem allP_eq {p : Int → Bool} {s : ByteArray} {k n : Nat} (h : AllP p s k) (e : k = n) : AllP p s n := e ▸ h
theorem wfB_ok {p : Int → Bool} {s : ByteArray} (h1 : 1 ≤ s.size) (h2 : s.size ≤ 32) (hl : lowB (byte s 0) = true) (h : AllP p s s.size) : wfB p s = true := by
  simp only [wfB, h1, h2, hl, decide_true, Bool.true_and, List.all_eq_true, List.mem_range]
  intro j hj
  rcases Nat.eq_zero_or_pos j with h0 | h0
  · simp [h0]
  · simp [h j h0 hj]
theorem wfB_fail {p : Int → Bool} {s : ByteArray} {k : Nat} (h1 : 1 ≤ k) (h2 : k < s.size) (hp : p (byte s k) = false) : wfB p s = false := by
  have : ((List.range s.size).all fun j => j == 0 || p (byte s j)) = false := by
    rw [List.all_eq_false]
    exact ⟨k, by simpa using h2, by simp [hp]; omega⟩
  simp [wfB, this]

set_option maxHeartbeats 1000000 in
theorem wellFormed_nameB (s : ByteArray) (w : World) (hs : s.size ≤ maxLen) : Calls Tryz.prog 153 #[.string s, .func (.func 162) #[] #[]] w fun e w' => e = .returned (.bool (wfB nameB s)) ∧ w = w' := by
  unfold maxLen at hs
  by_cases h1 : s.size < 1
  · have hr : wfB nameB s = false := by simp [wfB]; omega
    have HR := Lib.hid hr; clear hr
    have h1' : (s.size : Int) < 1 := by omega
    go_enter Tryz.func153, Tryz.ntmps153
    go_wp2_with fail
    go_ret
    exact ⟨ret_bool HR.out.symm, rfl⟩
  · by_cases h2 : 32 < s.size
    · have hr : wfB nameB s = false := by simp [wfB]; omega
      have HR := Lib.hid hr; clear hr
      have h1' : ¬ (s.size : Int) < 1 := by omega
      have h2' : (32 : Int) < (s.size : Int) := by omega
      go_enter Tryz.func153, Tryz.ntmps153
      go_wp2_with fail
      go_ret
      exact ⟨ret_bool HR.out.symm, rfl⟩
    · have h1' : ¬ (s.size : Int) < 1 := by omega
      have h2' : ¬ (32 : Int) < (s.size : Int) := by omega
      have h0 : 0 < s.size := by omega
      have hb0 := byte_bounds s 0
      by_cases hl : lowB (byte s 0) = true
      · go_enter Tryz.func153, Tryz.ntmps153
        go_wp2_with fail
        rw [byte_eq s 0 h0]
        refine (isLower_any _ _ hb0.1 hb0.2).mono ?_
        rintro e w' ⟨rfl, rfl⟩
        rw [hl]
        go_wp2_with fail
        go_loop [5] (fun i => ∃ k : Nat, 1 ≤ k ∧ k ≤ s.size ∧ i = .int .i64 k ∧ AllP nameB s k) (fun i => s.size - (intOf i).toNat)
        case atStart => exact ⟨1, by omega, by omega, rfl, fun j h1 h2 => by omega⟩
        case round =>
          obtain ⟨k, hk1, hk, rfl, hall⟩ := hrel
          have HA := Lib.hid hall; clear hall
          by_cases hlt : k < s.size
          · have hbk := byte_bounds s k
            go_wp2_with fail
            rw [byte_eq s k hlt]
            refine (inName_any _ _ hbk.1 hbk.2).mono ?_
            rintro e w' ⟨rfl, rfl⟩
            by_cases hp : nameB (byte s k) = true
            · rw [hp]
              go_wp2_with fail
              exact ⟨⟨k + 1, by omega, by omega, by go_num, allP_succ HA.out hp⟩, by simp [intOf]; omega⟩
            · have hp' : nameB (byte s k) = false := by simpa using hp
              rw [hp']
              have hr : wfB nameB s = false := wfB_fail hk1 hlt hp'
              have HR := Lib.hid hr; clear hr
              go_wp2_with fail
              go_ret
              exact ⟨ret_bool HR.out.symm, rfl⟩
          · have hr : wfB nameB s = true := wfB_ok (by omega) (by omega) hl (allP_eq HA.out (by omega))
            have HR := Lib.hid hr; clear hr
            go_wp2_with fail
            go_ret
            exact ⟨ret_bool HR.out.symm, rfl⟩
      · have hl' : lowB (byte s 0) = false := by simpa using hl
        have hr : wfB nameB s = false := by simp [wfB, hl']
        have HR := Lib.hid hr; clear hr
        go_enter Tryz.func153, Tryz.ntmps153
        go_wp2_with fail
        rw [byte_eq s 0 h0]
        refine (isLower_any _ _ hb0.1 hb0.2).mono ?_
        rintro e w' ⟨rfl, rfl⟩
        rw [hl']
        go_wp2_with fail
        go_ret
        exact ⟨ret_bool HR.out.symm, rfl⟩

theorem name_any (s : ByteArray) (w : World) (hs : s.size ≤ maxLen) : Calls Tryz.prog 142 #[.string s] w fun e w' => e = .returned (.bool (wfB nameB s)) ∧ w = w' := by
  go_enter Tryz.func142, Tryz.ntmps142
  go_wp2_with fail
  refine (wellFormed_nameB s _ hs).mono ?_
  rintro e w' ⟨rfl, rfl⟩
  go_wp2_with fail
  go_ret
  exact ⟨rfl, rfl⟩
set_option maxHeartbeats 1000000 in
theorem wellFormed_tagB (s : ByteArray) (w : World) (hs : s.size ≤ maxLen) : Calls Tryz.prog 153 #[.string s, .func (.func 154) #[] #[]] w fun e w' => e = .returned (.bool (wfB tagB s)) ∧ w = w' := by
  unfold maxLen at hs
  by_cases h1 : s.size < 1
  · have hr : wfB tagB s = false := by simp [wfB]; omega
    have HR := Lib.hid hr; clear hr
    have h1' : (s.size : Int) < 1 := by omega
    go_enter Tryz.func153, Tryz.ntmps153
    go_wp2_with fail
    go_ret
    exact ⟨ret_bool HR.out.symm, rfl⟩
  · by_cases h2 : 32 < s.size
    · have hr : wfB tagB s = false := by simp [wfB]; omega
      have HR := Lib.hid hr; clear hr
      have h1' : ¬ (s.size : Int) < 1 := by omega
      have h2' : (32 : Int) < (s.size : Int) := by omega
      go_enter Tryz.func153, Tryz.ntmps153
      go_wp2_with fail
      go_ret
      exact ⟨ret_bool HR.out.symm, rfl⟩
    · have h1' : ¬ (s.size : Int) < 1 := by omega
      have h2' : ¬ (32 : Int) < (s.size : Int) := by omega
      have h0 : 0 < s.size := by omega
      have hb0 := byte_bounds s 0
      by_cases hl : lowB (byte s 0) = true
      · go_enter Tryz.func153, Tryz.ntmps153
        go_wp2_with fail
        rw [byte_eq s 0 h0]
        refine (isLower_any _ _ hb0.1 hb0.2).mono ?_
        rintro e w' ⟨rfl, rfl⟩
        rw [hl]
        go_wp2_with fail
        go_loop [5] (fun i => ∃ k : Nat, 1 ≤ k ∧ k ≤ s.size ∧ i = .int .i64 k ∧ AllP tagB s k) (fun i => s.size - (intOf i).toNat)
        case atStart => exact ⟨1, by omega, by omega, rfl, fun j h1 h2 => by omega⟩
        case round =>
          obtain ⟨k, hk1, hk, rfl, hall⟩ := hrel
          have HA := Lib.hid hall; clear hall
          by_cases hlt : k < s.size
          · have hbk := byte_bounds s k
            go_wp2_with fail
            rw [byte_eq s k hlt]
            refine (inTag_any _ _ hbk.1 hbk.2).mono ?_
            rintro e w' ⟨rfl, rfl⟩
            by_cases hp : tagB (byte s k) = true
            · rw [hp]
              go_wp2_with fail
              exact ⟨⟨k + 1, by omega, by omega, by go_num, allP_succ HA.out hp⟩, by simp [intOf]; omega⟩
            · have hp' : tagB (byte s k) = false := by simpa using hp
              rw [hp']
              have hr : wfB tagB s = false := wfB_fail hk1 hlt hp'
              have HR := Lib.hid hr; clear hr
              go_wp2_with fail
              go_ret
              exact ⟨ret_bool HR.out.symm, rfl⟩
          · have hr : wfB tagB s = true := wfB_ok (by omega) (by omega) hl (allP_eq HA.out (by omega))
            have HR := Lib.hid hr; clear hr
            go_wp2_with fail
            go_ret
            exact ⟨ret_bool HR.out.symm, rfl⟩
      · have hl' : lowB (byte s 0) = false := by simpa using hl
        have hr : wfB tagB s = false := by simp [wfB, hl']
        have HR := Lib.hid hr; clear hr
        go_enter Tryz.func153, Tryz.ntmps153
        go_wp2_with fail
        rw [byte_eq s 0 h0]
        refine (isLower_any _ _ hb0.1 hb0.2).mono ?_
        rintro e w' ⟨rfl, rfl⟩
        rw [hl']
        go_wp2_with fail
        go_ret
        exact ⟨ret_bool HR.out.symm, rfl⟩

theorem tag_any (s : ByteArray) (w : World) (hs : s.size ≤ maxLen) : Calls Tryz.prog 127 #[.string s] w fun e w' => e = .returned (.bool (wfB tagB s)) ∧ w = w' := by
  go_enter Tryz.func127, Tryz.ntmps127
  go_wp2_with fail
  refine (wellFormed_tagB s _ hs).mono ?_
  rintro e w' ⟨rfl, rfl⟩
  go_wp2_with fail
  go_ret
  exact ⟨rfl, rfl⟩
theorem fits_any (s : ByteArray) (w : World) : Calls Tryz.prog 114 #[.string s] w fun e w' => e = .returned (.bool (decide (s.size ≤ 65536))) ∧ w = w' := by
  go_enter Tryz.func114, Tryz.ntmps114
  go_wp2_with fail
  go_ret
  exact ⟨ret_bool (by rw [Bool.eq_iff_iff]; simp; omega), rfl⟩

def innerB (more : Bool) (c : Int) : Bool := if more then nameB c else tagB c

theorem inner_any (c : Int) (m : Bool) (w : World) (h0 : 0 ≤ c) (h1 : c ≤ 255) : Calls Tryz.prog 103 #[.int .u8 c, .bool m] w fun e w' => e = .returned (.bool (innerB m c)) ∧ w = w' := by
  cases m
  all_goals
    go_enter Tryz.func103, Tryz.ntmps103
    go_wp2
    all_goals (go_ret; refine ⟨ret_bool ?_, rfl⟩; rw [Bool.eq_iff_iff]; simp [innerB, nameB, tagB, lowB] <;> omega)

set_option maxHeartbeats 1000000 in
theorem named_any (s : ByteArray) (m : Bool) (w : World) (hs : s.size ≤ maxLen) : Calls Tryz.prog 62 #[.string s, .bool m] w fun e w' => e = .returned (.bool (wfB (innerB m) s)) ∧ w = w' := by
  unfold maxLen at hs
  by_cases h1 : s.size < 1
  · have hr : wfB (innerB m) s = false := by simp [wfB]; omega
    have HR := Lib.hid hr; clear hr
    have h1' : (s.size : Int) < 1 := by omega
    go_enter Tryz.func62, Tryz.ntmps62
    go_wp2_with fail
    go_ret
    exact ⟨ret_bool HR.out.symm, rfl⟩
  · by_cases h2 : 32 < s.size
    · have hr : wfB (innerB m) s = false := by simp [wfB]; omega
      have HR := Lib.hid hr; clear hr
      have h1' : ¬ (s.size : Int) < 1 := by omega
      have h2' : (32 : Int) < (s.size : Int) := by omega
      go_enter Tryz.func62, Tryz.ntmps62
      go_wp2_with fail
      go_ret
      exact ⟨ret_bool HR.out.symm, rfl⟩
    · have h1' : ¬ (s.size : Int) < 1 := by omega
      have h2' : ¬ (32 : Int) < (s.size : Int) := by omega
      have h0 : 0 < s.size := by omega
      have hb0 := byte_bounds s 0
      have e0 := byte_eq s 0 h0
      by_cases hl : lowB (byte s 0) = true
      · have hl1 : 97 ≤ byte s 0 ∧ byte s 0 ≤ 122 := by simpa [lowB] using hl
        obtain ⟨hl1, hl2⟩ := hl1
        have HL := Lib.hid hl; clear hl
        go_enter Tryz.func62, Tryz.ntmps62
        go_wp2_with fail
        go_loop [5] (fun i => ∃ k : Nat, 1 ≤ k ∧ k ≤ s.size ∧ i = .int .i64 k ∧ AllP (innerB m) s k) (fun i => s.size - (intOf i).toNat)
        case atStart => exact ⟨1, by omega, by omega, rfl, fun j h1 h2 => by omega⟩
        case round =>
          obtain ⟨k, hk1, hk, rfl, hall⟩ := hrel
          have HA := Lib.hid hall; clear hall
          by_cases hlt : k < s.size
          · have hbk := byte_bounds s k
            have ek := byte_eq s k hlt
            go_wp2_with fail
            refine (inner_any _ _ _ hbk.1 hbk.2).mono ?_
            rintro e w' ⟨rfl, rfl⟩
            by_cases hp : innerB m (byte s k) = true
            · rw [hp]
              go_wp2_with fail
              exact ⟨⟨k + 1, by omega, by omega, by go_num, allP_succ HA.out hp⟩, by simp [intOf]; omega⟩
            · have hp' : innerB m (byte s k) = false := by simpa using hp
              rw [hp']
              have hr : wfB (innerB m) s = false := wfB_fail hk1 hlt hp'
              have HR := Lib.hid hr; clear hr
              go_wp2_with fail
              go_ret
              exact ⟨ret_bool HR.out.symm, rfl⟩
          · have hr : wfB (innerB m) s = true := wfB_ok (by omega) (by omega) HL.out (allP_eq HA.out (by omega))
            have HR := Lib.hid hr; clear hr
            go_wp2_with fail
            go_ret
            exact ⟨ret_bool HR.out.symm, rfl⟩
      · have hl' : lowB (byte s 0) = false := by simpa using hl
        have hr : wfB (innerB m) s = false := by simp [wfB, hl']
        have HR := Lib.hid hr; clear hr
        have hx : byte s 0 < 97 ∨ ¬ byte s 0 < 97 ∧ 122 < byte s 0 := by simp [lowB] at hl'; omega
        clear hl hl'
        rcases hx with hx | ⟨hx1, hx2⟩
        all_goals
          go_enter Tryz.func62, Tryz.ntmps62
          go_wp2_with fail
          go_ret
          exact ⟨ret_bool HR.out.symm, rfl⟩

theorem inner_name : innerB true = nameB := rfl
def okN (s : ByteArray) : Bool := wfB nameB s
end Go.Proofs.YtjnhcoflmechmaaGreatDoor
