/-
  The order of names: strings.Compare, chars.Compare, compareNames, sameName, and the reference's Compare.
-/
import Derived.Test.YtlkdklpglmglkaaBase
namespace Go.Proofs.Ytlkdklpglmglkaa
open Go.RowKit Go.Sort
set_option linter.unusedVariables false
set_option maxRecDepth 100000

theorem ret_int {a b : Int} (h : a = b) : (Ending.returned (.int .i64 a)) = .returned (.int .i64 b) := by rw [h]
theorem ret_bool {a b : Bool} (h : a = b) : (Ending.returned (.bool a)) = .returned (.bool b) := by rw [h]
theorem below_drewN (B : Nat) (w : World) (n : Nat) : Below B w (w.drewN n) := ⟨rfl, rfl, rfl, Nat.le_refl _, fun _ _ => rfl⟩

theorem eqB (a b : ByteArray) : (a.toList == b.toList) = decide (a = b) := by
  rw [Lib.toList_data, Lib.toList_data]
  by_cases h : a = b
  · subst h; simp
  · rw [decide_eq_false h, beq_eq_false_iff_ne]
    intro e
    apply h
    obtain ⟨⟨la⟩⟩ := a
    obtain ⟨⟨lb⟩⟩ := b
    simp at e
    rw [e]
def PreRel (a b : ByteArray) (w : World) (i : Value) (wr : World) : Prop := ∃ k n : Nat, k ≤ a.size ∧ k ≤ b.size ∧ i = .int .i64 k ∧ EqTo a b k ∧ wr = w.drewN n
set_option maxHeartbeats 1000000 in
theorem compareString_any (a b : ByteArray) (w : World) : Calls Try.prog 97 #[.string a, .string b] w fun e w' => e = .returned (.int .i64 (cmpN a b)) ∧ w = w' := by
  go_enter Try.func97, Try.ntmps97
  go_wp2
  rw [run_callFunc_extern Try.func98 (by kernel_rfl) (by kernel_rfl) (by kernel_rfl) (e := Extern.BytealgCompare.compare) (by kernel_rfl), Lib.run_compareString]
  simp only [Result.andThen]
  rw [Oper.upon_value]
  go_wp2
  go_ret
  exact ⟨rfl, rfl⟩
theorem strCompare_any (a b : ByteArray) (w : World) : Calls Try.prog 96 #[.string a, .string b] w fun e w' => e = .returned (.int .i64 (cmpN a b)) ∧ w = w' := by
  have C := Lib.hid (compareString_any a b w)
  go_enter Try.func96, Try.ntmps96
  go_wp2_with fail
  refine C.out.mono ?_
  rintro e w1 ⟨rfl, rfl⟩
  go_wp2
  go_ret
  exact ⟨rfl, rfl⟩
set_option maxHeartbeats 1000000 in
theorem refCompare_any (a b : ByteArray) (w : World) (ha : a.size ≤ 100000000) (hb : b.size ≤ 100000000) :
    Calls Try.prog 78 #[.string a, .string b] w fun e w' => e = .returned (.int .i64 (cmpN a b)) ∧ ∃ n, w' = w.drewN n := by
  go_enter Try.func78, Try.ntmps78
  go_wp2
  go_loopw [5] (PreRel a b w) (fun i _ => 100000000 - (intOf i).toNat)
  case atStart => exact ⟨0, 0, by omega, by omega, rfl, fun j hj => by omega, rfl⟩
  case round =>
    obtain ⟨k, n, hka, hkb, rfl, heq, hwr⟩ := hrel
    have HQ := Lib.hid heq; clear heq
    have HW := Lib.hid hwr; clear hwr
    by_cases hlt : k < a.size ∧ k < b.size
    · obtain ⟨hla, hlb⟩ := hlt
      have ea := byte_eq a k hla
      have eb := byte_eq b k hlb
      rcases (show byte a k < byte b k ∨ byte b k < byte a k ∨ byte a k = byte b k by omega) with hx | hx | hx
      · have hr := cmpN_lt hla hlb HQ.out hx
        have HR := Lib.hid hr; clear hr
        go_wp2_with fail
        go_quiet (fail)
        go_wp2_with fail
        go_ret
        exact ⟨ret_int HR.out.symm, n + nq, by rw [HW.out, World.drewN_drewN]⟩
      · have hr := cmpN_gt hla hlb HQ.out hx
        have HR := Lib.hid hr; clear hr
        have hx' : decide (byte a k < byte b k) = false := by simp; omega
        go_wp2_with fail
        go_quiet (fail)
        go_wp2_with fail
        obtain ⟨w0, hw0⟩ : ∃ w0, w0 = wr.drewN nq := ⟨_, rfl⟩
        rw [← hw0]
        have HW0 := Lib.hid hw0; clear hw0
        have HQQ := Lib.hid (show ∃ q, w0 = w.drewN q from ⟨n + nq, by rw [HW0.out, HW.out, World.drewN_drewN]⟩)
        go_quiet (fail)
        go_wp2_with fail
        go_ret
        refine ⟨ret_int HR.out.symm, ?_⟩
        obtain ⟨q, hq⟩ := HQQ.out
        exact ⟨_, by rw [hq, World.drewN_drewN]⟩
      · have hx1 : decide (byte a k < byte b k) = false := by simp; omega
        have hx2 : decide (byte b k < byte a k) = false := by simp; omega
        have HX := Lib.hid hx; clear hx
        go_wp2_with fail
        go_quiet (fail)
        go_wp2_with fail
        obtain ⟨w0, hw0⟩ : ∃ w0, w0 = wr.drewN nq := ⟨_, rfl⟩
        rw [← hw0]
        have HW0 := Lib.hid hw0; clear hw0
        have HQQ := Lib.hid (show ∃ q, w0 = w.drewN q from ⟨n + nq, by rw [HW0.out, HW.out, World.drewN_drewN]⟩)
        go_quiet (fail)
        go_wp2_with fail
        refine ⟨?_, by simp [intOf]; omega⟩
        obtain ⟨q, hq⟩ := HQQ.out
        exact ⟨k + 1, q + nq, by omega, by omega, by go_num, eqTo_succ HQ.out HX.out, by rw [hq, World.drewN_drewN]⟩
    · have hr := cmpN_end hka hkb HQ.out (by omega)
      have HR := Lib.hid hr; clear hr
      have hex : (decide (k < a.size) = false) ∨ (decide (k < a.size) = true ∧ decide (k < b.size) = false) := by simp; omega
      have hsz : a.size < b.size ∨ b.size < a.size ∧ decide (a.size < b.size) = false ∨ decide (a.size < b.size) = false ∧ decide (b.size < a.size) = false := by simp; omega
      clear hlt
      rcases hex with hge | ⟨hla, hge⟩
      all_goals
        rcases hsz with hz | ⟨hz1, hz2⟩ | ⟨hz1, hz2⟩
        · go_wp2_with fail
          go_ret
          exact ⟨ret_int (by rw [HR.out, if_pos hz]), n, HW.out⟩
        · go_wp2_with fail
          go_ret
          exact ⟨ret_int (by rw [HR.out, if_neg (by omega), if_pos hz1]), n, HW.out⟩
        · go_wp2_with fail
          go_ret
          have h1 : ¬ a.size < b.size := by simpa using hz1
          have h2 : ¬ b.size < a.size := by simpa using hz2
          exact ⟨ret_int (by rw [HR.out, if_neg h1, if_neg h2]), n, HW.out⟩


theorem charsCompare_any (a b : ByteArray) (w : World) : Calls Try.prog 95 #[.string a, .string b] w fun e w' => e = .returned (.int .i64 (cmpN a b)) ∧ w = w' := by
  have C := Lib.hid (strCompare_any a b w)
  go_enter Try.func95, Try.ntmps95
  go_wp2_with fail
  refine C.out.mono ?_
  rintro e w1 ⟨rfl, rfl⟩
  go_wp2
  go_ret
  exact ⟨rfl, rfl⟩

/-! Attributes as parameters. -/
def atV (x : At) : Value := .agg #[.string x.1, .string x.2]
def atCells (x : At) : Array Value := #[.string x.1, .string x.2]
theorem atV_enc (x : At) : atV x = .agg (encA x).toArray := rfl
theorem box_cells (w : World) (x : At) : (w.alloc (.cells (atCells x) 74)).cell? ⟨w.heap.size, 0, none⟩ = some (.string x.1) ∧ (w.alloc (.cells (atCells x) 74)).cell? ⟨w.heap.size, 1, none⟩ = some (.string x.2) := by
  constructor <;> simp [atCells]
theorem two_boxes (w : World) (a b : At) : (((w.alloc (.cells (atCells a) 74)).alloc (.cells (atCells b) 74)).cell? ⟨w.heap.size, 0, none⟩ = some (.string a.1) ∧ ((w.alloc (.cells (atCells a) 74)).alloc (.cells (atCells b) 74)).cell? ⟨w.heap.size, 1, none⟩ = some (.string a.2)) ∧
    (((w.alloc (.cells (atCells a) 74)).alloc (.cells (atCells b) 74)).cell? ⟨w.heap.size + 1, 0, none⟩ = some (.string b.1) ∧ ((w.alloc (.cells (atCells a) 74)).alloc (.cells (atCells b) 74)).cell? ⟨w.heap.size + 1, 1, none⟩ = some (.string b.2)) := by
  have h1 := box_cells w a
  have h2 := box_cells (w.alloc (.cells (atCells a) 74)) b
  have hs : (w.alloc (.cells (atCells a) 74)).heap.size = w.heap.size + 1 := by simp
  rw [hs] at h2
  have hb : Below (w.alloc (.cells (atCells a) 74)).heap.size (w.alloc (.cells (atCells a) 74)) ((w.alloc (.cells (atCells a) 74)).alloc (.cells (atCells b) 74)) := (Below.refl _ _).alloc (Nat.le_refl _) _
  exact ⟨⟨(hb.cell (p := ⟨w.heap.size, 0, none⟩) (by simp)).trans h1.1, (hb.cell (p := ⟨w.heap.size, 1, none⟩) (by simp)).trans h1.2⟩, h2⟩
def two (w : World) (a b : At) : World := (w.alloc (.cells (atCells a) 74)).alloc (.cells (atCells b) 74)
theorem below_two (w : World) (a b : At) : Below w.heap.size w (two w a b) := ((Below.refl _ _).alloc (Nat.le_refl _) _).alloc (by simp) _
theorem two_grow (w : World) (a b : At) : two w a b = grow w #[.cells (atCells a) 74, .cells (atCells b) 74] := by
  unfold two
  rw [alloc_eq_grow, alloc_eq_grow, grow_grow]
  rfl
set_option maxHeartbeats 1000000 in
theorem compareNames_ex (a b : At) (w : World) : Calls Try.prog 93 #[atV a, atV b] w fun e w' => e = .returned (.int .i64 (cmpN a.1 b.1)) ∧ w' = two w a b := by
  obtain ⟨w1, hw1⟩ : ∃ w1, w1 = two w a b := ⟨_, rfl⟩
  obtain ⟨⟨a1, a2⟩, b1, b2⟩ := two_boxes w a b
  change (two w a b).cell? _ = _ at a1 a2 b1 b2
  rw [← hw1] at a1 a2 b1 b2
  have C1 := Lib.hid (charsCompare_any a.1 b.1 w1)
  have HW := Lib.hid hw1
  clear hw1
  unfold atV
  go_enter Try.func93, Try.ntmps93
  go_wp2_with fail
  rw [show (w.alloc (.cells #[.string a.1, .string a.2] 74)).alloc (.cells #[.string b.1, .string b.2] 74) = w1 from HW.out.symm]
  go_wp2_with fail
  refine C1.out.mono ?_
  rintro e w2 ⟨rfl, rfl⟩
  go_wp2_with fail
  go_ret
  exact ⟨rfl, HW.out⟩
end Go.Proofs.Ytlkdklpglmglkaa
