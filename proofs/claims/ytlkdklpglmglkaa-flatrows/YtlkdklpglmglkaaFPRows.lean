/-
  tendrilplain.Rows.
-/
import Derived.Test.YtlkdklpglmglkaaFSame
namespace Go.Proofs.Ytlkdklpglmglkaa
open Go.RowKit Go.Sort Go.Lib
set_option linter.unusedVariables false
set_option maxRecDepth 100000
def SameI (l m : List Rw) (k : Nat) : Prop := ∀ j, (h1 : j < l.length) → (h2 : j < m.length) → j < k → l[j].id = m[j].id
set_option maxHeartbeats 8000000 in
theorem prows_any (A A' : Option Addr) (c c' : Nat) (l : List Rw) (w : World) (ha : RRow w w.heap.size A l) (hb : RRow w w.heap.size A' l) (ga : GoodRs l) (hla : l.length ≤ 5000) :
    Calls Try.prog 14 #[.slice A l.length c, .slice A' l.length c'] w fun e w' => e = .returned (.bool true) ∧ Below w.heap.size w w' := by
  have HA := Lib.hid ha; have HB := Lib.hid hb; have GA := Lib.hid ga
  clear ha hb ga
  have hq : ((l.length : Int) != (l.length : Int)) = false := by simp
  go_enter Try.func14, Try.ntmps14
  go_wp2_with fail
  go_loopg [5, 13] l.length (fun g _ s13 wr => ∃ k : Nat, s13 = .int .i64 k ∧ k ≤ l.length ∧ l.length - k ≤ g ∧ RowKit.Hid (Below w.heap.size w wr))
  case atStart => exact ⟨0, rfl, by omega, by omega, Lib.hid (Below.refl _ _)⟩
  case round =>
    obtain ⟨k, rfl, hk, hg, HW⟩ := hrel
    by_cases hlt : k < l.length
    · have h1 : (k : Int) < (l.length : Int) := by omega
      obtain ⟨b1, o1, r, x, hK1, hb1, hk1, hc1, -⟩ := rrow_at (HA.out.up HW.out) hlt
      obtain ⟨b2, o2, s, y, hK2, hb2, hk2, hc2, -⟩ := rrow_at (HB.out.up HW.out) hlt
      obtain rfl : r = s := by rw [hk1, hk2]
      obtain ⟨p0, p1, p2, p3, p4, p5⟩ := hc1
      obtain ⟨q0, q1, q2, q3, q4, q5⟩ := hc2
      have hid : (r.id != r.id) = false := by simp
      clear hk1 hk2
      go_wp2_with fail
      go_quiet (fail)
      go_wp2_with fail
      try rw [← hK1]
      try rw [← hK2]
      go_roundg (l.length - (k + 1))
      case measure => omega
      case rel => exact ⟨k + 1, by go_num, by omega, by omega, Lib.hid (HW.out.trans (below_drewN _ _ _))⟩
    · have h1 : ¬ (k : Int) < (l.length : Int) := by omega
      have C := Lib.hid (shapes_any A A' c c' l l wr (HA.out.up HW.out) (HB.out.up HW.out) GA.out GA.out hla hla)
      go_wp2_with fail
      refine C.out.mono ?_
      rintro e w2 ⟨r5, rfl, h5, hb5⟩
      have hr5 : r5 = true := by simpa using h5
      subst hr5
      have HB5 := Lib.hid (HW.out.trans (hb5.mono HW.out.size))
      clear hb5 h5 C
      go_wp2_with fail
      go_ret
      exact ⟨rfl, HB5.out⟩
end Go.Proofs.Ytlkdklpglmglkaa
