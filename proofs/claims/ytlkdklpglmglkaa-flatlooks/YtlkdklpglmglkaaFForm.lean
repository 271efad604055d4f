/-
  tendrilref13.Formed and Kids.
-/
import Derived.Test.YtlkdklpglmglkaaFLook
import Derived.Test.YtlkdklpglmglkaaFInts
namespace Go.Proofs.Ytlkdklpglmglkaa
open Go.RowKit Go.Sort Go.Lib
set_option linter.unusedVariables false
set_option maxRecDepth 100000
set_option maxHeartbeats 4000000 in
theorem formed_any (A : Option Addr) (c : Nat) (rs : List Rw) (w : World) (H : RRow w w.heap.size A rs) (hl : rs.length ≤ 5000) :
    Calls Try.prog 50 #[.slice A rs.length c] w (BoolPost (FormTo rs rs.length) w) := by
  have HR := Lib.hid H
  clear H
  go_enter Try.func50, Try.ntmps50
  go_wp2_with fail
  go_loopg [3, 6] rs.length (fun g _ s6 wr => ∃ k : Nat, s6 = .int .i64 k ∧ k ≤ rs.length ∧ rs.length - k ≤ g ∧ RowKit.Hid (FormTo rs k) ∧ RowKit.Hid (w = wr))
  case atStart => exact ⟨0, rfl, by omega, by omega, Lib.hid (fun i hi => by omega), Lib.hid rfl⟩
  case round =>
    obtain ⟨k, rfl, hk, hg, HF, HW⟩ := hrel
    by_cases hlt : k < rs.length
    · have h1 : (k : Int) < (rs.length : Int) := by omega
      have hrow : RRow wr wr.heap.size A rs := by rw [← HW.out]; exact HR.out
      obtain ⟨b, off, r, z, hA, hb, hr, hc, hat⟩ := rrow_at hrow hlt
      obtain ⟨c0, c1, c2, c3, c4, c5⟩ := hc
      have HRR := Lib.hid (show rwAt rs k = r by rw [rwAt_eq hlt, hr])
      have CA := Lib.hid (above_any A c rs k r.up wr hrow HF.out hk hl)
      have HBAD := Lib.hid (show ¬ okAt rs k → BoolPost (FormTo rs rs.length) w (.returned (.bool false)) wr from fun h => ⟨false, rfl, ⟨(fun h => by cases h), fun hf => absurd (hf k hlt) h⟩, HW.out⟩)
      clear hr hat hrow
      by_cases hk0 : k = 0
      · have hk0' : ((k : Int) == 0) = true := by simpa using hk0
        have HK0 := Lib.hid hk0
        have hkq : ¬ (k : Int) > 0 := by omega
        have hkp : decide ((k : Int) > 0) = false := decide_eq_false hkq
        clear hk0
        have HO := Lib.hid (show okAt rs k ↔ r.up = 0 by unfold okAt; rw [if_pos HK0.out, HRR.out])
        by_cases hu : r.up = 0
        · have hu' : (r.up != 0) = false := by simpa using hu
          have HOK := Lib.hid (HO.out.2 hu)
          clear hu
          go_wp2_with fail
          try rw [← hA]
          go_roundg (rs.length - (k + 1))
          case measure => omega
          case rel => exact ⟨k + 1, by go_num, by omega, by omega, Lib.hid (HF.out.step HOK.out), HW⟩
        · have hu' : (r.up != 0) = true := by simpa using hu
          have HOK := Lib.hid (show ¬ okAt rs k from fun h => hu (HO.out.1 h))
          clear hu
          go_wp2_with fail
          go_ret
          exact HBAD.out HOK.out
      · have hk0' : ((k : Int) == 0) = false := by simpa using hk0
        have hkq : (k : Int) > 0 := by omega
        have hkp : decide ((k : Int) > 0) = true := decide_eq_true hkq
        have HO := Lib.hid (show okAt rs k ↔ InC rs k r.up by unfold okAt InC; rw [if_neg hk0, HRR.out])
        clear hk0
        by_cases hu : r.up < 1
        · have hu' : decide (r.up < 1) = true := decide_eq_true hu
          have HOK := Lib.hid (show ¬ okAt rs k from fun h => by have := (HO.out.1 h).1; omega)
          go_wp2_with fail
          go_ret
          exact HBAD.out HOK.out
        · have hu' : decide (r.up < 1) = false := decide_eq_false hu
          rw [hA] at CA
          go_wp2_with fail
          refine CA.out.mono ?_
          rintro e w2 ⟨q, rfl, hq, rfl⟩
          cases q with
          | true =>
            have HOK := Lib.hid (HO.out.2 (hq.1 rfl))
            clear hq
            go_wp2_with fail
            try rw [← hA]
            go_roundg (rs.length - (k + 1))
            case measure => omega
            case rel => exact ⟨k + 1, by go_num, by omega, by omega, Lib.hid (HF.out.step HOK.out), HW⟩
          | false =>
            have HOK := Lib.hid (show ¬ okAt rs k from fun h => by have := hq.2 (HO.out.1 h); cases this)
            clear hq
            go_wp2_with fail
            go_ret
            exact HBAD.out HOK.out
    · have h1 : ¬ (k : Int) < (rs.length : Int) := by omega
      obtain rfl : k = rs.length := by omega
      go_wp2_with fail
      go_ret
      exact ⟨true, rfl, ⟨fun _ => HF.out, fun _ => rfl⟩, HW.out⟩
def nums (l : List Nat) : List Int := l.map (fun (x : Nat) => (x : Int))
set_option maxHeartbeats 4000000 in
theorem kids_any (A : Option Addr) (c : Nat) (rs : List Rw) (h : Int) (w : World) (H : RRow w w.heap.size A rs) (hl : rs.length ≤ 5000) :
    Calls Try.prog 27 #[.slice A rs.length c, .int .i64 h] w (I.Made w (nums (kidsH rs h))) := by
  have HR := Lib.hid H
  clear H
  obtain ⟨i0, hi, hz0, hz1, hz2⟩ := info_parts I.Try.info3
  go_enter Try.func27, Try.ntmps27
  go_wp2_with fail
  go_loopg [5, 6, 9] rs.length (fun g s5 _ s9 wr => ∃ (k : Nat) (zs : List Int), s9 = .int .i64 k ∧ k ≤ rs.length ∧ rs.length - k ≤ g ∧ zs.length ≤ k ∧ RowKit.Hid (zs = nums (kidsTo rs h k)) ∧ RowKit.Hid (wr.ownsRow w.heap.size 3 1 s5 zs.length (I.ints zs)) ∧ RowKit.Hid (Below w.heap.size w wr))
  case atStart => exact ⟨0, [], rfl, by omega, by omega, by simp, Lib.hid rfl, Lib.hid (World.ownsRow_nil _ _ _ _), Lib.hid (Below.refl _ _)⟩
  case round =>
    obtain ⟨k, zs, rfl, hk, hg, hzl, HZ, HO, HB⟩ := hrel
    by_cases hlt : k < rs.length
    · have h1 : (k : Int) < (rs.length : Int) := by omega
      obtain ⟨b, off, r, z, hA, hb, hr, hc, hat⟩ := rrow_at (HR.out.up HB.out) hlt
      obtain ⟨c0, c1, c2, c3, c4, c5⟩ := hc
      have HRR := Lib.hid (show rwAt rs k = r by rw [rwAt_eq hlt, hr])
      have hbs := HB.out.size
      clear hr hat
      by_cases hu : r.up = h
      · have hu' : (r.up == h) = true := by simpa using hu
        have HU := Lib.hid hu
        have hw : IntKind.i64.wrap ((k : Int) + 1) = (k : Int) + 1 := by rw [IntKind.wrap_i64]; omega
        clear hu
        go_wp2_with (at_builtin; refine I.wpList_app1 rfl _ _ 46 rfl w.heap.size 3 i0 (.int .i64 0) 8 Try.underlying46 hi hz0 hz1 hz2 rfl _ zs.length (I.ints zs) rfl HO.out (.int .i64 ((k : Int) + 1)) rfl rfl (by omega) (by unfold maxLen; omega) hbs ?_; intro v2 w2 hown2 hb2)
        have HZ2 := Lib.hid (show zs ++ [(k : Int) + 1] = nums (kidsTo rs h (k + 1)) by rw [kidsTo, HRR.out, if_pos HU.out, HZ.out]; simp [nums])
        have HO2 := Lib.hid (show w2.ownsRow w.heap.size 3 1 v2 (zs ++ [(k : Int) + 1]).length (I.ints (zs ++ [(k : Int) + 1])) by simpa [I.ints] using hown2)
        have HB2 := Lib.hid (HB.out.trans hb2)
        clear hown2 hb2
        go_wp2_with fail
        try rw [← hA]
        go_roundg (rs.length - (k + 1))
        case measure => omega
        case rel => exact ⟨k + 1, zs ++ [(k : Int) + 1], by go_num, by omega, by omega, by simp; omega, HZ2, HO2, HB2⟩
      · have hu' : (r.up == h) = false := by simpa using hu
        have HU := Lib.hid hu
        clear hu
        have HZ2 := Lib.hid (show zs = nums (kidsTo rs h (k + 1)) by rw [kidsTo, HRR.out, if_neg HU.out, HZ.out])
        go_wp2_with fail
        try rw [← hA]
        go_roundg (rs.length - (k + 1))
        case measure => omega
        case rel => exact ⟨k + 1, zs, by go_num, by omega, by omega, by omega, HZ2, HO, HB⟩
    · have h1 : ¬ (k : Int) < (rs.length : Int) := by omega
      obtain rfl : k = rs.length := by omega
      go_wp2_with fail
      go_ret
      have hz : zs = nums (kidsH rs h) := HZ.out
      rw [← hz]
      exact I.made_own HO.out HB.out
end Go.Proofs.Ytlkdklpglmglkaa
