/-
  chars.Common and tendrilref02.Common: what they answer.
-/
import Derived.Test.YtmobnjcjpjeflaaDoorPairsMath
import Derived.BigQuiet
import Derived.Deep.QuietTactic
namespace Go.Proofs.YtmobnjcjpjeflaaDoor
open Go.RowKit
set_option linter.unusedVariables false

def PreRel (a b : ByteArray) (w : World) (i : Value) (wr : World) : Prop := ∃ k n : Nat, k ≤ a.size ∧ k ≤ b.size ∧ i = .int .i64 k ∧ EqTo a b k ∧ wr = w.drewN n

set_option maxHeartbeats 1000000 in
theorem commonPrefix_any (a b : ByteArray) (w : World) (ha : a.size ≤ 100000) (hb : b.size ≤ 100000) :
    Calls Tryd.prog 27 #[.string a, .string b] w fun e w' => e = .returned (.int .i64 (preN a b)) ∧ ∃ n, w' = w.drewN n := by
  go_enter Tryd.func27, Tryd.ntmps27
  go_wp2
  all_goals
    go_loopw [13] (PreRel a b w) (fun i _ => 100000 - (intOf i).toNat)
    case atStart => exact ⟨0, 0, by omega, by omega, rfl, fun j hj => by omega, rfl⟩
    case round =>
      obtain ⟨k, n, hka, hkb, rfl, heq, rfl⟩ := hrel
      have HQ := Lib.hid heq; clear heq
      by_cases hlt : k < a.size ∧ k < b.size
      · obtain ⟨hla, hlb⟩ := hlt
        have ea := byte_eq a k hla
        have eb := byte_eq b k hlb
        go_wp2_with fail
        go_quiet (fail)
        go_wp2_with fail
        · have hne : byte a k ≠ byte b k := by simpa using (show (byte a k != byte b k) = true by assumption)
          have hp := preN_is hka hkb HQ.out (fun _ _ => hne)
          have HP := Lib.hid hp; clear hp
          go_ret
          exact ⟨ret_int (by rw [← HP.out]), n + nq, by rw [World.drewN_drewN]⟩
        · have he : byte a k = byte b k := by simpa using (show (byte a k != byte b k) = false by assumption)
          exact ⟨⟨k + 1, n + nq, by omega, by omega, by go_num, eqTo_succ HQ.out he, rfl⟩, by simp [intOf]; omega⟩
      · have hp := preN_is hka hkb HQ.out (by omega)
        have hk : k = min a.size b.size := by omega
        have HP := Lib.hid hp
        have HK := Lib.hid hk; clear hp hk
        have hge : ¬ (k < a.size ∧ k < b.size) := hlt
        go_wp2_with fail
        all_goals (go_ret; exact ⟨ret_int (by have := HP.out; have := HK.out; omega), n, rfl⟩)

def SufRel (a b : ByteArray) (w : World) (i : Value) (wr : World) : Prop := ∃ k n : Nat, k ≤ a.size ∧ k ≤ b.size ∧ i = .int .i64 k ∧ EqEnd a b k ∧ wr = w.drewN n
theorem byte_end (s : ByteArray) (k : Nat) (h : k < s.size) : ((s.size : Int) - 1 - k).toNat = s.size - 1 - k := by omega

set_option maxHeartbeats 1000000 in
theorem commonSuffix_any (a b : ByteArray) (w : World) (ha : a.size ≤ 100000) (hb : b.size ≤ 100000) :
    Calls Tryd.prog 28 #[.string a, .string b] w fun e w' => e = .returned (.int .i64 (sufN a b)) ∧ ∃ n, w' = w.drewN n := by
  go_enter Tryd.func28, Tryd.ntmps28
  go_wp2
  all_goals
    go_loopw [13] (SufRel a b w) (fun i _ => 100000 - (intOf i).toNat)
    case atStart => exact ⟨0, 0, by omega, by omega, rfl, fun j hj => by omega, rfl⟩
    case round =>
      obtain ⟨k, n, hka, hkb, rfl, heq, rfl⟩ := hrel
      have HQ := Lib.hid heq; clear heq
      by_cases hlt : k < a.size ∧ k < b.size
      · obtain ⟨hla, hlb⟩ := hlt
        have ea := byte_eq a (a.size - 1 - k) (by omega)
        have eb := byte_eq b (b.size - 1 - k) (by omega)
        have wa : IntKind.i64.wrap ((a.size : Int) - 1) = (a.size : Int) - 1 := IntWalk.i64_in _ (by omega)
        have wb : IntKind.i64.wrap ((b.size : Int) - 1) = (b.size : Int) - 1 := IntWalk.i64_in _ (by omega)
        have wa2 : IntKind.i64.wrap ((a.size : Int) - 1 - k) = (a.size : Int) - 1 - k := IntWalk.i64_in _ (by omega)
        have wb2 : IntKind.i64.wrap ((b.size : Int) - 1 - k) = (b.size : Int) - 1 - k := IntWalk.i64_in _ (by omega)
        have ta := byte_end a k hla
        have tb := byte_end b k hlb
        have na : 0 ≤ (a.size : Int) - 1 - k := by omega
        have nb : 0 ≤ (b.size : Int) - 1 - k := by omega
        have la : (a.size : Int) - 1 - k < (a.size : Int) := by omega
        have lb : (b.size : Int) - 1 - k < (b.size : Int) := by omega
        go_wp2_with fail
        go_quiet (fail)
        go_wp2_with fail
        · have hne : byte a (a.size - 1 - k) ≠ byte b (b.size - 1 - k) := by simpa using (show (byte a (a.size - 1 - k) != byte b (b.size - 1 - k)) = true by assumption)
          have hp := sufN_is hka hkb HQ.out (fun _ _ => hne)
          have HP := Lib.hid hp; clear hp
          go_ret
          exact ⟨ret_int (by rw [← HP.out]), n + nq, by rw [World.drewN_drewN]⟩
        · have he : byte a (a.size - 1 - k) = byte b (b.size - 1 - k) := by simpa using (show (byte a (a.size - 1 - k) != byte b (b.size - 1 - k)) = false by assumption)
          exact ⟨⟨k + 1, n + nq, by omega, by omega, by go_num, eqEnd_succ HQ.out he, rfl⟩, by simp [intOf]; omega⟩
      · have hp := sufN_is hka hkb HQ.out (by omega)
        have hk : k = min a.size b.size := by omega
        have HP := Lib.hid hp
        have HK := Lib.hid hk; clear hp hk
        have hge : ¬ (k < a.size ∧ k < b.size) := hlt
        go_wp2_with fail
        all_goals (go_ret; exact ⟨ret_int (by have := HP.out; have := HK.out; omega), n, rfl⟩)

/-- What stands behind the common beginning. -/
def behind (a b : ByteArray) : ByteArray := a.extract (preN a b) a.size
def CommonPost (a b : ByteArray) (w : World) (e : Ending) (w' : World) : Prop := e = .returned (.tuple #[.int .i64 (preN a b), .int .i64 (sufN (a.extract (preN a b) a.size) (b.extract (preN a b) b.size))]) ∧ ∃ n, w' = w.drewN n

set_option maxHeartbeats 1000000 in
theorem common_any (a b : ByteArray) (w : World) (ha : a.size ≤ 100000) (hb : b.size ≤ 100000) : Calls Tryd.prog 12 #[.string a, .string b] w (CommonPost a b w) := by
  have hp := preN_le a b
  obtain ⟨hp1, hp2⟩ := hp
  have cs := fun w => commonSuffix_any (a.extract (preN a b) a.size) (b.extract (preN a b) b.size) w (by simp; omega) (by simp; omega)
  have CS := Lib.hid cs; clear cs
  go_enter Tryd.func12, Tryd.ntmps12
  go_wp2_with fail
  refine (commonPrefix_any a b w ha hb).mono ?_
  rintro e w1 ⟨rfl, n, hw1⟩
  have HW := Lib.hid hw1; clear hw1
  have hpa : (preN a b : Int) ≤ (a.size : Int) := by omega
  have hpb : (preN a b : Int) ≤ (b.size : Int) := by omega
  have hp0 : (0 : Int) ≤ (preN a b : Int) := by omega
  go_wp2_with fail
  go_quiet ((go_at_call 28; exact Calls.quiet_of (CS.out _)))
  go_wp2_with fail
  go_ret2
  exact ⟨rfl, n + nq, by rw [HW.out, World.drewN_drewN]⟩

set_option maxHeartbeats 2000000 in
theorem refCommon_any (a b : ByteArray) (w : World) (ha : a.size ≤ 100000) (hb : b.size ≤ 100000) : Calls Tryd.prog 13 #[.string a, .string b] w (CommonPost a b w) := by
  go_enter Tryd.func13, Tryd.ntmps13
  go_wp2
  go_loopw [6] (PreRel a b w) (fun i _ => 100000 - (intOf i).toNat)
  case atStart => exact ⟨0, 0, by omega, by omega, rfl, fun j hj => by omega, rfl⟩
  case round =>
    obtain ⟨k, n, hka, hkb, rfl, heq, hwr⟩ := hrel
    have HQ := Lib.hid heq; clear heq
    have HW := Lib.hid hwr; clear hwr
    have fin : ∀ a' b' : ByteArray, a' = a.extract k a.size → b' = b.extract k b.size → k = preN a b → ∀ m : Nat, m = sufN a' b' → ∀ w', (∃ q, w' = wr.drewN q) →
        CommonPost a b w (.returned (.tuple #[.int .i64 k, .int .i64 m])) w' := by
      rintro a' b' ea eb ek m em w' ⟨q, rfl⟩
      subst em ea eb
      refine ⟨by rw [← ek], n + q, by rw [HW.out, World.drewN_drewN]⟩
    have FIN := Lib.hid fin; clear fin
    by_cases hgo : k < a.size ∧ k < b.size ∧ byte a k = byte b k
    · obtain ⟨hla, hlb, he⟩ := hgo
      have ea := byte_eq a k hla
      have eb := byte_eq b k hlb
      have hla' : decide (k < a.size) = true := by simpa using hla
      have hlb' : decide (k < b.size) = true := by simpa using hlb
      have heb : (byte a k == byte b k) = true := by simpa using he
      have HE := Lib.hid he; clear he
      go_wp2_with fail
      go_quiet (fail)
      go_wp2_with fail
      exact ⟨⟨k + 1, n + nq, by omega, by omega, by go_num, eqTo_succ HQ.out HE.out, by rw [HW.out, World.drewN_drewN]⟩, by simp [intOf]; omega⟩
    · have hp := preN_is hka hkb HQ.out (fun h1 h2 h3 => hgo ⟨h1, h2, h3⟩)
      have HP := Lib.hid hp; clear hp
      have hsa : (a.extract k a.size).size ≤ 100000 := by simp; omega
      have hsb : (b.extract k b.size).size ≤ 100000 := by simp; omega
      have hex : (k < a.size ∧ k < b.size ∧ decide (k < a.size) = true ∧ decide (k < b.size) = true ∧ (byte a k == byte b k) = false) ∨ (decide (k < a.size) = false) ∨ (k < a.size ∧ decide (k < a.size) = true ∧ decide (k < b.size) = false) := by
        simp; omega
      clear hgo
      have HSA := Lib.hid hsa
      have HSB := Lib.hid hsb
      clear hsa hsb
      rcases hex with ⟨hla, hlb, hla', hlb', heb⟩ | hge | ⟨hla, hla', hge⟩
      all_goals first
        | (have ea := byte_eq a k hla; have eb := byte_eq b k hlb; go_wp2_with fail; go_quiet (fail); clear ea eb heb; go_wp2_with fail)
        | (go_wp2_with fail; go_quiet (fail); go_wp2_with fail)
      all_goals
        (try clear hla)
        (try clear hlb)
        (try clear hla')
        (try clear hlb')
        (try clear hge)
        have hsa := HSA.out
        have hsb := HSB.out
        clear HSA HSB
        obtain ⟨w0, hw0⟩ : ∃ w0, w0 = wr.drewN nq := ⟨_, rfl⟩
        rw [← hw0]
        have HW0 := Lib.hid (show ∃ q, w0 = wr.drewN q from ⟨_, hw0⟩); clear hw0
        generalize hea : a.extract k a.size = a' at *
        generalize heb' : b.extract k b.size = b' at *
        have HEA := Lib.hid hea; clear hea
        have HEB := Lib.hid heb'; clear heb'
        go_loopw [7] (SufRel a' b' w0) (fun i _ => 100000 - (intOf i).toNat)
        case atStart => exact ⟨0, 0, by omega, by omega, rfl, fun j hj => by omega, rfl⟩
        case round =>
          obtain ⟨j, m, hja, hjb, rfl, heq, hwr2⟩ := hrel
          have HQ2 := Lib.hid heq; clear heq
          have HW2 := Lib.hid hwr2; clear hwr2
          by_cases hgo : j < a'.size ∧ j < b'.size ∧ byte a' (a'.size - 1 - j) = byte b' (b'.size - 1 - j)
          · obtain ⟨hla, hlb, he⟩ := hgo
            have ea := byte_eq a' (a'.size - 1 - j) (by omega)
            have eb := byte_eq b' (b'.size - 1 - j) (by omega)
            have hla' : decide (j < a'.size) = true := by simpa using hla
            have hlb' : decide (j < b'.size) = true := by simpa using hlb
            have heb : (byte a' (a'.size - 1 - j) == byte b' (b'.size - 1 - j)) = true := by simpa using he
            have HE := Lib.hid he; clear he
            have wa : IntKind.i64.wrap ((a'.size : Int) - 1) = (a'.size : Int) - 1 := IntWalk.i64_in _ (by omega)
            have wb : IntKind.i64.wrap ((b'.size : Int) - 1) = (b'.size : Int) - 1 := IntWalk.i64_in _ (by omega)
            have wa2 : IntKind.i64.wrap ((a'.size : Int) - 1 - j) = (a'.size : Int) - 1 - j := IntWalk.i64_in _ (by omega)
            have wb2 : IntKind.i64.wrap ((b'.size : Int) - 1 - j) = (b'.size : Int) - 1 - j := IntWalk.i64_in _ (by omega)
            have ta := byte_end a' j hla
            have tb := byte_end b' j hlb
            have na : 0 ≤ (a'.size : Int) - 1 - j := by omega
            have nb : 0 ≤ (b'.size : Int) - 1 - j := by omega
            have la : (a'.size : Int) - 1 - j < (a'.size : Int) := by omega
            have lb : (b'.size : Int) - 1 - j < (b'.size : Int) := by omega
            go_wp2_with fail
            go_quiet (fail)
            clear ea eb heb wa wb wa2 wb2 ta tb
            go_wp2_with fail
            exact ⟨⟨j + 1, m + nq, by omega, by omega, by go_num, eqEnd_succ HQ2.out HE.out, by rw [HW2.out, World.drewN_drewN]⟩, by simp [intOf]; omega⟩
          · have hs := sufN_is hja hjb HQ2.out (fun h1 h2 h3 => hgo ⟨h1, h2, h3⟩)
            have HS := Lib.hid hs; clear hs
            have fin2 : ∀ q : Nat, CommonPost a b w (.returned (.tuple #[.int .i64 k, .int .i64 j])) (wr.drewN q) := by
              intro q
              refine FIN.out a' b' rfl rfl HP.out j HS.out _ ?_
              obtain ⟨q0, hq0⟩ := HW0.out
              exact ⟨q0 + (m + q), by rw [HW2.out, hq0, World.drewN_drewN, World.drewN_drewN]⟩
            have hex : (j < a'.size ∧ j < b'.size ∧ decide (j < a'.size) = true ∧ decide (j < b'.size) = true ∧ (byte a' (a'.size - 1 - j) == byte b' (b'.size - 1 - j)) = false) ∨ (decide (j < a'.size) = false) ∨ (j < a'.size ∧ decide (j < a'.size) = true ∧ decide (j < b'.size) = false) := by
              simp; omega
            have FIN2 := Lib.hid fin2
            clear hgo fin2
            rcases hex with ⟨hla, hlb, hla', hlb', heb⟩ | hge | ⟨hla, hla', hge⟩
            · have ea := byte_eq a' (a'.size - 1 - j) (by omega)
              have eb := byte_eq b' (b'.size - 1 - j) (by omega)
              have wa : IntKind.i64.wrap ((a'.size : Int) - 1) = (a'.size : Int) - 1 := IntWalk.i64_in _ (by omega)
              have wb : IntKind.i64.wrap ((b'.size : Int) - 1) = (b'.size : Int) - 1 := IntWalk.i64_in _ (by omega)
              have wa2 : IntKind.i64.wrap ((a'.size : Int) - 1 - j) = (a'.size : Int) - 1 - j := IntWalk.i64_in _ (by omega)
              have wb2 : IntKind.i64.wrap ((b'.size : Int) - 1 - j) = (b'.size : Int) - 1 - j := IntWalk.i64_in _ (by omega)
              have ta := byte_end a' j hla
              have tb := byte_end b' j hlb
              have na : 0 ≤ (a'.size : Int) - 1 - j := by omega
              have nb : 0 ≤ (b'.size : Int) - 1 - j := by omega
              have la : (a'.size : Int) - 1 - j < (a'.size : Int) := by omega
              have lb : (b'.size : Int) - 1 - j < (b'.size : Int) := by omega
              go_wp2_with fail
              go_quiet (fail)
              clear ea eb heb wa wb wa2 wb2 ta tb
              go_wp2_with fail
              go_ret2
              exact FIN2.out _
            · go_wp2_with fail
              go_quiet (fail)
              go_wp2_with fail
              go_ret2
              exact FIN2.out _
            · go_wp2_with fail
              go_quiet (fail)
              go_wp2_with fail
              go_ret2
              exact FIN2.out _
end Go.Proofs.YtmobnjcjpjeflaaDoor
