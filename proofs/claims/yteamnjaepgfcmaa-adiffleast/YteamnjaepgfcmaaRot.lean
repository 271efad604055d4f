/-
  slices.rotateCmpFunc at attributes: two neighbouring blocks change places.
-/
import Derived.Test.YteamnjaepgfcmaaSwap
namespace Go.Proofs.Yteamnjaepgfcmaa
open Go.RowKit Go.Sort Go.Lib
set_option linter.unusedVariables false
def RotI (w0 : World) (blk off m : Nat) (size : Nat) (T : List At) (i j : Nat) (wr : World) : Prop :=
  ∃ (dk : Array At) (P X Y Z : List At), 0 < i ∧ 0 < j ∧ X.length = i ∧ Y.length = j ∧ P.length + i = m ∧ dk.size = size ∧ dk.toList = P ++ X ++ Y ++ Z ∧ P ++ Y ++ X ++ Z = T ∧ SW w0 blk off dk wr ∧ m + j ≤ size
theorem app_two (P X Y Z : List At) (k : Nat) : P ++ X ++ Y ++ Z = P ++ X.take k ++ X.drop k ++ Y ++ Z := by simp
theorem app_two' (P X Y Z : List At) (k : Nat) : P ++ X ++ Y ++ Z = P ++ X ++ Y.take k ++ Y.drop k ++ Z := by simp
set_option maxHeartbeats 4000000 in
set_option maxRecDepth 1000000 in
theorem rotate_any (blk off cap a m b : Nat) (d0 d : Array At) (w0 w : World) (R : RK w0 blk off d0) (hs : d.size = d0.size) (S : SW w0 blk off d w) (hsz : d.size < 4611686018427387904)
    (P X Y Z : List At) (hd : d.toList = P ++ X ++ Y ++ Z) (ha : P.length = a) (hm : P.length + X.length = m) (hb : P.length + X.length + Y.length = b) (hX : 0 < X.length) (hY : 0 < Y.length) (fv : Value) (T : List At) (hT : T = P ++ Y ++ X ++ Z) :
    Calls Try.prog 68 #[.slice (some ⟨blk, off, none⟩) d.size cap, .int .i64 a, .int .i64 m, .int .i64 b, fv] w fun e w' =>
      e = .returned (.tuple #[]) ∧ ∃ d' : Array At, d'.toList = T ∧ SW w0 blk off d' w' := by
  have hlen : b ≤ d.size := by rw [← Array.length_toList, hd, ← hb]; simp; omega
  have hab : a < m := by omega
  have hmb : m < b := by omega
  have HI := Lib.hid (show RotI w0 blk off m d.size T (m - a) (b - m) w from ⟨d, P, X, Y, Z, by omega, by omega, by omega, by omega, by omega, rfl, hd, hT.symm, S, by omega⟩)
  have HS := Lib.hid hs
  clear S hd hs ha hm hb hX hY hT
  clear P X Y Z
  go_enter Try.func68, Try.ntmps68
  go_wp2
  go_loopg [10, 11] (b - a) (fun g s10 s11 wr => ∃ i j : Nat, s10 = .int .i64 i ∧ s11 = .int .i64 j ∧ i + j ≤ g ∧ i ≤ m ∧ m + j ≤ d.size ∧ 0 < i ∧ 0 < j ∧ RowKit.Hid (RotI w0 blk off m d.size T i j wr))
  case atStart => exact ⟨m - a, b - m, by congr 1; omega, by congr 1; omega, by omega, by omega, by omega, by omega, by omega, HI⟩
  case round =>
    clear HI
    obtain ⟨i, j, rfl, rfl, hg, him, hmj, hi0, hj0, HI⟩ := hrel
    rcases Nat.lt_trichotomy i j with hij | hij | hij
    · have HC := Lib.hid (show Calls Try.prog 70 #[.slice (some ⟨blk, off, none⟩) d.size cap, .int .i64 ((m : Int) - i), .int .i64 ((m : Int) + j - i), .int .i64 i, fv] wr fun e w' => e = .returned (.tuple #[]) ∧ RotI w0 blk off m d.size T i (j - i) w' by
        obtain ⟨dk, P, X, Y, Z, _, _, hX, hY, hP, hds, hdk, hT, S, _⟩ := HI.out
        have hc := swapRange_any blk off cap P.length (P.length + X.length + (j - i)) i d0 dk w0 wr R (by rw [hds, HS.out]) S (by omega) P X (Y.take (j - i)) (Y.drop (j - i)) Z (by rw [hdk, app_two']) hX (by simp; omega) rfl (by simp; omega) fv
        rw [hds, show ((P.length : Nat) : Int) = (m : Int) - i by omega, show ((P.length + X.length + (j - i) : Nat) : Int) = (m : Int) + j - i by omega] at hc
        refine hc.mono ?_
        rintro e w' ⟨rfl, d', hd', S'⟩
        refine ⟨rfl, d', P, Y.drop (j - i), Y.take (j - i), X ++ Z, by omega, by omega, by simp; omega, by simp; omega, by omega, ?_, by rw [hd']; simp, by rw [← hT]; simp, S', by omega⟩
        rw [← hds, ← Array.length_toList, ← Array.length_toList, hd', hdk]
        simp; omega)
      clear HI
      have h1 : ¬ (i : Int) = (j : Int) := by omega
      have h2 : ¬ (i : Int) > (j : Int) := by omega
      go_wp2_with (go_at_call 70; refine HC.out.mono ?_; rintro e w1 ⟨rfl, HI⟩)
      go_roundg j
      case measure => omega
      case rel => exact ⟨i, j - i, rfl, by congr 1; omega, by omega, by omega, by omega, by omega, by omega, HI⟩
    · subst hij
      have HC := Lib.hid (show Calls Try.prog 70 #[.slice (some ⟨blk, off, none⟩) d.size cap, .int .i64 ((m : Int) - i), .int .i64 m, .int .i64 i, fv] wr fun e w' => e = .returned (.tuple #[]) ∧ ∃ d' : Array At, d'.toList = T ∧ SW w0 blk off d' w' by
        obtain ⟨dk, P, X, Y, Z, _, _, hX, hY, hP, hds, hdk, hT, S, _⟩ := HI.out
        have hc := swapRange_any blk off cap P.length m i d0 dk w0 wr R (by rw [hds, HS.out]) S (by omega) P X [] Y Z (by rw [hdk]; simp) hX hY rfl (by simp; omega) fv
        rw [hds, show ((P.length : Nat) : Int) = (m : Int) - i by omega] at hc
        refine hc.mono ?_
        rintro e w' ⟨rfl, d', hd', S'⟩
        exact ⟨rfl, d', by rw [hd', ← hT]; simp, S'⟩)
      clear HI
      go_wp2_with (go_at_call 70; refine HC.out.mono ?_; rintro e w1 ⟨rfl, HI⟩)
      go_end0
      exact ⟨rfl, HI⟩
    · have HC := Lib.hid (show Calls Try.prog 70 #[.slice (some ⟨blk, off, none⟩) d.size cap, .int .i64 ((m : Int) - i), .int .i64 m, .int .i64 j, fv] wr fun e w' => e = .returned (.tuple #[]) ∧ RotI w0 blk off m d.size T (i - j) j w' by
        obtain ⟨dk, P, X, Y, Z, _, _, hX, hY, hP, hds, hdk, hT, S, _⟩ := HI.out
        have hc := swapRange_any blk off cap P.length m j d0 dk w0 wr R (by rw [hds, HS.out]) S (by omega) P (X.take j) (X.drop j) Y Z (by rw [hdk]; exact app_two P X Y Z j) (by simp; omega) hY rfl (by simp; omega) fv
        rw [hds, show ((P.length : Nat) : Int) = (m : Int) - i by omega] at hc
        refine hc.mono ?_
        rintro e w' ⟨rfl, d', hd', S'⟩
        refine ⟨rfl, d', P ++ Y, X.drop j, X.take j, Z, by omega, by omega, by simp; omega, by simp; omega, by simp; omega, ?_, by rw [hd'], by rw [← hT]; simp, S', by omega⟩
        rw [← hds, ← Array.length_toList, ← Array.length_toList, hd', hdk]
        simp; omega)
      clear HI
      have h1 : ¬ (i : Int) = (j : Int) := by omega
      have h2 : (i : Int) > (j : Int) := by omega
      go_wp2_with (go_at_call 70; refine HC.out.mono ?_; rintro e w1 ⟨rfl, HI⟩)
      go_roundg i
      case measure => omega
      case rel => exact ⟨i - j, j, by congr 1; omega, rfl, by omega, by omega, by omega, by omega, by omega, HI⟩
end Go.Proofs.Yteamnjaepgfcmaa
