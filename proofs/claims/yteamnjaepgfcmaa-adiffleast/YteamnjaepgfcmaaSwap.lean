/-
  slices.swapRangeCmpFunc at attributes: two blocks of one length change places.
-/
import Derived.Test.YteamnjaepgfcmaaBase
import Derived.BigRegion
namespace Go.Proofs.Yteamnjaepgfcmaa
open Go.RowKit Go.Sort Go.Lib
set_option linter.unusedVariables false
set_option maxHeartbeats 4000000 in
set_option maxRecDepth 1000000 in
theorem swapRange_any (blk off cap a b n : Nat) (d0 d : Array At) (w0 w : World) (R : RK w0 blk off d0) (hs : d.size = d0.size) (S : SW w0 blk off d w) (hsz : d.size < 4611686018427387904)
    (P X M Y Z : List At) (hd : d.toList = P ++ X ++ M ++ Y ++ Z) (hX : X.length = n) (hY : Y.length = n) (ha : P.length = a) (hb : (P ++ X ++ M).length = b) (fv : Value) :
    Calls Try.prog 70 #[.slice (some ⟨blk, off, none⟩) d.size cap, .int .i64 a, .int .i64 b, .int .i64 n, fv] w fun e w' =>
      e = .returned (.tuple #[]) ∧ ∃ d' : Array At, d'.toList = P ++ Y ++ M ++ X ++ Z ∧ SW w0 blk off d' w' := by
  have hlen : b + n ≤ d.size := by rw [← Array.length_toList, hd, ← hb, ← hY]; simp; omega
  have hab : a + n ≤ b := by rw [← hb, ← ha, ← hX]; simp
  have HS := Lib.hid hs; have HA := Lib.hid ha; have HX0 := Lib.hid hX; have HY0 := Lib.hid hY
  have S0 := Lib.hid S
  have HD := Lib.hid hd; have HB := Lib.hid hb
  clear S hd hb hs ha hX hY
  go_enter Try.func70, Try.ntmps70
  go_wp2
  go_loopg [10] n (fun g s10 wr => ∃ (i : Nat) (dk : Array At), s10 = .int .i64 i ∧ i ≤ n ∧ n - i ≤ g ∧ dk.size = d.size ∧ RowKit.Hid (SW w0 blk off dk wr) ∧ RowKit.Hid (dk.toList = P ++ (Y.take i ++ X.drop i) ++ M ++ (X.take i ++ Y.drop i) ++ Z))
  case atStart => exact ⟨0, d, rfl, by omega, by omega, rfl, S0, Lib.hid (by rw [HD.out]; simp)⟩
  case round =>
    clear S0
    obtain ⟨i, dk, rfl, hin, hg, hds, S1, HL⟩ := hrel
    by_cases hlt : i < n
    · have i1 : ((a : Int) + (i : Int)).toNat = a + i := by omega
      have p1 : (0 : Int) ≤ (a : Int) + (i : Int) := by omega
      have q1 : (a : Int) + (i : Int) < (d.size : Int) := by omega
      have r1 : IntKind.i64.wrap ((a : Int) + (i : Int)) = (a : Int) + (i : Int) := by rw [IntKind.wrap_i64]; omega
      have i2 : ((b : Int) + (i : Int)).toNat = b + i := by omega
      have p2 : (0 : Int) ≤ (b : Int) + (i : Int) := by omega
      have q2 : (b : Int) + (i : Int) < (d.size : Int) := by omega
      have r2 : IntKind.i64.wrap ((b : Int) + (i : Int)) = (b : Int) + (i : Int) := by rw [IntKind.wrap_i64]; omega
      have S2 := Lib.hid (S1.out.swapped R (a + i) (b + i) (by omega) (by omega))
      obtain ⟨⟨c1, c2⟩, f1, f2⟩ := SW.cells S1.out.drew R (by rw [hds, HS.out]) (a + i) (by omega)
      obtain ⟨⟨c3, c4⟩, f3, f4⟩ := SW.cells S1.out.drew R (by rw [hds, HS.out]) (b + i) (by omega)
      obtain ⟨⟨d1, d2⟩, g1, g2⟩ := SW.cells S1.out R (by rw [hds, HS.out]) (a + i) (by omega)
      obtain ⟨⟨d3, d4⟩, g3, g4⟩ := SW.cells S1.out R (by rw [hds, HS.out]) (b + i) (by omega)
      obtain ⟨x, hx⟩ : ∃ x, x = dk[a + i]! := ⟨_, rfl⟩
      obtain ⟨y, hy⟩ : ∃ x, x = dk[b + i]! := ⟨_, rfl⟩
      rw [← hx] at c1 c2 d1 d2
      rw [← hy] at c3 c4 d3 d4
      rw [← hx, ← hy] at S2
      have hne : a + i < b + i := by omega
      have HX := Lib.hid hx; have HY := Lib.hid hy; have HDS := Lib.hid hds
      clear S1 hx hy hds
      go_wp2_with fail
      go_region
      have S3 : SW w0 blk off (swp dk (a + i) (b + i)) ((((wr.setCell ⟨blk, off + (a + i) * 2, none⟩ (.string y.1)).setCell ⟨blk, off + (a + i) * 2 + 1, none⟩ (.string y.2)).setCell ⟨blk, off + (b + i) * 2, none⟩ (.string x.1)).setCell ⟨blk, off + (b + i) * 2 + 1, none⟩ (.string x.2)).drew := S2.out
      have HS3 := Lib.hid S3
      clear S3 S2 c1 c2 c3 c4 d1 d2 d3 d4 f1 f2 f3 f4 g1 g2 g3 g4
      generalize ((((wr.setCell ⟨blk, off + (a + i) * 2, none⟩ (.string y.1)).setCell ⟨blk, off + (a + i) * 2 + 1, none⟩ (.string y.2)).setCell ⟨blk, off + (b + i) * 2, none⟩ (.string x.1)).setCell ⟨blk, off + (b + i) * 2 + 1, none⟩ (.string x.2)).drew = w2 at HS3 ⊢
      go_wp2
      go_roundg (n - (i + 1))
      case measure => omega
      case rel => exact ⟨i + 1, swp dk (a + i) (b + i), by go_num, by omega, by omega, by rw [size_swp]; exact HDS.out, HS3, Lib.hid (swapR_step HX0.out HY0.out HA.out HB.out HL.out hlt)⟩
    · have hlt' : ¬ (i : Int) < (n : Int) := by omega
      have e : i = n := by omega
      have HL2 := Lib.hid (show dk.toList = P ++ Y ++ M ++ X ++ Z by
        rw [HL.out, e, List.take_of_length_le (by rw [HY0.out]; omega), List.drop_of_length_le (by rw [HX0.out]; omega), List.take_of_length_le (by rw [HX0.out]; omega), List.drop_of_length_le (by rw [HY0.out]; omega)]
        simp)
      go_wp2
      go_end0
      exact ⟨rfl, dk, by rw [HL2.out]; simp, S1.out⟩
end Go.Proofs.Yteamnjaepgfcmaa
