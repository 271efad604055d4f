/-
  slices.symMergeCmpFunc at attributes, where the first list has one element.
-/
import Derived.Test.YteamnjaepgfcmaaSymMath
import Derived.Test.YteamnjaepgfcmaaCmp
import Derived.BigRegion
namespace Go.Proofs.Yteamnjaepgfcmaa
open Go.RowKit Go.Sort Go.Lib
set_option linter.unusedVariables false
/-- What a merge leaves. -/
def SymPost (w0 : World) (blk off : Nat) (P X Y Z : List At) (e : Ending) (w' : World) : Prop :=
  e = .returned (.tuple #[]) ∧ ∃ (d' : Array At) (S : List At), d'.toList = P ++ S ++ Z ∧ S.length = X.length + Y.length ∧ Srt S ∧ Stb (X ++ Y) S ∧ SW w0 blk off d' w'
abbrev cmpV : Value := .func (.func 42) #[] #[]
theorem half_le {i j : Nat} (h : i < j) : i ≤ (i + j) / 2 ∧ (i + j) / 2 < j := by omega
set_option maxHeartbeats 4000000 in
set_option maxRecDepth 1000000 in
theorem symA (blk off cap a m b : Nat) (d0 d : Array At) (w0 w : World) (R : RK w0 blk off d0) (hs : d.size = d0.size) (S : SW w0 blk off d w) (hsz : d.size < 4611686018427387904)
    (P Y Z : List At) (x : At) (hd : d.toList = P ++ (x :: Y) ++ Z) (ha : P.length = a) (hm : a + 1 = m) (hb : m + Y.length = b) (hY : Srt Y) :
    Calls Try.prog 64 #[.slice (some ⟨blk, off, none⟩) d.size cap, .int .i64 a, .int .i64 m, .int .i64 b, cmpV] w (SymPost w0 blk off P [x] Y Z) := by
  have hlen : b ≤ d.size := by rw [size_list' hd]; simp; omega
  have HX := Lib.hid (show d[a]! = x from at_list (L2 := Y ++ Z) (by rw [hd]; simp) ha.symm)
  have HS := Lib.hid hs; have S0 := Lib.hid S; have HD := Lib.hid hd; have HA := Lib.hid ha; have HB := Lib.hid hb; have HY := Lib.hid hY
  have hmb : m ≤ b := by omega
  have hma : (m : Int) - (a : Int) = 1 := by omega
  have eg : ∀ args w, (callFunc 42 args).run Try.prog w = .ok (.enter 42 args) w := enters_of Try.func42 (by kernel_rfl) rfl
  clear hs S hd ha hb hY
  go_enter Try.func64, Try.ntmps64
  go_wp2
  go_loopg [10, 11, 12] (b - m) (fun g s10 s11 _ wr => ∃ i j : Nat, s10 = .int .i64 i ∧ s11 = .int .i64 j ∧ m ≤ i ∧ i ≤ j ∧ j ≤ b ∧ j - i ≤ g ∧ RowKit.Hid (SW w0 blk off d wr) ∧ RowKit.Hid (i = m ∨ cmpN d[i - 1]!.1 x.1 < 0) ∧ RowKit.Hid (j = b ∨ ¬ cmpN d[j]!.1 x.1 < 0))
  case atStart => exact ⟨m, b, rfl, rfl, by omega, by omega, by omega, by omega, S0, Lib.hid (.inl rfl), Lib.hid (.inl rfl)⟩
  case round =>
    clear S0
    obtain ⟨i, j, rfl, rfl, hmi, hij, hjb, hg, S1, HI, HJ⟩ := hrel
    by_cases hlt : i < j
    · have h1 : (i : Int) < (j : Int) := by omega
      obtain ⟨h, hh⟩ : ∃ h, h = (i + j) / 2 := ⟨_, rfl⟩
      have hhb := half_le hlt
      rw [← hh] at hhb
      have eh : ((i : Int) + (j : Int)) / 2 = (h : Int) := by omega
      have HH := Lib.hid hh
      clear hh
      obtain ⟨y, hy⟩ : ∃ y, y = d[h]! := ⟨_, rfl⟩
      have c1 : ∀ n os, (grow (wr.drewN n) os).cell? ⟨blk, off + h * 2, none⟩ = some (.string y.1) := fun n os => by rw [hy]; exact (SW.cells (S1.out.grown n os) R HS.out h (by omega)).1.1
      have c2 : ∀ n os, (grow (wr.drewN n) os).cell? ⟨blk, off + h * 2 + 1, none⟩ = some (.string y.2) := fun n os => by rw [hy]; exact (SW.cells (S1.out.grown n os) R HS.out h (by omega)).1.2
      have c3 : ∀ n os, (grow (wr.drewN n) os).cell? ⟨blk, off + a * 2, none⟩ = some (.string x.1) := fun n os => by rw [← HX.out]; exact (SW.cells (S1.out.grown n os) R HS.out a (by omega)).1.1
      have c4 : ∀ n os, (grow (wr.drewN n) os).cell? ⟨blk, off + a * 2 + 1, none⟩ = some (.string x.2) := fun n os => by rw [← HX.out]; exact (SW.cells (S1.out.grown n os) R HS.out a (by omega)).1.2
      have HYY := Lib.hid hy
      clear hy
      have hcg : ∀ n os, Calls Try.prog 42 #[.agg #[.string y.1, .string y.2], .agg #[.string x.1, .string x.2]] (grow (wr.drewN n) os) fun e w' => e = .returned (.int .i64 (cmpN y.1 x.1)) ∧ ∃ q os', w' = grow ((grow (wr.drewN n) os).drewN q) os' := fun n os => cmpGrown y x _
      have mixed : Try.prog.follows .mixedOrders = true := by kernel_rfl
      have b1 : (h : Int) < (d.size : Int) := by omega
      have b2 : (a : Int) < (d.size : Int) := by omega
      by_cases hc : cmpN y.1 x.1 < 0
      · have hc' : decide (cmpN y.1 x.1 < 0) = true := decide_eq_true hc
        generalize cmpN y.1 x.1 = r at hcg hc'
        go_wp2_with fail
        go_quiet_grown (first | (go_at_fn 42; refine Calls.grown_of (hcg _ _)))
        go_wp2_with fail
        go_roundg (j - (h + 1))
        case measure => omega
        case rel => exact ⟨h + 1, j, by go_num, rfl, by omega, by omega, by omega, by omega, Lib.hid (S1.out.grown nq osq), Lib.hid (.inr (by rw [Nat.add_sub_cancel, ← HYY.out]; exact hc)), HJ⟩
      · have hc' : decide (cmpN y.1 x.1 < 0) = false := decide_eq_false hc
        generalize cmpN y.1 x.1 = r at hcg hc'
        go_wp2_with fail
        go_quiet_grown (first | (go_at_fn 42; refine Calls.grown_of (hcg _ _)))
        go_wp2_with fail
        go_roundg (h - i)
        case measure => omega
        case rel => exact ⟨i, h, rfl, rfl, by omega, by omega, by omega, by omega, Lib.hid (S1.out.grown nq osq), HI, Lib.hid (.inr (by rw [← HYY.out]; exact hc))⟩
    · have h1 : ¬ (i : Int) < (j : Int) := by omega
      have e : i = j := by omega
      subst e
      have HF := Lib.hid (put_facts HD.out HA.out hm HB.out hmi hjb HY.out HI.out HJ.out)
      have HD2 := Lib.hid (show d.toList = P ++ (Y.take 0 ++ x :: Y.drop 0) ++ Z by rw [HD.out]; simp)
      have hly : i - m ≤ Y.length := by have := HB.out; omega
      clear HI HJ h1 HD
      go_wp2_with fail
      go_loopg [13] (i - m) (fun g s13 wr2 => ∃ (t : Nat) (dk : Array At), s13 = .int .i64 ((a : Int) + t) ∧ t ≤ i - m ∧ i - m - t ≤ g ∧ dk.size = d.size ∧ RowKit.Hid (SW w0 blk off dk wr2) ∧ RowKit.Hid (dk.toList = P ++ (Y.take t ++ x :: Y.drop t) ++ Z))
      case atStart => exact ⟨0, d, by simp, by omega, by omega, rfl, S1, HD2⟩
      case round =>
        clear HD2 S1
        obtain ⟨t, dk, rfl, hti, hg2, hds, S2, HL⟩ := hrel
        by_cases hlt2 : t < i - m
        · have h3 : (a : Int) + (t : Int) < (i : Int) - 1 := by omega
          have i1 : ((a : Int) + (t : Int)).toNat = a + t := by omega
          have p1 : (0 : Int) ≤ (a : Int) + (t : Int) := by omega
          have q1 : (a : Int) + (t : Int) < (d.size : Int) := by omega
          have i2 : ((a : Int) + (t : Int) + 1).toNat = a + t + 1 := by omega
          have p2 : (0 : Int) ≤ (a : Int) + (t : Int) + 1 := by omega
          have q2 : (a : Int) + (t : Int) + 1 < (d.size : Int) := by omega
          have S3 := Lib.hid (S2.out.swapped R (a + t) (a + t + 1) (by omega) (by omega))
          obtain ⟨⟨c1, c2⟩, f1, f2⟩ := SW.cells S2.out.drew R (by rw [hds, HS.out]) (a + t) (by omega)
          obtain ⟨⟨c3, c4⟩, f3, f4⟩ := SW.cells S2.out.drew R (by rw [hds, HS.out]) (a + t + 1) (by omega)
          obtain ⟨⟨d1, d2⟩, g1, g2⟩ := SW.cells S2.out R (by rw [hds, HS.out]) (a + t) (by omega)
          obtain ⟨⟨d3, d4⟩, g3, g4⟩ := SW.cells S2.out R (by rw [hds, HS.out]) (a + t + 1) (by omega)
          obtain ⟨u, hu⟩ : ∃ x, x = dk[a + t]! := ⟨_, rfl⟩
          obtain ⟨v, hv⟩ : ∃ x, x = dk[a + t + 1]! := ⟨_, rfl⟩
          rw [← hu] at c1 c2 d1 d2
          rw [← hv] at c3 c4 d3 d4
          rw [← hu, ← hv] at S3
          have HDS := Lib.hid hds
          clear S2 hu hv hds
          go_wp2_with fail
          go_region
          have S4 : SW w0 blk off (swp dk (a + t) (a + t + 1)) ((((wr.setCell ⟨blk, off + (a + t) * 2, none⟩ (.string v.1)).setCell ⟨blk, off + (a + t) * 2 + 1, none⟩ (.string v.2)).setCell ⟨blk, off + (a + t + 1) * 2, none⟩ (.string u.1)).setCell ⟨blk, off + (a + t + 1) * 2 + 1, none⟩ (.string u.2)).drew := S3.out
          have HS4 := Lib.hid S4
          clear S4 S3 c1 c2 c3 c4 d1 d2 d3 d4 f1 f2 f3 f4 g1 g2 g3 g4
          generalize ((((wr.setCell ⟨blk, off + (a + t) * 2, none⟩ (.string v.1)).setCell ⟨blk, off + (a + t) * 2 + 1, none⟩ (.string v.2)).setCell ⟨blk, off + (a + t + 1) * 2, none⟩ (.string u.1)).setCell ⟨blk, off + (a + t + 1) * 2 + 1, none⟩ (.string u.2)).drew = w2 at HS4 ⊢
          go_wp2
          go_roundg (i - m - (t + 1))
          case measure => omega
          case rel => exact ⟨t + 1, swp dk (a + t) (a + t + 1), by go_num, by omega, by omega, by rw [size_swp]; exact HDS.out, HS4, Lib.hid (carry_step HA.out (by omega) HL.out)⟩
        · have h3 : ¬ (a : Int) + (t : Int) < (i : Int) - 1 := by omega
          have e : t = i - m := by omega
          go_wp2_with fail
          refine bodyPost_ret (results_none rfl _ _ _) rfl ?_
          refine ⟨rfl, dk, _, HL.out, ?_, ?_, ?_, S2.out⟩
          · simp; omega
          · rw [e]; exact HF.out.1
          · rw [e]; exact HF.out.2
end Go.Proofs.Yteamnjaepgfcmaa
