/-
  slices.symMergeCmpFunc at attributes, where the second list has one element.
-/
import Derived.Test.YteamnjaepgfcmaaSymA
namespace Go.Proofs.Yteamnjaepgfcmaa
open Go.RowKit Go.Sort Go.Lib
set_option linter.unusedVariables false
set_option maxHeartbeats 4000000 in
set_option maxRecDepth 1000000 in
theorem symB (blk off cap a m b : Nat) (d0 d : Array At) (w0 w : World) (R : RK w0 blk off d0) (hs : d.size = d0.size) (S : SW w0 blk off d w) (hsz : d.size < 4611686018427387904)
    (P X Z : List At) (y : At) (hd : d.toList = P ++ X ++ (y :: Z)) (ha : P.length = a) (hm : a + X.length = m) (hb : m + 1 = b) (hX : Srt X) (hX1 : X.length ≠ 1) :
    Calls Try.prog 64 #[.slice (some ⟨blk, off, none⟩) d.size cap, .int .i64 a, .int .i64 m, .int .i64 b, cmpV] w (SymPost w0 blk off P X [y] Z) := by
  have hlen : b ≤ d.size := by rw [size_list' hd]; simp; omega
  have HX := Lib.hid (show d[m]! = y from at_list (L1 := P ++ X) (L2 := Z) hd (by simp; omega))
  have HS := Lib.hid hs; have S0 := Lib.hid S; have HD := Lib.hid hd; have HA := Lib.hid ha; have HB := Lib.hid hm; have HY := Lib.hid hX
  have hma : ((m : Int) - (a : Int) == 1) = false := by rw [beq_eq_false_iff_ne]; omega
  have hmb : (b : Int) - (m : Int) = 1 := by omega
  have ham : a ≤ m := by omega
  have hbm : m < b := by omega
  have eg : ∀ args w, (callFunc 42 args).run Try.prog w = .ok (.enter 42 args) w := enters_of Try.func42 (by kernel_rfl) rfl
  clear hs S hd ha hm hX hX1 hb
  go_enter Try.func64, Try.ntmps64
  go_wp2
  go_loopg [14, 15, 16] (m - a) (fun g s10 s11 _ wr => ∃ i j : Nat, s10 = .int .i64 i ∧ s11 = .int .i64 j ∧ a ≤ i ∧ i ≤ j ∧ j ≤ m ∧ j - i ≤ g ∧ RowKit.Hid (SW w0 blk off d wr) ∧ RowKit.Hid (i = a ∨ ¬ cmpN y.1 d[i - 1]!.1 < 0) ∧ RowKit.Hid (j = m ∨ cmpN y.1 d[j]!.1 < 0))
  case atStart => exact ⟨a, m, rfl, rfl, by omega, by omega, by omega, by omega, S0, Lib.hid (.inl rfl), Lib.hid (.inl rfl)⟩
  case round =>
    clear S0
    obtain ⟨i, j, rfl, rfl, hai, hij, hjm, hg, S1, HI, HJ⟩ := hrel
    by_cases hlt : i < j
    · have h1 : (i : Int) < (j : Int) := by omega
      obtain ⟨h, hh⟩ : ∃ h, h = (i + j) / 2 := ⟨_, rfl⟩
      have hhb := half_le hlt
      rw [← hh] at hhb
      have eh : ((i : Int) + (j : Int)) / 2 = (h : Int) := by omega
      have HH := Lib.hid hh
      clear hh
      obtain ⟨x, hx⟩ : ∃ x, x = d[h]! := ⟨_, rfl⟩
      have c1 : ∀ n os, (grow (wr.drewN n) os).cell? ⟨blk, off + h * 2, none⟩ = some (.string x.1) := fun n os => by rw [hx]; exact (SW.cells (S1.out.grown n os) R HS.out h (by omega)).1.1
      have c2 : ∀ n os, (grow (wr.drewN n) os).cell? ⟨blk, off + h * 2 + 1, none⟩ = some (.string x.2) := fun n os => by rw [hx]; exact (SW.cells (S1.out.grown n os) R HS.out h (by omega)).1.2
      have c3 : ∀ n os, (grow (wr.drewN n) os).cell? ⟨blk, off + m * 2, none⟩ = some (.string y.1) := fun n os => by rw [← HX.out]; exact (SW.cells (S1.out.grown n os) R HS.out m (by omega)).1.1
      have c4 : ∀ n os, (grow (wr.drewN n) os).cell? ⟨blk, off + m * 2 + 1, none⟩ = some (.string y.2) := fun n os => by rw [← HX.out]; exact (SW.cells (S1.out.grown n os) R HS.out m (by omega)).1.2
      have HYY := Lib.hid hx
      clear hx
      have hcg : ∀ n os, Calls Try.prog 42 #[.agg #[.string y.1, .string y.2], .agg #[.string x.1, .string x.2]] (grow (wr.drewN n) os) fun e w' => e = .returned (.int .i64 (cmpN y.1 x.1)) ∧ ∃ q os', w' = grow ((grow (wr.drewN n) os).drewN q) os' := fun n os => cmpGrown y x _
      have mixed : Try.prog.follows .mixedOrders = true := by kernel_rfl
      have b1 : (h : Int) < (d.size : Int) := by omega
      have b2 : (m : Int) < (d.size : Int) := by omega
      by_cases hc : cmpN y.1 x.1 < 0
      · have hc' : decide (cmpN y.1 x.1 < 0) = true := decide_eq_true hc
        have HCC := Lib.hid hc
        have hc2 : decide (0 ≤ cmpN y.1 x.1) = false := decide_eq_false (by omega)
        generalize cmpN y.1 x.1 = r at hcg hc' hc hc2
        go_wp2_with fail
        go_quiet_grown (first | (go_at_fn 42; refine Calls.grown_of (hcg _ _)))
        go_wp2_with fail
        go_roundg (h - i)
        case measure => omega
        case rel => exact ⟨i, h, rfl, rfl, by omega, by omega, by omega, by omega, Lib.hid (S1.out.grown nq osq), HI, Lib.hid (.inr (by rw [← HYY.out]; exact HCC.out))⟩
      · have hc' : decide (cmpN y.1 x.1 < 0) = false := decide_eq_false hc
        have HCC := Lib.hid hc
        have hc2 : decide (0 ≤ cmpN y.1 x.1) = true := decide_eq_true (by omega)
        have hc3 : 0 ≤ cmpN y.1 x.1 := by omega
        generalize cmpN y.1 x.1 = r at hcg hc' hc hc2 hc3
        go_wp2_with fail
        go_quiet_grown (first | (go_at_fn 42; refine Calls.grown_of (hcg _ _)))
        go_wp2_with fail
        go_roundg (j - (h + 1))
        case measure => omega
        case rel => exact ⟨h + 1, j, by go_num, rfl, by omega, by omega, by omega, by omega, Lib.hid (S1.out.grown nq osq), Lib.hid (.inr (by rw [Nat.add_sub_cancel, ← HYY.out]; exact HCC.out)), HJ⟩
    · have h1 : ¬ (i : Int) < (j : Int) := by omega
      have e : i = j := by omega
      subst e
      have HF := Lib.hid (pull_facts HD.out HA.out HB.out hai hjm HY.out HI.out HJ.out)
      have HD2 := Lib.hid (show d.toList = P ++ (X.take (m - a) ++ y :: X.drop (m - a)) ++ Z by
        have hl : m - a = X.length := by have := HB.out; omega
        rw [HD.out, hl]; simp)
      have hlx : m - a ≤ X.length := by have := HB.out; omega
      clear HI HJ h1 HD
      go_wp2_with fail
      go_loopg [17] (m - i) (fun g s13 wr2 => ∃ (k : Nat) (dk : Array At), s13 = .int .i64 (k : Int) ∧ i ≤ k ∧ k ≤ m ∧ k - i ≤ g ∧ dk.size = d.size ∧ RowKit.Hid (SW w0 blk off dk wr2) ∧ RowKit.Hid (dk.toList = P ++ (X.take (k - a) ++ y :: X.drop (k - a)) ++ Z))
      case atStart => exact ⟨m, d, rfl, by omega, by omega, by omega, rfl, S1, HD2⟩
      case round =>
        clear HD2 S1
        obtain ⟨k0, dk, rfl, hik, hkm, hg2, hds, S2, HL⟩ := hrel
        by_cases hlt2 : i < k0
        · obtain ⟨k, rfl⟩ : ∃ k, k0 = k + 1 := ⟨k0 - 1, by omega⟩
          have h3 : (i : Int) < (k : Int) + 1 := by omega
          have i1 : ((k : Int) + 1).toNat = k + 1 := by omega
          have p1 : (0 : Int) ≤ (k : Int) + 1 := by omega
          have q1 : (k : Int) + 1 < (d.size : Int) := by omega
          have q2 : (k : Int) < (d.size : Int) := by omega
          have S3 := Lib.hid (S2.out.swapped R (k + 1) k (by omega) (by omega))
          obtain ⟨⟨c1, c2⟩, f1, f2⟩ := SW.cells S2.out.drew R (by rw [hds, HS.out]) (k + 1) (by omega)
          obtain ⟨⟨c3, c4⟩, f3, f4⟩ := SW.cells S2.out.drew R (by rw [hds, HS.out]) k (by omega)
          obtain ⟨⟨d1, d2⟩, g1, g2⟩ := SW.cells S2.out R (by rw [hds, HS.out]) (k + 1) (by omega)
          obtain ⟨⟨d3, d4⟩, g3, g4⟩ := SW.cells S2.out R (by rw [hds, HS.out]) k (by omega)
          obtain ⟨u, hu⟩ : ∃ x, x = dk[k + 1]! := ⟨_, rfl⟩
          obtain ⟨v, hv⟩ : ∃ x, x = dk[k]! := ⟨_, rfl⟩
          rw [← hu] at c1 c2 d1 d2
          rw [← hv] at c3 c4 d3 d4
          rw [← hu, ← hv] at S3
          have HDS := Lib.hid hds
          clear S2 hu hv hds
          go_wp2_with fail
          go_region
          have S4 : SW w0 blk off (swp dk (k + 1) k) ((((wr.setCell ⟨blk, off + (k + 1) * 2, none⟩ (.string v.1)).setCell ⟨blk, off + (k + 1) * 2 + 1, none⟩ (.string v.2)).setCell ⟨blk, off + k * 2, none⟩ (.string u.1)).setCell ⟨blk, off + k * 2 + 1, none⟩ (.string u.2)).drew := S3.out
          have HS4 := Lib.hid S4
          clear S4 S3 c1 c2 c3 c4 d1 d2 d3 d4 f1 f2 f3 f4 g1 g2 g3 g4
          generalize ((((wr.setCell ⟨blk, off + (k + 1) * 2, none⟩ (.string v.1)).setCell ⟨blk, off + (k + 1) * 2 + 1, none⟩ (.string v.2)).setCell ⟨blk, off + k * 2, none⟩ (.string u.1)).setCell ⟨blk, off + k * 2 + 1, none⟩ (.string u.2)).drew = w2 at HS4 ⊢
          go_wp2
          go_roundg (k - i)
          case measure => omega
          case rel =>
            refine ⟨k, swp dk (k + 1) k, by go_num, by omega, by omega, by omega, by rw [size_swp]; exact HDS.out, HS4, Lib.hid ?_⟩
            have hl := HL.out
            rw [show k + 1 - a = k - a + 1 by omega] at hl
            have := carry_back HA.out (t := k - a) (by omega) hl
            rwa [show a + (k - a) + 1 = k + 1 by omega, show a + (k - a) = k by omega] at this
        · have h3 : ¬ (i : Int) < (k0 : Int) := by omega
          have e : k0 = i := by omega
          go_wp2_with fail
          refine bodyPost_ret (results_none rfl _ _ _) rfl ?_
          refine ⟨rfl, dk, _, HL.out, ?_, ?_, ?_, S2.out⟩
          · simp; omega
          · rw [e]; exact HF.out.1
          · rw [e]; exact HF.out.2
end Go.Proofs.Yteamnjaepgfcmaa
