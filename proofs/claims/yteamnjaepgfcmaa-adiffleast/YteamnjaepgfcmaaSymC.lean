/-
  slices.symMergeCmpFunc at attributes: the general way, by recursion.
-/
import Derived.Test.YteamnjaepgfcmaaSymB
import Derived.Test.YteamnjaepgfcmaaRot
import Derived.Deep.DeepCutAuto
namespace Go.Proofs.Yteamnjaepgfcmaa
open Go.RowKit Go.Sort Go.Lib
set_option linter.unusedVariables false
/-- What the recursion knows. -/
def SymAll (blk off cap : Nat) (d0 : Array At) (w0 : World) (N : Nat) : Prop :=
  ∀ (a m b : Nat) (d : Array At) (w : World) (P X Y Z : List At), b - a ≤ N → d.size = d0.size → SW w0 blk off d w → d.toList = P ++ X ++ Y ++ Z → P.length = a → a + X.length = m → m + Y.length = b → 0 < X.length → 0 < Y.length → Srt X → Srt Y →
    Calls Try.prog 64 #[.slice (some ⟨blk, off, none⟩) d0.size cap, .int .i64 a, .int .i64 m, .int .i64 b, cmpV] w (SymPost w0 blk off P X Y Z)
def St0 (a m b mid s0 r0 : Nat) : Prop := a ≤ s0 ∧ s0 ≤ r0 ∧ r0 ≤ m ∧ r0 ≤ mid ∧ mid + m ≤ b + s0 ∧ (s0 = a ∨ mid + m = b + s0) ∧ (r0 = m ∨ r0 = mid)
set_option maxHeartbeats 8000000 in
set_option maxRecDepth 1000000 in
theorem symC (blk off cap a m b N : Nat) (d0 d : Array At) (w0 w : World) (R : RK w0 blk off d0) (IH : SymAll blk off cap d0 w0 N) (hbN : b - a ≤ N + 1) (hs : d.size = d0.size) (S : SW w0 blk off d w) (hsz : d0.size < 4611686018427387904)
    (P X Y Z : List At) (hd : d.toList = P ++ X ++ Y ++ Z) (ha : P.length = a) (hm : a + X.length = m) (hb : m + Y.length = b) (hX : Srt X) (hY : Srt Y) (hX1 : 2 ≤ X.length) (hY1 : 2 ≤ Y.length) :
    Calls Try.prog 64 #[.slice (some ⟨blk, off, none⟩) d0.size cap, .int .i64 a, .int .i64 m, .int .i64 b, cmpV] w (SymPost w0 blk off P X Y Z) := by
  have hlen : b ≤ d0.size := by rw [← hs, size_list' hd]; simp; omega
  have HS := Lib.hid hs; have S0 := Lib.hid S; have HD := Lib.hid hd; have HA := Lib.hid ha; have HM := Lib.hid hm; have HB := Lib.hid hb; have HX := Lib.hid hX; have HY := Lib.hid hY
  have HIH := Lib.hid IH
  have hma : ((m : Int) - (a : Int) == 1) = false := by rw [beq_eq_false_iff_ne]; omega
  have hmb : ((b : Int) - (m : Int) == 1) = false := by rw [beq_eq_false_iff_ne]; omega
  have ham : a + 2 ≤ m := by omega
  have hbm : m + 2 ≤ b := by omega
  obtain ⟨mid, hmid⟩ : ∃ mid, mid = (a + b) / 2 := ⟨_, rfl⟩
  have emid : ((a : Int) + (b : Int)) / 2 = (mid : Int) := by omega
  have bm1 : a < mid := by omega
  have bm2 : mid < b := by omega
  have bm3 : 2 * mid ≤ a + b ∧ a + b ≤ 2 * mid + 1 := by omega
  have eg : ∀ args w, (callFunc 42 args).run Try.prog w = .ok (.enter 42 args) w := enters_of Try.func42 (by kernel_rfl) rfl
  clear hs S hd ha hm hb hX hY hX1 hY1 IH hmid
  go_enter Try.func64, Try.ntmps64
  go_upto_if 140 with fail
  go_cut [20, 21] from 138 (fun s20 s21 wc => wc = w ∧ ∃ s0 r0 : Nat, s20 = .int .i64 s0 ∧ s21 = .int .i64 r0 ∧ St0 a m b mid s0 r0)
  case first =>
    by_cases h : m > mid
    · have h' : (m : Int) > (mid : Int) := by omega
      go_wp2_with fail
      go_meet
      case rel => exact ⟨rfl, mid + m - b, mid, by congr 1; omega, rfl, by unfold St0; omega⟩
    · have h' : ¬ (m : Int) > (mid : Int) := by omega
      go_wp2_with fail
      go_meet
      case rel => exact ⟨rfl, a, m, rfl, rfl, by unfold St0; omega⟩
  case rest =>
    obtain ⟨rfl, s0, r0, rfl, rfl, hst⟩ := hcut
    unfold St0 at hst
    obtain ⟨k1, k2, k3, k4, k5, k6, k7⟩ := hst
    obtain ⟨p, hp⟩ : ∃ p, p = mid + m - 1 := ⟨_, rfl⟩
    have ep : (mid : Int) + (m : Int) - 1 = (p : Int) := by omega
    have hp1 : p + 1 ≤ mid + m := by omega
    have hp2 : mid + m ≤ p + 1 := by omega
    clear hp
    go_wp2_with fail
    go_loopg [20, 21, 23] (r0 - s0) (fun g s20 s21 _ wr => ∃ s r : Nat, s20 = .int .i64 s ∧ s21 = .int .i64 r ∧ s0 ≤ s ∧ s ≤ r ∧ r ≤ r0 ∧ r - s ≤ g ∧ RowKit.Hid (SW w0 blk off d wr) ∧ RowKit.Hid (s = s0 ∨ ¬ cmpN d[mid + m - s]!.1 d[s - 1]!.1 < 0) ∧ RowKit.Hid (r = r0 ∨ cmpN d[mid + m - 1 - r]!.1 d[r]!.1 < 0))
    case atStart => exact ⟨s0, r0, rfl, rfl, by omega, by omega, by omega, by omega, S0, Lib.hid (.inl rfl), Lib.hid (.inl rfl)⟩
    case round =>
      clear S0
      obtain ⟨s, r, rfl, rfl, hs0, hsr, hr0, hg, S1, HI, HJ⟩ := hrel
      by_cases hlt : s < r
      · have h1 : (s : Int) < (r : Int) := by omega
        obtain ⟨c, hh⟩ : ∃ h, h = (s + r) / 2 := ⟨_, rfl⟩
        have hhb := half_le hlt
        rw [← hh] at hhb
        have eh : ((s : Int) + (r : Int)) / 2 = (c : Int) := by omega
        clear hh
        obtain ⟨q, hq⟩ : ∃ q, q = mid + m - 1 - c := ⟨_, rfl⟩
        have eq1 : (p : Int) - (c : Int) = (q : Int) := by omega
        have eq2 : IntKind.i64.wrap (q : Int) = (q : Int) := by rw [IntKind.wrap_i64]; omega
        have HQ := Lib.hid hq
        have hqb : q < d0.size := by omega
        clear hq
        have hds := HS.out
        obtain ⟨x, hx⟩ : ∃ x, x = d[c]! := ⟨_, rfl⟩
        obtain ⟨y, hy⟩ : ∃ x, x = d[q]! := ⟨_, rfl⟩
        have c1 : ∀ n os, (grow (wr.drewN n) os).cell? ⟨blk, off + c * 2, none⟩ = some (.string x.1) := fun n os => by rw [hx]; exact (SW.cells (S1.out.grown n os) R HS.out c (by omega)).1.1
        have c2 : ∀ n os, (grow (wr.drewN n) os).cell? ⟨blk, off + c * 2 + 1, none⟩ = some (.string x.2) := fun n os => by rw [hx]; exact (SW.cells (S1.out.grown n os) R HS.out c (by omega)).1.2
        have c3 : ∀ n os, (grow (wr.drewN n) os).cell? ⟨blk, off + q * 2, none⟩ = some (.string y.1) := fun n os => by rw [hy]; exact (SW.cells (S1.out.grown n os) R HS.out q (by omega)).1.1
        have c4 : ∀ n os, (grow (wr.drewN n) os).cell? ⟨blk, off + q * 2 + 1, none⟩ = some (.string y.2) := fun n os => by rw [hy]; exact (SW.cells (S1.out.grown n os) R HS.out q (by omega)).1.2
        have HXX := Lib.hid hx; have HYY := Lib.hid hy
        clear hx hy hds
        have hcg : ∀ n os, Calls Try.prog 42 #[.agg #[.string y.1, .string y.2], .agg #[.string x.1, .string x.2]] (grow (wr.drewN n) os) fun e w' => e = .returned (.int .i64 (cmpN y.1 x.1)) ∧ ∃ q os', w' = grow ((grow (wr.drewN n) os).drewN q) os' := fun n os => cmpGrown y x _
        have mixed : Try.prog.follows .mixedOrders = true := by kernel_rfl
        have b1 : (c : Int) < (d0.size : Int) := by omega
        have b2 : (q : Int) < (d0.size : Int) := by omega
        by_cases hc : cmpN y.1 x.1 < 0
        · have hc' : decide (cmpN y.1 x.1 < 0) = true := decide_eq_true hc
          have HCC := Lib.hid hc
          have hc2 : decide (0 ≤ cmpN y.1 x.1) = false := decide_eq_false (by omega)
          generalize cmpN y.1 x.1 = rr at hcg hc' hc hc2
          go_wp2_with fail
          go_quiet_grown (first | (go_at_fn 42; refine Calls.grown_of (hcg _ _)))
          go_wp2_with fail
          go_roundg (c - s)
          case measure => omega
          case rel => exact ⟨s, c, rfl, rfl, by omega, by omega, by omega, by omega, Lib.hid (S1.out.grown nq osq), HI, Lib.hid (.inr (by rw [← HQ.out, ← HXX.out, ← HYY.out]; exact HCC.out))⟩
        · have hc' : decide (cmpN y.1 x.1 < 0) = false := decide_eq_false hc
          have HCC := Lib.hid hc
          have hc2 : decide (0 ≤ cmpN y.1 x.1) = true := decide_eq_true (by omega)
          have hc3 : 0 ≤ cmpN y.1 x.1 := by omega
          generalize cmpN y.1 x.1 = rr at hcg hc' hc hc2 hc3
          go_wp2_with fail
          go_quiet_grown (first | (go_at_fn 42; refine Calls.grown_of (hcg _ _)))
          go_wp2_with fail
          go_roundg (r - (c + 1))
          case measure => omega
          case rel => exact ⟨c + 1, r, by go_num, rfl, by omega, by omega, by omega, by omega, Lib.hid (S1.out.grown nq osq), Lib.hid (.inr (by rw [Nat.add_sub_cancel, show mid + m - (c + 1) = q by rw [HQ.out]; omega, ← HXX.out, ← HYY.out]; exact HCC.out)), HJ⟩
      · have h1 : ¬ (s : Int) < (r : Int) := by omega
        have e : s = r := by omega
        subst e
        obtain ⟨en, hen⟩ : ∃ e, e = mid + m - s := ⟨_, rfl⟩
        have een : (mid : Int) + (m : Int) - (s : Int) = (en : Int) := by omega
        have HF := Lib.hid (cut_facts (s := s) (e := en) HD.out HA.out HM.out HB.out (by omega) (by omega) (by omega) (by omega) HX.out HY.out
          (by rcases HI.out with h | h
              · rcases k6 with h6 | h6
                · exact .inl (by omega)
                · exact .inr (.inl (by omega))
              · exact .inr (.inr (by rw [hen]; exact h)))
          (by rcases HJ.out with h | h
              · rcases k7 with h7 | h7
                · exact .inl (by omega)
                · exact .inr (.inl (by omega))
              · exact .inr (.inr (by rw [hen, show mid + m - s - 1 = mid + m - 1 - s by omega]; exact h))))
        obtain ⟨A1, A2, B1, B2, hA1, hA2, hB1, hB2, eX, eY, HF⟩ : ∃ A1 A2 B1 B2 : List At, A1.length = s - a ∧ A2.length = m - s ∧ B1.length = en - m ∧ B2.length = b - en ∧ A1 ++ A2 = X ∧ B1 ++ B2 = Y ∧ RowKit.Hid (CutOk A1 A2 B1 B2) :=
          ⟨X.take (s - a), X.drop (s - a), Y.take (en - m), Y.drop (en - m), by have := HM.out; simp; omega, by have := HM.out; simp; omega, by have := HB.out; simp; omega, by have := HB.out; simp; omega, List.take_append_drop _ _, List.take_append_drop _ _, HF⟩
        have q1 : a ≤ s := by omega
        have q2 : s ≤ m := by omega
        have q3 : m ≤ en := by omega
        have q4 : en ≤ b := by omega
        have q5 : en + s ≤ mid + m := by omega
        have q6 : mid + m ≤ en + s := by omega
        have q7 : s ≤ mid := by omega
        have q8 : mid ≤ en := by omega
        have LA1 := Lib.hid hA1; have LA2 := Lib.hid hA2; have LB1 := Lib.hid hB1; have LB2 := Lib.hid hB2; have EX := Lib.hid eX; have EY := Lib.hid eY
        clear hA1 hA2 hB1 hB2 eX eY HI HJ hen k1 k2 k3 k4 k5 k6 k7 hs0 hr0 hg hsr hp1 hp2
        go_upto_region 39 with fail
        go_cut [185] from 178 (fun s185 wc => s185 = .bool (decide (s < m ∧ m < en)) ∧ wc = wr)
        case first =>
          by_cases g1 : s < m
          · have g1' : (s : Int) < (m : Int) := by omega
            by_cases g2 : m < en
            · have g2' : (m : Int) < (en : Int) := by omega
              go_wp2_with fail
              go_meet
              case rel => exact ⟨by simp [g1, g2], rfl⟩
            · have g2' : ¬ (m : Int) < (en : Int) := by omega
              go_wp2_with fail
              go_meet
              case rel => exact ⟨by simp [g2], rfl⟩
          · have g1' : ¬ (s : Int) < (m : Int) := by omega
            go_wp2_with fail
            go_meet
            case rel => exact ⟨by simp [g1], rfl⟩
        case rest =>
          obtain ⟨rfl, rfl⟩ := hcut
          go_upto_if 185 with fail
          go_cut [] from 178 (fun wd => ∃ d2 : Array At, d2.size = d0.size ∧ SW w0 blk off d2 wd ∧ d2.toList = P ++ A1 ++ B1 ++ (A2 ++ B2) ++ Z)
          case first =>
            by_cases h : s < m ∧ m < en
            · have hb : decide (s < m ∧ m < en) = true := decide_eq_true h
              have hc := rotate_any blk off cap s m en d0 d w0 _ R HS.out S1.out (by rw [HS.out]; exact hsz) (P ++ A1) A2 B1 (B2 ++ Z) (by rw [HD.out, ← EX.out, ← EY.out]; simp) (by have := HA.out; have := LA1.out; simp; omega) (by have := HA.out; have := LA1.out; have := LA2.out; simp; omega) (by have := HA.out; have := LA1.out; have := LA2.out; have := LB1.out; simp; omega) (by have := LA2.out; omega) (by have := LB1.out; omega) cmpV (P ++ A1 ++ B1 ++ (A2 ++ B2) ++ Z) (by simp)
              rw [HS.out] at hc
              have HC := Lib.hid hc
              clear hc
              go_wp2_with (go_at_call 68; refine HC.out.mono ?_; rintro e w1 ⟨rfl, d2, hd2, S2⟩)
              go_meet
              case rel => exact ⟨d2, by rw [size_list' hd2, ← HS.out, size_list' HD.out, ← EX.out, ← EY.out]; simp; omega, S2, hd2⟩
            · have hb : decide (s < m ∧ m < en) = false := decide_eq_false h
              go_wp2_with fail
              go_meet
              case rel =>
                refine ⟨d, HS.out, S1.out, ?_⟩
                rw [HD.out, ← EX.out, ← EY.out]
                rcases (show m = s ∨ en = m by omega) with h0 | h0
                · have : A2 = [] := List.eq_nil_of_length_eq_zero (by rw [LA2.out]; omega)
                  rw [this]; simp
                · have : B1 = [] := List.eq_nil_of_length_eq_zero (by rw [LB1.out]; omega)
                  rw [this]; simp
          case rest =>
            obtain ⟨d2, hd2s, S2', hd2⟩ := hcut
            have S2 := Lib.hid S2'; have HD2S := Lib.hid hd2s; have HD2 := Lib.hid hd2
            clear S2' hd2s hd2 S1
            go_upto_region 41 with fail
            go_cut [199] from 192 (fun s199 we => s199 = .bool (decide (a < s ∧ s < mid)) ∧ we = wc)
            case first =>
              by_cases g1 : a < s
              · have g1' : (a : Int) < (s : Int) := by omega
                by_cases g2 : s < mid
                · have g2' : (s : Int) < (mid : Int) := by omega
                  go_wp2_with fail
                  go_meet
                  case rel => exact ⟨by simp [g1, g2], rfl⟩
                · have g2' : ¬ (s : Int) < (mid : Int) := by omega
                  go_wp2_with fail
                  go_meet
                  case rel => exact ⟨by simp [g2], rfl⟩
              · have g1' : ¬ (a : Int) < (s : Int) := by omega
                go_wp2_with fail
                go_meet
                case rel => exact ⟨by simp [g1], rfl⟩
            case rest =>
              obtain ⟨rfl, rfl⟩ := hcut
              go_upto_if 199 with fail
              go_cut [] from 192 (fun wf => ∃ (d3 : Array At) (S : List At), d3.size = d0.size ∧ SW w0 blk off d3 wf ∧ d3.toList = P ++ S ++ (A2 ++ B2) ++ Z ∧ S.length = A1.length + B1.length ∧ Srt S ∧ Stb (A1 ++ B1) S)
              case first =>
                by_cases h : a < s ∧ s < mid
                · have hb : decide (a < s ∧ s < mid) = true := decide_eq_true h
                  have hc := HIH.out a s mid d2 _ P A1 B1 (A2 ++ B2 ++ Z) (by omega) HD2S.out S2.out (by rw [HD2.out]; simp) HA.out (by have := LA1.out; omega) (by have := LB1.out; omega) (by have := LA1.out; omega) (by have := LB1.out; omega) HF.out.1 HF.out.2.2.1
                  have HC := Lib.hid hc
                  clear hc
                  go_wp2_with (go_at_call 64; refine HC.out.mono ?_; rintro e w1 ⟨rfl, d3, S, hd3, hSl, hS1, hS2, S3⟩)
                  go_meet
                  case rel => exact ⟨d3, S, by rw [size_list' hd3, ← HD2S.out, size_list' HD2.out]; simp; omega, S3, by rw [hd3]; simp, hSl, hS1, hS2⟩
                · have hb : decide (a < s ∧ s < mid) = false := decide_eq_false h
                  go_wp2_with fail
                  go_meet
                  case rel =>
                    refine ⟨d2, A1 ++ B1, HD2S.out, S2.out, by rw [HD2.out]; simp, by simp, ?_, Stb.refl _⟩
                    rcases (show s = a ∨ mid = s by omega) with h0 | h0
                    · have : A1 = [] := List.eq_nil_of_length_eq_zero (by rw [LA1.out]; omega)
                      rw [this]; exact HF.out.2.2.1
                    · have : B1 = [] := List.eq_nil_of_length_eq_zero (by rw [LB1.out]; omega)
                      rw [this, List.append_nil]; exact HF.out.1
              case rest =>
                obtain ⟨d3, S, hd3s, S3', hd3, hSl, hS1, hS2⟩ := hcut
                have S3 := Lib.hid S3'; have HD3S := Lib.hid hd3s; have HD3 := Lib.hid hd3; have HSL := Lib.hid hSl; have HS1 := Lib.hid hS1; have HS2 := Lib.hid hS2
                clear S3' hd3s hd3 S2 hSl hS1 hS2
                go_upto_region 43 with fail
                go_cut [213] from 206 (fun s213 we => s213 = .bool (decide (mid < en ∧ en < b)) ∧ we = wc)
                case first =>
                  by_cases g1 : mid < en
                  · have g1' : (mid : Int) < (en : Int) := by omega
                    by_cases g2 : en < b
                    · have g2' : (en : Int) < (b : Int) := by omega
                      go_wp2_with fail
                      go_meet
                      case rel => exact ⟨by simp [g1, g2], rfl⟩
                    · have g2' : ¬ (en : Int) < (b : Int) := by omega
                      go_wp2_with fail
                      go_meet
                      case rel => exact ⟨by simp [g2], rfl⟩
                  · have g1' : ¬ (mid : Int) < (en : Int) := by omega
                    go_wp2_with fail
                    go_meet
                    case rel => exact ⟨by simp [g1], rfl⟩
                case rest =>
                  obtain ⟨rfl, rfl⟩ := hcut
                  by_cases h : mid < en ∧ en < b
                  · have hb : decide (mid < en ∧ en < b) = true := decide_eq_true h
                    have hc := HIH.out mid en b d3 _ (P ++ S) A2 B2 Z (by omega) HD3S.out S3.out (by rw [HD3.out]; simp) (by have := HSL.out; have := HA.out; have := LA1.out; have := LB1.out; simp; omega) (by have := LA2.out; omega) (by have := LB2.out; omega) (by have := LA2.out; omega) (by have := LB2.out; omega) HF.out.2.1 HF.out.2.2.2.1
                    have HC := Lib.hid hc
                    clear hc
                    go_wp2_with (go_at_call 64; refine HC.out.mono ?_; rintro e w1 ⟨rfl, d4, T, hd4, hTl, hT1, hT2, S4⟩)
                    go_end0
                    obtain ⟨r1, r2⟩ := HF.out.2.2.2.2 S T HS1.out hT1 HS2.out hT2
                    refine ⟨rfl, d4, S ++ T, by rw [hd4]; simp, ?_, r1, ?_, S4⟩
                    · rw [← EX.out, ← EY.out]; have := HSL.out; simp; omega
                    · rw [← EX.out, ← EY.out]; exact r2
                  · have hb : decide (mid < en ∧ en < b) = false := decide_eq_false h
                    have hT1 : Srt (A2 ++ B2) := by
                      rcases (show m = s ∨ b = en by omega) with h0 | h0
                      · have : A2 = [] := List.eq_nil_of_length_eq_zero (by rw [LA2.out]; omega)
                        rw [this]; exact HF.out.2.2.2.1
                      · have : B2 = [] := List.eq_nil_of_length_eq_zero (by rw [LB2.out]; omega)
                        rw [this, List.append_nil]; exact HF.out.2.1
                    have HT1 := Lib.hid hT1
                    clear hT1
                    go_wp2_with fail
                    go_end0
                    obtain ⟨r1, r2⟩ := HF.out.2.2.2.2 S (A2 ++ B2) HS1.out HT1.out HS2.out (Stb.refl _)
                    refine ⟨rfl, d3, S ++ (A2 ++ B2), by rw [HD3.out]; simp, ?_, r1, ?_, S3.out⟩
                    · rw [← EX.out, ← EY.out]; have := HSL.out; simp; omega
                    · rw [← EX.out, ← EY.out]; exact r2
theorem sym_any (blk off cap : Nat) (d0 : Array At) (w0 : World) (R : RK w0 blk off d0) (hsz : d0.size < 4611686018427387904) : ∀ N, SymAll blk off cap d0 w0 N := by
  intro N
  induction N with
  | zero => intro a m b d w P X Y Z hN hs S hd ha hm hb hX1 hY1; omega
  | succ N ih =>
    intro a m b d w P X Y Z hN hs S hd ha hm hb hX1 hY1 hX hY
    by_cases h1 : X.length = 1
    · match X, h1 with
      | [x], _ =>
        have := symA blk off cap a m b d0 d w0 w R hs S (by rw [hs]; exact hsz) P Y Z x (by rw [hd]; simp) ha (by simpa using hm) hb hY
        rw [hs] at this
        exact this
    · by_cases h2 : Y.length = 1
      · match Y, h2 with
        | [y], _ =>
          have := symB blk off cap a m b d0 d w0 w R hs S (by rw [hs]; exact hsz) P X Z y (by rw [hd]; simp) ha hm (by simpa using hb) hX h1
          rw [hs] at this
          exact this
      · exact symC blk off cap a m b N d0 d w0 w R ih hN hs S hsz P X Y Z hd ha hm hb hX hY (by omega) (by omega)
end Go.Proofs.Yteamnjaepgfcmaa
