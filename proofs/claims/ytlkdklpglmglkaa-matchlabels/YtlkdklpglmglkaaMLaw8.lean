/-
  tendrillaw14.MatchLabels.
-/
import Derived.Test.YtlkdklpglmglkaaMS14
import Derived.Test.YtlkdklpglmglkaaMLabels
namespace Go.Proofs.Ytlkdklpglmglkaa
open Go.RowKit Go.Sort Go.Lib
open K (Lab LRow lrow_at)
set_option linter.unusedVariables false
set_option maxRecDepth 100000
theorem labsR_at {l : List Rw} {n i : Nat} (hi : i < (labsR l n).length) : (labsR l n)[i] = labR l i := by simp [labsR]
set_option maxHeartbeats 8000000 in
theorem law8_any (A : Option Addr) (c : Nat) (l : List Rw) (w : World) (ha : RIn w A c l) : Calls Try.prog 8 #[.slice A l.length c] w (TrueB w) := by
  have C := Lib.hid (fewX_any A c l 200 w ha.row ha.fit (by omega) ha.len)
  have HA := Lib.hid ha
  rw [show ((200 : Nat) : Int) = 200 from rfl] at C
  clear ha
  go_enter Try.func8, Try.ntmps8
  go_wp2_with fail
  refine C.out.mono ?_
  rintro e w1 ⟨r1, rfl, h1, hx1, hb1⟩
  have HB1 := Lib.hid hb1
  clear C hb1
  cases r1 with
  | false =>
    have CS := Lib.hid (same14_any w1)
    clear h1 hx1
    go_wp2_with fail
    refine CS.out.mono ?_
    rintro e w2 ⟨rfl, hb2⟩
    have HB2 := Lib.hid (HB1.out.trans (hb2.mono HB1.out.size))
    clear hb2 CS
    go_wp2_with fail
    go_ret
    exact ⟨rfl, HB2.out⟩
  | true =>
    have HG := Lib.hid (h1 rfl).1
    have hll : l.length ≤ 200 := (h1 rfl).2
    have HWX := Lib.hid (hx1.1 rfl)
    have HR1 := Lib.hid (HA.out.row.up HB1.out)
    have CL := Lib.hid (labels_any A c l w1 HR1.out HG.out (by omega) HA.out.cap)
    obtain ⟨ls, hls⟩ : ∃ ls, ls = labelsL l := ⟨_, rfl⟩
    have HLS := Lib.hid hls
    rw [← hls] at CL
    have hlsl : ls.length ≤ 1000 := by
      rw [hls, labelsL]
      split
      · rw [labsR_length]; omega
      · simp
    clear h1 hx1 hls
    go_wp2_with fail
    refine CL.out.mono ?_
    rintro e w2 ⟨A2, c2, rfl, hx2, hb2⟩
    have HB2 := Lib.hid (HB1.out.trans (hb2.mono HB1.out.size)); have HX2 := Lib.hid hx2
    have CR := Lib.hid (right_any A c l w2 ⟨HA.out.row.up HB2.out, HA.out.fit, HA.out.len, HA.out.cap⟩)
    clear CL hx2 hb2
    go_wp2_with fail
    refine CR.out.mono ?_
    rintro e w3 ⟨q, rfl, hq, hb3⟩
    have HB3 := Lib.hid (HB2.out.trans (hb3.mono HB2.out.size)); have HX3 := Lib.hid (HX2.out.up hb3)
    clear CR hb3
    cases q with
    | false =>
      have hne : ¬ errR l = 0 := fun q => by have := hq.2 ⟨HWX.out, q⟩; cases this
      have hp0 : ls.length = 0 := by rw [HLS.out, labelsL, if_neg hne]; rfl
      have CS := Lib.hid (same14_any w3)
      rw [hp0]
      clear hq hne hp0 hlsl
      go_wp2_with fail
      refine CS.out.mono ?_
      rintro e w4 ⟨rfl, hb4⟩
      have HB4 := Lib.hid (HB3.out.trans (hb4.mono HB3.out.size))
      clear hb4 CS
      go_wp2_with fail
      go_ret
      exact ⟨ret_bool (by simp), HB4.out⟩
    | true =>
      have HE := Lib.hid (hq.1 rfl).2
      have hls2 : ls = labsR l l.length := by rw [HLS.out, labelsL, if_pos HE.out]
      have hlsn : ls.length = l.length := by rw [hls2, labsR_length]
      have HL2 := Lib.hid hls2
      have HLN := Lib.hid hlsn
      have HR3 := Lib.hid (HA.out.row.up HB3.out)
      have CR := Lib.hid (rlabels_any A c l w3 HR3.out (by omega))
      rw [← hls2] at CR
      clear hq hls2 hlsn
      go_wp2_with fail
      refine CR.out.mono ?_
      rintro e w4 ⟨A4, c4, rfl, hx4, hb4⟩
      have HB4 := Lib.hid (HB3.out.trans (hb4.mono HB3.out.size)); have HX4 := Lib.hid (HX3.out.up hb4)
      have CP := Lib.hid (plabels_any A2 A4 c2 c4 ls w4 HX4.out hx4 (by omega))
      clear CR hx4 hb4
      go_wp2_with fail
      refine CP.out.mono ?_
      rintro e w5 ⟨rfl, hb5⟩
      have HB5 := Lib.hid (HB4.out.trans (hb5.mono HB4.out.size)); have HX5 := Lib.hid (HX4.out.up hb5)
      have HR5 := Lib.hid (HA.out.row.up HB5.out)
      obtain ⟨n, hn⟩ : ∃ n, n = l.length := ⟨_, rfl⟩
      have hlsn : ls.length = n := by rw [HLN.out, hn]
      rw [hlsn]
      have HN := Lib.hid hn; have HLSN := Lib.hid hlsn
      have hnb : n ≤ 200 := by omega
      clear CP hb5 hlsn hlsl hn
      rw [← HN.out]
      go_wp2_with fail
      go_loopg [4, 5, 28] n (fun g _ _ s28 wr => ∃ i : Nat, s28 = .int .i64 i ∧ i ≤ n ∧ n - i ≤ g ∧ RowKit.Hid (Below w5.heap.size w5 wr))
      case atStart => exact ⟨0, rfl, by omega, by omega, Lib.hid (Below.refl _ _)⟩
      case round =>
        obtain ⟨i, rfl, hi, hgi, HBi⟩ := hrel
        by_cases hlt : i < n
        · have h1 : (i : Int) < (n : Int) := by omega
          have HRi := Lib.hid (HR5.out.up HBi.out); have HXi := Lib.hid (HX5.out.up HBi.out)
          go_wp2_with fail
          go_loopg [5, 32] i (fun g _ s32 wx => ∃ k : Nat, s32 = .int .i64 k ∧ k ≤ i ∧ i - k ≤ g ∧ RowKit.Hid (Below wr.heap.size wr wx))
          case atStart => exact ⟨0, rfl, by omega, by omega, Lib.hid (Below.refl _ _)⟩
          case round =>
            obtain ⟨k, rfl, hk, hgk, HBk⟩ := hrel
            by_cases hlk : k < i
            · have h2 : (k : Int) < (i : Int) := by omega
              have hkl : k < l.length := by have := HN.out; omega
              have hil : i < l.length := by have := HN.out; omega
              have hkn : (k : Int) < (n : Int) := by omega
              obtain ⟨b, off, s, x, r, y, hA, hb, hs, hr, hcs, hcr, -, -⟩ := rrow_two (HRi.out.up HBk.out) hkl hil
              obtain ⟨e0, e1, e2, e3, e4, e5⟩ := hcs
              obtain ⟨c0, c1, c2', c3, c4', c5⟩ := hcr
              obtain ⟨b1, o1, L, hK1, hb1, hL, p0, p1, p2⟩ := lrow_at (HXi.out.up HBk.out) (j := k) (by rw [HLSN.out]; omega)
              obtain ⟨b2, o2, M, hK2, hb2, hM, q0, q1, q2⟩ := lrow_at (HXi.out.up HBk.out) (j := i) (by rw [HLSN.out]; omega)
              rw [hK1] at hK2
              obtain ⟨rfl, rfl⟩ : b1 = b2 ∧ o1 = o2 := by simpa using hK2
              have hLk : L = labR l k := by
                rw [hL]
                simp only [HL2.out]
                exact labsR_at _
              have hMi : M = labR l i := by
                rw [hM]
                simp only [HL2.out]
                exact labsR_at _
              have HAP := Lib.hid (show s.up = r.up → ¬ L = M from fun hu => by
                rw [hLk, hMi]
                exact labR_apart HE.out hlk hil (by rw [rwAt_eq hkl, rwAt_eq hil, ← hs, ← hr]; exact hu))
              have heq : ∀ W : World, ¬ L = M → (binOp .eql 58 (.agg #[.string L.tag, .string L.key, .int .i64 L.n]) (.agg #[.string M.tag, .string M.key, .int .i64 M.n])).run Try.prog W = .ok (.bool false) W := fun W hne => by rw [eqL2, decide_eq_false hne]
              clear hK2 hs hr hL hM hLk hMi
              by_cases hu : s.up = r.up
              · have hu' : (s.up == r.up) = true := by simpa using hu
                have heq2 := fun W => heq W (HAP.out hu)
                clear hu heq
                go_wp2_with fail
                go_quiet (fail)
                go_wp2_with fail
                try rw [← hA]
                try rw [← hK1]
                go_roundg (i - (k + 1))
                case measure => omega
                case rel => exact ⟨k + 1, by go_num, by omega, by omega, Lib.hid (HBk.out.trans (below_drewN _ _ _))⟩
              · have hu' : (s.up == r.up) = false := by simpa using hu
                clear hu heq
                go_wp2_with fail
                go_quiet (fail)
                go_wp2_with fail
                try rw [← hA]
                try rw [← hK1]
                go_roundg (i - (k + 1))
                case measure => omega
                case rel => exact ⟨k + 1, by go_num, by omega, by omega, Lib.hid (HBk.out.trans (below_drewN _ _ _))⟩
            · have h2 : ¬ (k : Int) < (i : Int) := by omega
              have HB6 := Lib.hid (HBi.out.trans (HBk.out.mono HBi.out.size))
              go_wp2_with fail
              go_roundg (n - (i + 1))
              case measure => omega
              case rel => exact ⟨i + 1, by go_num, by omega, by omega, HB6⟩
        · have h1 : ¬ (i : Int) < (n : Int) := by omega
          have CS := Lib.hid (same14_any wr)
          go_wp2_with fail
          refine CS.out.mono ?_
          rintro e w6 ⟨rfl, hb6⟩
          have HB6 := Lib.hid (HBi.out.trans (hb6.mono HBi.out.size))
          clear hb6 CS
          go_wp2_with fail
          go_ret
          exact ⟨rfl, HB5.out.trans (HB6.out.mono HB5.out.size)⟩
end Go.Proofs.Ytlkdklpglmglkaa
