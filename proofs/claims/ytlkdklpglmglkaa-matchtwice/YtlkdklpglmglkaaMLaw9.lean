/-
  tendrillaw14.MatchTwice.
-/
import Derived.Test.YtlkdklpglmglkaaMS14
namespace Go.Proofs.Ytlkdklpglmglkaa
open Go.RowKit Go.Sort Go.Lib
open K (Lab)
set_option linter.unusedVariables false
set_option maxRecDepth 100000
def RightPost (l : List Rw) (w : World) (e : Ending) (w' : World) : Prop := ∃ b, e = .returned (.bool b) ∧ (b = true → errR l = 0 ∧ GoodRs l ∧ l.length ≤ 200) ∧ Below w.heap.size w w'
set_option maxHeartbeats 4000000 in
theorem right2_any (A : Option Addr) (c : Nat) (l : List Rw) (w : World) (ha : RIn w A c l) : Calls Try.prog 34 #[.slice A l.length c] w (RightPost l w) := by
  have C := Lib.hid (fewX_any A c l 200 w ha.row ha.fit (by omega) ha.len)
  have HA := Lib.hid ha
  rw [show ((200 : Nat) : Int) = 200 from rfl] at C
  clear ha
  go_enter Try.func34, Try.ntmps34
  go_wp2_with fail
  refine C.out.mono ?_
  rintro e w1 ⟨b, rfl, hg, hb, hb1⟩
  cases b with
  | false =>
    clear hg hb C
    go_wp2_with fail
    go_ret
    exact ⟨false, rfl, (fun h => by cases h), hb1⟩
  | true =>
    have HG := Lib.hid (hg rfl)
    have HB1 := Lib.hid hb1
    have CR := Lib.hid (rcheck_any A c l w1 (HA.out.row.up hb1) HG.out.1 (by have := HG.out.2; omega))
    clear hg hb hb1 C
    go_wp2_with fail
    refine CR.out.mono ?_
    rintro e w2 ⟨rfl, hb2⟩
    have HB2 := Lib.hid (HB1.out.trans (hb2.mono HB1.out.size))
    obtain ⟨er, her⟩ : ∃ e, e = errR l := ⟨_, rfl⟩
    rw [← her]
    have HER := Lib.hid her
    clear hb2 her CR
    by_cases hz : er = 0
    · have hz' : (er == 0) = true := by simpa using hz
      have HZ := Lib.hid hz
      clear hz
      go_wp2_with fail
      go_ret
      exact ⟨true, ret_bool (by simp), fun _ => ⟨by rw [← HER.out]; exact HZ.out, HG.out.1, HG.out.2⟩, HB2.out⟩
    · have hz' : (er == 0) = false := by simpa using hz
      clear hz
      go_wp2_with fail
      go_ret
      exact ⟨false, ret_bool (by simp), (fun h => by cases h), HB2.out⟩
theorem fresh_self {a : List Rw} (he : errR a = 0) : ∀ n, n ≤ a.length → freshTo a a n = []
  | 0, _ => rfl
  | n + 1, h => by rw [freshTo, mt_self he n (by omega), if_neg (by omega)]; exact fresh_self he n (by omega)
theorem gone_self {a : List Rw} (he : errR a = 0) : ∀ n, n ≤ a.length → goneTo a a n = []
  | 0, _ => rfl
  | n + 1, h => by
    rw [goneTo, if_neg (fun q => by have h1 := q.1; rw [mt_self he n (by omega)] at h1; omega)]
    exact gone_self he n (by omega)
set_option maxHeartbeats 8000000 in
theorem law9_any (A B : Option Addr) (c d : Nat) (a b : List Rw) (w : World) (ha : RIn w A c a) (hb : RIn w B d b) : Calls Try.prog 9 #[.slice A a.length c, .slice B b.length d] w (TrueB w) := by
  have nf : ¬ (False : Prop) := fun h => h
  have CA := Lib.hid (right2_any A c a w ha)
  have HA := Lib.hid ha; have HB := Lib.hid hb
  clear ha hb
  go_enter Try.func9, Try.ntmps9
  go_wp2_with fail
  refine CA.out.mono ?_
  rintro e w1 ⟨r1, rfl, h1, hb1⟩
  have HB1 := Lib.hid hb1
  have CB := Lib.hid (right2_any B d b w1 ⟨HB.out.row.up hb1, HB.out.fit, HB.out.len, HB.out.cap⟩)
  clear CA hb1
  cases r1 with
  | false =>
    have CS := Lib.hid (same14_any w1)
    clear h1 CB
    go_wp2_with fail
    refine CS.out.mono ?_
    rintro e w2 ⟨rfl, hb2⟩
    have HB2 := Lib.hid (HB1.out.trans (hb2.mono HB1.out.size))
    clear hb2 CS
    go_wp2_with fail
    go_ret
    exact ⟨rfl, HB2.out⟩
  | true =>
    obtain ⟨hea, hga, hla⟩ := h1 rfl
    have HEA := Lib.hid hea; have HGA := Lib.hid hga
    clear h1 hea hga
    go_wp2_with fail
    refine CB.out.mono ?_
    rintro e w2 ⟨r2, rfl, h2, hb2⟩
    have HB2 := Lib.hid (HB1.out.trans (hb2.mono HB1.out.size))
    clear hb2 CB
    cases r2 with
    | false =>
      have CS := Lib.hid (same14_any w2)
      clear h2
      go_wp2_with fail
      refine CS.out.mono ?_
      rintro e w3 ⟨rfl, hb3⟩
      have HB3 := Lib.hid (HB2.out.trans (hb3.mono HB2.out.size))
      clear hb3 CS
      go_wp2_with fail
      go_ret
      exact ⟨rfl, HB3.out⟩
    | true =>
      obtain ⟨heb, hgb, hlb⟩ := h2 rfl
      have HEB := Lib.hid heb; have HGB := Lib.hid hgb
      have HFA := Lib.hid (errR_form HEA.out); have HFB := Lib.hid (errR_form heb)
      have C1 := Lib.hid (pairs_any A B c d a b w2 (HA.out.row.up HB2.out) (HB.out.row.up HB2.out) HGA.out HGB.out (by omega) (by omega) HA.out.cap HB.out.cap)
      obtain ⟨p, hp⟩ : ∃ p, p = nums (mtL a b b.length) := ⟨_, rfl⟩
      obtain ⟨q, hq⟩ : ∃ q, q = nums (mtL b a a.length) := ⟨_, rfl⟩
      have HP := Lib.hid hp; have HQ := Lib.hid hq
      have hpl : p.length = b.length := by rw [hp]; simp [nums, mtL_length]
      have hql : q.length = a.length := by rw [hq]; simp [nums, mtL_length]
      have HPL := Lib.hid hpl; have HQL := Lib.hid hql
      rw [show pairsL a b = p by rw [hp, pairsL, if_pos ⟨HEA.out, HEB.out⟩]] at C1
      clear h2 heb hgb hp hq
      go_wp2_with fail
      refine C1.out.mono ?_
      rintro e w3 ⟨A3, c3, rfl, hr3, -, -, -, hb3⟩
      have HB3 := Lib.hid (HB2.out.trans (hb3.mono HB2.out.size)); have HR3 := Lib.hid hr3
      have C2 := Lib.hid (pairs_any B A d c b a w3 (HB.out.row.up HB3.out) (HA.out.row.up HB3.out) HGB.out HGA.out (by omega) (by omega) HB.out.cap HA.out.cap)
      rw [show pairsL b a = q by rw [HQ.out, pairsL, if_pos ⟨HEB.out, HEA.out⟩]] at C2
      rw [hpl]
      clear C1 hr3 hb3 hpl
      go_wp2_with fail
      refine C2.out.mono ?_
      rintro e w4 ⟨A4, c4, rfl, hr4, -, -, -, hb4⟩
      have HB4 := Lib.hid (HB3.out.trans (hb4.mono HB3.out.size)); have HR4 := Lib.hid hr4
      have HR34 := Lib.hid ((HR3.out.below hb4).mono hb4.size)
      have HRA := Lib.hid (HA.out.row.up HB4.out); have HRB := Lib.hid (HB.out.row.up HB4.out)
      rw [hql]
      clear C2 hr4 hb4 hql
      have hqa : ((b.length : Int) != (b.length : Int)) = false := by simp
      have hqb : ((a.length : Int) != (a.length : Int)) = false := by simp
      go_wp2_with fail
      go_loopg [7, 8, 9, 41] b.length (fun g _ _ _ s41 wr => ∃ i : Nat, s41 = .int .i64 i ∧ i ≤ b.length ∧ b.length - i ≤ g ∧ RowKit.Hid (Below w4.heap.size w4 wr))
      case atStart => exact ⟨0, rfl, by omega, by omega, Lib.hid (Below.refl _ _)⟩
      case round =>
        obtain ⟨i, rfl, hi, hgi, HBi⟩ := hrel
        by_cases hlt : i < b.length
        · have h1 : (i : Int) < (b.length : Int) := by omega
          obtain ⟨b3, o3, z, hA3, hb3, hz, hzc⟩ := I.row_at ((HR34.out.below HBi.out).mono HBi.out.size) (j := i) (by rw [HPL.out]; exact hlt)
          have hzm : z = (mt a b i : Int) := by rw [hz, HP.out, nums_mtL hlt]
          have hle := mt_le (a := a) HFB.out hlt
          obtain ⟨mz, hmz⟩ : ∃ m, m = mt a b i := ⟨_, rfl⟩
          rw [← hmz] at hzm hle
          subst hzm
          have hz0 : decide ((mz : Int) < 0) = false := decide_eq_false (by omega)
          have hz1 : decide ((mz : Int) > (a.length : Int)) = false := decide_eq_false (by omega)
          have HMZ := Lib.hid hmz
          clear hz hmz
          by_cases h0 : mz = 0
          · have hz2 : ((mz : Int) == 0) = true := by rw [beq_iff_eq]; omega
            clear h0
            go_wp2_with fail
            try rw [← hA3]
            go_roundg (b.length - (i + 1))
            case measure => omega
            case rel => exact ⟨i + 1, by go_num, by omega, by omega, HBi⟩
          · have hz2 : ((mz : Int) == 0) = false := by rw [beq_eq_false_iff_ne]; omega
            obtain ⟨k, hk⟩ : ∃ k, k = mz - 1 := ⟨_, rfl⟩
            have hwk : IntKind.i64.wrap ((mz : Int) - 1) = (k : Int) := by rw [IntKind.wrap_i64]; omega
            have hka : k < a.length := by omega
            have hkai : (k : Int) < (a.length : Int) := by omega
            obtain ⟨hcc, hup, hlab⟩ := mt_hit HFB.out hlt (by rw [← HMZ.out]; exact h0)
            rw [← HMZ.out, ← hk] at hup hlab
            have hbk := mt_back HEA.out HEB.out i hlt (by rw [← HMZ.out]; exact h0)
            rw [← HMZ.out, ← hk] at hbk
            obtain ⟨ba, oa, s, x, hAA, hba, hs, hcs, hat⟩ := rrow_at (HRA.out.up HBi.out) hka
            have hs' : rwAt a k = s := by rw [rwAt_eq hka, hs]
            obtain ⟨wq, hwq⟩ : ∃ wq, wq = rboxW wr s x := ⟨_, rfl⟩
            have hbq : Below wr.heap.size wr wq := by rw [hwq]; exact below_rbox _ _ _
            have hbox : RCells wq wr.heap.size 0 s x := by rw [hwq]; exact rbox_cells _ _ _
            have HBQ := Lib.hid (HBi.out.trans (hbq.mono HBi.out.size))
            obtain ⟨bb, ob, r, y, hBB, hbb, hr, hcr, -⟩ := rrow_at (HRB.out.up HBQ.out) hlt
            have hr' : rwAt b i = r := by rw [rwAt_eq hlt, hr]
            obtain ⟨u1, u2⟩ := okAt_up (HFB.out i hlt)
            rw [hr'] at u1 u2 hup hcc
            have htag : s.tag = r.tag := by have := congrArg Lab.tag hlab; rw [← hs', ← hr']; exact this
            have hkey : s.key = r.key := by have := congrArg Lab.key hlab; rw [← hs', ← hr']; exact this
            rw [hs'] at hup
            obtain ⟨e0, e1, e2, e3, e4, e5⟩ := hcs
            obtain ⟨f0, f1, f2, f3, f4, f5⟩ := hbox
            obtain ⟨c0, c1, c2, c3', c4', c5⟩ := hcr
            have hq3 := (HR34.out.below HBQ.out).mono HBQ.out.size
            have hq4 := (HR4.out.below HBQ.out).mono HBQ.out.size
            have hzc2 : wq.cell? ⟨b3, o3 + i, none⟩ = some (.int .i64 (mz : Int)) := (hbq.cell (p := ⟨b3, o3 + i, none⟩) hb3).trans hzc
            obtain ⟨b4, o4, z4, hA4, hb4, hz4, hz4c⟩ := I.row_at hq4 (j := k) (by rw [HQL.out]; exact hka)
            have hz4e : z4 = (i : Int) + 1 := by rw [hz4, HQ.out, nums_mtL hka, hbk]; rfl
            subst hz4e
            have hwi : IntKind.i64.wrap ((i : Int) + 1) = (i : Int) + 1 := by rw [IntKind.wrap_i64]; omega
            have n1 : ((i : Int) + 1 != (i : Int) + 1) = false := by simp
            have n2 : (r.tag.toList != r.tag.toList) = false := by simp
            have n3 : (r.key.toList != r.key.toList) = false := by simp
            rw [htag] at e2 f2
            rw [hkey] at e3 f3
            have hkm : ((k : Nat) : Int) + 1 = (mz : Int) := by omega
            have HWQ := Lib.hid (show wr.alloc (.cells #[.int .i64 s.id, .int .i64 s.up, .string r.tag, .string r.key, .string s.text, .slice x.A s.as.length x.ca] 56) = wq by rw [← htag, ← hkey]; exact hwq.symm)
            have HBS := Lib.hid (show wr.heap.size ≤ wq.heap.size from hbq.size)
            by_cases hu : r.up = 0
            · have hu' : (r.up == 0) = true := by simpa using hu
              have hu2 : decide (r.up > 0) = false := decide_eq_false (by omega)
              have hsu : (s.up != 0) = false := by
                rw [hu, show (0 : Int).toNat = 0 from rfl, pm, if_pos rfl] at hup
                rw [hup]; rfl
              have hu3 : ¬ r.up > 0 := by omega
              clear hu hup hcc hlab hbk hs hs' hwq hbq hr hr' htag hkey hq3 hq4 hz4 hk hkm
              go_upto_region 14 with (fail)
              rw [HWQ.out]
              clear e0 e1 e2 e3 e4 e5 hzc
              go_wp2_with fail
              go_quiet (fail)
              go_wp2_with fail
              try rw [← hA3]
              try rw [← hAA]
              try rw [← hBB]
              try rw [← hA4]
              go_roundg (b.length - (i + 1))
              case measure => omega
              case rel => exact ⟨i + 1, by go_num, by omega, by omega, Lib.hid (HBQ.out.trans (below_drewN _ _ _))⟩
            · have hu' : (r.up == 0) = false := by simpa using hu
              have hu2 : decide (r.up > 0) = true := decide_eq_true (by omega)
              have hu3 : r.up > 0 := by omega
              obtain ⟨v, hv⟩ : ∃ v : Nat, v = r.up.toNat - 1 := ⟨_, rfl⟩
              have hwv : IntKind.i64.wrap (r.up - 1) = (v : Int) := by rw [IntKind.wrap_i64]; omega
              have hvb : v < b.length := by omega
              have hvbi : (v : Int) < (b.length : Int) := by omega
              have hvc : wq.cell? ⟨b3, o3 + v, none⟩ = some (.int .i64 s.up) := by
                have h5 := hq3
                rw [hA3] at h5
                have h6 := h5.at2 (j := v) (by rw [HPL.out]; exact hvb)
                rw [h6, HP.out, nums_mtL hvb, hup, pm, if_neg (by omega), ← hv]
              have n4 : (s.up != s.up) = false := by simp
              clear hu hup hcc hlab hbk hs hs' hwq hbq hr hr' htag hkey hq3 hq4 hz4 hk hkm hv
              go_upto_region 14 with (fail)
              rw [HWQ.out]
              clear e0 e1 e2 e3 e4 e5 hzc
              go_wp2_with fail
              go_quiet (fail)
              go_wp2_with fail
              try rw [← hA3]
              try rw [← hAA]
              try rw [← hBB]
              try rw [← hA4]
              go_roundg (b.length - (i + 1))
              case measure => omega
              case rel => exact ⟨i + 1, by go_num, by omega, by omega, Lib.hid (HBQ.out.trans (below_drewN _ _ _))⟩
        · have h1 : ¬ (i : Int) < (b.length : Int) := by omega
          have HB5 := Lib.hid (HB4.out.trans (HBi.out.mono HB4.out.size))
          obtain ⟨o, ho⟩ : ∃ o, o = nums (mtL a a a.length) := ⟨_, rfl⟩
          have hol : o.length = a.length := by rw [ho]; simp [nums, mtL_length]
          have HO := Lib.hid ho; have HOL := Lib.hid hol
          have C3 := Lib.hid (pairs_any A A c c a a wr (HA.out.row.up HB5.out) (HA.out.row.up HB5.out) HGA.out HGA.out (by omega) (by omega) HA.out.cap HA.out.cap)
          rw [show pairsL a a = o by rw [ho, pairsL, if_pos ⟨HEA.out, HEA.out⟩]] at C3
          clear ho
          go_wp2_with fail
          refine C3.out.mono ?_
          rintro e w6 ⟨A6, c6, rfl, hr6, -, -, -, hb6⟩
          have HB6 := Lib.hid (HB5.out.trans (hb6.mono HB5.out.size)); have HR6 := Lib.hid hr6
          rw [hol]
          clear C3 hr6 hb6 hol
          go_wp2_with fail
          go_loopg [11, 136] a.length (fun g _ s136 wx => ∃ j : Nat, s136 = .int .i64 j ∧ j ≤ a.length ∧ a.length - j ≤ g ∧ RowKit.Hid (w6 = wx))
          case atStart => exact ⟨0, rfl, by omega, by omega, Lib.hid rfl⟩
          case round =>
            obtain ⟨j, rfl, hj, hgj, HWJ⟩ := hrel
            by_cases hlj : j < a.length
            · have h2 : (j : Int) < (a.length : Int) := by omega
              obtain ⟨b7, o7, z, hA6, hb7, hz, hzc⟩ := I.row_at (show I.Row wr wr.heap.size A6 o by rw [← HWJ.out]; exact HR6.out) (j := j) (by rw [HOL.out]; exact hlj)
              have hzm : z = (j : Int) + 1 := by rw [hz, HO.out, nums_mtL hlj, mt_self HEA.out j hlj]; rfl
              subst hzm
              have hwj : IntKind.i64.wrap ((j : Int) + 1) = (j : Int) + 1 := by rw [IntKind.wrap_i64]; omega
              have n5 : ((j : Int) + 1 != (j : Int) + 1) = false := by simp
              clear hz
              go_wp2_with fail
              try rw [← hA6]
              go_roundg (a.length - (j + 1))
              case measure => omega
              case rel => exact ⟨j + 1, by go_num, by omega, by omega, HWJ⟩
            · have h2 : ¬ (j : Int) < (a.length : Int) := by omega
              have HB7 := Lib.hid (show Below w.heap.size w wr by rw [← HWJ.out]; exact HB6.out)
              have C4 := Lib.hid (fresh_any A A c c a a wr (HA.out.row.up HB7.out) (HA.out.row.up HB7.out) HGA.out HGA.out (by omega) (by omega) HA.out.cap HA.out.cap)
              rw [show freshL a a = [] by rw [freshL, if_pos ⟨HEA.out, HEA.out⟩, fresh_self HEA.out _ (Nat.le_refl _)]; rfl] at C4
              have n6 : ((a.length : Int) == (a.length : Int)) = true := by simp
              go_wp2_with fail
              refine C4.out.mono ?_
              rintro e w8 ⟨A8, c8, rfl, -, -, -, -, hb8⟩
              have HB8 := Lib.hid (HB7.out.trans (hb8.mono HB7.out.size))
              have C5 := Lib.hid (gone_any A A c c a a w8 (HA.out.row.up HB8.out) (HA.out.row.up HB8.out) HGA.out HGA.out (by omega) (by omega) HA.out.cap HA.out.cap)
              rw [show goneL a a = [] by rw [goneL, if_pos ⟨HEA.out, HEA.out⟩, gone_self HEA.out _ (Nat.le_refl _)]; rfl] at C5
              rw [show ([] : List Int).length = 0 from rfl]
              clear C4 hb8
              go_wp2_with fail
              refine C5.out.mono ?_
              rintro e w9 ⟨A9, c9, rfl, -, -, -, -, hb9⟩
              have HB9 := Lib.hid (HB8.out.trans (hb9.mono HB8.out.size))
              rw [show ([] : List Int).length = 0 from rfl]
              have CS := Lib.hid (same14_any w9)
              clear C5 hb9
              go_wp2_with fail
              refine CS.out.mono ?_
              rintro e w10 ⟨rfl, hb10⟩
              have HB10 := Lib.hid (HB9.out.trans (hb10.mono HB9.out.size))
              clear hb10 CS
              go_wp2_with fail
              go_ret
              exact ⟨ret_bool (by simp), HB10.out⟩
end Go.Proofs.Ytlkdklpglmglkaa
