/-
  match.Gone and match.Fresh.
-/
import Derived.Test.YtlkdklpglmglkaaMPairs
namespace Go.Proofs.Ytlkdklpglmglkaa
open Go.RowKit Go.Sort Go.Lib
set_option linter.unusedVariables false
set_option maxRecDepth 100000
def goneB (a b : List Rw) (i : Nat) : Prop := mt b a i = 0 ∧ ((rwAt a i).up = 0 ∨ mt b a ((rwAt a i).up.toNat - 1) ≠ 0)
instance (a b : List Rw) (i : Nat) : Decidable (goneB a b i) := by unfold goneB; exact inferInstance
def goneTo (a b : List Rw) : Nat → List Nat
  | 0 => []
  | n + 1 => if goneB a b n then goneTo a b n ++ [n + 1] else goneTo a b n
def freshTo (a b : List Rw) : Nat → List Nat
  | 0 => []
  | n + 1 => if mt a b n = 0 then freshTo a b n ++ [n + 1] else freshTo a b n
open Classical in
noncomputable def goneL (a b : List Rw) : List Int := if errR a = 0 ∧ errR b = 0 then nums (goneTo a b a.length) else []
open Classical in
noncomputable def freshL (a b : List Rw) : List Int := if errR a = 0 ∧ errR b = 0 then nums (freshTo a b b.length) else []
theorem goneTo_le (a b : List Rw) : ∀ n, (goneTo a b n).length ≤ n
  | 0 => Nat.le_refl _
  | n + 1 => by rw [goneTo]; have := goneTo_le a b n; split <;> simp <;> omega
theorem freshTo_le (a b : List Rw) : ∀ n, (freshTo a b n).length ≤ n
  | 0 => Nat.le_refl _
  | n + 1 => by rw [freshTo]; have := freshTo_le a b n; split <;> simp <;> omega
theorem nums_mtL {a b : List Rw} {n j : Nat} (h : j < n) : (nums (mtL a b n)).getD j 0 = (mt a b j : Int) := by
  have hg := mtL_get a b h
  simp only [nums, List.getD_eq_getElem?_getD, List.getElem?_map] at hg ⊢
  rw [List.getElem?_eq_getElem (by rw [mtL_length]; exact h)] at hg ⊢
  simp only [Option.map_some, Option.getD_some] at hg ⊢
  rw [hg]
theorem pairsL_cases (a b : List Rw) : ∃ N, (pairsL a b).length = N ∧ ((N = 0 ∧ ¬ (errR a = 0 ∧ errR b = 0)) ∨ (N = b.length ∧ errR a = 0 ∧ errR b = 0 ∧ pairsL a b = nums (mtL a b b.length))) := by
  by_cases h : errR a = 0 ∧ errR b = 0
  · refine ⟨b.length, ?_, .inr ⟨rfl, h.1, h.2, by rw [pairsL, if_pos h]⟩⟩
    rw [pairsL, if_pos h]; simp [nums, mtL_length]
  · exact ⟨0, by rw [pairsL, if_neg h]; rfl, .inl ⟨rfl, h⟩⟩
set_option maxHeartbeats 8000000 in
theorem fresh_any (A B : Option Addr) (ca cb : Nat) (a b : List Rw) (w : World) (Ha : RRow w w.heap.size A a) (Hb : RRow w w.heap.size B b) (Ga : GoodRs a) (Gb : GoodRs b) (hla : a.length ≤ 1000) (hlb : b.length ≤ 1000) (hca : a.length ≤ ca) (hcb : b.length ≤ cb) :
    Calls Try.prog 33 #[.slice A a.length ca, .slice B b.length cb] w (I.Made w (freshL a b)) := by
  have C := Lib.hid (pairs_any A B ca cb a b w Ha Hb Ga Gb hla hlb hca hcb)
  obtain ⟨N, hN, hcs⟩ := pairsL_cases a b
  obtain ⟨i0, hi, hz0, hz1, hz2⟩ := info_parts I.Try.info3
  obtain ⟨ps, hps⟩ : ∃ ps, ps = pairsL a b := ⟨_, rfl⟩
  rw [← hps] at C hN hcs
  have hNl : N ≤ 1000 := by omega
  have HCS := Lib.hid hcs; have HNP := Lib.hid hN
  clear Ha Hb Ga Gb hca hcb hcs hps
  go_enter Try.func33, Try.ntmps33
  go_wp2_with fail
  refine C.out.mono ?_
  rintro e w1 ⟨Ap, cp, rfl, hp, -, -, -, hb1⟩
  have HP := Lib.hid hp; have HB1 := Lib.hid hb1
  rw [hN]
  clear hp hb1 C hN
  go_wp2_with fail
  go_loopg [5, 6, 7, 12] N (fun q s5 _ _ s12 wr => ∃ (k : Nat) (zs : List Int), s12 = .int .i64 k ∧ k ≤ N ∧ N - k ≤ q ∧ zs.length ≤ k ∧ RowKit.Hid (zs = nums (freshTo a b k)) ∧ RowKit.Hid (wr.ownsRow w1.heap.size 3 1 s5 zs.length (I.ints zs)) ∧ RowKit.Hid (Below w1.heap.size w1 wr))
  case atStart => exact ⟨0, [], rfl, by omega, by omega, by simp, Lib.hid rfl, Lib.hid (World.ownsRow_nil _ _ _ _), Lib.hid (Below.refl _ _)⟩
  case round =>
    obtain ⟨k, zs, rfl, hk, hq, hzl, HZ, HO, HB⟩ := hrel
    by_cases hlt : k < N
    · have h1 : (k : Int) < (N : Int) := by omega
      obtain ⟨b2, off2, z, hAp, hb2, hz, hzc⟩ := I.row_at ((HP.out.below HB.out).mono HB.out.size) (j := k) (by rw [HNP.out]; exact hlt)
      have hzm : z = (mt a b k : Int) := by
        rcases HCS.out with ⟨h0, _⟩ | ⟨h0, _, _, h3⟩
        · omega
        · rw [hz, h3, nums_mtL (by omega)]
      have hbs := HB.out.size
      have HZM := Lib.hid hzm
      clear hz hzm
      by_cases h0 : z = 0
      · have h0' : (z == 0) = true := by simpa using h0
        have hw : IntKind.i64.wrap ((k : Int) + 1) = (k : Int) + 1 := by rw [IntKind.wrap_i64]; omega
        have HZ2 := Lib.hid (show zs ++ [(k : Int) + 1] = nums (freshTo a b (k + 1)) by rw [freshTo, if_pos (by have := HZM.out; omega), HZ.out]; simp [nums])
        clear h0
        go_wp2_with (at_builtin; refine I.wpList_app1 rfl _ _ 46 rfl w1.heap.size 3 i0 (.int .i64 0) 8 Try.underlying46 hi hz0 hz1 hz2 rfl _ zs.length (I.ints zs) rfl HO.out (.int .i64 ((k : Int) + 1)) rfl rfl (by omega) (by unfold maxLen; omega) hbs ?_; intro v2 w2 hown2 hb2)
        have HO2 := Lib.hid (show w2.ownsRow w1.heap.size 3 1 v2 (zs ++ [(k : Int) + 1]).length (I.ints (zs ++ [(k : Int) + 1])) by simpa [I.ints] using hown2)
        have HB2 := Lib.hid (HB.out.trans hb2)
        clear hown2 hb2
        go_wp2_with fail
        try rw [← hAp]
        go_roundg (N - (k + 1))
        case measure => omega
        case rel => exact ⟨k + 1, zs ++ [(k : Int) + 1], by go_num, by omega, by omega, by simp; omega, HZ2, HO2, HB2⟩
      · have h0' : (z == 0) = false := by simpa using h0
        have HZ2 := Lib.hid (show zs = nums (freshTo a b (k + 1)) by rw [freshTo, if_neg (by have := HZM.out; omega), HZ.out])
        clear h0
        go_wp2_with fail
        try rw [← hAp]
        go_roundg (N - (k + 1))
        case measure => omega
        case rel => exact ⟨k + 1, zs, by go_num, by omega, by omega, by omega, HZ2, HO, HB⟩
    · have h1 : ¬ (k : Int) < (N : Int) := by omega
      obtain rfl : k = N := by omega
      have HFIN := Lib.hid (show zs = freshL a b by
        rcases HCS.out with ⟨h0, h1⟩ | ⟨h0, h1, h2, _⟩
        · rw [freshL, if_neg h1, HZ.out, h0]; rfl
        · rw [freshL, if_pos ⟨h1, h2⟩, HZ.out, h0])
      go_wp2_with fail
      go_ret
      rw [← HFIN.out]
      exact I.made_own HO.out (HB1.out.trans (HB.out.mono HB1.out.size))
set_option maxHeartbeats 8000000 in
theorem gone_any (A B : Option Addr) (ca cb : Nat) (a b : List Rw) (w : World) (Ha : RRow w w.heap.size A a) (Hb : RRow w w.heap.size B b) (Ga : GoodRs a) (Gb : GoodRs b) (hla : a.length ≤ 1000) (hlb : b.length ≤ 1000) (hca : a.length ≤ ca) (hcb : b.length ≤ cb) :
    Calls Try.prog 32 #[.slice A a.length ca, .slice B b.length cb] w (I.Made w (goneL a b)) := by
  have C := Lib.hid (pairs_any B A cb ca b a w Hb Ha Gb Ga hlb hla hcb hca)
  obtain ⟨N, hN, hcs⟩ := pairsL_cases b a
  obtain ⟨i0, hi, hz0, hz1, hz2⟩ := info_parts I.Try.info3
  obtain ⟨ps, hps⟩ : ∃ ps, ps = pairsL b a := ⟨_, rfl⟩
  rw [← hps] at C hN hcs
  have hNl : N ≤ 1000 := by omega
  have HCS := Lib.hid hcs; have HNP := Lib.hid hN; have HA := Lib.hid Ha
  clear Ha Hb Ga Gb hca hcb hcs hps
  go_enter Try.func32, Try.ntmps32
  go_wp2_with fail
  refine C.out.mono ?_
  rintro e w1 ⟨Ap, cp, rfl, hp, -, -, -, hb1⟩
  have HP := Lib.hid hp; have HB1 := Lib.hid hb1; have HA1 := Lib.hid (HA.out.up hb1)
  rw [hN]
  clear hp hb1 C hN
  go_wp2_with fail
  go_loopg [5, 7, 8, 9, 15] N (fun q s5 _ _ _ s15 wr => ∃ (k : Nat) (zs : List Int), s15 = .int .i64 k ∧ k ≤ N ∧ N - k ≤ q ∧ zs.length ≤ k ∧ RowKit.Hid (zs = nums (goneTo a b k)) ∧ RowKit.Hid (wr.ownsRow w1.heap.size 3 1 s5 zs.length (I.ints zs)) ∧ RowKit.Hid (Below w1.heap.size w1 wr))
  case atStart => exact ⟨0, [], rfl, by omega, by omega, by simp, Lib.hid rfl, Lib.hid (World.ownsRow_nil _ _ _ _), Lib.hid (Below.refl _ _)⟩
  case round =>
    obtain ⟨k, zs, rfl, hk, hq, hzl, HZ, HO, HB⟩ := hrel
    by_cases hlt : k < N
    · have h1 : (k : Int) < (N : Int) := by omega
      obtain ⟨hNa, hea, heb, hpsl⟩ : N = a.length ∧ errR a = 0 ∧ errR b = 0 ∧ ps = nums (mtL b a a.length) := by
        rcases HCS.out with ⟨h0, _⟩ | ⟨h0, h1, h2, h3⟩
        · omega
        · exact ⟨h0, h2, h1, h3⟩
      have hrow := (HP.out.below HB.out).mono HB.out.size
      obtain ⟨b2, off2, z, hAp, hb2, hz, hzc⟩ := I.row_at hrow (j := k) (by rw [HNP.out]; exact hlt)
      have hzm : z = (mt b a k : Int) := by rw [hz, hpsl, nums_mtL (by omega)]
      obtain ⟨br, offr, r, x, hA, hbr, hr, hcc, -⟩ := rrow_at (HA1.out.up HB.out) (show k < a.length by omega)
      obtain ⟨c0, c1, c2, c3, c4, c5⟩ := hcc
      have hr' : rwAt a k = r := by rw [rwAt_eq (show k < a.length by omega), hr]
      obtain ⟨u1, u2⟩ := okAt_up ((errR_form hea) k (by omega))
      rw [hr'] at u1 u2
      have hbs := HB.out.size
      have HZM := Lib.hid hzm; have HRR := Lib.hid hr'
      have hka : k < a.length := by omega
      have hkai : (k : Int) < (a.length : Int) := by omega
      have HADD := Lib.hid (show goneB a b k → zs ++ [(k : Int) + 1] = nums (goneTo a b (k + 1)) from fun q => by rw [goneTo, if_pos q, HZ.out]; simp [nums])
      have HSKIP := Lib.hid (show ¬ goneB a b k → zs = nums (goneTo a b (k + 1)) from fun q => by rw [goneTo, if_neg q, HZ.out])
      have hw : IntKind.i64.wrap ((k : Int) + 1) = (k : Int) + 1 := by rw [IntKind.wrap_i64]; omega
      have HNA := Lib.hid hNa; have HPS := Lib.hid hpsl; have HROW := Lib.hid hrow
      clear hz hzm hr hr' hpsl hea heb hNa hrow
      by_cases h0 : z = 0
      · have h0' : (z == 0) = true := by simpa using h0
        have HZ0 := Lib.hid (show mt b a k = 0 by have := HZM.out; omega)
        clear h0
        by_cases hu : r.up = 0
        · have hu' : (r.up == 0) = true := by simpa using hu
          have HZ2 := Lib.hid (HADD.out ⟨HZ0.out, .inl (by rw [HRR.out]; exact hu)⟩)
          clear hu
          go_wp2_with (at_builtin; refine I.wpList_app1 rfl _ _ 46 rfl w1.heap.size 3 i0 (.int .i64 0) 8 Try.underlying46 hi hz0 hz1 hz2 rfl _ zs.length (I.ints zs) rfl HO.out (.int .i64 ((k : Int) + 1)) rfl rfl (by omega) (by unfold maxLen; omega) hbs ?_; intro v2 w2 hown2 hb2)
          have HO2 := Lib.hid (show w2.ownsRow w1.heap.size 3 1 v2 (zs ++ [(k : Int) + 1]).length (I.ints (zs ++ [(k : Int) + 1])) by simpa [I.ints] using hown2)
          have HB2 := Lib.hid (HB.out.trans hb2)
          clear hown2 hb2
          go_wp2_with fail
          try rw [← hAp]
          try rw [← hA]
          go_roundg (N - (k + 1))
          case measure => omega
          case rel => exact ⟨k + 1, zs ++ [(k : Int) + 1], by go_num, by omega, by omega, by simp; omega, HZ2, HO2, HB2⟩
        · have hu' : (r.up == 0) = false := by simpa using hu
          obtain ⟨v, hv⟩ : ∃ v : Nat, v = r.up.toNat - 1 := ⟨_, rfl⟩
          have hwv : IntKind.i64.wrap (r.up - 1) = (v : Int) := by rw [IntKind.wrap_i64]; omega
          have hvN : v < N := by omega
          have hvNi : (v : Int) < (N : Int) := by omega
          obtain ⟨y, hy⟩ : ∃ y, y = ps.getD v 0 := ⟨_, rfl⟩
          have hyc : wr.cell? ⟨b2, off2 + v, none⟩ = some (.int .i64 y) := by
            have hr2 := HROW.out
            rw [hAp] at hr2
            rw [hy]; exact hr2.at2 (by rw [HNP.out]; exact hvN)
          have HY := Lib.hid (show y = (mt b a v : Int) by rw [hy, HPS.out, nums_mtL (by have := HNA.out; omega)])
          have HV := Lib.hid (show v = (rwAt a k).up.toNat - 1 by rw [HRR.out]; exact hv)
          have HU := Lib.hid (show ¬ (rwAt a k).up = 0 by rw [HRR.out]; exact hu)
          clear hu hv hy
          by_cases hy0 : y = 0
          · have hy' : (y != 0) = false := by simpa using hy0
            have HZ2 := Lib.hid (HSKIP.out (fun q => by
              rcases q.2 with q2 | q2
              · exact HU.out q2
              · rw [← HV.out] at q2; have := HY.out; omega))
            clear hy0
            go_wp2_with fail
            try rw [← hAp]
            try rw [← hA]
            go_roundg (N - (k + 1))
            case measure => omega
            case rel => exact ⟨k + 1, zs, by go_num, by omega, by omega, by omega, HZ2, HO, HB⟩
          · have hy' : (y != 0) = true := by simpa using hy0
            have HZ2 := Lib.hid (HADD.out ⟨HZ0.out, .inr (by rw [← HV.out]; have := HY.out; omega)⟩)
            clear hy0
            go_wp2_with (at_builtin; refine I.wpList_app1 rfl _ _ 46 rfl w1.heap.size 3 i0 (.int .i64 0) 8 Try.underlying46 hi hz0 hz1 hz2 rfl _ zs.length (I.ints zs) rfl HO.out (.int .i64 ((k : Int) + 1)) rfl rfl (by omega) (by unfold maxLen; omega) hbs ?_; intro v2 w2 hown2 hb2)
            have HO2 := Lib.hid (show w2.ownsRow w1.heap.size 3 1 v2 (zs ++ [(k : Int) + 1]).length (I.ints (zs ++ [(k : Int) + 1])) by simpa [I.ints] using hown2)
            have HB2 := Lib.hid (HB.out.trans hb2)
            clear hown2 hb2
            go_wp2_with fail
            try rw [← hAp]
            try rw [← hA]
            go_roundg (N - (k + 1))
            case measure => omega
            case rel => exact ⟨k + 1, zs ++ [(k : Int) + 1], by go_num, by omega, by omega, by simp; omega, HZ2, HO2, HB2⟩
      · have h0' : (z == 0) = false := by simpa using h0
        have HZ2 := Lib.hid (HSKIP.out (fun q => by have h1 := q.1; have h2 := HZM.out; omega))
        clear h0
        go_wp2_with fail
        try rw [← hAp]
        try rw [← hA]
        go_roundg (N - (k + 1))
        case measure => omega
        case rel => exact ⟨k + 1, zs, by go_num, by omega, by omega, by omega, HZ2, HO, HB⟩
    · have h1 : ¬ (k : Int) < (N : Int) := by omega
      obtain rfl : k = N := by omega
      have HFIN := Lib.hid (show zs = goneL a b by
        rcases HCS.out with ⟨h0, h1⟩ | ⟨h0, h1, h2, _⟩
        · rw [goneL, if_neg (fun q => h1 ⟨q.2, q.1⟩), HZ.out, h0]; rfl
        · rw [goneL, if_pos ⟨h2, h1⟩, HZ.out, h0])
      go_wp2_with fail
      go_ret
      rw [← HFIN.out]
      exact I.made_own HO.out (HB1.out.trans (HB.out.mono HB1.out.size))
end Go.Proofs.Ytlkdklpglmglkaa
