/-
  tendrilref14.Pairs, Gone and Fresh. | tendrilref14.Gone and Fresh.
-/
import Derived.Test.YtlkdklpglmglkaaMRef
import Derived.Test.YtlkdklpglmglkaaMGone
namespace Go.Proofs.Ytlkdklpglmglkaa
open Go.RowKit Go.Sort Go.Lib
open K (Lab LRow lrow_at)
set_option linter.unusedVariables false
set_option maxRecDepth 100000
def hM (a b : List Rw) (u : Int) (pu i k : Nat) : Nat := if u = 0 ∨ 0 < pu then lastM a b (pu : Int) i k else 0
theorem hM_le (a b : List Rw) (u : Int) (pu i k : Nat) : hM a b u pu i k ≤ k := by
  unfold hM
  split
  · exact lastM_le _ _ _ _ _
  · omega
theorem hM_zero (a b : List Rw) (u : Int) (pu i : Nat) : hM a b u pu i 0 = 0 := by have := hM_le a b u pu i 0; omega
theorem hM_yes {a b : List Rw} {u : Int} {pu i k : Nat} (h1 : (rwAt a k).up = (pu : Int)) (h2 : labR a k = labR b i) (h3 : u = 0 ∨ 0 < pu) : hM a b u pu i (k + 1) = k + 1 := by
  unfold hM
  rw [if_pos h3, lastM, if_pos ⟨h1, h2⟩]
theorem hM_no {a b : List Rw} {u : Int} {pu i k : Nat} (h : ¬ ((rwAt a k).up = (pu : Int) ∧ labR a k = labR b i ∧ (u = 0 ∨ 0 < pu))) : hM a b u pu i (k + 1) = hM a b u pu i k := by
  unfold hM
  by_cases h3 : u = 0 ∨ 0 < pu
  · rw [if_pos h3, if_pos h3, lastM, if_neg (fun q => h ⟨q.1, q.2, h3⟩)]
  · rw [if_neg h3, if_neg h3]
theorem labsR_get {l : List Rw} {n i : Nat} (hi : i < (labsR l n).length) : (labsR l n)[i] = labR l i := by simp [labsR]
set_option maxHeartbeats 8000000 in
theorem rpairs_any (A B : Option Addr) (ca cb : Nat) (a b : List Rw) (w : World) (Ha : RRow w w.heap.size A a) (Hb : RRow w w.heap.size B b) (hf : FormTo b b.length) (hla : a.length ≤ 1000) (hlb : b.length ≤ 1000) :
    Calls Try.prog 35 #[.slice A a.length ca, .slice B b.length cb] w (I.Made w (nums (mtL a b b.length))) := by
  have C := Lib.hid (rlabels_any A ca a w Ha hla)
  have HA := Lib.hid Ha; have HB := Lib.hid Hb; have HF := Lib.hid hf
  obtain ⟨i0, hi, hz0, hz1, hz2⟩ := info_parts I.Try.info3
  clear Ha Hb hf
  go_enter Try.func35, Try.ntmps35
  go_wp2_with fail
  refine C.out.mono ?_
  rintro e w1 ⟨X, cx, rfl, hx, hb1⟩
  have HX := Lib.hid hx; have HB1 := Lib.hid hb1
  have C2 := Lib.hid (rlabels_any B cb b w1 (HB.out.up hb1) hlb)
  rw [labsR_length]
  clear hx hb1 C
  go_wp2_with fail
  refine C2.out.mono ?_
  rintro e w2 ⟨Y, cy, rfl, hy, hb2⟩
  have HY := Lib.hid hy; have HX2 := Lib.hid (HX.out.up hb2); have HB2 := Lib.hid (HB1.out.trans (hb2.mono HB1.out.size))
  have HA2 := Lib.hid (HA.out.up HB2.out); have HBB2 := Lib.hid (HB.out.up HB2.out)
  rw [labsR_length]
  clear hy hb2 C2
  go_wp2_with fail
  go_loopg [7, 8, 9, 10, 11, 18] b.length (fun q s7 _ _ _ _ s18 wr => ∃ i : Nat, s18 = .int .i64 i ∧ i ≤ b.length ∧ b.length - i ≤ q ∧ RowKit.Hid (I.OwnI wr w2.heap.size s7 (nums (mtL a b i))) ∧ RowKit.Hid (Below w2.heap.size w2 wr))
  case atStart => exact ⟨0, rfl, by omega, by omega, Lib.hid (World.ownsRow_nil _ _ _ _), Lib.hid (Below.refl _ _)⟩
  case round =>
    obtain ⟨i, rfl, hi', hq, HO, HBW⟩ := hrel
    obtain ⟨Av, cv, hsv, -⟩ := owni_form HO.out
    have hnl : (nums (mtL a b i)).length = i := by simp [nums, mtL_length]
    rw [hnl] at hsv
    subst hsv
    by_cases hlt : i < b.length
    · have h1 : (i : Int) < (b.length : Int) := by omega
      obtain ⟨bb, ob, r, x, hBB, hbb, hr, hc, -⟩ := rrow_at (HBB2.out.up HBW.out) hlt
      obtain ⟨c0, c1, c2, c3, c4, c5⟩ := hc
      have hr' : rwAt b i = r := by rw [rwAt_eq hlt, hr]
      obtain ⟨u1, u2⟩ := okAt_up (HF.out i hlt)
      rw [hr'] at u1 u2
      obtain ⟨pu, hpu⟩ : ∃ pu : Nat, pu = (if 0 < r.up then (mtL a b i).getD (r.up.toNat - 1) 0 else 0) := ⟨_, rfl⟩
      have HMA := Lib.hid (show hM a b r.up pu i a.length = mt a b i by
        rw [hpu]
        unfold hM mt mAt
        rw [hr'])
      have hpul : pu ≤ 1000 := by
        rw [hpu]
        split
        · rw [mtL_get a b (by omega)]
          have := mt_le (a := a) HF.out (show r.up.toNat - 1 < b.length by omega)
          omega
        · omega
      have hil : i < (labsR b b.length).length := by rw [labsR_length]; exact hlt
      obtain ⟨by_, oy, M, hYY, hby, hM', l0, l1, l2⟩ := lrow_at (HY.out.up HBW.out) hil
      have HMM := Lib.hid (show M = labR b i by rw [hM', labsR_get])
      have HPU := Lib.hid hpu
      have HRR := Lib.hid hr'
      -- the value of up
      have hup : ((r.up > 0) = false ∧ pu = 0) ∨ (r.up > 0 ∧ ∃ (v : Nat) (g : Nat) (o : Nat), IntKind.i64.wrap (r.up - 1) = (v : Int) ∧ v < i ∧ Av = some ⟨g, o, none⟩ ∧ wr.cell? ⟨g, o + v, none⟩ = some (.int .i64 (pu : Int))) := by
        by_cases h0 : 0 < r.up
        · refine .inr ⟨h0, r.up.toNat - 1, ?_⟩
          obtain ⟨g, o, z, hg, hz, hzc⟩ := owni_at HO.out (j := r.up.toNat - 1) (by rw [hnl]; omega)
          refine ⟨g, o, by rw [IntKind.wrap_i64]; omega, by omega, hg, ?_⟩
          have hze : z = (pu : Int) := by
            rw [hz, nums_mtL (by omega), hpu, if_pos h0, mtL_get a b (by omega)]
          rw [hzc, hze]
        · exact .inl ⟨by simpa using h0, by rw [hpu, if_neg h0]⟩
      have HUP := Lib.hid hup
      have HNL := Lib.hid hnl
      clear hr hr' u2 hpu hM' hup hnl
      -- the inner loop, from any state of the slots before it
      have HC := Lib.hid (show RCells wr bb (ob + i * 6) r x from ⟨c0, c1, c2, c3, c4, c5⟩)
      have HLM := Lib.hid (And.intro l0 (And.intro l1 l2))
      have HLTS := Lib.hid (And.intro hbb hby)
      clear hbb hby
      rcases HUP.out with ⟨hu, hp0⟩ | ⟨hu, v, g, o, hwv, hvi, hAv, hvc⟩
      · have hd : decide (r.up > 0) = false := by simpa using hu
        have hd2 : ¬ r.up > 0 := by simpa using hu
        subst hp0
        clear hu
        go_wp2_with fail
        clear c0 c1 c2 c3 c4 c5 l0 l1 l2
        go_loopg [9, 11, 38] a.length (fun q s9 _ s38 wx => ∃ (k m : Nat), s38 = .int .i64 k ∧ s9 = .int .i64 m ∧ k ≤ a.length ∧ a.length - k ≤ q ∧ m ≤ k ∧ RowKit.Hid (m = hM a b r.up 0 i k) ∧ RowKit.Hid (Below wr.heap.size wr wx))
        case atStart => exact ⟨0, 0, rfl, rfl, by omega, by omega, by omega, Lib.hid (hM_zero _ _ _ _ _).symm, Lib.hid (Below.refl _ _)⟩
        case round =>
          obtain ⟨k, m, rfl, rfl, hk, hq2, hmk, HM, HBx⟩ := hrel
          obtain ⟨hbb, hby⟩ := HLTS.out
          have HBX2 := Lib.hid (HBW.out.trans (HBx.out.mono HBW.out.size))
          by_cases hlk : k < a.length
          · have h2 : (k : Int) < (a.length : Int) := by omega
            obtain ⟨ba, oa, s, xs, hAA, hba, hs, hcs, -⟩ := rrow_at (HA2.out.up HBX2.out) hlk
            obtain ⟨e0, e1, e2, e3, e4, e5⟩ := hcs
            obtain ⟨c0, c1, c2, c3, c4, c5⟩ := HC.out.below HBx.out hbb
            have HSS := Lib.hid (show rwAt a k = s by rw [rwAt_eq hlk, hs])
            obtain ⟨bx, ox, L, hXX, hbx, hL, x0, x1, x2⟩ := lrow_at (HX2.out.up HBX2.out) (show k < (labsR a a.length).length by rw [labsR_length]; exact hlk)
            have HLL := Lib.hid (show L = labR a k by rw [hL, labsR_get])
            have l0 := (HBx.out.cell (p := ⟨by_, oy + i * 3, none⟩) hby).trans HLM.out.1
            have l1 := (HBx.out.cell (p := ⟨by_, oy + i * 3 + 1, none⟩) hby).trans HLM.out.2.1
            have l2 := (HBx.out.cell (p := ⟨by_, oy + i * 3 + 2, none⟩) hby).trans HLM.out.2.2
            have hwk : IntKind.i64.wrap ((k : Int) + 1) = (k : Int) + 1 := by rw [IntKind.wrap_i64]; omega
            obtain ⟨bq, hbq⟩ : ∃ bq, bq = decide (L = M) := ⟨_, rfl⟩
            have heq : ∀ W : World, (binOp .eql 58 (.agg #[.string L.tag, .string L.key, .int .i64 L.n]) (.agg #[.string M.tag, .string M.key, .int .i64 M.n])).run Try.prog W = .ok (.bool bq) W := fun W => by rw [eqL2, hbq]
            have HBQ := Lib.hid (show bq = true ↔ labR a k = labR b i by rw [hbq, decide_eq_true_eq, HLL.out, HMM.out])
            have HYES := Lib.hid (show s.up = (0 : Int) → bq = true → (r.up = 0 ∨ 0 < 0) → k + 1 = hM a b r.up 0 i (k + 1) from fun q1 q2 q3 => (hM_yes (by rw [HSS.out]; exact q1) (HBQ.out.1 q2) q3).symm)
            have HNO := Lib.hid (show ¬ (s.up = (0 : Int) ∧ bq = true ∧ (r.up = 0 ∨ 0 < 0)) → m = hM a b r.up 0 i (k + 1) from fun q => by rw [hM_no (fun q1 => q ⟨by rw [← HSS.out]; exact q1.1, HBQ.out.2 q1.2.1, q1.2.2⟩)]; exact HM.out)
            clear hs hL hbq
            by_cases a1 : s.up = (0 : Int)
            · have e1' : (s.up == (0 : Int)) = true := by simpa using a1
              cases bq with
              | true =>
                by_cases a3 : r.up = 0
                · have e3' : (r.up == 0) = true := by simpa using a3
                  have HN := Lib.hid (HYES.out a1 rfl (.inl a3))
                  clear a1 a3
                  go_wp2_with fail
                  go_quiet (fail)
                  go_wp2_with fail
                  try rw [← hAA]
                  try rw [← hXX]
                  go_roundg (a.length - (k + 1))
                  case measure => omega
                  case rel => exact ⟨k + 1, k + 1, by go_num, by go_num, by omega, by omega, by omega, HN, Lib.hid (HBx.out.trans (below_drewN _ _ _))⟩
                · have e3' : (r.up == 0) = false := by simpa using a3
                  have e4' : decide ((0 : Int) > 0) = false := decide_eq_false (by omega)
                  have HN := Lib.hid (HNO.out (fun q => q.2.2.elim a3 (fun h => by omega)))
                  clear a1 a3
                  go_wp2_with fail
                  go_quiet (fail)
                  go_wp2_with fail
                  try rw [← hAA]
                  try rw [← hXX]
                  go_roundg (a.length - (k + 1))
                  case measure => omega
                  case rel => exact ⟨k + 1, m, by go_num, rfl, by omega, by omega, by omega, HN, Lib.hid (HBx.out.trans (below_drewN _ _ _))⟩
              | false =>
                have HN := Lib.hid (HNO.out (fun q => by have := q.2.1; cases this))
                clear a1
                go_wp2_with fail
                go_quiet (fail)
                go_wp2_with fail
                try rw [← hAA]
                try rw [← hXX]
                go_roundg (a.length - (k + 1))
                case measure => omega
                case rel => exact ⟨k + 1, m, by go_num, rfl, by omega, by omega, by omega, HN, Lib.hid (HBx.out.trans (below_drewN _ _ _))⟩
            · have e1' : (s.up == (0 : Int)) = false := by simpa using a1
              have HN := Lib.hid (HNO.out (fun q => a1 q.1))
              clear a1
              go_wp2_with fail
              go_quiet (fail)
              go_wp2_with fail
              try rw [← hAA]
              try rw [← hXX]
              go_roundg (a.length - (k + 1))
              case measure => omega
              case rel => exact ⟨k + 1, m, by go_num, rfl, by omega, by omega, by omega, HN, Lib.hid (HBx.out.trans (below_drewN _ _ _))⟩
          · have h2 : ¬ (k : Int) < (a.length : Int) := by omega
            have HMT := Lib.hid (show m = mt a b i by rw [← HMA.out, HM.out, show k = a.length by omega])
            have hbs : w2.heap.size ≤ wr.heap.size := HBX2.out.size
            have hown : wr.ownsRow w2.heap.size 3 1 (.slice Av i cv) i (I.ints (nums (mtL a b i))) := by
              have h5 := (kept_below HBx.out (fun _ => False)).own HO.out (fun _ _ h => h)
              rw [HNL.out] at h5
              exact h5
            have HOW := Lib.hid hown
            clear hown
            go_wp2_with (at_builtin; refine I.wpList_app1 rfl _ _ 46 rfl w2.heap.size 3 i0 (.int .i64 0) 8 Try.underlying46 hi hz0 hz1 hz2 rfl _ i (I.ints (nums (mtL a b i))) rfl HOW.out (.int .i64 (m : Int)) rfl rfl (by omega) (by unfold maxLen; omega) hbs ?_; intro v2 w5 hown2 hb5)
            have HO5 := Lib.hid (show I.OwnI w5 w2.heap.size v2 (nums (mtL a b (i + 1))) by
              have e6 : nums (mtL a b (i + 1)) = nums (mtL a b i) ++ [(m : Int)] := by
                rw [mtL]
                have e7 : mAt a b (mtL a b i) i = m := HMT.out.symm
                rw [e7]
                simp [nums]
              unfold I.OwnI
              rw [e6]
              have e8 : (nums (mtL a b i) ++ [(m : Int)]).length = i + 1 := by rw [List.length_append, HNL.out]; rfl
              rw [e8]
              simpa [I.ints] using hown2)
            have HB5 := Lib.hid (HBX2.out.trans hb5)
            clear hown2 hb5
            go_wp2_with fail
            try rw [← hBB]
            try rw [← hYY]
            go_roundg (b.length - (i + 1))
            case measure => omega
            case rel => exact ⟨i + 1, by go_num, by omega, by omega, HO5, HB5⟩
      · have hd : decide (r.up > 0) = true := decide_eq_true hu
        have hvii : (v : Int) < (i : Int) := by omega
        go_wp2_with fail
        clear hvc hwv
        clear c0 c1 c2 c3 c4 c5 l0 l1 l2
        go_loopg [9, 11, 38] a.length (fun q s9 _ s38 wx => ∃ (k m : Nat), s38 = .int .i64 k ∧ s9 = .int .i64 m ∧ k ≤ a.length ∧ a.length - k ≤ q ∧ m ≤ k ∧ RowKit.Hid (m = hM a b r.up pu i k) ∧ RowKit.Hid (Below wr.heap.size wr wx))
        case atStart => exact ⟨0, 0, rfl, rfl, by omega, by omega, by omega, Lib.hid (hM_zero _ _ _ _ _).symm, Lib.hid (Below.refl _ _)⟩
        case round =>
          obtain ⟨k, m, rfl, rfl, hk, hq2, hmk, HM, HBx⟩ := hrel
          obtain ⟨hbb, hby⟩ := HLTS.out
          have HBX2 := Lib.hid (HBW.out.trans (HBx.out.mono HBW.out.size))
          by_cases hlk : k < a.length
          · have h2 : (k : Int) < (a.length : Int) := by omega
            obtain ⟨ba, oa, s, xs, hAA, hba, hs, hcs, -⟩ := rrow_at (HA2.out.up HBX2.out) hlk
            obtain ⟨e0, e1, e2, e3, e4, e5⟩ := hcs
            obtain ⟨c0, c1, c2, c3, c4, c5⟩ := HC.out.below HBx.out hbb
            have HSS := Lib.hid (show rwAt a k = s by rw [rwAt_eq hlk, hs])
            obtain ⟨bx, ox, L, hXX, hbx, hL, x0, x1, x2⟩ := lrow_at (HX2.out.up HBX2.out) (show k < (labsR a a.length).length by rw [labsR_length]; exact hlk)
            have HLL := Lib.hid (show L = labR a k by rw [hL, labsR_get])
            have l0 := (HBx.out.cell (p := ⟨by_, oy + i * 3, none⟩) hby).trans HLM.out.1
            have l1 := (HBx.out.cell (p := ⟨by_, oy + i * 3 + 1, none⟩) hby).trans HLM.out.2.1
            have l2 := (HBx.out.cell (p := ⟨by_, oy + i * 3 + 2, none⟩) hby).trans HLM.out.2.2
            have hwk : IntKind.i64.wrap ((k : Int) + 1) = (k : Int) + 1 := by rw [IntKind.wrap_i64]; omega
            obtain ⟨bq, hbq⟩ : ∃ bq, bq = decide (L = M) := ⟨_, rfl⟩
            have heq : ∀ W : World, (binOp .eql 58 (.agg #[.string L.tag, .string L.key, .int .i64 L.n]) (.agg #[.string M.tag, .string M.key, .int .i64 M.n])).run Try.prog W = .ok (.bool bq) W := fun W => by rw [eqL2, hbq]
            have HBQ := Lib.hid (show bq = true ↔ labR a k = labR b i by rw [hbq, decide_eq_true_eq, HLL.out, HMM.out])
            have HYES := Lib.hid (show s.up = (pu : Int) → bq = true → (r.up = 0 ∨ 0 < pu) → k + 1 = hM a b r.up pu i (k + 1) from fun q1 q2 q3 => (hM_yes (by rw [HSS.out]; exact q1) (HBQ.out.1 q2) q3).symm)
            have HNO := Lib.hid (show ¬ (s.up = (pu : Int) ∧ bq = true ∧ (r.up = 0 ∨ 0 < pu)) → m = hM a b r.up pu i (k + 1) from fun q => by rw [hM_no (fun q1 => q ⟨by rw [← HSS.out]; exact q1.1, HBQ.out.2 q1.2.1, q1.2.2⟩)]; exact HM.out)
            clear hs hL hbq
            by_cases a1 : s.up = (pu : Int)
            · have e1' : (s.up == (pu : Int)) = true := by simpa using a1
              cases bq with
              | true =>
                by_cases a3 : r.up = 0
                · have e3' : (r.up == 0) = true := by simpa using a3
                  have HN := Lib.hid (HYES.out a1 rfl (.inl a3))
                  clear a1 a3
                  go_wp2_with fail
                  go_quiet (fail)
                  go_wp2_with fail
                  try rw [← hAA]
                  try rw [← hXX]
                  try rw [← hBB]
                  try rw [← hYY]
                  try rw [← hAv]
                  go_roundg (a.length - (k + 1))
                  case measure => omega
                  case rel => exact ⟨k + 1, k + 1, by go_num, by go_num, by omega, by omega, by omega, HN, Lib.hid (HBx.out.trans (below_drewN _ _ _))⟩
                · have e3' : (r.up == 0) = false := by simpa using a3
                  by_cases a4 : 0 < pu
                  · have e4' : decide ((pu : Int) > 0) = true := decide_eq_true (by omega)
                    have HN := Lib.hid (HYES.out a1 rfl (.inr a4))
                    clear a1 a3
                    go_wp2_with fail
                    go_quiet (fail)
                    go_wp2_with fail
                    try rw [← hAA]
                    try rw [← hXX]
                    try rw [← hBB]
                    try rw [← hYY]
                    try rw [← hAv]
                    go_roundg (a.length - (k + 1))
                    case measure => omega
                    case rel => exact ⟨k + 1, k + 1, by go_num, by go_num, by omega, by omega, by omega, HN, Lib.hid (HBx.out.trans (below_drewN _ _ _))⟩
                  · have e4' : decide ((pu : Int) > 0) = false := decide_eq_false (by omega)
                    have HN := Lib.hid (HNO.out (fun q => q.2.2.elim a3 a4))
                    clear a1 a3
                    go_wp2_with fail
                    go_quiet (fail)
                    go_wp2_with fail
                    try rw [← hAA]
                    try rw [← hXX]
                    try rw [← hBB]
                    try rw [← hYY]
                    try rw [← hAv]
                    go_roundg (a.length - (k + 1))
                    case measure => omega
                    case rel => exact ⟨k + 1, m, by go_num, rfl, by omega, by omega, by omega, HN, Lib.hid (HBx.out.trans (below_drewN _ _ _))⟩
              | false =>
                have HN := Lib.hid (HNO.out (fun q => by have := q.2.1; cases this))
                clear a1
                go_wp2_with fail
                go_quiet (fail)
                go_wp2_with fail
                try rw [← hAA]
                try rw [← hXX]
                try rw [← hBB]
                try rw [← hYY]
                try rw [← hAv]
                go_roundg (a.length - (k + 1))
                case measure => omega
                case rel => exact ⟨k + 1, m, by go_num, rfl, by omega, by omega, by omega, HN, Lib.hid (HBx.out.trans (below_drewN _ _ _))⟩
            · have e1' : (s.up == (pu : Int)) = false := by simpa using a1
              have HN := Lib.hid (HNO.out (fun q => a1 q.1))
              clear a1
              go_wp2_with fail
              go_quiet (fail)
              go_wp2_with fail
              try rw [← hAA]
              try rw [← hXX]
              try rw [← hBB]
              try rw [← hYY]
              try rw [← hAv]
              go_roundg (a.length - (k + 1))
              case measure => omega
              case rel => exact ⟨k + 1, m, by go_num, rfl, by omega, by omega, by omega, HN, Lib.hid (HBx.out.trans (below_drewN _ _ _))⟩
          · have h2 : ¬ (k : Int) < (a.length : Int) := by omega
            have HMT := Lib.hid (show m = mt a b i by rw [← HMA.out, HM.out, show k = a.length by omega])
            have hbs : w2.heap.size ≤ wr.heap.size := HBX2.out.size
            have hown : wr.ownsRow w2.heap.size 3 1 (.slice Av i cv) i (I.ints (nums (mtL a b i))) := by
              have h5 := (kept_below HBx.out (fun _ => False)).own HO.out (fun _ _ h => h)
              rw [HNL.out] at h5
              exact h5
            have HOW := Lib.hid hown
            clear hown
            go_wp2_with (at_builtin; refine I.wpList_app1 rfl _ _ 46 rfl w2.heap.size 3 i0 (.int .i64 0) 8 Try.underlying46 hi hz0 hz1 hz2 rfl _ i (I.ints (nums (mtL a b i))) rfl HOW.out (.int .i64 (m : Int)) rfl rfl (by omega) (by unfold maxLen; omega) hbs ?_; intro v2 w5 hown2 hb5)
            have HO5 := Lib.hid (show I.OwnI w5 w2.heap.size v2 (nums (mtL a b (i + 1))) by
              have e6 : nums (mtL a b (i + 1)) = nums (mtL a b i) ++ [(m : Int)] := by
                rw [mtL]
                have e7 : mAt a b (mtL a b i) i = m := HMT.out.symm
                rw [e7]
                simp [nums]
              unfold I.OwnI
              rw [e6]
              have e8 : (nums (mtL a b i) ++ [(m : Int)]).length = i + 1 := by rw [List.length_append, HNL.out]; rfl
              rw [e8]
              simpa [I.ints] using hown2)
            have HB5 := Lib.hid (HBX2.out.trans hb5)
            clear hown2 hb5
            go_wp2_with fail
            try rw [← hBB]
            try rw [← hYY]
            try rw [← hAv]
            go_roundg (b.length - (i + 1))
            case measure => omega
            case rel => exact ⟨i + 1, by go_num, by omega, by omega, HO5, HB5⟩
    · have h1 : ¬ (i : Int) < (b.length : Int) := by omega
      obtain rfl : i = b.length := by omega
      go_wp2_with fail
      go_ret
      exact I.made_own HO.out (HB2.out.trans (HBW.out.mono HB2.out.size))
end Go.Proofs.Ytlkdklpglmglkaa

namespace Go.Proofs.Ytlkdklpglmglkaa
open Go.RowKit Go.Sort Go.Lib
set_option linter.unusedVariables false
set_option maxRecDepth 100000
set_option maxHeartbeats 8000000 in
theorem rfresh_any (A B : Option Addr) (ca cb : Nat) (a b : List Rw) (w : World) (Ha : RRow w w.heap.size A a) (Hb : RRow w w.heap.size B b) (hf : FormTo b b.length) (hla : a.length ≤ 1000) (hlb : b.length ≤ 1000) :
    Calls Try.prog 37 #[.slice A a.length ca, .slice B b.length cb] w (I.Made w (nums (freshTo a b b.length))) := by
  have C := Lib.hid (rpairs_any A B ca cb a b w Ha Hb hf hla hlb)
  obtain ⟨i0, hi, hz0, hz1, hz2⟩ := info_parts I.Try.info3
  have hN : (nums (mtL a b b.length)).length = b.length := by simp [nums, mtL_length]
  obtain ⟨ps, hps⟩ : ∃ ps, ps = nums (mtL a b b.length) := ⟨_, rfl⟩
  rw [← hps] at C hN
  have HPS := Lib.hid hps; have HNP := Lib.hid hN
  clear Ha Hb hf hps
  go_enter Try.func37, Try.ntmps37
  go_wp2_with fail
  refine C.out.mono ?_
  rintro e w1 ⟨Ap, cp, rfl, hp, -, -, -, hb1⟩
  have HP := Lib.hid hp; have HB1 := Lib.hid hb1
  rw [hN]
  obtain ⟨N, hNN⟩ : ∃ N, N = b.length := ⟨_, rfl⟩
  have HNN := Lib.hid hNN
  rw [← hNN]
  rw [← hNN] at hlb
  clear hp hb1 C hN hNN
  go_wp2_with fail
  go_loopg [6, 7, 13] N (fun q s6 _ s10 wr => ∃ (k : Nat) (zs : List Int), s10 = .int .i64 k ∧ k ≤ N ∧ N - k ≤ q ∧ zs.length ≤ k ∧ RowKit.Hid (zs = nums (freshTo a b k)) ∧ RowKit.Hid (wr.ownsRow w1.heap.size 3 1 s6 zs.length (I.ints zs)) ∧ RowKit.Hid (Below w1.heap.size w1 wr))
  case atStart => exact ⟨0, [], rfl, by omega, by omega, by simp, Lib.hid rfl, Lib.hid (World.ownsRow_nil _ _ _ _), Lib.hid (Below.refl _ _)⟩
  case round =>
    obtain ⟨k, zs, rfl, hk, hq, hzl, HZ, HO, HB⟩ := hrel
    by_cases hlt : k < N
    · have h1 : (k : Int) < (N : Int) := by omega
      obtain ⟨b2, off2, z, hAp, hb2, hz, hzc⟩ := I.row_at ((HP.out.below HB.out).mono HB.out.size) (j := k) (by rw [HNP.out, ← HNN.out]; exact hlt)
      have hzm : z = (mt a b k : Int) := by rw [hz, HPS.out, nums_mtL (by rw [← HNN.out]; exact hlt)]
      have hbs := HB.out.size
      have HZM := Lib.hid hzm
      clear hz hzm
      by_cases h0 : z = 0
      · have h0' : (z == 0) = true := by simpa using h0
        have hw : IntKind.i64.wrap ((k : Int) + 1) = (k : Int) + 1 := by rw [IntKind.wrap_i64]; omega
        have HZ2 := Lib.hid (show zs ++ [(k : Int) + 1] = nums (freshTo a b (k + 1)) by rw [freshTo, if_pos (by have := HZM.out; omega), HZ.out]; simp [nums])
        clear h0
        go_wp2_with (at_builtin; refine I.wpList_app1 rfl _ _ 46 rfl w1.heap.size 3 i0 (.int .i64 0) 8 Try.underlying46 hi hz0 hz1 hz2 rfl _ zs.length (I.ints zs) rfl HO.out (.int .i64 ((k : Int) + 1)) rfl rfl (by omega) (by unfold maxLen; omega) hbs ?_; intro v2 w2 hown2 hb2)
        have HO2 := Lib.hid (show w2.ownsRow w1.heap.size 3 1 v2 (zs ++ [(k : Int) + 1]).length (I.ints (zs ++ [(k : Int) + 1])) by simpa [I.ints] using hown2)
        have HB2 := Lib.hid (HB.out.trans hb2)
        clear hown2 hb2
        go_wp2_with fail
        try rw [← hAp]
        go_roundg (N - (k + 1))
        case measure => omega
        case rel => exact ⟨k + 1, zs ++ [(k : Int) + 1], by go_num, by omega, by omega, by simp; omega, HZ2, HO2, HB2⟩
      · have h0' : (z == 0) = false := by simpa using h0
        have HZ2 := Lib.hid (show zs = nums (freshTo a b (k + 1)) by rw [freshTo, if_neg (by have := HZM.out; omega), HZ.out])
        clear h0
        go_wp2_with fail
        try rw [← hAp]
        go_roundg (N - (k + 1))
        case measure => omega
        case rel => exact ⟨k + 1, zs, by go_num, by omega, by omega, by omega, HZ2, HO, HB⟩
    · have h1 : ¬ (k : Int) < (N : Int) := by omega
      obtain rfl : k = N := by omega
      have HFIN := Lib.hid (show zs = nums (freshTo a b b.length) by rw [HZ.out, HNN.out])
      go_wp2_with fail
      go_ret
      rw [← HFIN.out]
      exact I.made_own HO.out (HB1.out.trans (HB.out.mono HB1.out.size))
set_option maxHeartbeats 8000000 in
theorem rgone_any (A B : Option Addr) (ca cb : Nat) (a b : List Rw) (w : World) (Ha : RRow w w.heap.size A a) (Hb : RRow w w.heap.size B b) (hf : FormTo a a.length) (hla : a.length ≤ 1000) (hlb : b.length ≤ 1000) :
    Calls Try.prog 36 #[.slice A a.length ca, .slice B b.length cb] w (I.Made w (nums (goneTo a b a.length))) := by
  have C := Lib.hid (rpairs_any B A cb ca b a w Hb Ha hf hlb hla)
  obtain ⟨i0, hi, hz0, hz1, hz2⟩ := info_parts I.Try.info3
  have hN : (nums (mtL b a a.length)).length = a.length := by simp [nums, mtL_length]
  obtain ⟨ps, hps⟩ : ∃ ps, ps = nums (mtL b a a.length) := ⟨_, rfl⟩
  rw [← hps] at C hN
  have HPS := Lib.hid hps; have HNP := Lib.hid hN; have HA := Lib.hid Ha; have HF := Lib.hid hf
  clear Ha Hb hf hps
  go_enter Try.func36, Try.ntmps36
  go_wp2_with fail
  refine C.out.mono ?_
  rintro e w1 ⟨Ap, cp, rfl, hp, -, -, -, hb1⟩
  have HP := Lib.hid hp; have HB1 := Lib.hid hb1; have HA1 := Lib.hid (HA.out.up hb1)
  rw [hN]
  clear hp hb1 C hN
  go_wp2_with fail
  go_loopg [6, 7, 13] a.length (fun q s6 _ s13 wr => ∃ (k : Nat) (zs : List Int), s13 = .int .i64 k ∧ k ≤ a.length ∧ a.length - k ≤ q ∧ zs.length ≤ k ∧ RowKit.Hid (zs = nums (goneTo a b k)) ∧ RowKit.Hid (wr.ownsRow w1.heap.size 3 1 s6 zs.length (I.ints zs)) ∧ RowKit.Hid (Below w1.heap.size w1 wr))
  case atStart => exact ⟨0, [], rfl, by omega, by omega, by simp, Lib.hid rfl, Lib.hid (World.ownsRow_nil _ _ _ _), Lib.hid (Below.refl _ _)⟩
  case round =>
    obtain ⟨k, zs, rfl, hk, hq, hzl, HZ, HO, HB⟩ := hrel
    by_cases hlt : k < a.length
    · have h1 : (k : Int) < (a.length : Int) := by omega
      have hrow := (HP.out.below HB.out).mono HB.out.size
      obtain ⟨b2, off2, z, hAp, hb2, hz, hzc⟩ := I.row_at hrow (j := k) (by rw [HNP.out]; exact hlt)
      have hzm : z = (mt b a k : Int) := by rw [hz, HPS.out, nums_mtL hlt]
      obtain ⟨br, offr, r, x, hA, hbr, hr, hcc, -⟩ := rrow_at (HA1.out.up HB.out) hlt
      obtain ⟨c0, c1, c2, c3, c4, c5⟩ := hcc
      have hr' : rwAt a k = r := by rw [rwAt_eq hlt, hr]
      obtain ⟨u1, u2⟩ := okAt_up (HF.out k hlt)
      rw [hr'] at u1 u2
      have hbs := HB.out.size
      have HZM := Lib.hid hzm; have HRR := Lib.hid hr'
      have HADD := Lib.hid (show goneB a b k → zs ++ [(k : Int) + 1] = nums (goneTo a b (k + 1)) from fun q => by rw [goneTo, if_pos q, HZ.out]; simp [nums])
      have HSKIP := Lib.hid (show ¬ goneB a b k → zs = nums (goneTo a b (k + 1)) from fun q => by rw [goneTo, if_neg q, HZ.out])
      have hw : IntKind.i64.wrap ((k : Int) + 1) = (k : Int) + 1 := by rw [IntKind.wrap_i64]; omega
      have HROW := Lib.hid hrow
      clear hz hzm hr hr' hrow
      by_cases h0 : z = 0
      · have h0' : (z == 0) = true := by simpa using h0
        have HZ0 := Lib.hid (show mt b a k = 0 by have := HZM.out; omega)
        clear h0
        by_cases hu : r.up = 0
        · have hu' : (r.up == 0) = true := by simpa using hu
          have HZ2 := Lib.hid (HADD.out ⟨HZ0.out, .inl (by rw [HRR.out]; exact hu)⟩)
          clear hu
          go_wp2_with (at_builtin; refine I.wpList_app1 rfl _ _ 46 rfl w1.heap.size 3 i0 (.int .i64 0) 8 Try.underlying46 hi hz0 hz1 hz2 rfl _ zs.length (I.ints zs) rfl HO.out (.int .i64 ((k : Int) + 1)) rfl rfl (by omega) (by unfold maxLen; omega) hbs ?_; intro v2 w2 hown2 hb2)
          have HO2 := Lib.hid (show w2.ownsRow w1.heap.size 3 1 v2 (zs ++ [(k : Int) + 1]).length (I.ints (zs ++ [(k : Int) + 1])) by simpa [I.ints] using hown2)
          have HB2 := Lib.hid (HB.out.trans hb2)
          clear hown2 hb2
          go_wp2_with fail
          try rw [← hAp]
          try rw [← hA]
          go_roundg (a.length - (k + 1))
          case measure => omega
          case rel => exact ⟨k + 1, zs ++ [(k : Int) + 1], by go_num, by omega, by omega, by simp; omega, HZ2, HO2, HB2⟩
        · have hu' : (r.up == 0) = false := by simpa using hu
          obtain ⟨v, hv⟩ : ∃ v : Nat, v = r.up.toNat - 1 := ⟨_, rfl⟩
          have hwv : IntKind.i64.wrap (r.up - 1) = (v : Int) := by rw [IntKind.wrap_i64]; omega
          have hvN : v < a.length := by omega
          have hvNi : (v : Int) < (a.length : Int) := by omega
          obtain ⟨y, hy⟩ : ∃ y, y = ps.getD v 0 := ⟨_, rfl⟩
          have hyc : wr.cell? ⟨b2, off2 + v, none⟩ = some (.int .i64 y) := by
            have hr2 := HROW.out
            rw [hAp] at hr2
            rw [hy]; exact hr2.at2 (by rw [HNP.out]; exact hvN)
          have HY := Lib.hid (show y = (mt b a v : Int) by rw [hy, HPS.out, nums_mtL hvN])
          have HV := Lib.hid (show v = (rwAt a k).up.toNat - 1 by rw [HRR.out]; exact hv)
          have HU := Lib.hid (show ¬ (rwAt a k).up = 0 by rw [HRR.out]; exact hu)
          have hy00 : 0 ≤ y := by have := HY.out; omega
          clear hu hv hy
          by_cases hy0 : y > 0
          · have hy' : decide (y > 0) = true := decide_eq_true hy0
            have HZ2 := Lib.hid (HADD.out ⟨HZ0.out, .inr (by rw [← HV.out]; have := HY.out; omega)⟩)
            clear hy0 hy00
            go_wp2_with (at_builtin; refine I.wpList_app1 rfl _ _ 46 rfl w1.heap.size 3 i0 (.int .i64 0) 8 Try.underlying46 hi hz0 hz1 hz2 rfl _ zs.length (I.ints zs) rfl HO.out (.int .i64 ((k : Int) + 1)) rfl rfl (by omega) (by unfold maxLen; omega) hbs ?_; intro v2 w2 hown2 hb2)
            have HO2 := Lib.hid (show w2.ownsRow w1.heap.size 3 1 v2 (zs ++ [(k : Int) + 1]).length (I.ints (zs ++ [(k : Int) + 1])) by simpa [I.ints] using hown2)
            have HB2 := Lib.hid (HB.out.trans hb2)
            clear hown2 hb2
            go_wp2_with fail
            try rw [← hAp]
            try rw [← hA]
            go_roundg (a.length - (k + 1))
            case measure => omega
            case rel => exact ⟨k + 1, zs ++ [(k : Int) + 1], by go_num, by omega, by omega, by simp; omega, HZ2, HO2, HB2⟩
          · have hy' : decide (y > 0) = false := decide_eq_false hy0
            have HZ2 := Lib.hid (HSKIP.out (fun q => by
              rcases q.2 with q2 | q2
              · exact HU.out q2
              · rw [← HV.out] at q2; have := HY.out; omega))
            clear hy0 hy00
            go_wp2_with fail
            try rw [← hAp]
            try rw [← hA]
            go_roundg (a.length - (k + 1))
            case measure => omega
            case rel => exact ⟨k + 1, zs, by go_num, by omega, by omega, by omega, HZ2, HO, HB⟩
      · have h0' : (z == 0) = false := by simpa using h0
        have HZ2 := Lib.hid (HSKIP.out (fun q => by have h1 := q.1; have h2 := HZM.out; omega))
        clear h0
        go_wp2_with fail
        try rw [← hAp]
        try rw [← hA]
        go_roundg (a.length - (k + 1))
        case measure => omega
        case rel => exact ⟨k + 1, zs, by go_num, by omega, by omega, by omega, HZ2, HO, HB⟩
    · have h1 : ¬ (k : Int) < (a.length : Int) := by omega
      obtain rfl : k = a.length := by omega
      go_wp2_with fail
      go_ret
      have hz : zs = nums (goneTo a b a.length) := HZ.out
      rw [← hz]
      exact I.made_own HO.out (HB1.out.trans (HB.out.mono HB1.out.size))
end Go.Proofs.Ytlkdklpglmglkaa
