/-
  tendrilref08.One, and what the law's own run and up answer.
-/
import Derived.Test.YtlpjjnpafmakhaaROne
import Derived.Deep.RegionHeld3
namespace Go.Proofs.Ytlpjjnpafmakhaa
open Go.RowKit
set_option linter.unusedVariables false

def lessTo (s : List Nat) (a k : Nat) : List Nat := less (s.take k) a
theorem lessTo_yes {s : List Nat} {a k : Nat} (hk : k < s.length) (h : s[k] ≠ a) : lessTo s a (k + 1) = lessTo s a k ++ [s[k]] := by
  unfold lessTo less; rw [List.take_succ_eq_append_getElem hk, List.filter_append]; simp [h]
theorem lessTo_no {s : List Nat} {a k : Nat} (hk : k < s.length) (h : s[k] = a) : lessTo s a (k + 1) = lessTo s a k := by
  unfold lessTo less; rw [List.take_succ_eq_append_getElem hk, List.filter_append]; simp [h]
theorem lessTo_end (s : List Nat) (a : Nat) : lessTo s a s.length = less s a := by simp [lessTo]
theorem lessTo_len (s : List Nat) (a k : Nat) (h : k ≤ s.length) : (lessTo s a k).length ≤ k := by
  have := List.length_filter_le (fun x => decide (x ≠ a)) (s.take k)
  unfold lessTo less; rw [List.length_take] at this; omega
def ORel1 (w1 : World) (s : List Nat) (a : Nat) (v i : Value) (wr : World) : Prop := ∃ k : Nat, k ≤ s.length ∧ i = .int .i64 k ∧ OwnI wr w1.heap.size v (nats (lessTo s a k)) ∧ Below w1.heap.size w1 wr

set_option maxRecDepth 100000 in
set_option maxHeartbeats 8000000 in
theorem one_any (A : Option Addr) (c : Nat) (s : List Nat) (a b : Int) (n : Nat) (w : World) (hr : Row w w.heap.size A (nats s)) (hl : s.length ≤ 1000000) (hn : n ≤ 1000000) :
    Calls Try.prog 26 #[.slice A s.length c, .agg #[.int .i64 a, .int .i64 b], .int .i64 n] w (DoAns w (stepL n s (a, b))) := by
  obtain ⟨i0, hi, hz0, hz1, hz2⟩ := info_parts Try.info3
  obtain ⟨w1, hw1⟩ : ∃ w1, w1 = w.alloc (.cells #[.int .i64 a, .int .i64 b] 37) := ⟨_, rfl⟩
  have hb1 : Below w.heap.size w w1 := by rw [hw1]; exact (Below.refl _ _).alloc (Nat.le_refl _) _
  have ca : w1.cell? ⟨w.heap.size, 0, none⟩ = some (.int .i64 a) := by rw [hw1]; simp
  have cb : w1.cell? ⟨w.heap.size, 1, none⟩ = some (.int .i64 b) := by rw [hw1]; simp
  have hs1 : w1.heap.size = w.heap.size + 1 := by rw [hw1]; simp
  have hr1 : Row w1 w1.heap.size A (nats s) := (hr.below hb1).mono hb1.size
  have HW := Lib.hid hw1; have HS1 := Lib.hid hs1
  clear hw1 hs1 hr
  by_cases hA : 0 ≤ a
  · have hd0 : decide (a < 0) = false := by simp; omega
    by_cases hN : a < n
    · have hd1 : decide ((n : Int) ≤ a) = false := by simp; omega
      by_cases hba : b = a
      · have hd2 : (b == a) = true := by simpa using hba
        have hst : stepL n s (a, b) = none := by rw [hba]; exact step_not2
        have HST := Lib.hid hst
        clear hst hba
        go_enter Try.func26, Try.ntmps26
        go_wp2_with fail
        rw [← HW.out]
        go_wp2_with fail
        go_ret2
        rw [HST.out]
        exact doAns_none hb1
      · have hd2 : (b == a) = false := by simpa using hba
        obtain ⟨a', rfl⟩ : ∃ a' : Nat, a = a' := ⟨a.toNat, by omega⟩
        have ha : a' < n := by omega
        have hd1n : decide (n ≤ a') = false := by simp; omega
        go_enter Try.func26, Try.ntmps26
        go_wp2_with fail
        rw [← HW.out]
        go_wp2_with fail
        go_loopw [8, 29] (ORel1 w1 s a') (fun _ i _ => s.length - (intOf i).toNat)
        case atStart => exact ⟨0, by omega, rfl, World.ownsRow_nil _ _ _ _, Below.refl _ _⟩
        case round =>
          obtain ⟨k, hk, rfl, hown, hbel⟩ := hrel
          have hsz := hbel.size
          have hlk := lessTo_len s a' k hk
          have hs1 := HS1.out
          have ca2 := (hbel.cell (p := ⟨w.heap.size, 0, none⟩) (by show w.heap.size < w1.heap.size; omega)).trans ca
          have cb2 := (hbel.cell (p := ⟨w.heap.size, 1, none⟩) (by show w.heap.size < w1.heap.size; omega)).trans cb
          clear hs1
          by_cases hlt : k < s.length
          · obtain ⟨bb, off, t', rfl, hbb, ht', hc⟩ := row_at (hr1.below hbel) (show k < (nats s).length by rw [nats_length]; exact hlt)
            obtain ⟨t, htd⟩ : ∃ t, t = s[k] := ⟨_, rfl⟩
            have etk : t' = (t : Int) := by rw [ht']; simp [nats, List.getD_eq_getElem?_getD, hlt, htd]
            subst etk
            have HTD := Lib.hid htd
            clear ht' htd
            by_cases hta : t = a'
            · have hd3 : ((t : Int) != (a' : Int)) = false := by simp [hta]
              have hd4 : (t != a') = false := by simp [hta]
              have HL := Lib.hid (lessTo_no hlt (a := a') (by rw [← HTD.out]; exact hta))
              have HO := Lib.hid hown
              clear hown
              subst hta
              go_wp2_with fail
              go_quiet (fail)
              go_wp2
              exact ⟨⟨k + 1, by omega, by go_num, by rw [HL.out]; exact own_drewN HO.out _, bel_drewN hbel _⟩, by simp [intOf]; omega⟩
            · have hd3 : ((t : Int) != (a' : Int)) = true := by simp; omega
              have hd4 : (t != a') = true := by simpa using hta
              have HL := Lib.hid (lessTo_yes hlt (a := a') (by rw [← HTD.out]; exact hta))
              have HO := Lib.hid hown
              clear hown
              go_wp2_with fail
              go_quiet (fail)
              have hown3 := own_drewN HO.out nq
              have hb3 := bel_drewN hbel nq
              have hc3 : (wr.drewN nq).cell? ⟨bb, off + k, none⟩ = some (.int .i64 (t : Int)) := hc
              have hsz3 := hb3.size
              generalize wr.drewN nq = w3 at hown3 hb3 hc3 hsz3 ⊢
              unfold OwnI at hown3
              rw [nats_length] at hown3
              clear hc ca2 cb2
              go_wp2_with (at_builtin; refine wpList_app1 rfl _ _ 22 rfl w1.heap.size 3 i0 (.int .i64 0) 8 Try.underlying22 hi hz0 hz1 hz2 rfl _ _ _ rfl hown3 (.int .i64 (t : Int)) rfl rfl (by omega) (by simp [maxLen]; omega) (by omega) ?_; intro v' w4 hown4 hbel4)
              refine ⟨⟨k + 1, by omega, by go_num, ?_, hb3.trans hbel4⟩, by simp [intOf]; omega⟩
              rw [HL.out, ← HTD.out, nats_snoc]
              exact own_next' (nats_length _) hown4
          · obtain rfl : k = s.length := by omega
            rw [lessTo_end] at hown hlk
            obtain ⟨r, hrr⟩ : ∃ r, r = less s a' := ⟨_, rfl⟩
            rw [← hrr] at hown hlk
            have HRR := Lib.hid hrr
            obtain ⟨Ao, co, hv, hro, -, -, -⟩ := row_own hown
            rw [nats_length] at hv
            subst hv
            have hb0 := hb1.trans (hbel.mono hb1.size)
            clear hrr hlt
            have HO := Lib.hid hown
            clear hown
            by_cases hbe : b = -1
            · subst hbe
              have hd5 : ((-1 : Int) != -1) = false := by decide
              have HST := Lib.hid (show stepL n s ((a' : Int), -1) = some (r ++ [a']) by rw [HRR.out]; exact step_end ha)
              have HP := Lib.hid (put_own r.length (a' : Int) wr HO.out (by rw [nats_length]; omega) (by rw [nats_length]; omega))
              clear hro
              go_wp2_with fail
              refine HP.out.mono ?_
              rintro e w5 ⟨v5, rfl, hown5, hb5⟩
              rw [nats_take, nats_drop, ← nats_cons, ← nats_append, List.take_of_length_le (Nat.le_refl _), List.drop_eq_nil_of_le (Nat.le_refl _)] at hown5
              obtain ⟨s', hs'⟩ : ∃ s', s' = r ++ [a'] := ⟨_, rfl⟩
              rw [← hs'] at hown5
              have HS' := Lib.hid hs'
              clear hs'
              obtain ⟨A5, c5, hv5, hro5, -, hcm5, -⟩ := row_own hown5
              rw [nats_length] at hv5
              subst hv5
              clear hown5
              go_wp2_with fail
              go_ret2
              rw [HST.out, ← HS'.out]
              exact ⟨A5, c5, rfl, hro5, hcm5, hb0.trans (hb5.mono hb0.size)⟩
            · have hd5 : (b != -1) = true := by simpa using hbe
              by_cases hm : 0 ≤ b ∧ b.toNat ∈ r
              · obtain ⟨b', rfl⟩ : ∃ b' : Nat, b = b' := ⟨b.toNat, by omega⟩
                have hm' : b' ∈ r := by simpa using hm.2
                obtain ⟨u, v, e, hu, e1, e2⟩ := split_at hm'
                have hst : stepL n s ((a' : Int), (b' : Int)) = some (u ++ a' :: b' :: v) := by
                  have hm2 : b' ∈ s := by rw [HRR.out] at hm'; exact (List.mem_filter.1 hm').1
                  rw [step_mid ha (by omega) hm2, ← HRR.out]
                  unfold ahead
                  rw [e1, e2]
                have HST := Lib.hid hst
                have huv : u.length ≤ r.length := by rw [e]; simp
                have hro' := hro
                rw [e, nats_append, nats_cons] at hro'
                have hfl : (nats u ++ (b' : Int) :: nats v).length = r.length := by rw [e]; simp [nats]
                have hf := find_yes Ao co (nats u) (nats v) (b' : Int) wr hro' (by rw [hfl]; omega) (fun j hj => by
                  rw [nats_length] at hj
                  rw [nats_at hj]
                  intro h
                  exact hu (by have : u.getD j 0 = b' := by omega
                               rw [← this, getD_lt hj]; exact List.getElem_mem _))
                rw [hfl, nats_length] at hf
                have HF := Lib.hid hf
                have HP := Lib.hid (put_own u.length (a' : Int) wr HO.out (by rw [nats_length]; omega) (by rw [nats_length]; exact huv))
                have htk : r.take u.length = u := by rw [e]; simp
                have hdk : r.drop u.length = b' :: v := by rw [e]; simp
                have HTK := Lib.hid htk; have HDK := Lib.hid hdk
                clear hst hro hro' hfl hf htk hdk e e1 e2
                go_wp2_with fail
                refine HF.out.mono ?_
                rintro e w5 ⟨rfl, rfl⟩
                have hd6 : decide (((u.length : Nat) : Int) < 0) = false := by simp
                go_wp2_with fail
                refine HP.out.mono ?_
                rintro e w5 ⟨v5, rfl, hown5, hb5⟩
                rw [nats_take, nats_drop, ← nats_cons, ← nats_append, HTK.out, HDK.out] at hown5
                obtain ⟨s', hs'⟩ : ∃ s', s' = u ++ a' :: b' :: v := ⟨_, rfl⟩
                rw [← hs'] at hown5
                have HS' := Lib.hid hs'
                clear hs'
                obtain ⟨A5, c5, hv5, hro5, -, hcm5, -⟩ := row_own hown5
                rw [nats_length] at hv5
                subst hv5
                clear hown5
                go_wp2_with fail
                go_ret2
                rw [HST.out, ← HS'.out]
                exact ⟨A5, c5, rfl, hro5, hcm5, hb0.trans (hb5.mono hb0.size)⟩
              · have hst : stepL n s ((a' : Int), b) = none := by
                  unfold stepL
                  rw [if_pos (show 0 ≤ (a' : Int) ∧ (a' : Int) < n ∧ b ≠ a' from ⟨hA, hN, hba⟩), if_neg hbe, if_neg]
                  simp only [Int.toNat_natCast]
                  rw [← HRR.out]
                  exact hm
                have HST := Lib.hid hst
                have hf := find_no Ao co (nats r) b wr hro (by rw [nats_length]; omega) (fun j hj => by
                  rw [nats_length] at hj
                  rw [nats_at hj]
                  intro h
                  exact hm ⟨by omega, by rw [← h, Int.toNat_natCast, getD_lt hj]; exact List.getElem_mem _⟩)
                rw [nats_length] at hf
                have HF := Lib.hid hf
                clear hst hf hro
                go_wp2_with fail
                refine HF.out.mono ?_
                rintro e w5 ⟨rfl, rfl⟩
                go_wp2_with fail
                go_ret2
                rw [HST.out]
                exact doAns_none hb0
    · have hd1 : decide ((n : Int) ≤ a) = true := by simp; omega
      have HST := Lib.hid (show stepL n s (a, b) = none from step_not1 (by omega))
      go_enter Try.func26, Try.ntmps26
      go_wp2_with fail
      rw [← HW.out]
      go_wp2_with fail
      go_ret2
      rw [HST.out]
      exact doAns_none hb1
  · have hd0 : decide (a < 0) = true := by simp; omega
    have HST := Lib.hid (show stepL n s (a, b) = none from step_not1 (by omega))
    go_enter Try.func26, Try.ntmps26
    go_wp2_with fail
    rw [← HW.out]
    go_wp2_with fail
    go_ret2
    rw [HST.out]
    exact doAns_none hb1

/-! The law's own run. -/
def RRel (w : World) (l : List Int) (ps : List (Int × Int)) (v i : Value) (wr : World) : Prop :=
  ∃ (k : Nat) (s : List Nat), k ≤ ps.length ∧ i = .int .i64 k ∧ runL l.length (startL l) (ps.take k) = some s ∧ Fine l.length s ∧ (∃ A c, v = .slice A s.length c ∧ Row wr wr.heap.size A (nats s) ∧ c ≤ maxLen) ∧ Below w.heap.size w wr
set_option maxRecDepth 100000 in
set_option maxHeartbeats 8000000 in
theorem run_any (A : Option Addr) (c : Nat) (l : List Int) (A2 : Option Addr) (c2 : Nat) (ps : List (Int × Int)) (w : World) (hr : Row w w.heap.size A l) (hl : l.length ≤ 1000000) (ht : twice l = false) (hp : PRow w w.heap.size A2 ps) (hpl : ps.length ≤ 1000000) :
    Calls Try.prog 16 #[.slice A l.length c, .slice A2 ps.length c2] w (DoAns w (runL l.length (startL l) ps)) := by
  have HT := Lib.hid ht; clear ht
  go_enter Try.func16, Try.ntmps16
  go_wp2_with fail
  refine (refStart_any A c l w hr hl HT.out).mono ?_
  rintro e w1 ⟨A1, c1, rfl, hrow, hlc, hcm, -, hb1⟩
  rw [nats_length]
  rw [nats_length] at hlc
  have hfine := (start_is HT.out).fine
  go_wp2_with fail
  go_loopw [6, 14] (RRel w l ps) (fun _ i _ => ps.length - (intOf i).toNat)
  case atStart => exact ⟨0, startL l, by omega, rfl, rfl, hfine, ⟨A1, c1, rfl, hrow, hcm⟩, hb1⟩
  case round =>
    clear hrow hlc hcm hb1 hfine
    obtain ⟨k, s, hk, rfl, hrun, hfine, ⟨As, cs, rfl, hrow, hcm⟩, hbel⟩ := hrel
    have hsl := hfine.len
    by_cases hlt : k < ps.length
    · obtain ⟨b, off, x, y, rfl, hb, hxy, cx, cy⟩ := prow_at (hp.below hbel) hlt
      have HRUN := Lib.hid hrun; have HXY := Lib.hid hxy; have HF := Lib.hid hfine; have HB := Lib.hid hbel; have HRW := Lib.hid hrow
      clear hrun hxy hfine hbel hrow
      unfold maxLen at hcm
      have hbw : b < wr.heap.size := Nat.lt_of_lt_of_le hb HB.out.size
      go_wp2_with fail
      have hone := one_any As cs s x y l.length wr.drew HRW.out (by omega) hl
      obtain ⟨r, hrr⟩ : ∃ r, r = stepL l.length s (x, y) := ⟨_, rfl⟩
      rw [← hrr] at hone
      have HONE := Lib.hid hone; have HR := Lib.hid hrr
      clear hone hrr
      have hk0 : (0 : Int) ≤ (k : Int) := Int.natCast_nonneg _
      have hk1 : (k : Int) < (ps.length : Int) := by omega
      go_region_held3 (fun w' => w'.cell? ⟨b, off + k * 2, none⟩ = some (.int .i64 x) ∧ w'.cell? ⟨b, off + k * 2 + 1, none⟩ = some (.int .i64 y))
        (first
          | go_keep
          | (go_split_ands
             exact ⟨(hb3.cell (p := ⟨b, off + k * 2, none⟩) hbw).trans cx, (hb3.cell (p := ⟨b, off + k * 2 + 1, none⟩) hbw).trans cy⟩))
        ((go_at_call 26; refine HONE.out.mono ?_; rintro e w3 ⟨A3, c3, rfl, hrow3, hcm3, hb3⟩))
      have hb4 : Below w.heap.size w w3 := HB.out.trans ((below_drewN _ wr 1).trans (hb3.mono HB.out.size))
      cases r with
      | none =>
        have HN := Lib.hid (run_stop hlt HRUN.out (by rw [HXY.out]; exact HR.out.symm))
        simp only [Option.isSome_none]
        clear hb3 hrow3
        go_wp2_with fail
        go_ret2
        rw [HN.out]
        exact doAns_none hb4
      | some t =>
        have HN := Lib.hid (run_take hlt HRUN.out)
        simp only [Option.isSome_some]
        have hft := HF.out.step HR.out.symm
        have e1 : outL (some t) = t := rfl
        rw [e1] at hrow3
        rw [e1]
        clear hb3 e1
        go_wp2_with fail
        exact ⟨⟨k + 1, t, by omega, by go_num, by rw [HN.out, HXY.out]; exact HR.out.symm, hft, ⟨A3, c3, rfl, hrow3, hcm3⟩, hb4⟩, by simp [intOf]; omega⟩
    · obtain rfl : k = ps.length := by omega
      rw [List.take_of_length_le (Nat.le_refl _)] at hrun
      have HRUN := Lib.hid hrun
      clear hrun
      go_wp2_with fail
      go_ret2
      rw [HRUN.out]
      exact ⟨As, cs, rfl, hrow, hcm, hbel⟩

set_option maxHeartbeats 2000000 in
theorem up_any (A : Option Addr) (c : Nat) (s : List Nat) (n : Nat) (w : World) (hr : Row w w.heap.size A (nats s)) (hl : s.length ≤ 1000000) (hn : n ≤ 1000000) :
    Calls Try.prog 18 #[.slice A s.length c, .int .i64 n] w fun e w' => e = .returned (.bool (decide (s = List.range n))) ∧ w = w' := by
  go_enter Try.func18, Try.ntmps18
  go_wp2_with fail
  go_loop [8] (fun i => ∃ k : Nat, k ≤ s.length ∧ i = .int .i64 k ∧ s.take k = List.range k) (fun i => s.length - (intOf i).toNat)
  case atStart => exact ⟨0, by omega, rfl, rfl⟩
  case round =>
    obtain ⟨k, hk, rfl, htk⟩ := hrel
    have HTK := Lib.hid htk; clear htk
    by_cases hlt : k < s.length
    · obtain ⟨bb, off, t', rfl, hbb, ht', hc⟩ := row_at hr (show k < (nats s).length by rw [nats_length]; exact hlt)
      obtain ⟨t, htd⟩ : ∃ t, t = s[k] := ⟨_, rfl⟩
      have etk : t' = (t : Int) := by rw [ht']; simp [nats, List.getD_eq_getElem?_getD, hlt, htd]
      subst etk
      have HTD := Lib.hid htd
      clear ht' htd
      by_cases htkk : t = k
      · have HE := Lib.hid (show s.take (k + 1) = List.range (k + 1) by rw [List.take_succ_eq_append_getElem hlt, HTK.out, List.range_succ, ← HTD.out, htkk])
        subst htkk
        have hd4 : ((t : Int) != (t : Int)) = false := by simp
        go_wp2_with fail
        exact ⟨⟨t + 1, by omega, by go_num, HE.out⟩, by simp [intOf]; omega⟩
      · have hd3 : ((t : Int) != (k : Int)) = true := by simp; omega
        have hd4 : (t != k) = true := by simpa using htkk
        have HNE := Lib.hid (show ¬ s = List.range n by
          intro e
          have h1 : s.length = n := by rw [e]; simp
          have h2 : s[k] = k := by simp [e]
          exact htkk (HTD.out.trans h2))
        go_wp2_with fail
        go_ret
        exact ⟨ret_bool (decide_eq_false HNE.out).symm, rfl⟩
    · obtain rfl : k = s.length := by omega
      have hs := HTK.out
      rw [List.take_of_length_le (Nat.le_refl _)] at hs
      have HS := Lib.hid hs
      clear hs
      by_cases hnn : s.length = n
      · have hd : ((s.length : Int) == (n : Int)) = true := by simp [hnn]
        have hd2 : (s.length == n) = true := by simp [hnn]
        have HN := Lib.hid (show s = List.range n by rw [← hnn]; exact HS.out)
        clear hnn
        go_wp2_with fail
        go_ret
        exact ⟨ret_bool (decide_eq_true HN.out).symm, rfl⟩
      · have hd : ((s.length : Int) == (n : Int)) = false := by simp; omega
        have hd2 : (s.length == n) = false := by simpa using hnn
        have HN := Lib.hid (show ¬ s = List.range n by intro e; exact hnn (by rw [e]; simp))
        go_wp2_with fail
        go_ret
        exact ⟨ret_bool (decide_eq_false HN.out).symm, rfl⟩
end Go.Proofs.Ytlpjjnpafmakhaa
