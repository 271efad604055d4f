/-
  slices.BinarySearch over strings in order. | datum.Get: what it answers.
-/
import Derived.Test.YtjnhcoflmechmaaGreatDoorDOrder
import Derived.Test.YtjnhcoflmechmaaGreatDoorDDup
import Derived.Test.YtjnhcoflmechmaaGreatDoorDParW
namespace Go.Proofs.YtjnhcoflmechmaaGreatDoor
open Go.RowKit Go.Sort
set_option linter.unusedVariables false
set_option maxRecDepth 100000
theorem less_cmp : ∀ a b : List UInt8, Op.bytesLess a b = decide (Lib.compareBytes a b < 0)
  | [], [] => rfl
  | [], _ :: _ => rfl
  | _ :: _, [] => rfl
  | x :: a, y :: b => by
    rw [Op.bytesLess, Lib.compareBytes, less_cmp a b]
    by_cases h1 : x < y
    · simp [h1]
    · by_cases h2 : y < x
      · have : ¬ x = y := fun e => by subst e; exact h1 h2
        simp [h1, h2, this]
      · have : x = y := by rw [UInt8.lt_iff_toNat_lt] at h1 h2; exact UInt8.toNat_inj.1 (by omega)
        simp [this]
theorem nan126_any (a : ByteArray) (w : World) : Calls Tryz.prog 126 #[.string a] w fun e w' => e = .returned (.bool false) ∧ w = w' := by
  go_enter Tryz.func126, Tryz.ntmps126
  go_wp2
  go_ret
  exact ⟨ret_bool (by simp), rfl⟩
theorem nan94_any (a : ByteArray) (w : World) : Calls Tryz.prog 94 #[.string a] w fun e w' => e = .returned (.bool false) ∧ w = w' := by
  go_enter Tryz.func94, Tryz.ntmps94
  go_wp2
  go_ret
  exact ⟨ret_bool (by simp), rfl⟩
theorem less_any (a b : ByteArray) (w : World) : Calls Tryz.prog 93 #[.string a, .string b] w fun e w' => e = .returned (.bool (decide (cmpN a b < 0))) ∧ w = w' := by
  have C := Lib.hid (nan126_any a w)
  go_enter Tryz.func93, Tryz.ntmps93
  go_wp2_with fail
  refine C.out.mono ?_
  rintro e w' ⟨rfl, rfl⟩
  go_wp2_with fail
  go_ret
  exact ⟨ret_bool (by rw [less_cmp, Lib.toList_data, Lib.toList_data]; rfl), rfl⟩
/-- Names in order. -/
def Rising (ns : List ByteArray) : Prop := ∀ i j, (hi : i < ns.length) → (hj : j < ns.length) → i < j → cmpN ns[i] ns[j] < 0
theorem rising_of {ns : List ByteArray} (h : NamesP ns) : Rising ns := by
  intro i j hi hj hij
  obtain ⟨k, rfl⟩ : ∃ k, j = i + 1 + k := ⟨j - (i + 1), by omega⟩
  induction k with
  | zero => exact (h (i + 1) hj).2 (by omega)
  | succ k ih =>
    have h1 := ih (by omega) (by omega)
    have h2 := (h (i + 1 + (k + 1)) hj).2 (by omega)
    have e : i + 1 + (k + 1) - 1 = i + 1 + k := by omega
    simp only [e] at h2
    exact (cmpN_tr _ _ _ (Int.le_of_lt h1) (Int.le_of_lt h2)).2 (.inl h1)
/-- Where a name is, if it is there. -/
def FoundP (ns : List ByteArray) (t : ByteArray) (w : World) (e : Ending) (w' : World) : Prop :=
  ((∃ i : Nat, ∃ h : i < ns.length, ns[i] = t ∧ e = .returned (.tuple #[.int .i64 i, .bool true])) ∨ ((∀ n ∈ ns, n ≠ t) ∧ ∃ i : Nat, e = .returned (.tuple #[.int .i64 i, .bool false]))) ∧ ∃ q, w' = w.drewN q
theorem found_no {ns : List ByteArray} {t : ByteArray} {i : Nat} (hi : i ≤ ns.length) (hR : Rising ns) (h1 : ∀ k, (hk : k < ns.length) → k < i → cmpN ns[k] t < 0) (h2 : ∀ k, (hk : k < ns.length) → i ≤ k → ¬ cmpN ns[k] t < 0) (hn : ∀ h : i < ns.length, ns[i] ≠ t) : ∀ n ∈ ns, n ≠ t := by
  intro n hn' e
  obtain ⟨k, hk, rfl⟩ := List.mem_iff_getElem.1 hn'
  have h0 : cmpN ns[k] t = 0 := by rw [e]; exact cmpN_self _
  rcases Nat.lt_trichotomy k i with h | h | h
  · have := h1 k hk h; omega
  · subst h; exact hn hk e
  · have hi' : i < ns.length := by omega
    have := hR i k hi' hk h
    rw [e] at this
    exact h2 i hi' (Nat.le_refl _) this
set_option maxHeartbeats 8000000 in
theorem search_any (A : Option Addr) (c : Nat) (ns : List ByteArray) (t : ByteArray) (w : World) (h : SRow w w.heap.size A ns) (hR : Rising ns) (hl : ns.length ≤ 1000000) : Calls Tryz.prog 56 #[.slice A ns.length c, .string t] w (FoundP ns t w) := by
  have HR := Lib.hid hR; have HS := Lib.hid h
  have HL := Lib.hid (fun a => less_any a t w)
  have HN := Lib.hid (fun a => nan94_any a w)
  clear hR h
  go_enter Tryz.func56, Tryz.ntmps56
  go_wp2_with fail
  go_loopg [7, 8] ns.length (fun m s7 s8 wr => ∃ i j : Nat, s7 = .int .i64 i ∧ s8 = .int .i64 j ∧ i ≤ j ∧ j ≤ ns.length ∧ j - i ≤ m ∧ RowKit.Hid (∀ k, (hk : k < ns.length) → k < i → cmpN ns[k] t < 0) ∧ RowKit.Hid (∀ k, (hk : k < ns.length) → j ≤ k → ¬ cmpN ns[k] t < 0) ∧ RowKit.Hid (w = wr))
  case atStart => exact ⟨0, ns.length, by go_num, rfl, by omega, Nat.le_refl _, by omega, Lib.hid (fun k _ h => by omega), Lib.hid (fun k h1 h2 => by omega), Lib.hid rfl⟩
  case round =>
    obtain ⟨i, j, rfl, rfl, hij, hj, hm, H1, H2, HW⟩ := hrel
    obtain rfl := HW.out
    by_cases hlt : i < j
    · have hlti : (i : Int) < (j : Int) := by omega
      obtain ⟨k, hk⟩ : ∃ k, k = (i + j) / 2 := ⟨_, rfl⟩
      have hki : i ≤ k := by omega
      have hkj : k < j := by omega
      have hkn : k < ns.length := by omega
      obtain ⟨b, off, p, hA, hb, hp, hc⟩ := srow_at HS.out hkn
      have hsum : IntKind.i64.wrap ((i : Int) + (j : Int)) = ((i + j : Nat) : Int) := by rw [IntKind.wrap_i64]; omega
      have hw1 : IntKind.u64.wrap ((i + j : Nat) : Int) = ((i + j : Nat) : Int) := by rw [IntKind.wrap_u64]; omega
      rw [hA]
      go_upto_region 5 with (fail)
      rw [show ((i : Int) + (j : Int)) / 2 = (k : Int) by omega]
      obtain ⟨r, hr⟩ : ∃ r, r = decide (cmpN p t < 0) := ⟨_, rfl⟩
      have CL := HL.out p
      rw [← hr] at CL
      have HCL := Lib.hid CL; have HRR := Lib.hid hr; have HP := Lib.hid hp; have HA := Lib.hid hA
      have hk0 : (0 : Int) ≤ (k : Int) := by omega
      have hkn2 : (k : Int) < (ns.length : Int) := by omega
      clear CL hr hp hk
      go_wp2_with fail
      refine HCL.out.mono ?_
      rintro e w' ⟨rfl, rfl⟩
      clear HCL
      cases r with
      | true =>
        have hwr : IntKind.i64.wrap ((k : Int) + 1) = (k : Int) + 1 := by rw [IntKind.wrap_i64]; omega
        have H3 := Lib.hid (show ∀ q, (hq : q < ns.length) → q < k + 1 → cmpN ns[q] t < 0 from fun q hq hqk => by
          have h0 : cmpN ns[k] t < 0 := by rw [← HP.out]; exact of_decide_eq_true HRR.out.symm
          rcases Nat.lt_or_ge q k with g | g
          · exact (cmpN_tr _ _ _ (Int.le_of_lt (HR.out q k hq hkn g)) (Int.le_of_lt h0)).2 (.inr h0)
          · have e : q = k := by omega
            subst e; exact h0)
        go_wp2_with fail
        rw [← hA]
        go_roundg (j - (k + 1))
        case measure => omega
        case rel => exact ⟨k + 1, j, by go_num, rfl, by omega, hj, Nat.le_refl _, H3, H2, Lib.hid rfl⟩
      | false =>
        have H3 := Lib.hid (show ∀ q, (hq : q < ns.length) → k ≤ q → ¬ cmpN ns[q] t < 0 from fun q hq hqk h => by
          have h0 : ¬ cmpN ns[k] t < 0 := by rw [← HP.out]; exact of_decide_eq_false HRR.out.symm
          rcases Nat.lt_or_ge k q with g | g
          · exact h0 ((cmpN_tr _ _ _ (Int.le_of_lt (HR.out k q hkn hq g)) (Int.le_of_lt h)).2 (.inr h))
          · have e : q = k := by omega
            subst e; exact h0 h)
        go_wp2_with fail
        rw [← hA]
        go_roundg (k - i)
        case measure => omega
        case rel => exact ⟨i, k, rfl, rfl, by omega, by omega, Nat.le_refl _, H1, H3, Lib.hid rfl⟩
    · obtain rfl : i = j := by omega
      have hlti : ¬ (i : Int) < (i : Int) := by omega
      by_cases hin : i < ns.length
      · have hin2 : (i : Int) < (ns.length : Int) := by omega
        have hin3 : decide ((i : Int) < (ns.length : Int)) = true := by simpa using hin
        have hi0 : (0 : Int) ≤ (i : Int) := by omega
        obtain ⟨b, off, p, hA, hb, hp, hc⟩ := srow_at HS.out hin
        obtain ⟨q, hq⟩ : ∃ q, q = (p.toList == t.toList) := ⟨_, rfl⟩
        have hq2 : (p.toList == t.toList) = q := hq.symm
        have HQ := Lib.hid (show q = decide (p = t) by rw [hq, eqB])
        have HN1 := Lib.hid (HN.out p)
        rw [hA]
        have HP := Lib.hid hp
        clear hp hq
        cases q with
        | true =>
          go_wp2_with fail
          go_ret2
          exact ⟨.inl ⟨i, hin, by rw [← HP.out]; exact of_decide_eq_true HQ.out.symm, rfl⟩, 0, rfl⟩
        | false =>
          go_wp2_with fail
          refine HN1.out.mono ?_
          rintro e w' ⟨rfl, rfl⟩
          go_wp2_with fail
          go_ret2
          exact ⟨.inr ⟨found_no hj HR.out H1.out (fun k hk h => by have := H2.out k hk h; omega) (fun h e => by rw [← HP.out] at e; exact absurd e (of_decide_eq_false HQ.out.symm)), i, rfl⟩, 0, rfl⟩
      · have hin2 : ¬ (i : Int) < (ns.length : Int) := by omega
        have hin3 : decide ((i : Int) < (ns.length : Int)) = false := by simpa using hin
        go_wp2_with fail
        go_ret2
        exact ⟨.inr ⟨found_no hj HR.out H1.out (fun k hk h => by have := H2.out k hk h; omega) (fun h => absurd h hin), i, rfl⟩, 0, rfl⟩
end Go.Proofs.YtjnhcoflmechmaaGreatDoor

namespace Go.Proofs.YtjnhcoflmechmaaGreatDoor
open Go.RowKit Go.Sort
set_option linter.unusedVariables false
set_option maxRecDepth 100000
def HasN (d : Dt) (t : ByteArray) : Prop := RightP d ∧ d.kind = 5 ∧ ∃ n ∈ d.names, n = t
/-- What Get says. -/
def GetC (d : Dt) (t : ByteArray) (w : World) (e : Ending) (w' : World) : Prop := ∃ (r : Dt) (y : NV) (b : Bool), e = .returned (.tuple #[datV r y, .bool b]) ∧ DatAt w' w'.heap.size r y ∧ GoodD r ∧ Below w.heap.size w w' ∧
  ((b = true ∧ RightP d ∧ d.kind = 5 ∧ ∃ i, ∃ h : i < d.names.length, ∃ h' : i < d.list.length, d.names[i] = t ∧ r = d.list[i]) ∨ (b = false ∧ r = zeroD ∧ ¬ HasN d t))
theorem get_no {d : Dt} {t : ByteArray} {w W : World} (h : ¬ HasN d t) (hb : Below w.heap.size w W) : GetC d t w (.returned (.tuple #[zeroV, .bool false])) W := ⟨zeroD, ⟨none, 0, none, 0⟩, false, rfl, dat_zero _ _ _ _ _, good_zero, hb, .inr ⟨rfl, rfl, h⟩⟩
theorem below_putB {w W : World} (hb : Below w.heap.size w W) (v0 v1 v2 v3 v4 : Value) : Below w.heap.size w (put5 W (w.heap.size + 1) v0 v1 v2 v3 v4) := below_put5 hb (Nat.le_succ _) v0 v1 v2 v3 v4
set_option maxHeartbeats 8000000 in
theorem get_any (d : Dt) (x : NV) (t : ByteArray) (w : World) (ht : DatAt w w.heap.size d x) (hg : GoodD d) : Calls Tryz.prog 30 #[datV d x, .string t] w (GetC d t w) := by
  obtain ⟨s1, s2, s3, s4, s5, s6⟩ := hg.sizes
  obtain ⟨w1, hw1⟩ : ∃ w1, w1 = boxD w d x := ⟨_, rfl⟩
  obtain ⟨w2, hw2⟩ : ∃ w2, w2 = zeroW w1 := ⟨_, rfl⟩
  have hs1 : w1.heap.size = w.heap.size + 1 := by rw [hw1]; simp
  have hs2 : w2.heap.size = w.heap.size + 2 := by rw [hw2]; simp; omega
  have hb1 : Below w.heap.size w w1 := by rw [hw1]; exact (Below.refl _ _).alloc (Nat.le_refl _) _
  have hb2 : Below w.heap.size w w2 := by rw [hw2]; exact hb1.alloc (by omega) _
  have hx1 : DatCells w1 w.heap.size 0 d x := by rw [hw1]; exact box_dat _ _ _
  have hk2 : Kept (fun _ => False) w1 w2 := by rw [hw2]; exact kept_alloc _ _ _
  have hx2 := hx1.kept hk2 (fun h => h)
  have hz2 : B5 w2 (w.heap.size + 1) 46 (.int .i64 0) (.int .i64 0) (.string ⟨#[]⟩) (.slice none 0 0) (.slice none 0 0) := by rw [hw2]; exact B5.new _ _ _ _ _ _ _ _ (by omega)
  have ht2 : DatAt w2 w2.heap.size d x := (ht.keepB hb2).mono (by omega)
  have CR := Lib.hid (right_any d x w2 ht2 hg)
  have HT2 := Lib.hid ht2; have HB2 := Lib.hid hb2; have HG := Lib.hid hg; have HX2 := Lib.hid hx2; have HZ2 := Lib.hid hz2
  have HW1 := Lib.hid hw1; have HW2 := Lib.hid hw2
  obtain ⟨q0, q1, q2, q3, q4⟩ := hx2
  clear hw1 hw2 hb1 hb2 hx1 hk2 hz2 ht2 ht hg s1 s2 s3 s5
  by_cases h5 : d.kind = 5
  · have hne : (d.kind != 5) = false := by simpa using h5
    have H5 := Lib.hid h5
    clear h5
    go_enter Tryz.func30, Tryz.ntmps30
    go_upto_region 1 with (fail)
    rw [boxD_out HW1, zeroW_out HW2]
    clear HW1 HW2
    go_wp2_with fail
    refine CR.out.mono ?_
    rintro e w3 ⟨r, rfl, hr, hb3⟩
    have hx3 := HX2.out.below hb3 (by omega)
    have hz3 := HZ2.out.below hb3 HZ2.out.lt
    have ht3 : DatAt w3 w3.heap.size d x := HT2.out.up hb3
    have hb03 : Below w.heap.size w w3 := HB2.out.trans (hb3.mono (by omega))
    have HHR := Lib.hid hr; have HX3 := Lib.hid hx3; have HZ3 := Lib.hid hz3; have HT3 := Lib.hid ht3; have HB3 := Lib.hid hb03
    have hs3 := hb3.size
    clear hr hb3 hx3 hz3 ht3 hb03 HX2 HZ2 HT2 HB2 CR q0 q1 q2 q3 q4
    cases r with
    | false =>
      have hzF := HZ3.out
      have HZF := Lib.hid (hzF.put (.int .i64 0) (.int .i64 0) (.string ⟨#[]⟩) (.slice none 0 0) (.slice none 0 0))
      have HF := Lib.hid (get_no (d := d) (t := t) (fun h => by have := HHR.out.2 h.1; cases this) (below_putB HB3.out (.int .i64 0) (.int .i64 0) (.string ⟨#[]⟩) (.slice none 0 0) (.slice none 0 0)))
      obtain ⟨z0, z1, z2, z3, z4⟩ := hzF.cells
      have y0 := hzF.frozen 0; have y1 := hzF.frozen 1; have y2 := hzF.frozen 2; have y3 := hzF.frozen 3; have y4 := hzF.frozen 4
      clear hzF
      go_wp2_with fail
      refine bodyPost_ret (res5 rfl _ _ (w.heap.size + 1) _ _ _ _ _ _ rfl rfl HZF.out) rfl ?_
      exact HF.out
    | true =>
      have hrt := HHR.out.1 rfl
      have hown := wgh_own hrt
      have hlen := hown.2.1.2.2.2.2.2.2.1 H5.out
      have HRT := Lib.hid hrt; have HL := Lib.hid hlen
      have CS := Lib.hid (search_any x.A x.ca d.names t w3 HT3.out.names (rising_of hown.2.2.2.2) s4)
      obtain ⟨q0, q1, q2, q3, q4⟩ := HX3.out
      clear hrt hown hlen
      go_wp2_with fail
      refine CS.out.mono ?_
      rintro e w4 ⟨hf, q, hq⟩
      have hb4 : Below w3.heap.size w3 w4 := by rw [hq]; exact below_drewN _ _ _
      have HX4 := Lib.hid (HX3.out.below hb4 (by omega)); have HZ4 := Lib.hid (HZ3.out.below hb4 HZ3.out.lt); have HT4 := Lib.hid (HT3.out.up hb4); have HB4 := Lib.hid (HB3.out.trans (hb4.mono (by omega)))
      have hs4 := hb4.size
      clear hq hb4 HX3 HZ3 HT3 HB3 CS q0 q1 q2 q3 q4
      rcases hf with ⟨i, hi, hit, rfl⟩ | ⟨hno, i, rfl⟩
      · have hil : i < d.list.length := by have := HL.out; omega
        obtain ⟨b, off, kd, y, hK, hbb, hkd, hyc, hya⟩ := HT4.out.kid hil
        have CD := Lib.hid (dup_any kd (HG.out.kid hil hkd) y w4 hya)
        have HKD := Lib.hid hkd; have HIT := Lib.hid hit
        have hili : (i : Int) < (d.list.length : Int) := by omega
        have hi0 : (0 : Int) ≤ (i : Int) := by omega
        obtain ⟨q0, q1, q2, q3, q4⟩ := HX4.out
        rw [hK] at q4
        obtain ⟨y0, y1, y2, y3, y4⟩ := hyc
        clear hkd hit hya
        go_wp2_with fail
        refine CD.out.mono ?_
        rintro e w5 ⟨x5, rfl, hdi5, hb5⟩
        have hz5 := HZ4.out.below hb5 HZ4.out.lt
        have hb05 := HB4.out.trans (hb5.mono HB4.out.size)
        obtain ⟨W, hW⟩ : ∃ W, W = put5 w5 (w.heap.size + 1) (.int .i64 kd.kind) (.int .i64 kd.num) (.string kd.text) (.slice x5.A kd.names.length x5.ca) (.slice x5.K kd.list.length x5.ck) := ⟨_, rfl⟩
        have hZ := hz5.put (.int .i64 kd.kind) (.int .i64 kd.num) (.string kd.text) (.slice x5.A kd.names.length x5.ca) (.slice x5.K kd.list.length x5.ck)
        have hbW := below_putB hb05 (.int .i64 kd.kind) (.int .i64 kd.num) (.string kd.text) (.slice x5.A kd.names.length x5.ca) (.slice x5.K kd.list.length x5.ck)
        have hdW := (hdi5.kept (kept_put5 w5 (w.heap.size + 1) (.int .i64 kd.kind) (.int .i64 kd.num) (.string kd.text) (.slice x5.A kd.names.length x5.ca) (.slice x5.K kd.list.length x5.ck)) (fun b hb _ e => by have e' : b = w.heap.size + 1 := e; have hb' : w4.heap.size ≤ b := hb; omega)).at
        rw [← hW] at hZ hbW hdW
        have HF := Lib.hid (show GetC d t w (.returned (.tuple #[datV kd x5, .bool true])) W from ⟨kd, x5, true, rfl, hdW, HG.out.kid hil HKD.out, hbW, .inl ⟨rfl, HRT.out, H5.out, i, hi, hil, HIT.out, HKD.out⟩⟩)
        have HZ := Lib.hid hZ; have HWW := Lib.hid hW.symm
        obtain ⟨z0, z1, z2, z3, z4⟩ := hz5.cells
        have f0 := hz5.frozen 0; have f1 := hz5.frozen 1; have f2 := hz5.frozen 2; have f3 := hz5.frozen 3; have f4 := hz5.frozen 4
        clear hz5 hb05 hW hZ hbW hdW hdi5 hb5 CD q0 q1 q2 q3 q4 y0 y1 y2 y3 y4
        go_wp2_with fail
        rw [show (((((w5.setCell ⟨w.heap.size + 1, 0, none⟩ (.int .i64 kd.kind)).setCell ⟨w.heap.size + 1, 1, none⟩ (.int .i64 kd.num)).setCell ⟨w.heap.size + 1, 2, none⟩ (.string kd.text)).setCell ⟨w.heap.size + 1, 3, none⟩ (.slice x5.A kd.names.length x5.ca)).setCell ⟨w.heap.size + 1, 4, none⟩ (.slice x5.K kd.list.length x5.ck)) = W from HWW.out]
        refine bodyPost_ret (res5 rfl _ _ (w.heap.size + 1) _ _ _ _ _ _ rfl rfl HZ.out) rfl ?_
        exact HF.out
      · have HNO := Lib.hid (show ¬ HasN d t from fun h => by obtain ⟨n, hn, hnt⟩ := h.2.2; exact hno n hn hnt)
        clear hno
        have hzF := HZ4.out
        have HZF := Lib.hid (hzF.put (.int .i64 0) (.int .i64 0) (.string ⟨#[]⟩) (.slice none 0 0) (.slice none 0 0))
        have HF := Lib.hid (get_no (d := d) (t := t) HNO.out (below_putB HB4.out (.int .i64 0) (.int .i64 0) (.string ⟨#[]⟩) (.slice none 0 0) (.slice none 0 0)))
        obtain ⟨z0, z1, z2, z3, z4⟩ := hzF.cells
        have y0 := hzF.frozen 0; have y1 := hzF.frozen 1; have y2 := hzF.frozen 2; have y3 := hzF.frozen 3; have y4 := hzF.frozen 4
        clear hzF
        go_wp2_with fail
        refine bodyPost_ret (res5 rfl _ _ (w.heap.size + 1) _ _ _ _ _ _ rfl rfl HZF.out) rfl ?_
        exact HF.out
  · have hne : (d.kind != 5) = true := by simpa using h5
    have HNO := Lib.hid (show ¬ HasN d t from fun h => h5 h.2.1)
    clear h5 CR
    go_enter Tryz.func30, Tryz.ntmps30
    go_upto_region 1 with (fail)
    rw [boxD_out HW1, zeroW_out HW2]
    clear HW1 HW2
    have hzF := HZ2.out
    have HZF := Lib.hid (hzF.put (.int .i64 0) (.int .i64 0) (.string ⟨#[]⟩) (.slice none 0 0) (.slice none 0 0))
    have HF := Lib.hid (get_no (d := d) (t := t) HNO.out (below_putB HB2.out (.int .i64 0) (.int .i64 0) (.string ⟨#[]⟩) (.slice none 0 0) (.slice none 0 0)))
    obtain ⟨z0, z1, z2, z3, z4⟩ := hzF.cells
    have y0 := hzF.frozen 0; have y1 := hzF.frozen 1; have y2 := hzF.frozen 2; have y3 := hzF.frozen 3; have y4 := hzF.frozen 4
    clear hzF
    go_wp2_with fail
    refine bodyPost_ret (res5 rfl _ _ (w.heap.size + 1) _ _ _ _ _ _ rfl rfl HZF.out) rfl ?_
    exact HF.out
end Go.Proofs.YtjnhcoflmechmaaGreatDoor
