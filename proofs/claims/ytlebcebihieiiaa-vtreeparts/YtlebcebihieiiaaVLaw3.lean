/-
  tendrillaw11.VtreeParts: the walk.
-/
import Derived.Test.YtlebcebihieiiaaVLaw2
namespace Go.Proofs.Ytlebcebihieiiaa
open Go.RowKit Go.Sort
set_option linter.unusedVariables false
set_option maxHeartbeats 8000000 in
set_option maxRecDepth 100000 in
theorem parts_any (t : Tr) (x : NV) (w : World) (h : TreeAt w w.heap.size t x) (hf : FitT t) : Calls Try.prog 5 #[nodeV t x] w (TrueB w) := by
  obtain ⟨w1, hw1⟩ : ∃ w1, w1 = boxW w t x := ⟨_, rfl⟩
  have hb1 : Below w.heap.size w w1 := by rw [hw1]; exact below_box w t x
  have hbox : KidCells w1 w.heap.size 0 t x := by rw [hw1]; exact box_node w t x
  have hlt1 : w.heap.size < w1.heap.size := hbox.block_lt
  have ht1 := h.up hb1
  have C1 := Lib.hid (few_any t x 800 w1 ht1 hf (by omega))
  rw [show ((800 : Nat) : Int) = 800 from rfl] at C1
  have HW := Lib.hid hw1; have HB1 := Lib.hid hb1; have HBX := Lib.hid hbox; have HT1 := Lib.hid ht1
  obtain ⟨c0, c1, c2, c3, c4⟩ := hbox
  clear h hw1 hb1 hf ht1
  go_enter Try.func5, Try.ntmps5
  go_wp2_with fail
  rw [box_out HW]
  refine C1.out.mono ?_
  rintro e w2 ⟨b, rfl, hgd, hb2⟩
  clear c0 c1 c2 c3 c4 C1
  have HB12 := Lib.hid hb2
  cases b with
  | false =>
    clear hgd
    go_wp2_with fail
    refine (same11_any w2).mono ?_
    rintro e w3 ⟨rfl, hb3⟩
    have HB3 := Lib.hid (HB12.out.trans (hb3.mono HB12.out.size))
    clear hb3 hb2
    go_wp2_with fail
    go_ret
    exact ⟨rfl, HB1.out.trans (HB3.out.mono HB1.out.size)⟩
  | true =>
    obtain ⟨hg, hsz⟩ := hgd rfl
    have HG := Lib.hid hg
    obtain ⟨c0, c1, c2, c3, c4⟩ := HBX.out.below hb2 hlt1
    have C2 := Lib.hid (alone_any t x w2 ((HT1.out.up hb2).att) hg)
    have hkl : t.kids.length ≤ 1000000 := hg.sizes.2.2.2.2.2
    have hsk : sizeK t.kids ≤ 800 := by rw [sizeT_eq] at hsz; omega
    obtain ⟨al, hal⟩ : ∃ al, al = aloneT t := ⟨_, rfl⟩
    rw [← hal] at C2
    have HAL := Lib.hid hal
    clear hgd hb2 hg hal
    go_wp2_with fail
    refine C2.out.mono ?_
    rintro e w3 ⟨rfl, hb3⟩
    have HB13 := Lib.hid (HB12.out.trans (hb3.mono HB12.out.size))
    obtain ⟨d0, d1, d2, d3, d4⟩ := HBX.out.below HB13.out hlt1
    obtain ⟨a0, ha0⟩ : ∃ a0 : Bool, a0 = (al == 0) := ⟨_, rfl⟩
    have HA0 := Lib.hid (show a0 = true ↔ aloneT t = 0 by rw [ha0, HAL.out]; simp)
    have ha0' : (al == 0) = a0 := ha0.symm
    clear hb3 c0 c1 c2 c3 c4 C2 HB12 ha0
    go_wp2_with fail
    clear ha0'
    go_loopg [3, 4, 5, 20] t.kids.length (fun g s3 s4 s5 s20 wr => ∃ (i : Nat) (b : Bool) (sz dp : Int), s20 = .int .i64 i ∧ s3 = .bool b ∧ s4 = .int .i64 sz ∧ s5 = .int .i64 dp ∧ i ≤ t.kids.length ∧ t.kids.length - i ≤ g ∧ 0 ≤ sz ∧ sz ≤ 1 + (sizeK (t.kids.take i) : Int) ∧ 0 ≤ dp ∧ dp ≤ 64 ∧ RowKit.Hid (b = true ↔ PartsOk t i) ∧ RowKit.Hid (b = true → sz = 1 + (sizeK (t.kids.take i) : Int) ∧ dp = depK (t.kids.take i)) ∧ RowKit.Hid (Below w1.heap.size w1 wr))
    case atStart =>
      exact ⟨0, a0, 1, 0, rfl, rfl, rfl, rfl, by omega, by omega, by omega, by simp [sizeK], by omega, by omega, Lib.hid (HA0.out.trans ⟨fun h => ⟨h, fun i' _ h' => by omega⟩, fun h => h.1⟩), Lib.hid (fun _ => ⟨by simp [sizeK], by simp [depK]⟩), HB13⟩
    case round =>
      clear d0 d1 d2 d3 d4
      obtain ⟨i, b, sz, dp, rfl, rfl, rfl, rfl, hi, hg, hz0, hz1, hp0, hp1, HPO, HVL, HB⟩ := hrel
      obtain ⟨c0, c1, c2, c3, c4⟩ := HBX.out.below HB.out hlt1
      have hltw : w.heap.size < wr.heap.size := Nat.lt_of_lt_of_le hlt1 HB.out.size
      by_cases hlt : i < t.kids.length
      · have h1 : (i : Int) < (t.kids.length : Int) := by omega
        obtain ⟨bb, off, kd, y, hK, hbb, hkd, hkc, hkt⟩ := (HT1.out.up HB.out).kid hlt
        obtain ⟨q0, q1, q2, q3, q4⟩ := hkc
        obtain ⟨w5, hw5⟩ : ∃ w5, w5 = boxW wr kd y := ⟨_, rfl⟩
        have hb5 : Below wr.heap.size wr w5 := by rw [hw5]; exact below_box wr kd y
        have hkb : KidCells w5 wr.heap.size 0 kd y := by rw [hw5]; exact box_node wr kd y
        have hltk : wr.heap.size < w5.heap.size := hkb.block_lt
        have hgk := HG.out.kid hlt hkd
        have hkt5 := hkt.up hb5
        have C10 := Lib.hid (vsize_any kd y w5 hkt5 hgk)
        rw [sizeV_eq] at C10
        have HW5 := Lib.hid hw5; have HB15 := Lib.hid (HB.out.trans (hb5.mono HB.out.size)); have HKB := Lib.hid hkb; have HKT5 := Lib.hid hkt5; have HGK := Lib.hid hgk; have HKD := Lib.hid hkd
        have hst : sizeK (t.kids.take (i + 1)) = sizeK (t.kids.take i) + sizeT kd := by rw [sizeK_take hlt, hkd]
        have hsl : sizeK (t.kids.take (i + 1)) ≤ 800 := by
          have : sizeK t.kids = sizeK (t.kids.take (i + 1)) + sizeK (t.kids.drop (i + 1)) := by rw [← sizeK_append, List.take_append_drop]
          omega
        have HDT := Lib.hid (show depK (t.kids.take (i + 1)) = max (depK (t.kids.take i)) (depT kd) by rw [depK_take hlt, hkd])
        obtain ⟨f1, f2, f3⟩ := sizeV_facts kd
        have HSO := Lib.hid (sizeV_ok (t := kd)); have HDO := Lib.hid (depV_ok (t := kd)); have HF3 := Lib.hid f3
        obtain ⟨sv, hsv⟩ : ∃ sv, sv = sizeV kd := ⟨_, rfl⟩
        rw [← hsv] at C10 f1 f2 HSO HF3
        obtain ⟨e1, e2⟩ := depV_facts kd
        have CD := Lib.hid (fun W hW => vdepth_any kd y W hW HGK.out)
        rw [depV_eq] at CD
        obtain ⟨dv, hdv⟩ : ∃ dv, dv = depV kd := ⟨_, rfl⟩
        rw [← hdv] at CD e1 e2 HDO
        have HQ0 := Lib.hid (show (b = false ∧ ¬ (PartsOk t i ∧ okT kd)) ∨ (b = true ∧ ¬ 0 < sv ∧ ¬ (PartsOk t i ∧ okT kd)) ∨ (b = true ∧ 0 < sv ∧ PartsOk t i ∧ okT kd) by
          cases b with
          | false => exact .inl ⟨rfl, fun hh => by have := HPO.out.2 hh.1; cases this⟩
          | true =>
            by_cases hs : 0 < sv
            · exact .inr (.inr ⟨rfl, hs, HPO.out.1 rfl, HF3.out.1 hs⟩)
            · exact .inr (.inl ⟨rfl, hs, fun hh => hs (HF3.out.2 hh.2)⟩))
        have HVP := Lib.hid (show PartsOk t i → sz = 1 + (sizeK (t.kids.take i) : Int) ∧ dp = depK (t.kids.take i) from fun hh => HVL.out (HPO.out.2 hh))
        clear HVL HPO
        have hwz : IntKind.i64.wrap (sz + sv) = sz + sv := by rw [IntKind.wrap_i64]; omega
        clear hw5 hb5 hkb hkt hkt5 hgk hkd f3 hsv hdv
        go_wp2_with fail
        rw [box_out HW5]
        refine C10.out.mono ?_
        rintro e w6 ⟨rfl, hb6⟩
        obtain ⟨k0, k1, k2, k3, k4⟩ := HKB.out.below hb6 hltk
        have HKB6 := Lib.hid (show KidCells w6 wr.heap.size 0 kd y from ⟨k0, k1, k2, k3, k4⟩)
        have hlt6 : wr.heap.size < w6.heap.size := Nat.lt_of_lt_of_le hltk hb6.size
        have HB16 := Lib.hid (HB15.out.trans (hb6.mono HB15.out.size))
        have CD6 := Lib.hid (CD.out w6 (HKT5.out.up hb6))
        clear hb6 C10 q0 q1 q2 q3 q4 c0 c1 c2 c3 c4 CD
        rcases HQ0.out with ⟨rfl, hq⟩ | ⟨rfl, hs, hq⟩ | ⟨rfl, hs, hq⟩
        all_goals
          have HQ := Lib.hid hq
          clear hq
          go_wp2_with fail
          refine CD6.out.mono ?_
          rintro e w7 ⟨rfl, hb7⟩
          have HKB7 := Lib.hid (HKB6.out.below hb7 hlt6)
          have hlt7 : wr.heap.size < w7.heap.size := Nat.lt_of_lt_of_le hlt6 hb7.size
          have HB17 := Lib.hid (HB16.out.trans (hb7.mono HB16.out.size))
          clear hb7 CD6 k0 k1 k2 k3 k4
          go_wp2_with fail
          try rw [← hK]
          go_loopg [3, 43] i (fun g s3 s43 wq => ∃ (j : Nat) (b2 : Bool), s43 = .int .i64 j ∧ s3 = .bool b2 ∧ j ≤ i ∧ i - j ≤ g ∧ RowKit.Hid (b2 = true ↔ (PartsOk t i ∧ okT kd) ∧ KeyOkAt t i j) ∧ RowKit.Hid (Below w7.heap.size w7 wq))
          case atStart =>
            refine ⟨0, _, rfl, rfl, by omega, by omega, Lib.hid ?_, Lib.hid (Below.refl _ _)⟩
            first
              | exact ⟨fun hh => (by cases hh), fun hh => absurd hh.1 HQ.out⟩
              | exact ⟨fun hh => absurd (of_decide_eq_true hh) (by omega), fun hh => absurd hh.1 HQ.out⟩
              | exact ⟨fun _ => ⟨HQ.out, fun j _ _ hh => by omega⟩, fun _ => rfl⟩
          case round =>
            obtain ⟨j, b2, rfl, rfl, hj, hgj, HB2, HBq⟩ := hrel
            by_cases hji : j < i
            · have h2 : (j : Int) < (i : Int) := by omega
              have hjl : j < t.kids.length := by omega
              have h3 : (j : Int) < (t.kids.length : Int) := by omega
              obtain ⟨bb', off', kj, yj, hK', -, hkj, hkc', -⟩ := (HT1.out.up (HB17.out.trans (HBq.out.mono HB17.out.size))).kid hjl
              obtain ⟨rfl, rfl⟩ : bb = bb' ∧ off = off' := by rw [hK] at hK'; simpa using hK'
              obtain ⟨c0, c1, c2, c3, c4⟩ := HBX.out.below (HB17.out.trans (HBq.out.mono HB17.out.size)) hlt1
              obtain ⟨k0, k1, k2, k3, k4⟩ := HKB7.out.below HBq.out hlt7
              obtain ⟨q0, q1, q2, q3, q4⟩ := hkc'
              have HST := Lib.hid (show KeyOkAt t i (j + 1) ↔ KeyOkAt t i j ∧ (kd.key = noB ∨ kj.key ≠ kd.key) by rw [KeyOkAt.step hlt hjl, ← HKD.out, ← hkj])
              clear hK' hkj c0 c1 c2 c3 k0 k2 k3 k4 q0 q2 q3 q4
              cases b2 with
              | false =>
                have HN := Lib.hid (show ¬ ((PartsOk t i ∧ okT kd) ∧ KeyOkAt t i j) from fun hh => by have := HB2.out.2 hh; cases this)
                clear HB2
                go_wp2_with fail
                go_quiet (fail)
                go_wp2_with fail
                try rw [← hK]
                go_roundg (i - (j + 1))
                case measure => omega
                case rel => exact ⟨j + 1, false, by go_num, rfl, by omega, by omega, Lib.hid (⟨fun hh => (by cases hh), fun hh => absurd ⟨hh.1, (HST.out.1 hh.2).1⟩ HN.out⟩), Lib.hid (HBq.out.trans (below_drewN _ _ _))⟩
              | true =>
                have HY := Lib.hid (HB2.out.1 rfl)
                clear HB2
                by_cases hke : kd.key = noB
                · have hke' : kd.key.toList.isEmpty = true := isEmpty_noB.2 hke
                  have HKE := Lib.hid hke
                  clear hke
                  go_wp2_with fail
                  go_quiet (fail)
                  go_wp2_with fail
                  try rw [← hK]
                  go_roundg (i - (j + 1))
                  case measure => omega
                  case rel => exact ⟨j + 1, true, by go_num, rfl, by omega, by omega, Lib.hid (⟨fun _ => ⟨HY.out.1, HST.out.2 ⟨HY.out.2, .inl HKE.out⟩⟩, fun _ => rfl⟩), Lib.hid (HBq.out.trans (below_drewN _ _ _))⟩
                · have hke' : kd.key.toList.isEmpty = false := by
                    cases hb : kd.key.toList.isEmpty with
                    | true => exact absurd (isEmpty_noB.1 hb) hke
                    | false => rfl
                  have HKE := Lib.hid hke
                  clear hke
                  by_cases hkk : kj.key = kd.key
                  · have hkk' : (kj.key.toList == kd.key.toList) = true := by rw [eqB]; exact decide_eq_true hkk
                    have HKK := Lib.hid hkk
                    clear hkk
                    go_wp2_with fail
                    go_quiet (fail)
                    go_wp2_with fail
                    try rw [← hK]
                    go_roundg (i - (j + 1))
                    case measure => omega
                    case rel => exact ⟨j + 1, false, by go_num, rfl, by omega, by omega, Lib.hid (⟨fun hh => (by cases hh), fun hh => ((HST.out.1 hh.2).2.elim (fun e => absurd e HKE.out) (fun e => absurd HKK.out e))⟩), Lib.hid (HBq.out.trans (below_drewN _ _ _))⟩
                  · have hkk' : (kj.key.toList == kd.key.toList) = false := by rw [eqB]; exact decide_eq_false hkk
                    have HKK := Lib.hid hkk
                    clear hkk
                    go_wp2_with fail
                    go_quiet (fail)
                    go_wp2_with fail
                    try rw [← hK]
                    go_roundg (i - (j + 1))
                    case measure => omega
                    case rel => exact ⟨j + 1, true, by go_num, rfl, by omega, by omega, Lib.hid (⟨fun _ => ⟨HY.out.1, HST.out.2 ⟨HY.out.2, .inr HKK.out⟩⟩, fun _ => rfl⟩), Lib.hid (HBq.out.trans (below_drewN _ _ _))⟩
            · have h2 : ¬ (j : Int) < (i : Int) := by omega
              have eij : j = i := by omega
              have HFB := Lib.hid (show b2 = true ↔ PartsOk t (i + 1) by rw [PartsOk.step hlt, ← HKD.out, HB2.out, eij])
              have HFV := Lib.hid (show b2 = true → sz + sv = 1 + (sizeK (t.kids.take (i + 1)) : Int) ∧ max dp dv = depK (t.kids.take (i + 1)) from fun hh => by
                have h5 := HB2.out.1 hh
                obtain ⟨v1, v2⟩ := HVP.out h5.1.1
                have v3 := HSO.out h5.1.2
                have v4 := HDO.out h5.1.2
                refine ⟨by omega, ?_⟩
                rw [HDT.out]; omega)
              have HBF := Lib.hid (HB17.out.trans (HBq.out.mono HB17.out.size))
              clear HB2 eij
              go_wp2_with fail
              try rw [← hK]
              go_roundg (t.kids.length - (i + 1))
              case measure => omega
              case rel => exact ⟨i + 1, b2, sz + sv, max dp dv, by go_num, rfl, rfl, rfl, by omega, by omega, by omega, by omega, by omega, by omega, HFB, HFV, HBF⟩
      · have h1 : ¬ (i : Int) < (t.kids.length : Int) := by omega
        have ei : i = t.kids.length := by omega
        have htl : t.kids.take i = t.kids := List.take_of_length_le (by omega)
        rw [htl] at HVL hz1
        rw [ei] at HPO
        have hszt : sizeT t ≤ 4096 := by omega
        have C10 := Lib.hid (vsize_any t x wr (HT1.out.up HB.out) HG.out)
        rw [sizeV_eq] at C10
        clear htl ei
        have hcase : (¬ okT t ∧ (b = false ∨ b = true ∧ dp > 63)) ∨ (okT t ∧ b = true ∧ ¬ dp > 63 ∧ sz = sizeT t ∧ dp + 1 = depT t) := by
          cases b with
          | false => exact .inl ⟨(fun hh => by have := HPO.out.2 (parts_of_ok hh hszt).1; cases this), .inl rfl⟩
          | true =>
            obtain ⟨v1, v2⟩ := HVL.out rfl
            by_cases hdp : dp > 63
            · exact .inl ⟨(fun hh => by have := (parts_of_ok hh hszt).2; omega), .inr ⟨rfl, hdp⟩⟩
            · exact .inr ⟨ok_of_parts (HPO.out.1 rfl) (by omega) hszt, rfl, hdp, by rw [sizeT_eq]; omega, by rw [depT_eq]; omega⟩
        clear HVL HPO
        rcases hcase with ⟨hno, hbd⟩ | ⟨hok, rfl, hdp, hse, hde⟩
        · rw [sizeV_no hno] at C10
          clear hno
          rcases hbd with rfl | ⟨rfl, hdp⟩
          all_goals
            go_wp2_with fail
            refine C10.out.mono ?_
            rintro e w6 ⟨rfl, hb6⟩
            have HB6 := Lib.hid (HB.out.trans (hb6.mono HB.out.size))
            clear hb6 c0 c1 c2 c3 c4 C10
            go_wp2_with fail
            refine (same11_any w6).mono ?_
            rintro e w7 ⟨rfl, hb7⟩
            have HB7 := Lib.hid (HB6.out.trans (hb7.mono HB6.out.size))
            clear hb7
            go_wp2_with fail
            go_ret
            exact ⟨rfl, HB1.out.trans (HB7.out.mono HB1.out.size)⟩
        · rw [sizeV_ok hok, ← hse] at C10
          have HOK := Lib.hid hok
          have hwd : IntKind.i64.wrap (dp + 1) = dp + 1 := by rw [IntKind.wrap_i64]; omega
          have HDE := Lib.hid hde
          clear hok hse hde
          go_wp2_with fail
          refine C10.out.mono ?_
          rintro e w6 ⟨rfl, hb6⟩
          have HB6 := Lib.hid (HB.out.trans (hb6.mono HB.out.size))
          obtain ⟨d0, d1, d2, d3, d4⟩ := HBX.out.below HB6.out hlt1
          have C11 := Lib.hid (vdepth_any t x w6 (HT1.out.up HB6.out) HG.out)
          rw [depV_eq, depV_ok HOK.out, ← HDE.out] at C11
          clear hb6 c0 c1 c2 c3 c4 C10
          go_wp2_with fail
          refine C11.out.mono ?_
          rintro e w7 ⟨rfl, hb7⟩
          have HB7 := Lib.hid (HB6.out.trans (hb7.mono HB6.out.size))
          clear hb7 d0 d1 d2 d3 d4 C11
          go_wp2_with fail
          refine (same11_any w7).mono ?_
          rintro e w8 ⟨rfl, hb8⟩
          have HB8 := Lib.hid (HB7.out.trans (hb8.mono HB7.out.size))
          clear hb8
          go_wp2_with fail
          go_ret
          exact ⟨rfl, HB1.out.trans (HB8.out.mono HB1.out.size)⟩
end Go.Proofs.Ytlebcebihieiiaa
