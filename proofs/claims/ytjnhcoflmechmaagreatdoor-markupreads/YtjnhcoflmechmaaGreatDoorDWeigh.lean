/-
  Which values are right: datum.isRight and Right. | tendrilref16.weigh and Right: the reference's answer which values are right.
-/
import Derived.Test.YtjnhcoflmechmaaGreatDoorDFields
import Derived.Deep.RegionHeld3
namespace Go.Proofs.YtjnhcoflmechmaaGreatDoor
open Go.RowKit Go.Sort
set_option linter.unusedVariables false
set_option maxRecDepth 100000
def RPost (b : Nat) (d : Dt) (v : Int) (op : Nat) (w : World) (e : Ending) (w' : World) : Prop := ∃ (r : Bool) (v' : Int), e = .returned (.bool r) ∧ (r = true ↔ 0 ≤ wghD d v op) ∧ (r = true → v' = wghD d v op) ∧ w'.cell? ⟨b, 0, none⟩ = some (.int .i64 v') ∧ w'.frozen? ⟨b, 0, none⟩ = false ∧ Kept (· = b) w w'
theorem fr_own {d : Dt} (h : FR d.kind d.num d.text d.names.length d.list.length (NamesP d.names)) : PlainP d ∧ NamesP d.names := by
  have hp := (plainR_iff d).1 h.1
  refine ⟨hp, ?_⟩
  by_cases h5 : d.kind = 5
  · exact h.2 h5
  · rw [hp.2.2.2.1 h5]; intro i hi; simp at hi
theorem fr_no {d : Dt} {v : Int} {op : Nat} (h : ¬ FR d.kind d.num d.text d.names.length d.list.length (NamesP d.names)) : ¬ 0 ≤ wghD d v op := by
  rw [wghD_no (fun o => h ⟨(plainR_iff d).2 o.2.1, fun _ => o.2.2.2.2⟩)]; omega
theorem long_no {d : Dt} {v : Int} {op : Nat} (h : (d.list.length : Int) > v - 1) : ¬ 0 ≤ wghD d v op := by
  intro h0
  rw [wghD_ok (wgh_own h0)] at h0
  have := wghL_le _ _ _ h0
  omega
theorem own_of {d : Dt} {v : Int} {op : Nat} (hv : 1 ≤ v) (hf : FR d.kind d.num d.text d.names.length d.list.length (NamesP d.names)) (hl : ¬ (d.list.length : Int) > v - 1) (hd : ¬ (3 < d.kind ∧ op = 16)) : OwnP d v op := by
  obtain ⟨hp, hn⟩ := fr_own hf
  refine ⟨hv, hp, hd, ?_, hn⟩
  by_cases h5 : d.kind = 5
  · have := hp.2.2.2.2.2.2.1 h5; omega
  · rw [hp.2.2.2.1 h5]; simp; omega
theorem iff_no {P : Prop} {b : Bool} (hb : b = false) (h : ¬ P) : b = true ↔ P := by subst hb; exact ⟨fun e => (by cases e), fun p => absurd p h⟩
set_option maxHeartbeats 16000000 in
theorem isRight_any (n0 b : Nat) : ∀ d : Dt, ∀ (x : NV) (v lv : Int) (op : Nat) (w : World), DatAt w n0 d x → GoodD d → n0 ≤ b → w.cell? ⟨b, 0, none⟩ = some (.int .i64 v) → w.frozen? ⟨b, 0, none⟩ = false → 0 ≤ v → v ≤ 2000 → op ≤ 16 → lv = 16 - op →
    Calls Tryz.prog 46 #[datV d x, .pointer (some ⟨b, 0, none⟩), .int .i64 lv] w (RPost b d v op w) := by
  refine dt_ind (fun d ih => ?_)
  intro x v lv op w htree hgood hnb hcb hfb hv0 hv1 hop hlv
  obtain ⟨g1, g2, g3, g4, g5, g6⟩ := hgood.sizes
  have hbw : b < w.heap.size := World.block_lt_of_cell? w _ hcb
  obtain ⟨w1, hw1⟩ : ∃ w1, w1 = boxD w d x := ⟨_, rfl⟩
  have hb1 : Below w.heap.size w w1 := by rw [hw1]; exact below_boxD w d x
  have hk1 : Kept (fun _ => False) w w1 := kept_below hb1 _
  have hbox : DatCells w1 w.heap.size 0 d x := by rw [hw1]; exact box_dat w d x
  have hcb1 := hk1.cellOf hcb (fun h => h)
  have hfb1 := (hk1.frozen hbw (fun h => h)).trans hfb
  obtain ⟨w2, hw2⟩ : ∃ w2, w2 = w1.setCell ⟨b, 0, none⟩ (.int .i64 (v - 1)) := ⟨_, rfl⟩
  have hk2 : Kept (· = b) w1 w2 := by rw [hw2]; exact kept_setCell w1 ⟨b, 0, none⟩ _
  have hk02 : Kept (· = b) w w2 := (hk1.mono (fun _ _ h => absurd h (fun h => h))).trans hk2
  have hcb2 : w2.cell? ⟨b, 0, none⟩ = some (.int .i64 (v - 1)) := by rw [hw2]; exact World.cell?_setCell_same' w1 _ _ (by rw [hcb1]; rfl)
  have hfb2 : w2.frozen? ⟨b, 0, none⟩ = false := by rw [hw2]; rw [World.frozen?_setCell]; exact hfb1
  have hbox2 : DatCells w2 w.heap.size 0 d x := hbox.kept hk2 (by omega)
  have ht2 : DatAt w2 n0 d x := htree.keepB (hk02.below (by omega) (fun k hk => by omega))
  have hwr : IntKind.i64.wrap (v - 1) = v - 1 := by rw [IntKind.wrap_i64]; omega
  have HIH := Lib.hid ih; have HW := Lib.hid hw1; have HW2 := Lib.hid hw2; have HK02 := Lib.hid hk02; have HT2 := Lib.hid ht2; have HBX := Lib.hid hbox2
  have HC2 := Lib.hid hcb2; have HF2 := Lib.hid hfb2; have HG := Lib.hid hgood; have HG5 := Lib.hid g5; have HLV := Lib.hid hlv
  have hlv0 : 0 ≤ lv := by omega
  have hlv1 : lv ≤ 16 := by omega
  have hsz1 : w.heap.size < w1.heap.size := hbox.block_lt
  have hsz2 : w1.heap.size ≤ w2.heap.size := hk2.size
  clear ih hw1 hb1 hk1 hw2 hk2 hk02 ht2 hbox htree hgood g1 g2 g3 g5 hcb hfb hlv hcb2 hbox2
  go_enter Tryz.func46, Tryz.ntmps46
  go_upto_region 1 with (fail)
  rw [boxD_out HW]
  go_upto_region 2 with (fail)
  rw [show w1.setCell ⟨b, 0, none⟩ (.int .i64 (v - 1)) = w2 from HW2.out.symm]
  clear hcb1 hfb1
  obtain ⟨c0, c1, c2, c3, c4⟩ := HBX.out
  have hcb := HC2.out
  by_cases hA : v - 1 < 0
  · go_quiet (fail)
    go_wp2_with fail
    go_ret
    refine ⟨false, v - 1, rfl, iff_no rfl ?_, fun h => (by cases h), HC2.out, HF2.out, HK02.out.trans (kept_below (below_drewN _ _ _) _)⟩
    rw [wghD_no (fun o => by have := o.1; omega)]; omega
  · by_cases hB : (d.list.length : Int) > v - 1
    · go_quiet (fail)
      go_wp2_with fail
      go_ret
      exact ⟨false, v - 1, rfl, iff_no rfl (long_no hB), fun h => (by cases h), HC2.out, HF2.out, HK02.out.trans (kept_below (below_drewN _ _ _) _)⟩
    · have CF := Lib.hid (fields_raw d.kind d.num d.text x.A x.K x.ca x.ck d.list.length d.names w2.drew (HT2.out.names.mono (by show n0 ≤ w2.heap.size; omega)) (by omega) HG5.out)
      go_region_held3 (fun W => W.cell? ⟨w.heap.size, 0, none⟩ = some (.int .i64 d.kind) ∧ W.cell? ⟨w.heap.size, 1, none⟩ = some (.int .i64 d.num) ∧ W.cell? ⟨w.heap.size, 2, none⟩ = some (.string d.text) ∧ W.cell? ⟨w.heap.size, 3, none⟩ = some (.slice x.A d.names.length x.ca) ∧ W.cell? ⟨w.heap.size, 4, none⟩ = some (.slice x.K d.list.length x.ck) ∧ W.cell? ⟨b, 0, none⟩ = some (.int .i64 (v - 1)))
        (first
          | go_keep
          | (go_split_ands
             exact ⟨(hb3.cell (p := ⟨w.heap.size, 0, none⟩) (by show w.heap.size < w2.heap.size; omega)).trans c0, (hb3.cell (p := ⟨w.heap.size, 1, none⟩) (by show w.heap.size < w2.heap.size; omega)).trans c1, (hb3.cell (p := ⟨w.heap.size, 2, none⟩) (by show w.heap.size < w2.heap.size; omega)).trans c2, (hb3.cell (p := ⟨w.heap.size, 3, none⟩) (by show w.heap.size < w2.heap.size; omega)).trans c3, (hb3.cell (p := ⟨w.heap.size, 4, none⟩) (by show w.heap.size < w2.heap.size; omega)).trans c4, (hb3.cell (p := ⟨b, 0, none⟩) (by show b < w2.heap.size; omega)).trans hcb⟩))
        ((go_at_call 76; refine CF.out.mono ?_; rintro e w3 ⟨r, rfl, hr, hb3⟩))
      have hk3 : Kept (fun _ => False) w2 w3 := (kept_below (below_drewN _ w2 1) _).trans (kept_below hb3 _)
      have HC3 := Lib.hid (hk3.cellOf HC2.out (fun h => h))
      have HF3 := Lib.hid ((hk3.frozen (a := ⟨b, 0, none⟩) (by show b < w2.heap.size; omega) (fun h => h)).trans HF2.out)
      have HK3 := Lib.hid (HK02.out.trans (hk3.mono (fun _ _ h => absurd h (fun h => h))))
      have HB3 := Lib.hid (show Below w2.heap.size w2 w3 from (below_drewN _ w2 1).trans hb3)
      have HR := Lib.hid hr
      have hsz3 : w2.heap.size ≤ w3.heap.size := hk3.size
      clear hk3 hb3 hr c0 c1 c2 c3 c4 hcb CF
      obtain ⟨c0, c1, c2, c3, c4⟩ := HBX.out.below HB3.out (by omega)
      cases r with
      | false =>
        go_wp2_with fail
        go_ret
        exact ⟨false, v - 1, rfl, iff_no rfl (fr_no (fun h => by have := HR.out.2 h; cases this)), fun h => (by cases h), HC3.out, HF3.out, HK3.out⟩
      | true =>
        have HFR := Lib.hid (HR.out.1 rfl)
        clear HR
        have HPL := Lib.hid (fr_own HFR.out).1
        have hkb := HPL.out.1
        by_cases hgr : 4 ≤ d.kind
        · have r1 : IntKind.i64.wrap (lv - 1) = lv - 1 := by rw [IntKind.wrap_i64]; omega
          have hk45 : d.kind = 4 ∨ d.kind = 5 := by omega
          have q4 : (∃ q : Bool, (d.kind == 4) = q ∧ (d.kind == 5) = !q) := by
            rcases hk45 with h | h
            · exact ⟨true, by rw [h]; rfl, by rw [h]; rfl⟩
            · exact ⟨false, by rw [h]; rfl, by rw [h]; rfl⟩
          obtain ⟨q, hq, hq2⟩ := q4
          have HGR := Lib.hid hgr
          clear hkb hk45 hgr
          by_cases hneg : lv - 1 < 0
          · have HDEEP := Lib.hid (show wghD d v op < 0 from by rw [wghD_no (fun o => o.2.2.1 ⟨by have := HGR.out; omega, by have := HLV.out; omega⟩)]; omega)
            cases q with
            | true =>
              go_wp2_with fail
              go_ret
              exact ⟨false, v - 1, rfl, iff_no rfl (Int.not_le.2 HDEEP.out), fun h => (by cases h), HC3.out, HF3.out, HK3.out⟩
            | false =>
              have hq3 : (d.kind == 5) = true := hq2
              go_wp2_with fail
              go_ret
              exact ⟨false, v - 1, rfl, iff_no rfl (Int.not_le.2 HDEEP.out), fun h => (by cases h), HC3.out, HF3.out, HK3.out⟩
          · have HOWN := Lib.hid (own_of (v := v) (op := op) (by omega) HFR.out (by omega) (fun h => by have := HLV.out; omega))
            obtain ⟨lv2, hlv2⟩ : ∃ lv2 : Int, lv2 = lv - 1 := ⟨_, rfl⟩
            rw [← hlv2] at r1
            have HLV2 := Lib.hid (show lv2 = 16 - ((op + 1 : Nat) : Int) by have := HLV.out; omega)
            have hlv20 : ¬ lv2 < 0 := by omega
            rw [← hlv2] at hneg
            have HE := Lib.hid hlv2
            obtain ⟨v1, hv1e⟩ : ∃ v1 : Int, v1 = v - 1 := ⟨_, rfl⟩
            rw [← hv1e] at HC3
            have hv10 : 0 ≤ v1 := by omega
            have hv12 : v1 ≤ 2000 := by omega
            have hop2 : op + 1 ≤ 16 := by have := HLV.out; omega
            have HV1 := Lib.hid hv1e
            have hr1 : IntKind.i64.wrap (lv - 1) = lv2 := by rw [← hlv2] at *; exact r1
            clear hlv2 hneg hv1e r1 hv0 hv1 hop hA hB hwr
            cases q
            all_goals
              simp only [Bool.not_true, Bool.not_false] at hq2
              go_wp2_with fail
              go_loopg [47] d.list.length (fun g s47 wr => ∃ (k : Nat) (vk : Int), s47 = .int .i64 k ∧ k ≤ d.list.length ∧ d.list.length - k ≤ g ∧ 0 ≤ vk ∧ vk ≤ v1 ∧ RowKit.Hid (wghL (d.list.take k) v1 (op + 1) = vk) ∧ RowKit.Hid (wr.cell? ⟨b, 0, none⟩ = some (.int .i64 vk) ∧ wr.frozen? ⟨b, 0, none⟩ = false ∧ Kept (· = b) w3 wr))
              case atStart => exact ⟨0, v1, rfl, by omega, by omega, by omega, by omega, Lib.hid (by simp [wghL]), Lib.hid ⟨HC3.out, HF3.out, Kept.refl _ _⟩⟩
              case round =>
                clear c0 c1 c2 c3 c4
                obtain ⟨k, vk, rfl, hk, hg, hvk0, hvk1, HWG, HM⟩ := hrel
                have hszr : w3.heap.size ≤ wr.heap.size := HM.out.2.2.size
                have HTr := Lib.hid ((HT2.out.keepB (HB3.out.mono (show n0 ≤ w2.heap.size by omega))).keepB (HM.out.2.2.below (show n0 ≤ w3.heap.size by omega) (fun k hk => by omega)))
                obtain ⟨c0, c1, c2, c3, c4⟩ := (HBX.out.below HB3.out (show w.heap.size < w2.heap.size by omega)).kept HM.out.2.2 (show ¬ w.heap.size = b by omega)
                by_cases hlt : k < d.list.length
                · have h1 : (k : Int) < (d.list.length : Int) := by omega
                  obtain ⟨bk, off, kd, y, hK, hbk, hkd, hkc, hkt⟩ := HTr.out.kid hlt
                  obtain ⟨p0, p1, p2, p3, p4⟩ := hkc
                  obtain ⟨wB, hwB⟩ : ∃ wB, wB = boxD wr kd y := ⟨_, rfl⟩
                  have hkB : Kept (fun _ => False) wr wB := by rw [hwB]; exact kept_below (below_boxD wr kd y) _
                  obtain ⟨e0, e1, e2, e3, e4⟩ : DatCells wB wr.heap.size 0 kd y := by rw [hwB]; exact box_dat wr kd y
                  have C := HIH.out kd (by rw [hkd]; exact List.getElem_mem _) y vk lv2 (op + 1) wB (hkt.keepB (hkB.below (by omega) (fun _ h => absurd h (fun h => h)))) (HG.out.kid hlt hkd) hnb (hkB.cellOf HM.out.1 (fun h => h)) ((hkB.frozen (a := ⟨b, 0, none⟩) (by show b < wr.heap.size; omega) (fun h => h)).trans HM.out.2.1) hvk0 (by omega) hop2 HLV2.out
                  have HC := Lib.hid C; have HKD := Lib.hid hkd; have HWB := Lib.hid hwB; have HKB := Lib.hid (hkB.mono (T := (· = b)) (fun _ _ h => absurd h (fun h => h)))
                  clear C hkd hwB hkB hkt
                  go_wp2_with fail
                  rw [boxD_out HWB]
                  refine HC.out.mono ?_
                  rintro e w4 ⟨r, v', rfl, hr, hrv, hc4, hf4, hk4⟩
                  have HK4 := Lib.hid (HM.out.2.2.trans (HKB.out.trans hk4))
                  have HR := Lib.hid hr; have HRV := Lib.hid hrv; have HC4 := Lib.hid hc4; have HF4 := Lib.hid hf4
                  clear hr hrv hc4 hf4 hk4 HC e0 e1 e2 e3 e4
                  cases r with
                  | false =>
                    have HNO := Lib.hid (show wghD d v op < 0 from by
                      rw [wghD_ok HOWN.out, ← HV1.out]
                      refine wghL_fail (j := k + 1) v1 (op + 1) ?_
                      rw [wghL_take hlt v1 vk (op + 1) HWG.out hvk0, ← HKD.out, if_pos (Int.not_le.1 (fun h => by have := HR.out.2 h; cases this))]
                      omega)
                    go_wp2_with fail
                    go_ret
                    exact ⟨false, v', rfl, iff_no rfl (Int.not_le.2 HNO.out), fun h => (by cases h), HC4.out, HF4.out, HK3.out.trans HK4.out⟩
                  | true =>
                    have hv'0 : 0 ≤ v' := by rw [HRV.out rfl]; exact HR.out.1 rfl
                    have hv'1 : v' ≤ v1 := by have := (wgh_le kd vk (op + 1) (HR.out.1 rfl)).1; rw [← HRV.out rfl] at this; omega
                    have HW2G := Lib.hid (show wghL (d.list.take (k + 1)) v1 (op + 1) = v' from by
                      rw [wghL_take hlt v1 vk (op + 1) HWG.out hvk0, ← HKD.out, if_neg (Int.not_lt.2 (HR.out.1 rfl)), ← HRV.out rfl])
                    go_wp2_with fail
                    try rw [← hK]
                    go_roundg (d.list.length - (k + 1))
                    case measure => omega
                    case rel => exact ⟨k + 1, v', by go_num, by omega, by omega, hv'0, hv'1, HW2G, Lib.hid ⟨HC4.out, HF4.out, HK4.out⟩⟩
                · have h1 : ¬ (k : Int) < (d.list.length : Int) := by omega
                  have HOK := Lib.hid (show wghD d v op = vk from by
                    rw [wghD_ok HOWN.out, ← HV1.out, ← HWG.out, List.take_of_length_le (by omega)])
                  go_wp2_with fail
                  go_ret
                  exact ⟨true, vk, rfl, ⟨fun _ => by rw [HOK.out]; exact hvk0, fun _ => rfl⟩, fun _ => HOK.out.symm, HM.out.1, HM.out.2.1, HK3.out.trans HM.out.2.2⟩
        · have hll : d.list = [] := HPL.out.2.2.2.2.1 (by omega)
          have q4 : (d.kind == 4) = false := by rw [beq_eq_false_iff_ne]; omega
          have q5 : (d.kind == 5) = false := by rw [beq_eq_false_iff_ne]; omega
          have HOK := Lib.hid (show wghD d v op = v - 1 from by
            rw [wghD_ok (own_of (by omega) HFR.out (by omega) (fun h => by omega)), hll]; simp [wghL])
          have hlz : d.list.length = 0 := by rw [hll]; rfl
          have HV1 := Lib.hid (show 0 ≤ v - 1 by omega)
          rw [hlz] at c4
          clear hll hA hB hwr
          have hlv3 : ¬ lv < 0 := by omega
          go_wp2_with fail
          go_loopg [47] 0 (fun g s47 wr => s47 = .int .i64 0 ∧ RowKit.Hid (w3 = wr))
          case atStart => exact ⟨rfl, Lib.hid rfl⟩
          case round =>
            obtain ⟨rfl, HWW⟩ := hrel
            obtain rfl := HWW.out
            go_wp2_with fail
            go_ret
            exact ⟨true, v - 1, rfl, ⟨fun _ => by rw [HOK.out]; exact HV1.out, fun _ => rfl⟩, fun _ => HOK.out.symm, HC3.out, HF3.out, HK3.out⟩
set_option maxHeartbeats 4000000 in
theorem right_any (d : Dt) (x : NV) (w : World) (h : DatAt w w.heap.size d x) (hg : GoodD d) : Calls Tryz.prog 22 #[datV d x] w (BoolP (RightP d) w) := by
  obtain ⟨w1, hw1⟩ : ∃ w1, w1 = boxD w d x := ⟨_, rfl⟩
  have hb1 : Below w.heap.size w w1 := by rw [hw1]; exact below_boxD w d x
  obtain ⟨w2, hw2⟩ : ∃ w2, w2 = w1.alloc (.cells #[.int .i64 2000] 3) := ⟨_, rfl⟩
  have hb2 : Below w1.heap.size w1 w2 := by rw [hw2]; exact (Below.refl _ _).alloc (Nat.le_refl _) _
  have hcell : w2.cell? ⟨w1.heap.size, 0, none⟩ = some (.int .i64 2000) := by rw [hw2]; exact cell_fresh w1 _ 3 _ rfl
  have hfz : w2.frozen? ⟨w1.heap.size, 0, none⟩ = false := by rw [hw2]; exact froz_fresh w1 _ 3 _ rfl
  have hbx1 : DatCells w1 w.heap.size 0 d x := by rw [hw1]; exact box_dat w d x
  obtain ⟨c0, c1, c2, c3, c4⟩ := hbx1.below hb2 hbx1.block_lt
  have hsz : w1.heap.size = w.heap.size + 1 := by rw [hw1]; simp
  have C := Lib.hid (isRight_any w1.heap.size (w.heap.size + 1) d x 2000 16 0 w2 ((h.up hb1).keepB hb2) hg (by omega) (by rw [← hsz]; exact hcell) (by rw [← hsz]; exact hfz) (by omega) (by omega) (by omega) (by omega))
  have HW := Lib.hid hw1; have HW2 := Lib.hid hw2; have HB1 := Lib.hid hb1; have HB2 := Lib.hid hb2
  clear hw1 hw2 hb1 hb2 h hg hcell hfz hbx1
  go_enter Tryz.func22, Tryz.ntmps22
  go_upto_region 1 with (fail)
  rw [boxD_out HW]
  go_upto_region 2 with (fail)
  rw [show w1.alloc (.cells #[.int .i64 2000] 3) = w2 from HW2.out.symm]
  go_wp2_with fail
  refine C.out.mono ?_
  rintro e w3 ⟨r, v', rfl, hr, hrv, hc4, hf4, hk4⟩
  have HF := Lib.hid (HB1.out.trans ((HB2.out.trans (hk4.below (B := w1.heap.size) HB2.out.size (fun k hk => by omega))).mono HB1.out.size))
  have HR := Lib.hid hr
  clear hr hrv hc4 hf4 hk4 C
  go_wp2_with fail
  go_ret
  exact ⟨r, rfl, HR.out, HF.out⟩
end Go.Proofs.YtjnhcoflmechmaaGreatDoor

namespace Go.Proofs.YtjnhcoflmechmaaGreatDoor
open Go.RowKit Go.Sort
set_option linter.unusedVariables false
set_option maxRecDepth 100000
theorem wghD_neg {d : Dt} {v : Int} {op : Nat} (h : wghD d v op < 0) : wghD d v op = -1 := by
  have key : ∀ (l : List Dt) (v : Int) (op : Nat), 0 ≤ v → wghL l v op < 0 → wghL l v op = -1 := by
    intro l
    induction l with
    | nil => intro v op h0 h; simp [wghL] at h; omega
    | cons x r ih =>
      intro v op h0 h
      rw [wghL] at h ⊢
      by_cases hx : wghD x v op < 0
      · rw [if_pos hx]
      · rw [if_neg hx] at h ⊢
        exact ih _ op (by omega) h
  by_cases ho : OwnP d v op
  · rw [wghD_ok ho] at h ⊢
    exact key _ _ _ (by have := ho.1; omega) h
  · rw [wghD_no ho]
def WPost (d : Dt) (v : Int) (op : Nat) (w : World) (e : Ending) (w' : World) : Prop := e = .returned (.int .i64 (wghD d v op)) ∧ Below w.heap.size w w'
theorem wPost_no {d : Dt} {v : Int} {op : Nat} {w w' : World} (h : ¬ OwnP d v op) (hb : Below w.heap.size w w') : WPost d v op w (.returned (.int .i64 (-1))) w' := ⟨by rw [wghD_no h], hb⟩
set_option maxHeartbeats 4000000 in
theorem weigh16_any : ∀ d : Dt, ∀ (x : NV) (v : Int) (op : Nat) (w : World), DatAt w w.heap.size d x → GoodD d → 0 ≤ v → v ≤ 2000 → op ≤ 16 →
    Calls Tryz.prog 47 #[datV d x, .int .i64 v, .int .i64 op] w (WPost d v op w) := by
  refine dt_ind (fun d ih => ?_)
  intro x v op w htree hgood hv0 hv1 hop
  obtain ⟨g1, g2, g3, g4, g5, g6⟩ := hgood.sizes
  obtain ⟨w1, hw1⟩ : ∃ w1, w1 = boxD w d x := ⟨_, rfl⟩
  have hb1 : Below w.heap.size w w1 := by rw [hw1]; exact below_boxD w d x
  have hbox : DatCells w1 w.heap.size 0 d x := by rw [hw1]; exact box_dat w d x
  have ht1 := htree.up hb1
  have hlt1 : w.heap.size < w1.heap.size := hbox.block_lt
  have HIH := Lib.hid ih; have HW := Lib.hid hw1; have HB1 := Lib.hid hb1; have HT1 := Lib.hid ht1; have HBX := Lib.hid hbox; have HG := Lib.hid hgood; have HG5 := Lib.hid g5
  have CP := Lib.hid (plain_raw d.kind d.num d.text x.A x.K d.names.length d.list.length x.ca x.ck w1)
  clear ih hw1 hb1 htree ht1 hgood hbox g1 g2 g3 g5
  obtain ⟨c0, c1, c2, c3, c4⟩ := HBX.out
  by_cases hv : v < 1
  · go_enter Tryz.func47, Tryz.ntmps47
    go_wp2_with fail
    rw [boxD_out HW]
    go_ret
    exact wPost_no (fun o => by have := o.1; omega) HB1.out
  · go_enter Tryz.func47, Tryz.ntmps47
    go_upto_region 1 with (fail)
    rw [boxD_out HW]
    go_wp2_with fail
    refine CP.out.mono ?_
    rintro e w2 ⟨r, rfl, hr, hb2⟩
    have HR := Lib.hid hr; have HB2 := Lib.hid hb2
    have hlt2 : w1.heap.size ≤ w2.heap.size := hb2.size
    clear hr hb2 CP c0 c1 c2 c3 c4
    obtain ⟨c0, c1, c2, c3, c4⟩ := HBX.out.below HB2.out hlt1
    have HB02 := Lib.hid (HB1.out.trans (HB2.out.mono HB1.out.size))
    cases r with
    | false =>
      have HNP := Lib.hid (show ¬ OwnP d v op from fun o => by have := HR.out.2 ((plainR_iff d).2 o.2.1); cases this)
      go_wp2_with fail
      go_ret
      exact wPost_no HNP.out HB02.out
    | true =>
      have HPL := Lib.hid ((plainR_iff d).1 (HR.out.1 rfl))
      clear HR
      by_cases hdeep : 3 < d.kind ∧ op = 16
      · have HNP := Lib.hid (show ¬ OwnP d v op from fun o => o.2.2.1 hdeep)
        have q1 : d.kind > 3 := hdeep.1
        have q2 : ((op : Int) == 16) = true := by rw [hdeep.2]; rfl
        clear hdeep
        go_wp2_with fail
        all_goals (try (apply_assumption -exfalso; go_wp2_with fail))
        go_ret
        exact wPost_no HNP.out HB02.out
      · have HND := Lib.hid hdeep
        have hwr : IntKind.i64.wrap (v - 1) = v - 1 := by rw [IntKind.wrap_i64]; omega
        have q4 : ∃ q : Bool, decide (d.kind > 3) = q ∧ (q = true → ((op : Int) == 16) = false) := by
          by_cases h : 3 < d.kind
          · exact ⟨true, by simpa using h, fun _ => by rw [beq_eq_false_iff_ne]; omega⟩
          · exact ⟨false, by simpa using h, fun h => (by cases h)⟩
        obtain ⟨q, hq, hq2⟩ := q4
        obtain ⟨v1, hv1e⟩ : ∃ v1 : Int, v1 = v - 1 := ⟨_, rfl⟩
        have HV1 := Lib.hid hv1e
        have hv10 : 0 ≤ v1 := by omega
        have hv12 : v1 ≤ 2000 := by omega
        have hn20 : d.names.length ≤ 1000000 := g4
        rw [← hv1e] at hwr
        clear hdeep
        have HQ2 := Lib.hid hq2
        clear hq2
        cases q
        case' true =>
          have hq2 := HQ2.out rfl
          have hq1 : d.kind > 3 := of_decide_eq_true hq
          clear hq
          go_wp2_with fail
          clear hq2 hq1
        case' false =>
          have hq1 : ¬ d.kind > 3 := of_decide_eq_false hq
          clear hq
          go_wp2_with fail
          clear hq1
        all_goals
          try rw [← hv1e]
          clear hv1e HQ2 c0 c1 c2 c3 c4 hv hv0 hv1
          go_loopg [30] d.names.length (fun g s30 wr => ∃ k : Nat, s30 = .int .i64 k ∧ k ≤ d.names.length ∧ d.names.length - k ≤ g ∧ RowKit.Hid (NamesTo d.names k ∧ (k : Int) ≤ v1) ∧ RowKit.Hid (Below w2.heap.size w2 wr))
          case atStart => exact ⟨0, rfl, by omega, by omega, Lib.hid ⟨fun i hi h => by omega, hv10⟩, Lib.hid (Below.refl _ _)⟩
          case round =>
            obtain ⟨k, rfl, hk, hg, HN, HBr⟩ := hrel
            have hszr : w2.heap.size ≤ wr.heap.size := HBr.out.size
            obtain ⟨c0, c1, c2, c3, c4⟩ := (HBX.out.below HB2.out hlt1).below HBr.out (by omega)
            have HB0r := Lib.hid (HB02.out.trans (HBr.out.mono HB02.out.size))
            by_cases hlt : k < d.names.length
            · have hlt' : (k : Int) < (d.names.length : Int) := by omega
              by_cases hge : (k : Int) ≥ v1
              · have HNP := Lib.hid (show ¬ OwnP d v op from fun o => by have := o.2.2.2.1; have := HV1.out; omega)
                go_wp2_with fail
                go_quiet (fail)
                go_wp2_with fail
                go_ret
                exact wPost_no HNP.out (HB0r.out.trans (below_drewN _ _ _))
              · obtain ⟨b, off, p, hA, hb, hp, hc⟩ := srow_at (((HT1.out.up HB2.out).up HBr.out).names) hlt
                have hps : p.size ≤ maxLen := by rw [hp]; exact HG5.out _ (List.getElem_mem _)
                obtain ⟨r, hr⟩ : ∃ r, r = nmB p := ⟨_, rfl⟩
                have Q := Lib.hid (show ∀ n, Calls Tryz.prog 62 #[.string p, .bool true] (wr.drewN n) fun e w' => e = .returned (.bool r) ∧ w' = wr.drewN n from fun n => by
                  have := named_any p true (wr.drewN n) hps
                  rw [inner_name, wfB_nm, ← hr] at this
                  exact this.mono (fun e w' h => ⟨h.1, h.2.symm⟩))
                have HP := Lib.hid hp; have HR := Lib.hid hr; have HA := Lib.hid hA
                have HGE := Lib.hid hge
                have hge' : decide (v1 ≤ (k : Int)) = false := by simpa using hge
                rw [hA] at c3
                clear hp hr c0 c1 c2 c4 hge hps hA
                cases r with
                | false =>
                  have HNP := Lib.hid (show ¬ OwnP d v op from fun o => by
                    have := (o.2.2.2.2 k hlt).1
                    rw [← HP.out, ← HR.out] at this
                    cases this)
                  go_wp2_with fail
                  go_quiet ((go_at_call 62; exact Calls.quiet_of_same (Q.out _)))
                  go_wp2_with fail
                  go_ret
                  exact wPost_no HNP.out (HB0r.out.trans (below_drewN _ _ _))
                | true =>
                  by_cases h0 : k = 0
                  · have hvk := HGE.out
                    have HN2 := Lib.hid (show NamesTo d.names (k + 1) ∧ ((k + 1 : Nat) : Int) ≤ v1 from ⟨HN.out.1.step hlt (by rw [← HP.out, ← HR.out]) (fun h => by omega), by omega⟩)
                    have h0' : decide (0 < k) = false := by simp; omega
                    clear h0 hvk
                    go_wp2_with fail
                    go_quiet ((go_at_call 62; exact Calls.quiet_of_same (Q.out _)))
                    have HB3 := Lib.hid (HBr.out.trans (below_drewN _ wr nq))
                    clear hc c3 HB0r
                    generalize wr.drewN nq = w3 at HB3 ⊢
                    go_wp2_with fail
                    try rw [← HA.out]
                    go_roundg (d.names.length - (k + 1))
                    case measure => omega
                    case rel => exact ⟨k + 1, by go_num, by omega, by omega, HN2, HB3⟩
                  · obtain ⟨b', off', p', hA', hb', hp', hc'⟩ := srow_at (((HT1.out.up HB2.out).up HBr.out).names) (j := k - 1) (by omega)
                    obtain ⟨rfl, rfl⟩ : b = b' ∧ off = off' := by rw [HA.out] at hA'; simpa using hA'
                    have hnp' : nmB p' = true := by rw [hp']; exact (HN.out.1 (k - 1) (by omega) (by omega)).1
                    have hs' : ∀ z, nmB z = true → z.size ≤ 100000000 := fun z hz => by
                      unfold nmB at hz
                      simp only [Bool.and_eq_true, decide_eq_true_eq] at hz
                      omega
                    obtain ⟨cv, hcv⟩ : ∃ cv, cv = cmpN p' p := ⟨_, rfl⟩
                    have Q5 := Lib.hid (show ∀ n, Calls Tryz.prog 55 #[.string p', .string p] (wr.drewN n) fun e w' => e = .returned (.int .i64 cv) ∧ ∃ m, w' = (wr.drewN n).drewN m from fun n => by
                      rw [hcv]; exact refCompare_any p' p _ (hs' _ hnp') (hs' _ HR.out.symm))
                    have h0' : decide (0 < k) = true := by simp; omega
                    have hkp : 0 < k := by omega
                    have hw1 : IntKind.i64.wrap ((k : Int) - 1) = ((k - 1 : Nat) : Int) := by rw [IntKind.wrap_i64]; omega
                    have hw2 : (k : Int) - 1 = ((k - 1 : Nat) : Int) := by omega
                    have hw3 : ((k - 1 : Nat) : Int) < (d.names.length : Int) := by omega
                    have hw4 : (((k - 1 : Nat) : Int)).toNat = k - 1 := by omega
                    have hw5 : (0 : Int) ≤ ((k - 1 : Nat) : Int) := by omega
                    have HCV := Lib.hid hcv; have HP' := Lib.hid hp'
                    clear hcv hp' hA' hs' hnp' h0
                    by_cases hge2 : 0 ≤ cv
                    · have hge3 : decide (0 ≤ cv) = true := decide_eq_true hge2
                      have HNP := Lib.hid (show ¬ OwnP d v op from fun o => by
                        have := (o.2.2.2.2 k hlt).2 (by omega)
                        rw [← HP.out, ← HP'.out, ← HCV.out] at this
                        omega)
                      clear hge2
                      go_wp2_with fail
                      go_quiet (first | (go_at_call 62; exact Calls.quiet_of_same (Q.out _)) | (go_at_call 55; exact Calls.quiet_of (Q5.out _)))
                      go_wp2_with fail
                      go_ret
                      exact wPost_no HNP.out (HB0r.out.trans (below_drewN _ _ _))
                    · have hge3 : decide (0 ≤ cv) = false := decide_eq_false hge2
                      have hvk := HGE.out
                      have HN2 := Lib.hid (show NamesTo d.names (k + 1) ∧ ((k + 1 : Nat) : Int) ≤ v1 from ⟨HN.out.1.step hlt (by rw [← HP.out, ← HR.out]) (fun h => by rw [← HP.out, ← HP'.out, ← HCV.out]; omega), by omega⟩)
                      clear hge2 hvk
                      go_wp2_with fail
                      go_quiet (first | (go_at_call 62; exact Calls.quiet_of_same (Q.out _)) | (go_at_call 55; exact Calls.quiet_of (Q5.out _)))
                      have HB3 := Lib.hid (HBr.out.trans (below_drewN _ wr nq))
                      clear hc hc' c3 HB0r
                      generalize wr.drewN nq = w3 at HB3 ⊢
                      go_wp2_with fail
                      try rw [← HA.out]
                      go_roundg (d.names.length - (k + 1))
                      case measure => omega
                      case rel => exact ⟨k + 1, by go_num, by omega, by omega, HN2, HB3⟩
            · have hlt' : ¬ (k : Int) < (d.names.length : Int) := by omega
              have HOWN := Lib.hid (show OwnP d v op from ⟨by have := HV1.out; omega, HPL.out, HND.out, by have := HN.out.2; have := HV1.out; omega, fun i hi => HN.out.1 i hi (by omega)⟩)
              go_wp2_with fail
              clear hv10 hwr
              go_loopg [1, 68] d.list.length (fun g s1 s68 wk => ∃ (j : Nat) (lk : Int), s68 = .int .i64 j ∧ s1 = .int .i64 lk ∧ j ≤ d.list.length ∧ d.list.length - j ≤ g ∧ 0 ≤ lk ∧ lk ≤ v1 ∧ RowKit.Hid (wghL (d.list.take j) v1 (op + 1) = lk) ∧ RowKit.Hid (Below w2.heap.size w2 wk))
              case atStart => exact ⟨0, v1, rfl, rfl, by omega, by omega, by have := HN.out.2; omega, by omega, Lib.hid (by simp [wghL]), HBr⟩
              case round =>
                clear HBr HB0r HN c0 c1 c2 c3 c4
                obtain ⟨j, lk, rfl, rfl, hj, hgj, hlk0, hlk1, HWG, HBr⟩ := hrel
                obtain ⟨c0, c1, c2, c3, c4⟩ := (HBX.out.below HB2.out hlt1).below HBr.out (by omega)
                have HB0r := Lib.hid (HB02.out.trans (HBr.out.mono HB02.out.size))
                by_cases hlt2 : j < d.list.length
                · have h2 : (j : Int) < (d.list.length : Int) := by omega
                  have hop2 : op + 1 ≤ 16 := by
                    have h4 : ¬ d.kind < 4 := fun h => by have := HPL.out.2.2.2.2.1 h; rw [this] at hlt2; simp at hlt2
                    have := HND.out
                    omega
                  have r2 : IntKind.i64.wrap ((op : Int) + 1) = (op : Int) + 1 := by rw [IntKind.wrap_i64]; omega
                  obtain ⟨b, off, kd, y, hK, hb, hkd, hkc, hkt⟩ := ((HT1.out.up HB2.out).up HBr.out).kid hlt2
                  obtain ⟨q0, q1, q2, q3, q4⟩ := hkc
                  have C := HIH.out kd (by rw [hkd]; exact List.getElem_mem _) y lk (op + 1) wr hkt (HG.out.kid hlt2 hkd) hlk0 (by omega) hop2
                  rw [show ((op + 1 : Nat) : Int) = (op : Int) + 1 from rfl] at C
                  have HC := Lib.hid C; have HKD := Lib.hid hkd
                  obtain ⟨r, hr⟩ : ∃ r, r = wghD kd lk (op + 1) := ⟨_, rfl⟩
                  unfold WPost at HC
                  rw [← hr] at HC
                  have HR := Lib.hid hr
                  have HTK := Lib.hid (show wghL (d.list.take (j + 1)) v1 (op + 1) = (if r < 0 then -1 else r) from by rw [wghL_take hlt2 v1 lk (op + 1) HWG.out hlk0, ← HKD.out, ← HR.out])
                  clear hkd hkt C hr hop2
                  go_wp2_with fail
                  refine HC.out.mono ?_
                  rintro e w3 ⟨rfl, hb3⟩
                  have HB3 := Lib.hid (HBr.out.trans (hb3.mono HBr.out.size))
                  clear hb3 HC q0 q1 q2 q3 q4
                  by_cases hr0 : r < 0
                  · have HNEG := Lib.hid (show wghD d v op = -1 from by
                      have h1 : wghL d.list v1 (op + 1) < 0 := wghL_fail (j := j + 1) v1 (op + 1) (by rw [HTK.out, if_pos hr0]; omega)
                      have h2 : wghD d v op < 0 := by rw [wghD_ok HOWN.out, ← HV1.out]; exact h1
                      exact wghD_neg h2)
                    go_wp2_with fail
                    go_ret
                    exact ⟨ret_int HNEG.out.symm, HB02.out.trans (HB3.out.mono HB02.out.size)⟩
                  · have hr1 : r ≤ v1 := by have := (wgh_le kd lk (op + 1) (by rw [← HR.out]; omega)).1; rw [← HR.out] at this; omega
                    have HT2 := Lib.hid (show wghL (d.list.take (j + 1)) v1 (op + 1) = r from by rw [HTK.out, if_neg hr0])
                    go_wp2_with fail
                    try rw [← hK]
                    go_roundg (d.list.length - (j + 1))
                    case measure => omega
                    case rel => exact ⟨j + 1, r, by go_num, rfl, by omega, by omega, by omega, hr1, HT2, HB3⟩
                · have h2 : ¬ (j : Int) < (d.list.length : Int) := by omega
                  have HOK := Lib.hid (show wghD d v op = lk from by rw [wghD_ok HOWN.out, ← HV1.out, ← HWG.out, List.take_of_length_le (by omega)])
                  go_wp2_with fail
                  go_ret
                  exact ⟨ret_int HOK.out.symm, HB0r.out⟩
set_option maxHeartbeats 2000000 in
theorem refRight_any (d : Dt) (x : NV) (w : World) (h : DatAt w w.heap.size d x) (hg : GoodD d) : Calls Tryz.prog 23 #[datV d x] w (BoolP (RightP d) w) := by
  obtain ⟨w1, hw1⟩ : ∃ w1, w1 = boxD w d x := ⟨_, rfl⟩
  have hb1 : Below w.heap.size w w1 := by rw [hw1]; exact below_boxD w d x
  obtain ⟨c0, c1, c2, c3, c4⟩ : DatCells w1 w.heap.size 0 d x := by rw [hw1]; exact box_dat w d x
  have C := weigh16_any d x 2000 0 w1 (h.up hb1) hg (by omega) (by omega) (by omega)
  rw [show ((0 : Nat) : Int) = 0 from rfl] at C
  obtain ⟨r, hr⟩ : ∃ r, r = wghD d 2000 0 := ⟨_, rfl⟩
  unfold WPost at C
  rw [← hr] at C
  have HC := Lib.hid C; have HR := Lib.hid hr
  have HW := Lib.hid hw1; have HB1 := Lib.hid hb1
  clear h hw1 hb1 hg C hr
  go_enter Tryz.func23, Tryz.ntmps23
  go_wp2_with fail
  rw [boxD_out HW]
  refine HC.out.mono ?_
  rintro e w2 ⟨rfl, hb2⟩
  have HB2 := Lib.hid (HB1.out.trans (hb2.mono HB1.out.size))
  clear hb2 HC
  go_wp2_with fail
  go_ret
  exact ⟨_, rfl, by unfold RightP; rw [← HR.out]; simp, HB2.out⟩
end Go.Proofs.YtjnhcoflmechmaaGreatDoor
