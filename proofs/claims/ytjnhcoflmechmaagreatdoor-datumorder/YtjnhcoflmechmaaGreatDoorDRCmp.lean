/-
  tendrilref16.Compare: the reference's order of two right values.
-/
import Derived.Test.YtjnhcoflmechmaaGreatDoorDSame
namespace Go.Proofs.YtjnhcoflmechmaaGreatDoor
open Go.RowKit Go.Sort Go.Lib
set_option linter.unusedVariables false
set_option maxRecDepth 100000
theorem sign_any (r : Bool) (w : World) : Calls Tryz.prog 54 #[.bool r] w fun e w' => e = .returned (.int .i64 (if r then -1 else 1)) ∧ w = w' := by
  cases r
  · go_enter Tryz.func54, Tryz.ntmps54
    go_wp2_with fail
    go_ret
    exact ⟨rfl, rfl⟩
  · go_enter Tryz.func54, Tryz.ntmps54
    go_wp2_with fail
    go_ret
    exact ⟨rfl, rfl⟩
theorem fine_names {d : Dt} (h : FineD d) {i : Nat} (hi : i < d.names.length) : d.names[i].size ≤ 32 := by
  cases h with
  | mk own nm sub =>
    have := (nm i hi).1
    unfold nmB at this
    simp only [Bool.and_eq_true, decide_eq_true_eq] at this
    omega
theorem FineD.kid {d : Dt} (h : FineD d) {k : Dt} {j : Nat} (hj : j < d.list.length) (hk : k = d.list[j]) : FineD k := by
  cases h with | mk own nm sub => rw [hk]; exact sub _ (List.getElem_mem _)
theorem ifB {p : Prop} [Decidable p] {r : Bool} (h : r = decide p) : (if r = true then (-1 : Int) else 1) = if p then -1 else 1 := by subst h; simp
theorem signN (r : Bool) (n : Int) (W : World) (hn : n = if r then -1 else 1) : Calls Tryz.prog 54 #[.bool r] W fun e w' => e = .returned (.int .i64 n) ∧ W = w' := by rw [hn]; exact sign_any r W
def RCmpP (a b : Dt) (w : World) (e : Ending) (w' : World) : Prop := e = .returned (.int .i64 (cmpD a b)) ∧ Below w.heap.size w w'
theorem rc {a b : Dt} {n : Int} {w w' : World} (h : cmpD a b = n) (hb : Below w.heap.size w w') : RCmpP a b w (.returned (.int .i64 n)) w' := ⟨by rw [h], hb⟩
theorem cmpI_ne {a b : Int} (h : a ≠ b) : cmpI a b = if a < b then -1 else 1 := by unfold cmpI; split <;> (try split) <;> omega
theorem len_ne {l m : List ByteArray} {k : Nat} (h : ZeroN l m k) (he : ¬ (k < l.length ∧ k < m.length)) (hne : l.length ≠ m.length) : cmpNL l m = if l.length < m.length then -1 else 1 := by
  by_cases h1 : k < l.length
  · rw [h.gt h1 (by omega), if_neg (by have := h.2.1; omega)]
  · rw [h.fin h1]; split
    · rfl
    · have := h.1; have := h.2.1; omega
theorem len_neD {l m : List Dt} {k : Nat} (h : ZeroD l m k) (he : ¬ (k < l.length ∧ k < m.length)) (hne : l.length ≠ m.length) : cmpDL l m = if l.length < m.length then -1 else 1 := by
  by_cases h1 : k < l.length
  · rw [h.gt h1 (by omega), if_neg (by have := h.2.1; omega)]
  · rw [h.fin h1]; split
    · rfl
    · have := h.1; have := h.2.1; omega
set_option maxHeartbeats 8000000 in
theorem refCompareD_any : ∀ a : Dt, ∀ (b : Dt) (x y : NV) (w : World), DatAt w w.heap.size a x → DatAt w w.heap.size b y → GoodD a → GoodD b → FineD a → FineD b → Calls Tryz.prog 29 #[datV a x, datV b y] w (RCmpP a b w) := by
  refine dt_ind (fun a ih => ?_)
  intro b x y w ha hb ga gb fa fb
  obtain ⟨w1, hw1⟩ : ∃ w1, w1 = boxD w a x := ⟨_, rfl⟩
  obtain ⟨w2, hw2⟩ : ∃ w2, w2 = boxD w1 b y := ⟨_, rfl⟩
  have hb1 : Below w.heap.size w w1 := by rw [hw1]; exact below_boxD _ _ _
  have hb2 : Below w1.heap.size w1 w2 := by rw [hw2]; exact below_boxD _ _ _
  obtain ⟨hc1, hc2⟩ := twoD_cells w a b x y
  rw [← hw1, ← hw2] at hc1 hc2
  have hl1 : w.heap.size < w2.heap.size := hc1.block_lt
  have hl2 : w.heap.size + 1 < w2.heap.size := hc2.block_lt
  have hba := (ha.up hb1).up hb2
  have hbb := (hb.up hb1).up hb2
  have HA := Lib.hid hba; have HB := Lib.hid hbb; have GA := Lib.hid ga; have GB := Lib.hid gb; have HIH := Lib.hid ih
  have HW1 := Lib.hid hw1; have HW2 := Lib.hid hw2
  have HB2 := Lib.hid (hb1.trans (hb2.mono hb1.size))
  have HC1 := Lib.hid hc1; have HC2 := Lib.hid hc2
  have hla := ga.sizes.2.2.2.1
  have hlb := gb.sizes.2.2.2.1
  have hka := ga.sizes.2.2.2.2.2
  have hkb := gb.sizes.2.2.2.2.2
  have FA := Lib.hid fa; have FB := Lib.hid fb
  have hta : a.text.size ≤ 65536 := by cases fa with | mk own nm sub => exact own.2.2.2.2.2.2.2
  have htb : b.text.size ≤ 65536 := by cases fb with | mk own nm sub => exact own.2.2.2.2.2.2.2
  clear ih fa fb ha hb ga gb hba hbb hw1 hw2 hb1 hb2
  obtain ⟨c0, c1, c2, c3, c4⟩ := hc1
  obtain ⟨d0, d1, d2, d3, d4⟩ := hc2
  have HCE := Lib.hid (cmpD_eq a b)
  by_cases e0 : a.kind = b.kind
  · have e0' := bne_f e0
    by_cases e1 : a.num = b.num
    · have e1' := bne_f e1
      by_cases e2 : a.text = b.text
      · have e2' : (a.text.toList == b.text.toList) = true := by rw [eqB]; exact decide_eq_true e2
        have HE := Lib.hid (show cmpD a b = orI (cmpNL a.names b.names) (cmpDL a.list b.list) by rw [HCE.out, orI_r (cmpI_zero.2 e0), orI_r (cmpI_zero.2 e1), orI_r (cmpN_zero'.2 e2)])
        clear e0 e1 e2 hta htb
        go_enter Tryz.func29, Tryz.ntmps29
        go_wp2_with fail
        rw [twoD_out HW1 HW2]
        go_loopg [5] a.names.length (fun g s5 wr => ∃ k : Nat, s5 = .int .i64 k ∧ k ≤ a.names.length ∧ a.names.length - k ≤ g ∧ RowKit.Hid (ZeroN a.names b.names k) ∧ RowKit.Hid (Below w2.heap.size w2 wr))
        case atStart => exact ⟨0, rfl, by omega, by omega, Lib.hid ⟨by omega, by omega, fun j _ _ hj => by omega⟩, Lib.hid (Below.refl _ _)⟩
        case round =>
          clear c0 c1 c2 c3 c4 d0 d1 d2 d3 d4
          obtain ⟨k, rfl, hk, hg, HZ, HWr⟩ := hrel
          obtain ⟨c0, c1, c2, c3, c4⟩ := HC1.out.below HWr.out hl1
          obtain ⟨d0, d1, d2, d3, d4⟩ := HC2.out.below HWr.out hl2
          have hl1r : w.heap.size < wr.heap.size := Nat.lt_of_lt_of_le hl1 HWr.out.size
          have hl2r : w.heap.size + 1 < wr.heap.size := Nat.lt_of_lt_of_le hl2 HWr.out.size
          by_cases hlt : k < a.names.length ∧ k < b.names.length
          · obtain ⟨hlta, hltb⟩ := hlt
            have h1 : (k : Int) < (a.names.length : Int) := by omega
            have h2 : (k : Int) < (b.names.length : Int) := by omega
            obtain ⟨b1, o1, p, hA1, hb1, hp, hcp⟩ := srow_at ((HA.out.up HWr.out).names) hlta
            obtain ⟨b2, o2, q, hA2, hb2, hq, hcq⟩ := srow_at ((HB.out.up HWr.out).names) hltb
            have hps : p.size ≤ 100000000 := by rw [hp]; have := fine_names FA.out hlta; omega
            have hqs : q.size ≤ 100000000 := by rw [hq]; have := fine_names FB.out hltb; omega
            rw [hA1] at c3
            rw [hA2] at d3
            have HA1 := Lib.hid hA1; have HA2 := Lib.hid hA2; have HP := Lib.hid hp; have HQ := Lib.hid hq
            clear hA1 hA2 hp hq c0 c1 c2 c4 d0 d1 d2 d4
            by_cases hpq : p = q
            · have hpq' : (p.toList == q.toList) = true := by rw [eqB]; exact decide_eq_true hpq
              have HZ2 := Lib.hid (HZ.out.step hlta hltb (by rw [← HP.out, ← HQ.out, hpq]; exact cmpN_self q))
              clear hpq hps hqs
              go_wp2_with fail
              go_quiet (fail)
              have HB3 := Lib.hid (HWr.out.trans (below_drewN _ wr nq))
              clear c3 d3 hcp hcq
              generalize wr.drewN nq = w3 at HB3 ⊢
              go_wp2_with fail
              try rw [← HA1.out]
              try rw [← HA2.out]
              go_roundg (a.names.length - (k + 1))
              case measure => omega
              case rel => exact ⟨k + 1, by go_num, by omega, by omega, HZ2, HB3⟩
            · have hpq' : (p.toList == q.toList) = false := by rw [eqB]; exact decide_eq_false hpq
              obtain ⟨cv, hcv⟩ : ∃ cv, cv = cmpN p q := ⟨_, rfl⟩
              have hne : cmpN a.names[k] b.names[k] ≠ 0 := by rw [← HP.out, ← HQ.out]; exact fun h => hpq (cmpN_zero h)
              have HF := Lib.hid (show cmpD a b = cv by rw [HE.out, orI_l (by rw [HZ.out.ne hlta hltb hne]; exact hne), HZ.out.ne hlta hltb hne, ← HP.out, ← HQ.out, hcv])
              have Q5 := Lib.hid (show ∀ (W : World) (n : Nat), Calls Tryz.prog 55 #[.string p, .string q] (W.drewN n) fun e w' => e = .returned (.int .i64 cv) ∧ ∃ m, w' = (W.drewN n).drewN m from fun W n => by
                rw [hcv]; exact refCompare_any p q _ hps hqs)
              clear hpq hps hqs hcv hne
              go_wp2_with fail
              go_quiet (fail)
              obtain ⟨w3, hw3⟩ : ∃ w3, w3 = wr.drewN nq := ⟨_, rfl⟩
              have hbd : Below wr.heap.size wr w3 := by rw [hw3]; exact below_drewN _ _ _
              have c3' := (hbd.cell (p := ⟨w.heap.size, 3, none⟩) hl1r).trans c3
              have d3' := (hbd.cell (p := ⟨w.heap.size + 1, 3, none⟩) hl2r).trans d3
              have hcp' := (hbd.cell (p := ⟨b1, o1 + k, none⟩) hb1).trans hcp
              have hcq' := (hbd.cell (p := ⟨b2, o2 + k, none⟩) hb2).trans hcq
              have HB3 := Lib.hid (HWr.out.trans (hbd.mono HWr.out.size))
              rw [← hw3]
              clear hw3 hbd c3 d3 hcp hcq
              go_wp2_with fail
              go_quiet ((go_at_call 55; exact Calls.quiet_of (Q5.out _ _)))
              go_wp2_with fail
              go_ret
              exact rc HF.out (HB2.out.trans ((HB3.out.trans (below_drewN _ _ _)).mono HB2.out.size))
          · have HNL := Lib.hid hlt
            have h12 : ∃ r : Bool, decide ((k : Int) < (a.names.length : Int)) = r ∧ (r = true → decide ((k : Int) < (b.names.length : Int)) = false) := by
              by_cases h : k < a.names.length
              · exact ⟨true, by simpa using h, fun _ => by simp; omega⟩
              · exact ⟨false, by simp; omega, fun h => by cases h⟩
            obtain ⟨r, hr1, hr2⟩ := h12
            have HR2 := Lib.hid hr2
            clear hr2 hlt
            by_cases e3 : a.names.length = b.names.length
            · have e3' : ((a.names.length : Int) != (b.names.length : Int)) = false := bne_f (by rw [e3])
              have HE2 := Lib.hid (show cmpD a b = cmpDL a.list b.list by
                rw [HE.out, orI_r]
                have h1 : ¬ k < a.names.length := by have := HNL.out; omega
                rw [HZ.out.fin h1, if_neg (by omega)])
              clear e3
              cases r
              case' false =>
                have h1 : ¬ (k : Int) < (a.names.length : Int) := of_decide_eq_false hr1
                clear hr1
                go_wp2_with fail
                clear h1
              case' true =>
                have h1 : (k : Int) < (a.names.length : Int) := of_decide_eq_true hr1
                have h2 : ¬ (k : Int) < (b.names.length : Int) := of_decide_eq_false (HR2.out rfl)
                clear hr1
                go_wp2_with fail
                clear h1 h2
              all_goals
                clear HR2
                go_loopg [6] a.list.length (fun g s6 wr => ∃ k : Nat, s6 = .int .i64 k ∧ k ≤ a.list.length ∧ a.list.length - k ≤ g ∧ RowKit.Hid (ZeroD a.list b.list k) ∧ RowKit.Hid (Below w2.heap.size w2 wr))
                case atStart => exact ⟨0, rfl, by omega, by omega, Lib.hid ⟨by omega, by omega, fun j _ _ hj => by omega⟩, HWr⟩
                case round =>
                  clear c0 c1 c2 c3 c4 d0 d1 d2 d3 d4 HWr hl1r hl2r
                  obtain ⟨k, rfl, hk, hg, HZ, HWr⟩ := hrel
                  obtain ⟨c0, c1, c2, c3, c4⟩ := HC1.out.below HWr.out hl1
                  obtain ⟨d0, d1, d2, d3, d4⟩ := HC2.out.below HWr.out hl2
                  have hl1 : w.heap.size < wr.heap.size := Nat.lt_of_lt_of_le hl1 HWr.out.size
                  have hl2 : w.heap.size + 1 < wr.heap.size := Nat.lt_of_lt_of_le hl2 HWr.out.size
                  by_cases hlt : k < a.list.length ∧ k < b.list.length
                  · obtain ⟨hlta, hltb⟩ := hlt
                    have h1 : (k : Int) < (a.list.length : Int) := by omega
                    have h2 : (k : Int) < (b.list.length : Int) := by omega
                    obtain ⟨b1, o1, k1, y1, hK1, hb1, hk1, hc1, ht1⟩ := (HA.out.up HWr.out).kid hlta
                    obtain ⟨b2, o2, k2, y2, hK2, hb2, hk2, hc2, ht2⟩ := (HB.out.up HWr.out).kid hltb
                    have hbd : Below wr.heap.size wr wr.drew := below_drewN _ _ 1
                    obtain ⟨cv, hcv⟩ : ∃ cv, cv = cmpD k1 k2 := ⟨_, rfl⟩
                    have C0 := HIH.out k1 (by rw [hk1]; exact List.getElem_mem _) k2 y1 y2 wr.drew (ht1.up hbd) (ht2.up hbd) (GA.out.kid hlta hk1) (GB.out.kid hltb hk2) (FA.out.kid hlta hk1) (FB.out.kid hltb hk2)
                    unfold RCmpP at C0
                    rw [← hcv] at C0
                    have C := Lib.hid C0
                    have HCV := Lib.hid (show cv = cmpD a.list[k] b.list[k] by rw [hcv, hk1, hk2])
                    obtain ⟨p0, p1, p2, p3, p4⟩ := hc1
                    obtain ⟨q0, q1, q2, q3, q4⟩ := hc2
                    have HC4 := Lib.hid (show wr.cell? ⟨w.heap.size, 4, none⟩ = some (.slice (some ⟨b1, o1, none⟩) a.list.length x.ck) from by rw [← hK1]; exact c4)
                    have HD4 := Lib.hid (show wr.cell? ⟨w.heap.size + 1, 4, none⟩ = some (.slice (some ⟨b2, o2, none⟩) b.list.length y.ck) from by rw [← hK2]; exact d4)
                    clear ht1 ht2 hk1 hk2 hbd c0 c1 c2 c3 d0 d1 d2 d3 hcv C0
                    go_wp2_with fail
                    go_region_held3 (fun W => W.cell? ⟨w.heap.size, 4, none⟩ = some (.slice (some ⟨b1, o1, none⟩) a.list.length x.ck) ∧ W.cell? ⟨(w.heap.size + 1), 4, none⟩ = some (.slice (some ⟨b2, o2, none⟩) b.list.length y.ck) ∧ W.cell? ⟨b1, o1 + k * 5, none⟩ = some (.int .i64 k1.kind) ∧ W.cell? ⟨b1, o1 + k * 5 + 1, none⟩ = some (.int .i64 k1.num) ∧ W.cell? ⟨b1, o1 + k * 5 + 2, none⟩ = some (.string k1.text) ∧ W.cell? ⟨b1, o1 + k * 5 + 3, none⟩ = some (.slice y1.A k1.names.length y1.ca) ∧ W.cell? ⟨b1, o1 + k * 5 + 4, none⟩ = some (.slice y1.K k1.list.length y1.ck) ∧ W.cell? ⟨b2, o2 + k * 5, none⟩ = some (.int .i64 k2.kind) ∧ W.cell? ⟨b2, o2 + k * 5 + 1, none⟩ = some (.int .i64 k2.num) ∧ W.cell? ⟨b2, o2 + k * 5 + 2, none⟩ = some (.string k2.text) ∧ W.cell? ⟨b2, o2 + k * 5 + 3, none⟩ = some (.slice y2.A k2.names.length y2.ca) ∧ W.cell? ⟨b2, o2 + k * 5 + 4, none⟩ = some (.slice y2.K k2.list.length y2.ck))
                      (first
                        | go_keep
                        | (go_split_ands
                           exact ⟨(hb3.cell (p := ⟨w.heap.size, 4, none⟩) hl1).trans HC4.out, (hb3.cell (p := ⟨(w.heap.size + 1), 4, none⟩) hl2).trans HD4.out, (hb3.cell (p := ⟨b1, o1 + k * 5, none⟩) hb1).trans p0, (hb3.cell (p := ⟨b1, o1 + k * 5 + 1, none⟩) hb1).trans p1, (hb3.cell (p := ⟨b1, o1 + k * 5 + 2, none⟩) hb1).trans p2, (hb3.cell (p := ⟨b1, o1 + k * 5 + 3, none⟩) hb1).trans p3, (hb3.cell (p := ⟨b1, o1 + k * 5 + 4, none⟩) hb1).trans p4, (hb3.cell (p := ⟨b2, o2 + k * 5, none⟩) hb2).trans q0, (hb3.cell (p := ⟨b2, o2 + k * 5 + 1, none⟩) hb2).trans q1, (hb3.cell (p := ⟨b2, o2 + k * 5 + 2, none⟩) hb2).trans q2, (hb3.cell (p := ⟨b2, o2 + k * 5 + 3, none⟩) hb2).trans q3, (hb3.cell (p := ⟨b2, o2 + k * 5 + 4, none⟩) hb2).trans q4⟩))
                      ((go_at_call 29; refine C.out.mono ?_; rintro e w3 ⟨rfl, hb3⟩))
                    have HB3 := Lib.hid (HWr.out.trans (((below_drewN _ wr 1).trans hb3).mono HWr.out.size))
                    clear hb3 C p0 p1 p2 p3 p4 q0 q1 q2 q3 q4
                    by_cases hz : cv = 0
                    · have HZ2 := Lib.hid (HZ.out.step hlta hltb (by rw [← HCV.out]; exact hz))
                      have hz' : (cv != 0) = false := bne_f hz
                      clear hz
                      go_wp2_with fail
                      try rw [← hK1]
                      try rw [← hK2]
                      go_roundg (a.list.length - (k + 1))
                      case measure => omega
                      case rel => exact ⟨k + 1, by go_num, by omega, by omega, HZ2, HB3⟩
                    · have HF := Lib.hid (show cmpD a b = cv by rw [HE2.out, HZ.out.ne hlta hltb (by rw [← HCV.out]; exact hz), HCV.out])
                      have hz' : (cv != 0) = true := bne_t hz
                      clear hz
                      go_wp2_with fail
                      go_ret
                      exact rc HF.out (HB2.out.trans (HB3.out.mono HB2.out.size))
                  · have HNL := Lib.hid hlt
                    by_cases e4 : a.list.length = b.list.length
                    · have e4' : ((a.list.length : Int) != (b.list.length : Int)) = false := bne_f (by rw [e4])
                      have h1 : ¬ (k : Int) < (a.list.length : Int) := by omega
                      have HF := Lib.hid (show cmpD a b = 0 by
                        rw [HE2.out, HZ.out.fin (by omega), if_neg (by omega)])
                      clear e4 hlt
                      go_wp2_with fail
                      go_ret
                      exact rc HF.out (HB2.out.trans (HWr.out.mono HB2.out.size))
                    · have e4' : ((a.list.length : Int) != (b.list.length : Int)) = true := bne_t (by omega)
                      obtain ⟨rs, hrs⟩ : ∃ rs, decide (a.list.length < b.list.length) = rs := ⟨_, rfl⟩
                      obtain ⟨n, hn⟩ : ∃ n : Int, n = if rs then -1 else 1 := ⟨_, rfl⟩
                      have HF := Lib.hid (show cmpD a b = n by
                        rw [HE2.out, len_neD HZ.out hlt e4]; rw [hn, ← hrs]; simp)
                      have CS := Lib.hid (signN rs n wr hn)
                      clear hn
                      clear e4 hlt
                      by_cases h1 : (k : Int) < (a.list.length : Int)
                      · have h2 : ¬ (k : Int) < (b.list.length : Int) := by have := HNL.out; omega
                        go_wp2_with fail
                        refine CS.out.mono ?_
                        rintro e w' ⟨rfl, rfl⟩
                        go_wp2_with fail
                        go_ret
                        exact rc HF.out (HB2.out.trans (HWr.out.mono HB2.out.size))
                      · go_wp2_with fail
                        refine CS.out.mono ?_
                        rintro e w' ⟨rfl, rfl⟩
                        go_wp2_with fail
                        go_ret
                        exact rc HF.out (HB2.out.trans (HWr.out.mono HB2.out.size))
            · have e3' : ((a.names.length : Int) != (b.names.length : Int)) = true := bne_t (by omega)
              have hln := len_ne HZ.out HNL.out e3
              obtain ⟨rs, hrs⟩ : ∃ rs, decide (a.names.length < b.names.length) = rs := ⟨_, rfl⟩
              obtain ⟨n, hn⟩ : ∃ n : Int, n = if rs then -1 else 1 := ⟨_, rfl⟩
              have HF := Lib.hid (show cmpD a b = n by
                rw [HE.out, orI_l (by rw [hln]; split <;> omega), hln]; rw [hn, ← hrs]; simp)
              have CS := Lib.hid (signN rs n wr hn)
              clear hn
              clear e3 hln
              cases r with
              | false =>
                have h1 : ¬ (k : Int) < (a.names.length : Int) := of_decide_eq_false hr1
                clear hr1
                go_wp2_with fail
                refine CS.out.mono ?_
                rintro e w' ⟨rfl, rfl⟩
                go_wp2_with fail
                go_ret
                exact rc HF.out (HB2.out.trans (HWr.out.mono HB2.out.size))
              | true =>
                have h1 : (k : Int) < (a.names.length : Int) := of_decide_eq_true hr1
                have h2 : ¬ (k : Int) < (b.names.length : Int) := of_decide_eq_false (HR2.out rfl)
                clear hr1
                go_wp2_with fail
                refine CS.out.mono ?_
                rintro e w' ⟨rfl, rfl⟩
                go_wp2_with fail
                go_ret
                exact rc HF.out (HB2.out.trans (HWr.out.mono HB2.out.size))
      · have e2' : (a.text.toList == b.text.toList) = false := by rw [eqB]; exact decide_eq_false e2
        have hcz : cmpN a.text b.text ≠ 0 := fun h => e2 (cmpN_zero h)
        have HE := Lib.hid (show cmpD a b = cmpN a.text b.text by rw [HCE.out, orI_r (cmpI_zero.2 e0), orI_r (cmpI_zero.2 e1), orI_l hcz])
        have C5 := Lib.hid (refCompare_any a.text b.text w2 (by omega) (by omega))
        clear e0 e1 e2 hcz
        go_enter Tryz.func29, Tryz.ntmps29
        go_wp2_with fail
        rw [twoD_out HW1 HW2]
        refine C5.out.mono ?_
        rintro e w3 ⟨rfl, nq, hw3⟩
        have HB3 := Lib.hid (HB2.out.trans (show Below w.heap.size w2 w3 from by rw [hw3]; exact below_drewN _ _ _))
        clear hw3 C5
        go_wp2_with fail
        go_ret
        exact rc HE.out HB3.out
    · have e1' := bne_t e1
      have hcz : cmpI a.num b.num ≠ 0 := fun h => e1 (cmpI_zero.1 h)
      obtain ⟨rs, hrs⟩ : ∃ rs, decide (a.num < b.num) = rs := ⟨_, rfl⟩
      obtain ⟨n, hn⟩ : ∃ n : Int, n = if rs then -1 else 1 := ⟨_, rfl⟩
      have HE := Lib.hid (show cmpD a b = n by rw [HCE.out, orI_r (cmpI_zero.2 e0), orI_l hcz, cmpI_ne e1]; rw [hn, ← hrs]; simp)
      have CS := Lib.hid (signN rs n w2 hn)
      clear hn
      clear e0 e1 hcz
      go_enter Tryz.func29, Tryz.ntmps29
      go_wp2_with fail
      rw [twoD_out HW1 HW2]
      refine CS.out.mono ?_
      rintro e w' ⟨rfl, rfl⟩
      go_wp2_with fail
      go_ret
      exact rc HE.out HB2.out
  · have e0' := bne_t e0
    have hcz : cmpI a.kind b.kind ≠ 0 := fun h => e0 (cmpI_zero.1 h)
    obtain ⟨rs, hrs⟩ : ∃ rs, decide (a.kind < b.kind) = rs := ⟨_, rfl⟩
    obtain ⟨n, hn⟩ : ∃ n : Int, n = if rs then -1 else 1 := ⟨_, rfl⟩
    have HE := Lib.hid (show cmpD a b = n by rw [HCE.out, orI_l hcz, cmpI_ne e0]; rw [hn, ← hrs]; simp)
    have CS := Lib.hid (signN rs n w2 hn)
    clear hn
    clear e0 hcz
    go_enter Tryz.func29, Tryz.ntmps29
    go_wp2_with fail
    rw [twoD_out HW1 HW2]
    refine CS.out.mono ?_
    rintro e w' ⟨rfl, rfl⟩
    go_wp2_with fail
    go_ret
    exact rc HE.out HB2.out
end Go.Proofs.YtjnhcoflmechmaaGreatDoor
