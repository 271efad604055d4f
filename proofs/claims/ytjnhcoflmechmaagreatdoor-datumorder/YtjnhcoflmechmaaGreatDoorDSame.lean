/-
  tendrilref16.Same: whether two values are one.
-/
import Derived.Test.YtjnhcoflmechmaaGreatDoorDCompare
import Derived.Test.YtjnhcoflmechmaaGreatDoorNodes
namespace Go.Proofs.YtjnhcoflmechmaaGreatDoor
open Go.RowKit Go.Sort Go.Lib
set_option linter.unusedVariables false
set_option maxRecDepth 100000
def EqD (a b : Dt) (w : World) (e : Ending) (w' : World) : Prop := ∃ r, e = .returned (.bool r) ∧ (r = true ↔ a = b) ∧ Below w.heap.size w w'
def SameN (l m : List ByteArray) (k : Nat) : Prop := ∀ j, (h1 : j < l.length) → (h2 : j < m.length) → j < k → l[j] = m[j]
def SameL (l m : List Dt) (k : Nat) : Prop := ∀ j, (h1 : j < l.length) → (h2 : j < m.length) → j < k → l[j] = m[j]
theorem eqD_no {a b : Dt} {w w' : World} (h : a ≠ b) (hb : Below w.heap.size w w') : EqD a b w (.returned (.bool false)) w' := ⟨false, rfl, ⟨fun e => (by cases e), fun e => absurd e h⟩, hb⟩
theorem bne_t {a b : Int} (h : a ≠ b) : (a != b) = true := by simpa using h
theorem bne_f {a b : Int} (h : a = b) : (a != b) = false := by simpa using h
theorem twoD_cells (w : World) (a b : Dt) (x y : NV) : DatCells (boxD (boxD w a x) b y) w.heap.size 0 a x ∧ DatCells (boxD (boxD w a x) b y) (w.heap.size + 1) 0 b y := by
  have h1 := box_dat w a x
  have h2 := box_dat (boxD w a x) b y
  have e : (boxD w a x).heap.size = w.heap.size + 1 := by simp
  rw [e] at h2
  exact ⟨h1.below (below_boxD _ _ _) h1.block_lt, h2⟩
theorem twoD_out {w w1 w2 : World} {t u : Dt} {x y : NV} (h : RowKit.Hid (w1 = boxD w t x)) (h' : RowKit.Hid (w2 = boxD w1 u y)) : (w.alloc (.cells #[.int .i64 t.kind, .int .i64 t.num, .string t.text, .slice x.A t.names.length x.ca, .slice x.K t.list.length x.ck] 46)).alloc (.cells #[.int .i64 u.kind, .int .i64 u.num, .string u.text, .slice y.A u.names.length y.ca, .slice y.K u.list.length y.ck] 46) = w2 := by
  rw [h'.out, h.out]
set_option maxHeartbeats 8000000 in
theorem same16_any : ∀ a : Dt, ∀ (b : Dt) (x y : NV) (w : World), DatAt w w.heap.size a x → DatAt w w.heap.size b y → GoodD a → GoodD b → Calls Tryz.prog 26 #[datV a x, datV b y] w (EqD a b w) := by
  refine dt_ind (fun a ih => ?_)
  intro b x y w ha hb ga gb
  obtain ⟨w1, hw1⟩ : ∃ w1, w1 = boxD w a x := ⟨_, rfl⟩
  obtain ⟨w2, hw2⟩ : ∃ w2, w2 = boxD w1 b y := ⟨_, rfl⟩
  have hb1 : Below w.heap.size w w1 := by rw [hw1]; exact below_boxD _ _ _
  have hb2 : Below w1.heap.size w1 w2 := by rw [hw2]; exact below_boxD _ _ _
  obtain ⟨hc1, hc2⟩ := twoD_cells w a b x y
  rw [← hw1, ← hw2] at hc1 hc2
  have hl1 : w.heap.size < w2.heap.size := hc1.block_lt
  have hl2 : w.heap.size + 1 < w2.heap.size := hc2.block_lt
  have hba := (ha.up hb1).up hb2
  have hbb := (hb.up hb1).up hb2
  have HA := Lib.hid hba; have HB := Lib.hid hbb; have GA := Lib.hid ga; have GB := Lib.hid gb; have HIH := Lib.hid ih
  have HW1 := Lib.hid hw1; have HW2 := Lib.hid hw2
  have HB2 := Lib.hid (hb1.trans (hb2.mono hb1.size))
  have HC1 := Lib.hid hc1; have HC2 := Lib.hid hc2
  have hla := ga.sizes.2.2.2.1
  have hlb := gb.sizes.2.2.2.1
  have hka := ga.sizes.2.2.2.2.2
  have hkb := gb.sizes.2.2.2.2.2
  clear ih ha hb ga gb hba hbb hw1 hw2 hb1 hb2
  obtain ⟨c0, c1, c2, c3, c4⟩ := hc1
  obtain ⟨d0, d1, d2, d3, d4⟩ := hc2
  by_cases e0 : a.kind = b.kind
  · have e0' := bne_f e0
    by_cases e1 : a.num = b.num
    · have e1' := bne_f e1
      by_cases e2 : a.text = b.text
      · have e2' : (a.text.toList == b.text.toList) = true := by rw [eqB]; exact decide_eq_true e2
        have HE := Lib.hid (And.intro e0 (And.intro e1 e2))
        clear e0 e1 e2
        by_cases e3 : a.names.length = b.names.length
        · have e3' : ((a.names.length : Int) != (b.names.length : Int)) = false := bne_f (by rw [e3])
          have HNL := Lib.hid e3
          have hnl : b.names.length ≤ a.names.length := by omega
          have hnl' : a.names.length ≤ b.names.length := by omega
          clear e3
          by_cases e4 : a.list.length = b.list.length
          · have e4' : ((a.list.length : Int) != (b.list.length : Int)) = false := bne_f (by rw [e4])
            have HLM := Lib.hid e4
            have hml : b.list.length ≤ a.list.length := by omega
            have hlm' : a.list.length ≤ b.list.length := by omega
            clear e4
            go_enter Tryz.func26, Tryz.ntmps26
            go_wp2_with fail
            rw [twoD_out HW1 HW2]
            go_loopg [47] a.names.length (fun g s47 wr => ∃ k : Nat, s47 = .int .i64 k ∧ k ≤ a.names.length ∧ a.names.length - k ≤ g ∧ RowKit.Hid (SameN a.names b.names k) ∧ RowKit.Hid (Below w2.heap.size w2 wr))
            case atStart => exact ⟨0, rfl, by omega, by omega, Lib.hid (fun j _ _ hj => by omega), Lib.hid (Below.refl _ _)⟩
            case round =>
              clear c0 c1 c2 c3 c4 d0 d1 d2 d3 d4
              obtain ⟨k, rfl, hk, hg, HS, HWr⟩ := hrel
              obtain ⟨c0, c1, c2, c3, c4⟩ := HC1.out.below HWr.out hl1
              obtain ⟨d0, d1, d2, d3, d4⟩ := HC2.out.below HWr.out hl2
              by_cases hlt : k < a.names.length
              · have h1 : (k : Int) < (a.names.length : Int) := by omega
                have h2 : (k : Int) < (b.names.length : Int) := by omega
                obtain ⟨b1, o1, p, hA1, hb1, hp, hcp⟩ := srow_at ((HA.out.up HWr.out).names) hlt
                obtain ⟨b2, o2, q, hA2, hb2, hq, hcq⟩ := srow_at ((HB.out.up HWr.out).names) (show k < b.names.length by omega)
                rw [hA1] at c3
                rw [hA2] at d3
                have HA1 := Lib.hid hA1; have HA2 := Lib.hid hA2; have HP := Lib.hid hp; have HQ := Lib.hid hq
                clear hA1 hA2 hp hq c0 c1 c2 c4 d0 d1 d2 d4
                by_cases hpq : p = q
                · have hpq' : (p.toList == q.toList) = true := by rw [eqB]; exact decide_eq_true hpq
                  have HS2 := Lib.hid (show SameN a.names b.names (k + 1) from fun j h3 h4 h5 => by
                    rcases Nat.lt_or_ge j k with h6 | h6
                    · exact HS.out j h3 h4 h6
                    · have : j = k := by omega
                      subst this
                      rw [← HP.out, ← HQ.out]; exact hpq)
                  clear hpq
                  go_wp2_with fail
                  go_quiet (fail)
                  have HB3 := Lib.hid (HWr.out.trans (below_drewN _ wr nq))
                  clear c3 d3 hcp hcq
                  generalize wr.drewN nq = w3 at HB3 ⊢
                  go_wp2_with fail
                  try rw [← HA1.out]
                  try rw [← HA2.out]
                  go_roundg (a.names.length - (k + 1))
                  case measure => omega
                  case rel => exact ⟨k + 1, by go_num, by omega, by omega, HS2, HB3⟩
                · have hpq' : (p.toList == q.toList) = false := by rw [eqB]; exact decide_eq_false hpq
                  have HNE := Lib.hid (show a ≠ b from fun e => hpq (by rw [HP.out, HQ.out]; simp only [e]))
                  clear hpq
                  go_wp2_with fail
                  go_quiet (fail)
                  go_wp2_with fail
                  go_ret
                  exact eqD_no HNE.out (HB2.out.trans ((HWr.out.trans (below_drewN _ _ _)).mono HB2.out.size))
              · have h1 : ¬ (k : Int) < (a.names.length : Int) := by omega
                have HNS := Lib.hid (show a.names = b.names from List.ext_getElem HNL.out (fun i h3 h4 => HS.out i h3 h4 (by omega)))
                clear HS
                go_wp2_with fail
                go_loopg [65] a.list.length (fun g s65 wr => ∃ k : Nat, s65 = .int .i64 k ∧ k ≤ a.list.length ∧ a.list.length - k ≤ g ∧ RowKit.Hid (SameL a.list b.list k) ∧ RowKit.Hid (Below w2.heap.size w2 wr))
                case atStart => exact ⟨0, rfl, by omega, by omega, Lib.hid (fun j _ _ hj => by omega), HWr⟩
                case round =>
                  clear c0 c1 c2 c3 c4 d0 d1 d2 d3 d4 HWr
                  obtain ⟨k, rfl, hk, hg, HS, HWr⟩ := hrel
                  obtain ⟨c0, c1, c2, c3, c4⟩ := HC1.out.below HWr.out hl1
                  obtain ⟨d0, d1, d2, d3, d4⟩ := HC2.out.below HWr.out hl2
                  have hl1 : w.heap.size < wr.heap.size := Nat.lt_of_lt_of_le hl1 HWr.out.size
                  have hl2 : w.heap.size + 1 < wr.heap.size := Nat.lt_of_lt_of_le hl2 HWr.out.size
                  by_cases hlt : k < a.list.length
                  · have h1 : (k : Int) < (a.list.length : Int) := by omega
                    have h2 : (k : Int) < (b.list.length : Int) := by omega
                    have hltb : k < b.list.length := by omega
                    obtain ⟨b1, o1, k1, y1, hK1, hb1, hk1, hc1, ht1⟩ := (HA.out.up HWr.out).kid hlt
                    obtain ⟨b2, o2, k2, y2, hK2, hb2, hk2, hc2, ht2⟩ := (HB.out.up HWr.out).kid hltb
                    have hbd : Below wr.heap.size wr wr.drew := below_drewN _ _ 1
                    have C := Lib.hid (HIH.out k1 (by rw [hk1]; exact List.getElem_mem _) k2 y1 y2 wr.drew (ht1.up hbd) (ht2.up hbd) (GA.out.kid hlt hk1) (GB.out.kid hltb hk2))
                    have HK1 := Lib.hid hk1; have HK2 := Lib.hid hk2
                    obtain ⟨p0, p1, p2, p3, p4⟩ := hc1
                    obtain ⟨q0, q1, q2, q3, q4⟩ := hc2
                    have HC4 := Lib.hid (show wr.cell? ⟨w.heap.size, 4, none⟩ = some (.slice (some ⟨b1, o1, none⟩) a.list.length x.ck) from by rw [← hK1]; exact c4)
                    have HD4 := Lib.hid (show wr.cell? ⟨w.heap.size + 1, 4, none⟩ = some (.slice (some ⟨b2, o2, none⟩) b.list.length y.ck) from by rw [← hK2]; exact d4)
                    clear ht1 ht2 hk1 hk2 hbd c0 c1 c2 c3 d0 d1 d2 d3
                    go_wp2_with fail
                    go_region_held3 (fun W => W.cell? ⟨w.heap.size, 4, none⟩ = some (.slice (some ⟨b1, o1, none⟩) a.list.length x.ck) ∧ W.cell? ⟨(w.heap.size + 1), 4, none⟩ = some (.slice (some ⟨b2, o2, none⟩) b.list.length y.ck) ∧ W.cell? ⟨b1, o1 + k * 5, none⟩ = some (.int .i64 k1.kind) ∧ W.cell? ⟨b1, o1 + k * 5 + 1, none⟩ = some (.int .i64 k1.num) ∧ W.cell? ⟨b1, o1 + k * 5 + 2, none⟩ = some (.string k1.text) ∧ W.cell? ⟨b1, o1 + k * 5 + 3, none⟩ = some (.slice y1.A k1.names.length y1.ca) ∧ W.cell? ⟨b1, o1 + k * 5 + 4, none⟩ = some (.slice y1.K k1.list.length y1.ck) ∧ W.cell? ⟨b2, o2 + k * 5, none⟩ = some (.int .i64 k2.kind) ∧ W.cell? ⟨b2, o2 + k * 5 + 1, none⟩ = some (.int .i64 k2.num) ∧ W.cell? ⟨b2, o2 + k * 5 + 2, none⟩ = some (.string k2.text) ∧ W.cell? ⟨b2, o2 + k * 5 + 3, none⟩ = some (.slice y2.A k2.names.length y2.ca) ∧ W.cell? ⟨b2, o2 + k * 5 + 4, none⟩ = some (.slice y2.K k2.list.length y2.ck))
                      (first
                        | go_keep
                        | (go_split_ands
                           exact ⟨(hb3.cell (p := ⟨w.heap.size, 4, none⟩) hl1).trans HC4.out, (hb3.cell (p := ⟨(w.heap.size + 1), 4, none⟩) hl2).trans HD4.out, (hb3.cell (p := ⟨b1, o1 + k * 5, none⟩) hb1).trans p0, (hb3.cell (p := ⟨b1, o1 + k * 5 + 1, none⟩) hb1).trans p1, (hb3.cell (p := ⟨b1, o1 + k * 5 + 2, none⟩) hb1).trans p2, (hb3.cell (p := ⟨b1, o1 + k * 5 + 3, none⟩) hb1).trans p3, (hb3.cell (p := ⟨b1, o1 + k * 5 + 4, none⟩) hb1).trans p4, (hb3.cell (p := ⟨b2, o2 + k * 5, none⟩) hb2).trans q0, (hb3.cell (p := ⟨b2, o2 + k * 5 + 1, none⟩) hb2).trans q1, (hb3.cell (p := ⟨b2, o2 + k * 5 + 2, none⟩) hb2).trans q2, (hb3.cell (p := ⟨b2, o2 + k * 5 + 3, none⟩) hb2).trans q3, (hb3.cell (p := ⟨b2, o2 + k * 5 + 4, none⟩) hb2).trans q4⟩))
                      ((go_at_call 26; refine C.out.mono ?_; rintro e w3 ⟨r, rfl, hr, hb3⟩))
                    have HB3 := Lib.hid (HWr.out.trans (((below_drewN _ wr 1).trans hb3).mono HWr.out.size)); have HR := Lib.hid hr
                    clear hb3 hr C p0 p1 p2 p3 p4 q0 q1 q2 q3 q4
                    cases r with
                    | true =>
                      have HEE := Lib.hid (HR.out.1 rfl)
                      clear HR
                      go_wp2_with fail
                      try rw [← hK1]
                      try rw [← hK2]
                      go_roundg (a.list.length - (k + 1))
                      case measure => omega
                      case rel =>
                        refine ⟨k + 1, by go_num, by omega, by omega, Lib.hid (fun j h3 h4 h5 => ?_), HB3⟩
                        rcases Nat.lt_or_ge j k with h6 | h6
                        · exact HS.out j h3 h4 h6
                        · have : j = k := by omega
                          subst this
                          rw [← HK1.out, ← HK2.out]; exact HEE.out
                    | false =>
                      have HEE := Lib.hid (show ¬ k1 = k2 from fun e => by have := HR.out.2 e; cases this)
                      clear HR
                      go_wp2_with fail
                      go_ret
                      refine eqD_no (fun e => HEE.out ?_) (HB2.out.trans (HB3.out.mono HB2.out.size))
                      rw [HK1.out, HK2.out]
                      simp only [e]
                  · have h1 : ¬ (k : Int) < (a.list.length : Int) := by omega
                    go_wp2_with fail
                    go_ret
                    exact ⟨true, rfl, ⟨fun _ => dt_ext HE.out.1 HE.out.2.1 HE.out.2.2 HNS.out (List.ext_getElem HLM.out (fun i h3 h4 => HS.out i h3 h4 (by omega))), fun _ => rfl⟩, HB2.out.trans (HWr.out.mono HB2.out.size)⟩
          · have e4' : ((a.list.length : Int) != (b.list.length : Int)) = true := bne_t (by omega)
            have HE4 := Lib.hid (show a ≠ b from fun e => e4 (by rw [e]))
            clear e4
            go_enter Tryz.func26, Tryz.ntmps26
            go_wp2_with fail
            rw [twoD_out HW1 HW2]
            go_ret
            exact eqD_no HE4.out HB2.out
        · have e3' : ((a.names.length : Int) != (b.names.length : Int)) = true := bne_t (by omega)
          have HE3 := Lib.hid (show a ≠ b from fun e => e3 (by rw [e]))
          clear e3
          go_enter Tryz.func26, Tryz.ntmps26
          go_wp2_with fail
          rw [twoD_out HW1 HW2]
          go_ret
          exact eqD_no HE3.out HB2.out
      · have e2' : (a.text.toList == b.text.toList) = false := by rw [eqB]; exact decide_eq_false e2
        have HE := Lib.hid (show a ≠ b from fun e => e2 (by rw [e]))
        clear e0 e1 e2
        go_enter Tryz.func26, Tryz.ntmps26
        go_wp2_with fail
        rw [twoD_out HW1 HW2]
        go_ret
        exact eqD_no HE.out HB2.out
    · have e1' := bne_t e1
      have HE := Lib.hid (show a ≠ b from fun e => e1 (by rw [e]))
      clear e0 e1
      go_enter Tryz.func26, Tryz.ntmps26
      go_wp2_with fail
      rw [twoD_out HW1 HW2]
      go_ret
      exact eqD_no HE.out HB2.out
  · have e0' := bne_t e0
    have HE := Lib.hid (show a ≠ b from fun e => e0 (by rw [e]))
    clear e0
    go_enter Tryz.func26, Tryz.ntmps26
    go_wp2_with fail
    rw [twoD_out HW1 HW2]
    go_ret
    exact eqD_no HE.out HB2.out
end Go.Proofs.YtjnhcoflmechmaaGreatDoor
