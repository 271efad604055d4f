/-
  tendrillaw12.LabelOf: true, whatever the siblings.
-/
import Derived.Test.YtlebcebihieiiaaDoorLROf
import Derived.Test.YtlebcebihieiiaaDoorLKids
import Derived.Test.YtlebcebihieiiaaDoorLSame
namespace Go.Proofs.YtlebcebihieiiaaDoor
open Go.RowKit Go.Sort Go.Maps
set_option linter.unusedVariables false
abbrev topT (ks : List Tr) : Tr := .mk sP noS noS [] ks
set_option maxRecDepth 100000 in
set_option maxHeartbeats 8000000 in
theorem ofLaw_any (ks : List Tr) (A : Option Addr) (c : Nat) (w : World) (h : TreeAt w w.heap.size (topT ks) ⟨none, 0, A, c⟩) (hf : FitT (topT ks)) (hv : Vars w) :
    Calls Tryd.prog 3 #[.slice A ks.length c] w (TrueB w) := by
  obtain ⟨w1, hw1⟩ : ∃ w1, w1 = boxW w (topT ks) ⟨none, 0, A, c⟩ := ⟨_, rfl⟩
  have hb1 : Below w.heap.size w w1 := by rw [hw1]; exact below_box w _ _
  have hk1 : KidCells w1 w.heap.size 0 (topT ks) ⟨none, 0, A, c⟩ := by rw [hw1]; exact box_node w _ _
  obtain ⟨m, hm⟩ : ∃ m, m = ks.length := ⟨_, rfl⟩
  have HM := Lib.hid hm
  have hraw : w1 = w.alloc (.cells #[.string ⟨#[112]⟩, .string ⟨#[]⟩, .string ⟨#[]⟩, .slice none 0 0, .slice A m c] 25) := by rw [hw1, hm]; rfl
  have HT := Lib.hid h
  have HT1 := Lib.hid (h.up hb1)
  have C1 := Lib.hid (show Calls Tryd.prog 6 #[.agg #[.string ⟨#[112]⟩, .string ⟨#[]⟩, .string ⟨#[]⟩, .slice none 0 0, .slice A m c], .int .i64 400] w1 (FewPost (topT ks) 400 w1) by
    rw [hm]; exact few_any (topT ks) ⟨none, 0, A, c⟩ 400 w1 HT1.out hf (by omega))
  have HK1 := Lib.hid hk1; have HB1 := Lib.hid hb1; have HW1 := Lib.hid hraw; have HV := Lib.hid hv
  have c0 : w1.cell? ⟨w.heap.size, 0, none⟩ = some (.string ⟨#[112]⟩) := hk1.c0
  have c1 : w1.cell? ⟨w.heap.size, 1, none⟩ = some (.string ⟨#[]⟩) := hk1.c1
  have c2 : w1.cell? ⟨w.heap.size, 2, none⟩ = some (.string ⟨#[]⟩) := hk1.c2
  have c3 : w1.cell? ⟨w.heap.size, 3, none⟩ = some (.slice none 0 0) := hk1.c3
  have c4 : w1.cell? ⟨w.heap.size, 4, none⟩ = some (.slice A m c) := by rw [hm]; exact hk1.c4
  rw [← hm]
  clear hw1 hb1 hk1 hraw h hf hv hm
  go_enter Tryd.func3, Tryd.ntmps3
  go_wp2_with fail
  rw [show w.alloc (.cells #[.string ⟨#[112]⟩, .string ⟨#[]⟩, .string ⟨#[]⟩, .slice none 0 0, .slice A m c] 25) = w1 from HW1.out.symm]
  refine C1.out.mono ?_
  rintro e w2 ⟨b2, rfl, hx2, hb2⟩
  have HB2 := Lib.hid (HB1.out.trans (hb2.mono HB1.out.size))
  have HK2 := Lib.hid (HK1.out.below hb2 HK1.out.block_lt)
  have HT2 := Lib.hid (HT1.out.up hb2)
  clear hb2 C1 c0 c1 c2 c3 c4
  cases b2 with
  | false =>
    clear hx2
    go_wp2_with fail
    refine (same_any w2 (HV.out.belowC HB2.out)).mono ?_
    rintro e w9 ⟨rfl, hb9⟩
    have HB9 := Lib.hid (HB2.out.trans (hb9.mono HB2.out.size))
    clear hb9
    go_wp2_with fail
    go_ret
    exact ⟨rfl, HB9.out⟩
  | true =>
    have HG := Lib.hid (hx2 rfl).1
    have HML := Lib.hid (show m ≤ 1000000 by rw [HM.out]; exact HG.out.sizes.2.2.2.2.2)
    clear hx2
    obtain ⟨ls, hls⟩ : ∃ ls, ls = labsOf ks := ⟨_, rfl⟩
    have HLS := Lib.hid hls
    have HLN := Lib.hid (show ls.length = m by rw [hls, HM.out]; exact firstL_length (Nat.le_refl _))
    have C2 := Lib.hid (show Calls Tryd.prog 8 #[.slice A m c] w2 (MadeL w2 ls) by rw [HM.out, hls]; exact of_any (topT ks) ⟨none, 0, A, c⟩ w2 HT2.out HG.out)
    clear hls
    go_wp2_with fail
    refine C2.out.mono ?_
    rintro e w3 ⟨X, cx, rfl, hrow3, -, -, hb3⟩
    rw [HLN.out]
    have HB3 := Lib.hid (HB2.out.trans (hb3.mono HB2.out.size))
    have HK3 := Lib.hid (HK2.out.below hb3 HK2.out.block_lt)
    have HT3 := Lib.hid (HT2.out.up hb3)
    have HX3 := Lib.hid hrow3
    clear hrow3 hb3 C2
    have C3 := Lib.hid (show Calls Tryd.prog 10 #[.slice A m c] w3 (MadeL w3 ls) by rw [HM.out, HLS.out]; exact refOf_any (topT ks) ⟨none, 0, A, c⟩ w3 HT3.out HG.out)
    go_wp2_with fail
    refine C3.out.mono ?_
    rintro e w4 ⟨Y, cy, rfl, hrow4, -, -, hb4⟩
    rw [HLN.out]
    have HB4 := Lib.hid (HB3.out.trans (hb4.mono HB3.out.size))
    have HK4 := Lib.hid (HK3.out.below hb4 HK3.out.block_lt)
    have HT4 := Lib.hid (HT3.out.up hb4)
    have HX4 := Lib.hid (HX3.out.up hb4)
    have C4 := Lib.hid (labels_any X Y cx cy ls w4 HX4.out hrow4 (by rw [HLN.out]; exact HML.out))
    rw [HLN.out] at C4
    clear hrow4 hb4 C3
    go_wp2_with fail
    refine C4.out.mono ?_
    rintro e w5 ⟨rfl, hb5⟩
    have HB5 := Lib.hid (HB4.out.trans (hb5.mono HB4.out.size))
    have hk5 := HK4.out.below hb5 HK4.out.block_lt
    have HT5 := Lib.hid (HT4.out.up hb5)
    have HX5 := Lib.hid (HX4.out.up hb5)
    have C5 := Lib.hid (show Calls Tryd.prog 11 #[.agg #[.string ⟨#[112]⟩, .string ⟨#[]⟩, .string ⟨#[]⟩, .slice none 0 0, .slice A m c]] w5 (fun e w' => ∃ b, e = .returned (.bool b) ∧ (b = true ↔ okT (topT ks)) ∧ Below w5.heap.size w5 w') by
      rw [HM.out]; exact right_any (topT ks) ⟨none, 0, A, c⟩ w5 HT5.out HG.out)
    have c0 : w5.cell? ⟨w.heap.size, 0, none⟩ = some (.string ⟨#[112]⟩) := hk5.c0
    have c1 : w5.cell? ⟨w.heap.size, 1, none⟩ = some (.string ⟨#[]⟩) := hk5.c1
    have c2 : w5.cell? ⟨w.heap.size, 2, none⟩ = some (.string ⟨#[]⟩) := hk5.c2
    have c3 : w5.cell? ⟨w.heap.size, 3, none⟩ = some (.slice none 0 0) := hk5.c3
    have c4 : w5.cell? ⟨w.heap.size, 4, none⟩ = some (.slice A m c) := by rw [HM.out]; exact hk5.c4
    clear hb5 C4 hk5
    go_wp2_with fail
    refine C5.out.mono ?_
    rintro e w6 ⟨b6, rfl, hx6, hb6⟩
    have HB6 := Lib.hid (HB5.out.trans (hb6.mono HB5.out.size))
    have HX6 := Lib.hid (HX5.out.up hb6)
    clear hb6 C5 c0 c1 c2 c3 c4
    cases b6 with
    | false =>
      clear hx6
      go_wp2_with fail
      refine (same_any w6 (HV.out.belowC HB6.out)).mono ?_
      rintro e w9 ⟨rfl, hb9⟩
      have HB9 := Lib.hid (HB6.out.trans (hb9.mono HB6.out.size))
      clear hb9
      go_wp2_with fail
      go_ret
      exact ⟨rfl, HB9.out⟩
    | true =>
      have HOK := Lib.hid (hx6.1 rfl)
      have hml := HML.out
      clear hx6
      go_wp2_with fail
      go_loopg [27] m (fun g s27 wr => ∃ i : Nat, s27 = .int .i64 i ∧ i ≤ m ∧ m - i ≤ g ∧ RowKit.Hid (Below w6.heap.size w6 wr))
      case atStart => exact ⟨0, rfl, by omega, by omega, Lib.hid (Below.refl _ _)⟩
      case round =>
        obtain ⟨i, rfl, hi, hg, HB⟩ := hrel
        have HBW := Lib.hid (HB6.out.trans (HB.out.mono HB6.out.size))
        by_cases hlt : i < m
        · have h1 : (i : Int) < (m : Int) := by omega
          have hil : i < ls.length := by rw [HLN.out]; exact hlt
          have HXR := Lib.hid (HX6.out.up HB.out)
          obtain ⟨bx, ox, L, hA, hbx, hL, q0, q1, q2⟩ := lrow_at HXR.out hil
          have HGL := Lib.hid (show LabOk L ∧ findL ls L = i by
            subst hL
            have e := HLS.out
            subst e
            exact labs_good (t := topT ks) HOK.out HG.out.sizes.2.2.2.2.2 hil)
          have C7 := Lib.hid (text_any L wr (labOk_wf HGL.out.1) (HV.out.belowC HBW.out))
          have HBX := Lib.hid hbx
          clear hL
          go_wp2_with fail
          refine C7.out.mono ?_
          rintro e w7 ⟨rfl, hb7⟩
          have HB7 := Lib.hid (HBW.out.trans (hb7.mono HBW.out.size))
          have HBR7 := Lib.hid hb7
          obtain ⟨s, hs⟩ : ∃ s, s = textS L := ⟨_, rfl⟩
          have HS := Lib.hid hs
          rw [← hs]
          have C8 := Lib.hid (read_any s w7 (by have := labOk_text HGL.out.1; rw [hs]; omega) (HV.out.belowC HB7.out))
          clear hb7 C7 hs
          go_wp2_with fail
          refine C8.out.mono ?_
          rintro e w8 ⟨o, ho, rfl, hb8⟩
          obtain rfl : o = some L := labOk_read HGL.out.1 (by rw [← HS.out]; exact ho)
          rw [show resV (some L) = .tuple #[.agg #[.string L.tag, .string L.key, .int .i64 L.n], .int .i64 0] from rfl]
          have HB8 := Lib.hid (HB7.out.trans (hb8.mono HB7.out.size))
          have HBR8 := Lib.hid (HBR7.out.trans (hb8.mono HBR7.out.size))
          clear hb8 ho C8
          obtain ⟨w9, hw9⟩ : ∃ w9, w9 = lboxW w8 L := ⟨_, rfl⟩
          have hb9 : Below w8.heap.size w8 w9 := by rw [hw9]; exact below_lbox w8 _
          have hx9 : BoxL w9 w8.heap.size L := by rw [hw9]; exact BoxL.new w8 _
          have HBR9 := Lib.hid (HBR8.out.trans (hb9.mono HBR8.out.size))
          have HB9 := Lib.hid (HB8.out.trans (hb9.mono HB8.out.size))
          have p0 := (HBR9.out.cell (p := ⟨bx, ox + i * 3, none⟩) HBX.out).trans q0
          have p1 := (HBR9.out.cell (p := ⟨bx, ox + i * 3 + 1, none⟩) HBX.out).trans q1
          have p2 := (HBR9.out.cell (p := ⟨bx, ox + i * 3 + 2, none⟩) HBX.out).trans q2
          obtain ⟨d0, d1, d2⟩ := hx9.cells
          have hbd : Below w9.heap.size w9 w9.drew := ⟨rfl, rfl, rfl, Nat.le_refl _, fun _ _ => rfl⟩
          have C9 := Lib.hid (find_any X cx ls L w9.drew ((HXR.out.up HBR9.out).up hbd) (by rw [HLN.out]; exact hml))
          rw [HLN.out] at C9
          have HW9 := Lib.hid hw9
          have HKEEP := Lib.hid (show ∀ wz, Below w9.drew.heap.size w9.drew wz → wz.cell? ⟨bx, ox + i * 3, none⟩ = some (.string L.tag) ∧ wz.cell? ⟨bx, ox + i * 3 + 1, none⟩ = some (.string L.key) ∧ wz.cell? ⟨bx, ox + i * 3 + 2, none⟩ = some (.int .i64 L.n) ∧ wz.cell? ⟨w8.heap.size, 0, none⟩ = some (.string L.tag) ∧ wz.cell? ⟨w8.heap.size, 1, none⟩ = some (.string L.key) ∧ wz.cell? ⟨w8.heap.size, 2, none⟩ = some (.int .i64 L.n) from fun wz hbz =>
            have hk := kept_below (hbd.trans hbz) (fun _ => False)
            have nf : ¬ False := fun h => h
            ⟨hk.cellOf p0 nf, hk.cellOf p1 nf, hk.cellOf p2 nf, hk.cellOf d0 nf, hk.cellOf d1 nf, hk.cellOf d2 nf⟩)
          have HFI := Lib.hid HGL.out.2
          have hq : ∀ W : World, (Op.equalIn 10000 33 (.agg #[.string L.tag, .string L.key, .int .i64 L.n]) (.agg #[.string L.tag, .string L.key, .int .i64 L.n])).run Tryd.prog W = .ok true W := fun W => (eqL L L W).trans (by rw [decide_eq_true rfl])
          have HBD := Lib.hid hbd
          clear hw9 hb9 hx9 q0 q1 q2 hbd
          go_wp2_with fail
          rw [show w8.alloc (.cells #[.string L.tag, .string L.key, .int .i64 L.n] 33) = w9 from HW9.out.symm]
          go_region_held3 (fun W => W.cell? ⟨bx, ox + i * 3, none⟩ = some (.string L.tag) ∧ W.cell? ⟨bx, ox + i * 3 + 1, none⟩ = some (.string L.key) ∧ W.cell? ⟨bx, ox + i * 3 + 2, none⟩ = some (.int .i64 L.n) ∧ W.cell? ⟨w8.heap.size, 0, none⟩ = some (.string L.tag) ∧ W.cell? ⟨w8.heap.size, 1, none⟩ = some (.string L.key) ∧ W.cell? ⟨w8.heap.size, 2, none⟩ = some (.int .i64 L.n))
            (first | go_keep | (go_split_ands; exact hfin))
            ((go_at_call 14; try rw [← hA]; refine C9.out.mono ?_; rintro e w10 ⟨rfl, hb10⟩; rw [HFI.out]; have hfin := HKEEP.out w10 hb10))
          have HB10 := Lib.hid (HB9.out.trans ((HBD.out.trans hb10).mono HB9.out.size))
          have HBR10 := Lib.hid (HBR9.out.trans ((HBD.out.trans hb10).mono HBR9.out.size))
          go_wp2_with fail
          try rw [← hA]
          go_roundg (m - (i + 1))
          case measure => omega
          case rel => exact ⟨i + 1, by go_num, by omega, by omega, Lib.hid (HB.out.trans (HBR10.out.mono HB.out.size))⟩
        · have h1 : ¬ (i : Int) < (m : Int) := by omega
          go_wp2_with fail
          refine (same_any wr (HV.out.belowC HBW.out)).mono ?_
          rintro e w9 ⟨rfl, hb9⟩
          have HB9 := Lib.hid (HBW.out.trans (hb9.mono HBW.out.size))
          clear hb9
          go_wp2_with fail
          go_ret
          exact ⟨rfl, HB9.out⟩
end Go.Proofs.YtlebcebihieiiaaDoor
