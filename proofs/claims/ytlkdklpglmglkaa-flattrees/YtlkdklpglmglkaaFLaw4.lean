/-
  tendrillaw13.FlatTrees.
-/
import Derived.Test.YtlkdklpglmglkaaFRefT
import Derived.Test.YtlkdklpglmglkaaFSame
import Derived.Test.YtlkdklpglmglkaaFLaw6
import Derived.Test.YtlkdklpglmglkaaVLaw1
namespace Go.Proofs.Ytlkdklpglmglkaa
open Go.RowKit Go.Sort Go.Lib
set_option linter.unusedVariables false
set_option maxRecDepth 100000
theorem zero_tree (w : World) (B : Nat) : TreeAt w B noT leafNV := leaf_tree w B noB noB noB
theorem good_noT : GoodT noT := .mk (by decide) (by decide) (by decide) (by decide) short_nil (by decide) (fun k hk => by simp [noT, Tr.kids] at hk)
theorem row_good {r : Rw} (h : GoodR r) : GoodR (zid r) := ⟨h.tag, h.key, h.text, h.len, h.short⟩
theorem zid_zid (r : Rw) : zid (zid r) = zid r := rfl
abbrev Held (w1 : World) (b : Nat) (t : Tr) (x : NV) (W : World) : Prop := W.cell? ⟨b, 0, none⟩ = some (.string t.tag) ∧ W.cell? ⟨b, 1, none⟩ = some (.string t.key) ∧ W.cell? ⟨b, 2, none⟩ = some (.string t.text) ∧ W.cell? ⟨b, 3, none⟩ = some (.slice x.A t.as.length x.ca) ∧ W.cell? ⟨b, 4, none⟩ = some (.slice x.K t.kids.length x.ck) ∧ RowKit.Hid (Below w1.heap.size w1 W)
set_option maxHeartbeats 8000000 in
theorem law4_any (A : Option Addr) (c : Nat) (l : List Rw) (w : World) (ha : RIn w A c l) : Calls Try.prog 4 #[.slice A l.length c] w (TrueB w) := by
  have nf : ¬ (False : Prop) := fun h => h
  have C := Lib.hid (fewRows_any A c l 600 w ha.row ha.fit (by omega) ha.len)
  have HA := Lib.hid ha
  rw [show ((600 : Nat) : Int) = 600 from rfl] at C
  clear ha
  go_enter Try.func4, Try.ntmps4
  go_wp2_with fail
  refine C.out.mono ?_
  rintro e w1 ⟨r1, rfl, h1, hb1⟩
  have HB1 := Lib.hid hb1
  clear C hb1
  cases r1 with
  | false =>
    have CS := Lib.hid (same13_any w1)
    clear h1
    go_wp2_with fail
    refine CS.out.mono ?_
    rintro e w2 ⟨rfl, hb2⟩
    have HB2 := Lib.hid (HB1.out.trans (hb2.mono HB1.out.size))
    clear hb2 CS
    go_wp2_with fail
    go_ret
    exact ⟨rfl, HB2.out⟩
  | true =>
    have HG := Lib.hid (h1 rfl).1
    have hll : l.length ≤ 600 := (h1 rfl).2
    have HR1 := Lib.hid (HA.out.row.up HB1.out)
    have CT := Lib.hid (ftree_any A c l w1 HR1.out HG.out (by omega) HA.out.cap)
    have HCAP := Lib.hid HA.out.cap
    clear h1
    go_wp2_with fail
    refine CT.out.mono ?_
    rintro e w2 (⟨hne, rfl, hb2⟩ | ⟨heq, hnn, hfo, y, rfl, ht2, hgt, hok, hb2⟩)
    · obtain ⟨w3, hw3⟩ : ∃ w3, w3 = boxW w2 noT leafNV := ⟨_, rfl⟩
      have hb23 : Below w2.heap.size w2 w3 := by rw [hw3]; exact below_box _ _ _
      have hkc : KidCells w3 w2.heap.size 0 noT leafNV := by rw [hw3]; exact box_node _ _ _
      have hb13 := hb2.trans (hb23.mono hb2.size)
      have HB3 := Lib.hid (HB1.out.trans (hb13.mono HB1.out.size))
      have HR3 := Lib.hid (HR1.out.up hb13)
      have C1 := Lib.hid (rcheck_any A c l w3 HR3.out HG.out (by omega))
      have HKC := Lib.hid hkc; have HW3 := Lib.hid hw3; have HNE := Lib.hid hne
      obtain ⟨eo, heo⟩ : ∃ e, e = errO l := ⟨_, rfl⟩
      have HEO := Lib.hid heo
      rw [← heo, node_val]
      clear hb2 hb23 hkc hb13 hw3 hne heo CT
      go_upto_region 4 with (fail)
      rw [box_out HW3]
      go_wp2_with fail
      refine C1.out.mono ?_
      rintro e w4 ⟨rfl, hb4⟩
      obtain ⟨er, her⟩ : ∃ e, e = errR l := ⟨_, rfl⟩
      have HER := Lib.hid her
      have HB4 := Lib.hid (HB3.out.trans (hb4.mono HB3.out.size))
      have HR4 := Lib.hid (HR3.out.up hb4)
      have HKC4 := Lib.hid (HKC.out.kept (kept_below hb4 (fun _ => False)) nf)
      have C2 := Lib.hid (fcheck_any A c l w4 HR4.out HG.out (by omega) HCAP.out)
      rw [← her]
      have hq : (er != er) = false := by simp
      clear hb4 C1 her
      go_wp2_with fail
      refine C2.out.mono ?_
      rintro e w5 ⟨rfl, hb5⟩
      rw [← HER.out]
      have HB5 := Lib.hid (HB4.out.trans (hb5.mono HB4.out.size))
      obtain ⟨d0, d1, d2, d3, d4⟩ := HKC4.out.kept (kept_below hb5 (fun _ => False)) nf
      have CN := Lib.hid (nodes_any noT noT leafNV leafNV w5 (zero_tree _ _) (zero_tree _ _) good_noT good_noT)
      rw [noT_val] at CN
      have e1 : w5.cell? ⟨w2.heap.size, 0, none⟩ = some (.string ⟨#[]⟩) := d0
      have e2 : w5.cell? ⟨w2.heap.size, 1, none⟩ = some (.string ⟨#[]⟩) := d1
      have e3 : w5.cell? ⟨w2.heap.size, 2, none⟩ = some (.string ⟨#[]⟩) := d2
      have e4 : w5.cell? ⟨w2.heap.size, 3, none⟩ = some (.slice none 0 0) := d3
      have e5 : w5.cell? ⟨w2.heap.size, 4, none⟩ = some (.slice none 0 0) := d4
      clear hb5 C2 d0 d1 d2 d3 d4
      by_cases hz : l.length = 0
      · have hl0 : ((l.length : Int) == 0) = true := by rw [beq_iff_eq]; omega
        have hl : l = [] := List.eq_nil_of_length_eq_zero hz
        have he23 : eo = 23 := by rw [HEO.out, hl]; exact errO_nil
        subst he23
        clear hz hl
        go_wp2_with fail
        refine CN.out.mono ?_
        rintro e w6 ⟨r6, rfl, hr6, hb6⟩
        obtain rfl : r6 = true := hr6.2 rfl
        have HB6 := Lib.hid (HB5.out.trans (hb6.mono HB5.out.size))
        have CS := Lib.hid (same13_any w6)
        clear hr6 hb6 CN e1 e2 e3 e4 e5
        go_wp2_with fail
        refine CS.out.mono ?_
        rintro e w7 ⟨rfl, hb7⟩
        have HB7 := Lib.hid (HB6.out.trans (hb7.mono HB6.out.size))
        clear hb7 CS
        go_wp2_with fail
        go_ret
        exact ⟨ret_bool (by simp), HB7.out⟩
      · have hl0 : ((l.length : Int) == 0) = false := by rw [beq_eq_false_iff_ne]; omega
        have hne : l ≠ [] := fun h => hz (by rw [h]; rfl)
        have heq : eo = er := by rw [HEO.out, HER.out, errO_ne hne]
        subst heq
        have hz0 : (eo != 0) = true := by have := HNE.out; rw [← HEO.out] at this; simpa using this
        have hq2 : (eo == eo) = true := by simp
        clear hz hne hq
        go_wp2_with fail
        refine CN.out.mono ?_
        rintro e w6 ⟨r6, rfl, hr6, hb6⟩
        obtain rfl : r6 = true := hr6.2 rfl
        have HB6 := Lib.hid (HB5.out.trans (hb6.mono HB5.out.size))
        have CS := Lib.hid (same13_any w6)
        clear hr6 hb6 CN e1 e2 e3 e4 e5
        go_wp2_with fail
        refine CS.out.mono ?_
        rintro e w7 ⟨rfl, hb7⟩
        have HB7 := Lib.hid (HB6.out.trans (hb7.mono HB6.out.size))
        clear hb7 CS
        go_wp2_with fail
        go_ret
        exact ⟨ret_bool (by simp), HB7.out⟩
    · obtain ⟨t, htt⟩ : ∃ t, t = treeR l 1 := ⟨_, rfl⟩
      rw [← htt] at ht2 hgt hok ⊢
      obtain ⟨w3, hw3⟩ : ∃ w3, w3 = boxW w2 t y := ⟨_, rfl⟩
      have hb23 : Below w2.heap.size w2 w3 := by rw [hw3]; exact below_box _ _ _
      have hkc : KidCells w3 w2.heap.size 0 t y := by rw [hw3]; exact box_node _ _ _
      have hb13 := hb2.trans (hb23.mono hb2.size)
      have HB3 := Lib.hid (HB1.out.trans (hb13.mono HB1.out.size))
      have HR3 := Lib.hid (HR1.out.up hb13); have HT3 := Lib.hid (ht2.up hb23)
      have C1 := Lib.hid (rcheck_any A c l w3 HR3.out HG.out (by omega))
      have HKC := Lib.hid hkc; have HW3 := Lib.hid hw3; have HFO := Lib.hid hfo; have HTT := Lib.hid htt
      have HGT := Lib.hid hgt; have HOK := Lib.hid (show (seenL aloneT t).2 = 0 from hok)
      have HE0 := Lib.hid (show errR l = 0 by rw [← errO_ne hnn]; exact heq)
      have hl0 : ((l.length : Int) == 0) = false := by
        have := List.length_pos_iff.2 hnn
        rw [beq_eq_false_iff_ne]; omega
      have HPOS := Lib.hid (List.length_pos_iff.2 hnn)
      rw [node_val]
      clear hb2 hb23 hkc hb13 hw3 heq hnn hfo ht2 hgt hok htt CT
      go_upto_region 4 with (fail)
      rw [box_out HW3]
      go_wp2_with fail
      refine C1.out.mono ?_
      rintro e w4 ⟨rfl, hb4⟩
      rw [HE0.out]
      have HB4 := Lib.hid (HB3.out.trans (hb4.mono HB3.out.size))
      have HR4 := Lib.hid (HR3.out.up hb4); have HT4 := Lib.hid (HT3.out.up hb4)
      have HKC4 := Lib.hid (HKC.out.kept (kept_below hb4 (fun _ => False)) nf)
      have C2 := Lib.hid (fcheck_any A c l w4 HR4.out HG.out (by omega) HCAP.out)
      clear hb4 C1
      go_wp2_with fail
      refine C2.out.mono ?_
      rintro e w5 ⟨rfl, hb5⟩
      rw [HE0.out]
      have HB5 := Lib.hid (HB4.out.trans (hb5.mono HB4.out.size))
      have HR5 := Lib.hid (HR4.out.up hb5); have HT5 := Lib.hid (HT4.out.up hb5)
      have HKC5 := Lib.hid (HKC4.out.kept (kept_below hb5 (fun _ => False)) nf)
      have HRT := Lib.hid (show rowsT t 0 0 = l.map zid ∧ sizeT t = l.length by rw [HTT.out]; exact rows_tree HFO.out HPOS.out)
      have C3 := Lib.hid (frows_any t y w5 HT5.out HGT.out (by rw [HRT.out.2]; omega))
      rw [node_val] at C3
      obtain ⟨d0, d1, d2, d3, d4⟩ := HKC5.out
      clear hb5 C2
      go_wp2_with fail
      refine C3.out.mono ?_
      rintro e w6 (⟨hne, _⟩ | ⟨_, A6, c6, rfl, hr6, hc6, hb6⟩)
      · exact absurd HOK.out hne
      · rw [HRT.out.1] at hr6 hc6 ⊢
        obtain ⟨L, hL⟩ : ∃ L, L = l.map zid := ⟨_, rfl⟩
        rw [← hL] at hr6 hc6 ⊢
        have hLl : L.length = l.length := by rw [hL]; simp
        have HLG := Lib.hid (show GoodRs L from fun r hr => by
          rw [hL] at hr
          obtain ⟨q, hq, rfl⟩ := List.mem_map.1 hr
          exact row_good (HG.out q hq))
        have HLZ := Lib.hid (show L.map zid = l.map zid by rw [hL]; simp [Function.comp_def, zid_zid])
        have hLb : L.length ≤ 5000 := by omega
        have HB6 := Lib.hid (HB5.out.trans (hb6.mono HB5.out.size))
        have HR6 := Lib.hid (HR5.out.up hb6); have HT6 := Lib.hid (HT5.out.up hb6); have HRR6 := Lib.hid hr6
        obtain ⟨c0, c1, c2, c3, c4⟩ := HKC5.out.kept (kept_below hb6 (fun _ => False)) nf
        have hl5 : l.length ≤ 5000 := by omega
        have C20 := Lib.hid (show ∀ W, Held w6 w2.heap.size t y W → Calls Try.prog 20 #[.slice A l.length c, .int .i64 1] W (fun e w' => ∃ x', e = .returned (nodeV t x') ∧ TreeAt w' w'.heap.size t x' ∧ Below W.heap.size W w') from fun W hW => by
          have := rtree_any W.heap.size A c l HFO.out hl5 (l.length + 1) 1 (by omega) (Nat.le_refl _) HPOS.out W (Nat.le_refl _) (HR6.out.up hW.2.2.2.2.2.out)
          rw [← HTT.out] at this
          refine this.mono ?_
          rintro e w' ⟨x', rfl, h2, h3⟩
          exact ⟨x', rfl, h2.tree (fun b hb => hb.2), h3⟩)
        have C16 := Lib.hid (show ∀ W x', Held w6 w2.heap.size t y W → TreeAt W W.heap.size t x' → Calls Try.prog 16 #[nodeV t y, nodeV t x'] W (fun e w' => e = .returned (.bool true) ∧ Below W.heap.size W w') from fun W x' hW hx => by
          refine (nodes_any t t y x' W (HT6.out.up hW.2.2.2.2.2.out) hx HGT.out HGT.out).mono ?_
          rintro e w' ⟨r, rfl, hr, hb⟩
          obtain rfl : r = true := hr.2 rfl
          exact ⟨rfl, hb⟩)
        have C21 := Lib.hid (show ∀ W, Held w6 w2.heap.size t y W → Calls Try.prog 21 #[.slice A6 L.length c6, .slice A l.length c] W (fun e w' => e = .returned (.bool true) ∧ Below W.heap.size W w') from fun W hW => by
          refine (shapes_any A6 A c6 c L l W (HRR6.out.up hW.2.2.2.2.2.out) (HR6.out.up hW.2.2.2.2.2.out) HLG.out HG.out hLb hl5).mono ?_
          rintro e w' ⟨r, rfl, hr, hb⟩
          obtain rfl : r = true := hr.2 HLZ.out
          exact ⟨rfl, hb⟩)
        have C22 := Lib.hid (show ∀ W, Held w6 w2.heap.size t y W → Calls Try.prog 22 #[.slice A6 L.length c6, .slice A l.length c] W (fun e w' => e = .returned (.bool true) ∧ Below W.heap.size W w') from fun W hW => by
          refine (fsame_any A6 A c6 c L l W (HRR6.out.up hW.2.2.2.2.2.out) (HR6.out.up hW.2.2.2.2.2.out) HLG.out HG.out hLb hl5).mono ?_
          rintro e w' ⟨r, rfl, hr, hb⟩
          obtain rfl : r = true := hr.2 HLZ.out
          exact ⟨rfl, hb⟩)
        have HST := Lib.hid (show Held w6 w2.heap.size t y w6.drew from ⟨c0, c1, c2, c3, c4, Lib.hid (below_drewN _ w6 1)⟩)
        clear c0 c1 c2 c3 c4 hL hb6 hr6 hc6 C3 d0 d1 d2 d3 d4
        obtain ⟨c0, c1, c2, c3, c4, hB6⟩ := HST.out
        clear hLl
        go_wp2_with fail
        go_region_held3 (fun W => W.cell? ⟨w2.heap.size, 0, none⟩ = some (.string t.tag) ∧ W.cell? ⟨w2.heap.size, 1, none⟩ = some (.string t.key) ∧ W.cell? ⟨w2.heap.size, 2, none⟩ = some (.string t.text) ∧ W.cell? ⟨w2.heap.size, 3, none⟩ = some (.slice y.A t.as.length y.ca) ∧ W.cell? ⟨w2.heap.size, 4, none⟩ = some (.slice y.K t.kids.length y.ck) ∧ RowKit.Hid (Below w6.heap.size w6 W))
          (first | assumption | exact HST.out)
          ((first
            | (go_at_call 20; refine (C20.out _ (by assumption)).mono ?_; rintro e w7 ⟨x7, rfl, ht7, hb7⟩; have hfin := keepS hb7 (by assumption))
            | (go_at_call 16; refine (C16.out _ _ (by assumption) (by assumption)).mono ?_; rintro e w7 ⟨rfl, hb7⟩; have hfin := keepS hb7 (by assumption))
            | (go_at_call 21; refine (C21.out _ (by assumption)).mono ?_; rintro e w7 ⟨rfl, hb7⟩; have hfin := keepS hb7 (by assumption))
            | (go_at_call 22; refine (C22.out _ (by assumption)).mono ?_; rintro e w7 ⟨rfl, hb7⟩; have hfin := keepS hb7 (by assumption))
            | (go_at_call 11; refine (same13_any _).mono ?_; rintro e w7 ⟨rfl, hb7⟩; have hfin := keepS hb7 (by assumption))))
        all_goals
          have HFN := Lib.hid hfin.2.2.2.2.2.out
          go_wp2_with fail
          go_ret
          exact ⟨rfl, HB6.out.trans (HFN.out.mono HB6.out.size)⟩
end Go.Proofs.Ytlkdklpglmglkaa
