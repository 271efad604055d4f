/-
  tendrillaw13.FlatRows.
-/
import Derived.Test.YtlkdklpglmglkaaFRefR
import Derived.Test.YtlkdklpglmglkaaFPRows
import Derived.Test.YtlkdklpglmglkaaFS13
namespace Go.Proofs.Ytlkdklpglmglkaa
open Go.RowKit Go.Sort Go.Lib
set_option linter.unusedVariables false
set_option maxRecDepth 100000
theorem alone_tag3 {t : Tr} (h : aloneT t = 0) : t.tag.size ≤ 32 := by
  unfold aloneT at h
  by_cases hw : wfB tagB t.tag = false
  · rw [if_pos hw] at h; cases h
  · have hw' : wfB tagB t.tag = true := by simpa using hw
    unfold wfB at hw'
    simp only [Bool.and_eq_true, decide_eq_true_eq] at hw'
    exact hw'.1.1.2
theorem good_rows {t : Tr} (hg : GoodT t) (h : (seenL aloneT t).2 = 0) : GoodRs (rowsT t 0 0) := by
  intro r hr
  rw [← items_rows h] at hr
  obtain ⟨y, hy, rfl⟩ := List.mem_map.1 hr
  obtain ⟨g1, g2, g3, g4, g5, g6⟩ := (items_good hg y hy).sizes
  have hcl : Clean aloneT (seenL aloneT t).1 := (visit_all aloneT t 1 (-1) [] (Clean.nil aloneT)).2.2.1
  rw [← ok_len h] at hcl
  obtain ⟨i, hi, rfl⟩ := List.getElem_of_mem hy
  have hn := hcl i hi
  have ha : aloneT (itemsL t)[i].t = 0 := by
    apply Classical.byContradiction
    intro hne
    unfold nodeF at hn
    split at hn
    · cases hn
    · split at hn
      · cases hn
      · first | exact hne hn | (rw [if_pos hne] at hn; exact hne hn)
  have := alone_tag3 ha
  exact ⟨by show (itemsL t)[i].t.tag.size ≤ _; omega, g2, g3, g4, g5⟩
set_option maxHeartbeats 8000000 in
theorem law3_any (t : Tr) (x : NV) (w : World) (h : TreeAt w w.heap.size t x) (hf : FitT t) : Calls Try.prog 3 #[nodeV t x] w (TrueB w) := by
  have nf : ¬ (False : Prop) := fun h => h
  obtain ⟨w1, hw1⟩ : ∃ w1, w1 = boxW w t x := ⟨_, rfl⟩
  have hb1 : Below w.heap.size w w1 := by rw [hw1]; exact below_box w t x
  have hbx : KidCells w1 w.heap.size 0 t x := by rw [hw1]; exact box_node w t x
  have C := Lib.hid (few_any t x 800 w1 (h.up hb1) hf (by omega))
  rw [show ((800 : Nat) : Int) = 800 from rfl] at C
  have HT := Lib.hid (h.up hb1); have HW := Lib.hid hw1; have HB1 := Lib.hid hb1; have HBX := Lib.hid hbx
  obtain ⟨c0, c1, c2, c3, c4⟩ := hbx
  clear h hf hw1 hb1
  go_enter Try.func3, Try.ntmps3
  go_wp2_with fail
  rw [box_out HW]
  refine C.out.mono ?_
  rintro e w2 ⟨r1, rfl, h1, hb2⟩
  have HB2 := Lib.hid (HB1.out.trans (hb2.mono HB1.out.size))
  have HT2 := Lib.hid (HT.out.up hb2)
  have HBX2 := Lib.hid (HBX.out.kept (kept_below hb2 (fun _ => False)) nf)
  clear c0 c1 c2 c3 c4 hb2 C HT HBX
  cases r1 with
  | false =>
    have CS := Lib.hid (same13_any w2)
    clear h1
    go_wp2_with fail
    refine CS.out.mono ?_
    rintro e w3 ⟨rfl, hb3⟩
    have HB3 := Lib.hid (HB2.out.trans (hb3.mono HB2.out.size))
    clear hb3 CS
    go_wp2_with fail
    go_ret
    exact ⟨rfl, HB3.out⟩
  | true =>
    have HGT := Lib.hid (h1 rfl).1
    have HSZ := Lib.hid (h1 rfl).2
    clear h1
    have C1 := Lib.hid (frows_any t x w2 HT2.out HGT.out (by have := HSZ.out; omega))
    rw [node_val] at C1
    obtain ⟨c0, c1, c2, c3, c4⟩ := HBX2.out
    obtain ⟨er, her⟩ : ∃ e, e = (seenL aloneT t).2 := ⟨_, rfl⟩
    have HER := Lib.hid her
    clear her
    go_wp2_with fail
    refine C1.out.mono ?_
    rintro e w3 (⟨hne, rfl, hb3⟩ | ⟨heq, A, c, rfl, hr3, hcc, hb3⟩)
    · have HB3 := Lib.hid (HB2.out.trans (hb3.mono HB2.out.size))
      have HT3 := Lib.hid (HT2.out.up hb3)
      have HBX3 := Lib.hid (HBX2.out.kept (kept_below hb3 (fun _ => False)) nf)
      have HNE := Lib.hid hne
      clear c0 c1 c2 c3 c4 hb3 C1 hne
      obtain ⟨c0, c1, c2, c3, c4⟩ := HBX3.out
      have C2 := Lib.hid (rrows_any t x w3 HT3.out HGT.out)
      rw [node_val] at C2
      rw [show (seenL aloneT t).2 = er from HER.out.symm]
      go_wp2_with fail
      refine C2.out.mono ?_
      rintro e w4 (⟨_, rfl, hb4⟩ | ⟨heq, _⟩)
      · have HB4 := Lib.hid (HB3.out.trans (hb4.mono HB3.out.size))
        rw [show (seenL aloneT t).2 = er from HER.out.symm]
        have hq : (er != er) = false := by simp
        have hz' : (er != 0) = true := by have := HNE.out; rw [← HER.out] at this; simpa using this
        have C3 := Lib.hid (prows_any none none 0 0 [] w4 (RRow.nil _ _ _) (RRow.nil _ _ _) (fun r hr => by simp at hr) (by simp))
        rw [show ([] : List Rw).length = 0 from rfl] at C3
        clear hb4 C2
        go_wp2_with fail
        refine C3.out.mono ?_
        rintro e w5 ⟨rfl, hb5⟩
        have HB5 := Lib.hid (HB4.out.trans (hb5.mono HB4.out.size))
        have CS := Lib.hid (same13_any w5)
        clear hb5 C3
        go_wp2_with fail
        refine CS.out.mono ?_
        rintro e w6 ⟨rfl, hb6⟩
        have HB6 := Lib.hid (HB5.out.trans (hb6.mono HB5.out.size))
        clear hb6 CS
        go_wp2_with fail
        go_ret
        exact ⟨rfl, HB6.out⟩
      · exact absurd heq HNE.out
    · obtain ⟨L, hL⟩ : ∃ L, L = rowsT t 0 0 := ⟨_, rfl⟩
      rw [← hL] at hr3 hcc ⊢
      have HB3 := Lib.hid (HB2.out.trans (hb3.mono HB2.out.size))
      have HT3 := Lib.hid (HT2.out.up hb3)
      have HBX3 := Lib.hid (HBX2.out.kept (kept_below hb3 (fun _ => False)) nf)
      have HEQ := Lib.hid heq; have HR3 := Lib.hid hr3; have HL := Lib.hid hL; have HCC := Lib.hid hcc
      have HGR := Lib.hid (show GoodRs L by rw [hL]; exact good_rows HGT.out heq)
      have hll : L.length ≤ 800 := by rw [hL, rowsT_length]; exact HSZ.out
      clear c0 c1 c2 c3 c4 hb3 C1 heq hr3 hL hcc
      obtain ⟨c0, c1, c2, c3, c4⟩ := HBX3.out
      have C2 := Lib.hid (rrows_any t x w3 HT3.out HGT.out)
      rw [node_val] at C2
      go_wp2_with fail
      refine C2.out.mono ?_
      rintro e w4 (⟨hne, _⟩ | ⟨_, A', c', rfl, hr4, hb4⟩)
      · exact absurd HEQ.out hne
      · rw [← HL.out] at hr4 ⊢
        have HB4 := Lib.hid (HB3.out.trans (hb4.mono HB3.out.size))
        have HT4 := Lib.hid (HT3.out.up hb4)
        have HR4 := Lib.hid hr4; have HR34 := Lib.hid (HR3.out.up hb4)
        have HBX4 := Lib.hid (HBX3.out.kept (kept_below hb4 (fun _ => False)) nf)
        have C3 := Lib.hid (prows_any A A' c c' L w4 HR34.out HR4.out HGR.out (by omega))
        clear c0 c1 c2 c3 c4 hb4 C2 hr4
        go_wp2_with fail
        refine C3.out.mono ?_
        rintro e w5 ⟨rfl, hb5⟩
        have HB5 := Lib.hid (HB4.out.trans (hb5.mono HB4.out.size))
        have HT5 := Lib.hid (HT4.out.up hb5); have HR5 := Lib.hid (HR34.out.up hb5)
        have HBX5 := Lib.hid (HBX4.out.kept (kept_below hb5 (fun _ => False)) nf)
        have C4 := Lib.hid (ftree_any A c L w5 HR5.out HGR.out (by omega) HCC.out)
        clear hb5 C3
        go_wp2_with fail
        refine C4.out.mono ?_
        rintro e w6 (⟨hne, _⟩ | ⟨_, _, _, y, rfl, ht6, _, _, hb6⟩)
        · exact absurd (show errO L = 0 by
            have hne0 : L ≠ [] := fun h0 => by
              have := sizeT_pos t
              have h2 : L.length = sizeT t := by rw [HL.out, rowsT_length]
              rw [h0] at h2
              simp at h2
              omega
            rw [errO_ne hne0, errR_ok (by rw [HL.out]; exact form_rows t) hne0, HL.out, tree_rows]
            exact HEQ.out) hne
        · rw [show treeR L 1 = t by rw [HL.out]; exact tree_rows t] at ht6 ⊢
          obtain ⟨w7, hw7⟩ : ∃ w7, w7 = boxW w6 t y := ⟨_, rfl⟩
          have hb67 : Below w6.heap.size w6 w7 := by rw [hw7]; exact below_box _ _ _
          have hb57 : Below w5.heap.size w5 w7 := hb6.trans (hb67.mono hb6.size)
          have hkc : KidCells w7 w6.heap.size 0 t y := by rw [hw7]; exact box_node _ _ _
          have HB7 := Lib.hid (HB5.out.trans (hb57.mono HB5.out.size))
          have HR7 := Lib.hid (HR5.out.up hb57)
          have C5 := Lib.hid (nodes_any t t y x w7 (ht6.up hb67) (HT5.out.up hb57) HGT.out HGT.out)
          rw [node_val t x, node_val t y] at C5
          have HW7 := Lib.hid hw7
          obtain ⟨d0, d1, d2, d3, d4⟩ := hkc
          obtain ⟨c0, c1, c2, c3, c4⟩ := HBX5.out.kept (kept_below hb57 (fun _ => False)) nf
          rw [node_val t y]
          clear hb6 hb67 hb57 hw7 ht6 C4
          go_upto_region 10 with (fail)
          rw [box_out HW7]
          go_wp2_with fail
          refine C5.out.mono ?_
          rintro e w8 ⟨r8, rfl, hr8, hb8⟩
          obtain rfl : r8 = true := hr8.2 rfl
          have HB8 := Lib.hid (HB7.out.trans (hb8.mono HB7.out.size))
          have C6 := Lib.hid (fcheck_any A c L w8 (HR7.out.up hb8) HGR.out (by omega) HCC.out)
          clear hr8 hb8 C5 c0 c1 c2 c3 c4 d0 d1 d2 d3 d4
          have HE0 := Lib.hid (show errR L = 0 by
            have hne0 : L ≠ [] := fun h0 => by
              have := sizeT_pos t
              have h2 : L.length = sizeT t := by rw [HL.out, rowsT_length]
              rw [h0] at h2
              simp at h2
              omega
            rw [errR_ok (by rw [HL.out]; exact form_rows t) hne0, HL.out, tree_rows]
            exact HEQ.out)
          go_wp2_with fail
          refine C6.out.mono ?_
          rintro e w9 ⟨rfl, hb9⟩
          rw [HE0.out]
          have HB9 := Lib.hid (HB8.out.trans (hb9.mono HB8.out.size))
          have CS := Lib.hid (same13_any w9)
          clear hb9 C6
          go_wp2_with fail
          refine CS.out.mono ?_
          rintro e w10 ⟨rfl, hb10⟩
          have HB10 := Lib.hid (HB9.out.trans (hb10.mono HB9.out.size))
          clear hb10 CS
          go_wp2_with fail
          go_ret
          exact ⟨ret_bool (by simp), HB10.out⟩
end Go.Proofs.Ytlkdklpglmglkaa
