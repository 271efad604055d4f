/-
  The law MarkupBack, walked.
-/
import Derived.Test.YtjnhcoflmechmaaGreatDoorMLaw5
import Derived.Test.YtjnhcoflmechmaaGreatDoorMRPrint
namespace Go.Proofs.YtjnhcoflmechmaaGreatDoor.M
open Go.RowKit Go.Sort
set_option linter.unusedVariables false
set_option maxRecDepth 100000
/-- A name that is well formed is a word. -/
theorem wordy_nm {s : ByteArray} (h : wfB nameB s = true) : Wordy s := by
  rw [wfB_nm] at h
  unfold nmB at h
  simp only [Bool.and_eq_true, decide_eq_true_eq, List.all_eq_true] at h
  obtain ⟨⟨⟨h1, _⟩, h2⟩, h3⟩ := h
  cases hl : s.data.toList with
  | nil => have := size_list s; rw [hl] at this; simp at this; omega
  | cons c r => rw [hl] at h2 h3; exact ⟨c, r, hl, h2, h3⟩
theorem wf_tag_name {s : ByteArray} (h : wfB tagB s = true) : wfB nameB s = true := by
  unfold wfB at h ⊢
  simp only [Bool.and_eq_true, decide_eq_true_eq, List.all_eq_true, Bool.or_eq_true] at h ⊢
  refine ⟨h.1, fun i hi => ?_⟩
  rcases h.2 i hi with h | h
  · exact .inl h
  · right; unfold nameB; rw [h]; rfl
theorem alone_wordy {t : Tr} (h : aloneT t = 0) : Wordy t.tag ∧ ∀ a ∈ t.as, Wordy a.1 := by
  have hl := alone_len h
  unfold aloneT at h
  split at h
  · cases h
  · rename_i hw
    split at h
    · cases h
    · refine ⟨wordy_nm (wf_tag_name (by simpa using hw)), fun a ha => ?_⟩
      obtain ⟨x, e, hc⟩ := check_ex t.as
      have he := attE_of hc
      rw [h] at he
      subst he
      rcases hc with ⟨i, hi, rfl, he, hf, hb⟩ | ⟨rfl, _, hb⟩
      · exact absurd he.symm hf
      · obtain ⟨j, hj, rfl⟩ := List.getElem_of_mem ha
        have := hb j hj
        unfold faultL faultX at this
        rw [getD_at hj] at this
        split at this
        · cases this
        · split at this
          · cases this
          · rename_i hn
            refine wordy_nm ?_
            unfold okN at hn
            simpa using hn
theorem all_wordy : ∀ t : Tr, AllT (fun t => aloneT t = 0) t → WordyT t := by
  refine tr_ind fun t ih h => ?_
  cases h with
  | mk h sub =>
    obtain ⟨h1, h2⟩ := alone_wordy h
    exact .mk h1 h2 (fun k hk => ih k hk (sub k hk))
theorem whole_pr {t : Tr} (h : okT t) : nodeP (strB (prT t)).data.toList = .ok t [] := by
  have := node_of t (all_wordy t (ok_all h)) []
  rwa [List.append_nil] at this
theorem says_pr {t : Tr} (h : okT t) : ParseM (strB (prT t)) t 0 0 := by
  unfold ParseM wholeP
  rw [whole_pr h]
  have h2 := seen_first aloneT t
  rw [show (seenL aloneT t).2 = 0 from h] at h2
  exact ⟨_, _, h2, .inl ⟨rfl, rfl, rfl, rfl⟩⟩
theorem cnt_ok {t : Tr} (h : okT t) : cntK (restL (strB (prT t)) 0) ≤ sizeT t := by
  have := cntK_pr t (all_wordy t (ok_all h)) []
  rw [List.append_nil] at this
  exact this
set_option maxHeartbeats 8000000 in
theorem law3_any (t : Tr) (x : NV) (w : World) (ht : TreeAt w w.heap.size t x) (hf : FitT t) (hv : Vars w) : Calls Tryz.prog 3 #[nodeV t x] w (TrueP w) := by
  obtain ⟨w1, hw1⟩ : ∃ w1, w1 = boxW w t x := ⟨_, rfl⟩
  have hb1 : Below w.heap.size w w1 := by rw [hw1]; exact below_box w t x
  have hbox : KidCells w1 w.heap.size 0 t x := by rw [hw1]; exact box_node w t x
  have hB := hbox.block_lt
  have CF := Lib.hid (fewM_any t x 400 w1 (ht.up hb1) hf (by decide))
  have HW1 := Lib.hid hw1; have HB1 := Lib.hid hb1; have HT1 := Lib.hid (ht.up hb1); have HV1 := Lib.hid (hv.belowC hb1); have HBX := Lib.hid hbox
  obtain ⟨p0, p1, p2, p3, p4⟩ := hbox
  clear hw1 hb1 ht hf hv
  go_enter Tryz.func3, Tryz.ntmps3
  go_upto_region 1 with (fail)
  rw [box_out HW1]
  clear HW1
  go_wp2_with fail
  refine CF.out.mono ?_
  rintro e w2 ⟨b, rfl, hr, hb2⟩
  have HB2 := Lib.hid hb2; have HR := Lib.hid hr
  clear hb2 hr CF p0 p1 p2 p3 p4
  cases b with
  | false =>
    have CS := Lib.hid (same_any w2 (HV1.out.belowC HB2.out))
    have HBB := Lib.hid (HB1.out.trans (HB2.out.mono HB1.out.size))
    go_wp2_with fail
    refine CS.out.mono ?_
    rintro e w3 ⟨rfl, hb⟩
    have HF := Lib.hid (HBB.out.trans (hb.mono HBB.out.size))
    clear hb CS
    go_wp2_with fail
    go_ret
    exact ⟨rfl, HF.out⟩
  | true =>
    obtain ⟨hg, hwt⟩ := HR.out rfl
    have HG := Lib.hid hg; have HWT := Lib.hid hwt
    have hlen : okT t → (prT t).length ≤ 12000000 := fun h => by have := pr_len t (ok_all h); omega
    have HLEN := Lib.hid hlen
    have C2 := Lib.hid (print_any t x w2 (HT1.out.up HB2.out) hg (fun h => by have := hlen h; omega) (HV1.out.belowC HB2.out))
    obtain ⟨p0, p1, p2, p3, p4⟩ := HBX.out.below HB2.out hB
    clear hg hwt HR hlen
    go_wp2_with fail
    refine C2.out.mono ?_
    rintro e w3 ⟨⟨f, g, hff, hc⟩, hb3⟩
    have HB3 := Lib.hid (HB2.out.trans (hb3.mono HB2.out.size)); have HFF := Lib.hid hff
    have C3 := Lib.hid (icheck_any t x w3 (HT1.out.up HB3.out) HG.out)
    clear hff hb3 C2 HB2 p0 p1 p2 p3 p4
    obtain ⟨p0, p1, p2, p3, p4⟩ := HBX.out.below HB3.out hB
    rcases hc with ⟨rfl, rfl⟩ | ⟨h0, rfl⟩
    · go_wp2_with fail
      refine C3.out.mono ?_
      rintro e w4 ⟨a4, f4, rfl, hf4, hb4⟩
      obtain ⟨rfl, rfl⟩ := firstF_unique HFF.out hf4
      have hok := first_ok hf4
      have HB4 := Lib.hid (HB3.out.trans (hb4.mono HB3.out.size))
      have C5 := Lib.hid (parse_any (strB (prT t)) w4 (by rw [strB_size]; have := HLEN.out hok; omega) (by have := cnt_ok hok; have := size_w t; have := HWT.out; omega) (fun t' l h => by
        rw [show restL (strB (prT t)) 0 = (strB (prT t)).data.toList from rfl, whole_pr hok] at h; cases h; exact HG.out) ((HV1.out).belowC HB4.out))
      have HOK := Lib.hid hok
      clear hf4 hok hb4 C3 HB3 p0 p1 p2 p3 p4
      obtain ⟨st, hst⟩ : ∃ st, st = strB (prT t) := ⟨_, rfl⟩
      rw [← hst] at C5 ⊢
      have HST := Lib.hid hst
      clear hst
      go_wp2_with fail
      refine C5.out.mono ?_
      rintro e w6 ⟨t', x', a, er, rfl, hti, hpm, hb6⟩
      obtain ⟨rfl, rfl, rfl⟩ := parseM_unique hpm (show ParseM st t 0 0 from by rw [HST.out]; exact says_pr HOK.out)
      obtain ⟨w7, hw7⟩ : ∃ w7, w7 = boxW w6 t' x' := ⟨_, rfl⟩
      have hb7 : Below w6.heap.size w6 w7 := by rw [hw7]; exact below_box _ _ _
      have hx7 : KidCells w7 w6.heap.size 0 t' x' := by rw [hw7]; exact box_node _ _ _
      have HB7 := Lib.hid (HB4.out.trans ((hb6.trans (hb7.mono hb6.size)).mono HB4.out.size))
      have HT7 := Lib.hid (hti.at.up hb7); have HX7 := Lib.hid hx7
      have hX7 := hx7.block_lt
      have C7 := refPrint_any t' HG.out (all_fine t' (ok_all HOK.out)) x w7 (HT1.out.up HB7.out) (by have := HLEN.out HOK.out; omega)
      rw [← HST.out] at C7
      have HC7 := Lib.hid C7
      have HW7 := Lib.hid hw7
      clear hti hpm hb6 hw7 hb7 hx7 C5 HB4 C7
      obtain ⟨p0, p1, p2, p3, p4⟩ := HBX.out.below HB7.out hB
      go_upto_region 10 with (fail)
      rw [box_out HW7]
      clear HW7
      go_wp2_with fail
      refine HC7.out.mono ?_
      rintro e w8 ⟨rfl, hb8⟩
      have HB8 := Lib.hid (HB7.out.trans (hb8.mono HB7.out.size))
      have C8 := Lib.hid (nodes_any t' t' x' x w8 (HT7.out.up hb8) (HT1.out.up HB8.out) HG.out HG.out)
      obtain ⟨q0, q1, q2, q3, q4⟩ := HX7.out.below hb8 hX7
      clear hb8 HC7 HB7 HT7 HX7 p0 p1 p2 p3 p4
      obtain ⟨p0, p1, p2, p3, p4⟩ := HBX.out.below HB8.out hB
      go_wp2_with fail
      refine C8.out.mono ?_
      rintro e w9 ⟨r, rfl, hr, hb9⟩
      obtain rfl : r = true := hr.2 rfl
      have HB9 := Lib.hid (HB8.out.trans (hb9.mono HB8.out.size))
      have HBB := Lib.hid (HB1.out.trans (HB9.out.mono HB1.out.size))
      have CS := Lib.hid (same_any w9 (HV1.out.belowC HB9.out))
      clear hr hb9 C8 HB8 p0 p1 p2 p3 p4 q0 q1 q2 q3 q4
      go_wp2_with fail
      refine CS.out.mono ?_
      rintro e w10 ⟨rfl, hb10⟩
      have HF := Lib.hid (HBB.out.trans (hb10.mono HBB.out.size))
      clear hb10 CS
      go_wp2_with fail
      go_ret
      exact ⟨rfl, HF.out⟩
    · have hne : (g != 0) = true := by simpa using h0
      go_wp2_with fail
      refine C3.out.mono ?_
      rintro e w4 ⟨a4, f4, rfl, hf4, hb4⟩
      obtain ⟨rfl, rfl⟩ := firstF_unique HFF.out hf4
      have HB4 := Lib.hid (HB3.out.trans (hb4.mono HB3.out.size))
      have HBB := Lib.hid (HB1.out.trans (HB4.out.mono HB1.out.size))
      have CS := Lib.hid (same_any w4 (HV1.out.belowC HB4.out))
      clear hf4 hb4 C3 HB3 p0 p1 p2 p3 p4
      go_wp2_with fail
      refine CS.out.mono ?_
      rintro e w7 ⟨rfl, hb7⟩
      have HF := Lib.hid (HBB.out.trans (hb7.mono HBB.out.size))
      clear hb7 CS
      go_wp2_with fail
      go_ret
      exact ⟨rfl, HF.out⟩
end Go.Proofs.YtjnhcoflmechmaaGreatDoor.M
