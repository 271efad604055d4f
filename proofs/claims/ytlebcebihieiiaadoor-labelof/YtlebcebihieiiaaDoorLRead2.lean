/-
  label.Read: the walk.
-/
import Derived.Test.YtlebcebihieiiaaDoorLBox
namespace Go.Proofs.YtlebcebihieiiaaDoor
open Go.RowKit Go.Sort
set_option linter.unusedVariables false
theorem lboxz_out {w w1 : World} (h : RowKit.Hid (w1 = lboxW w zL)) : w.alloc (.cells #[.string ⟨#[]⟩, .string ⟨#[]⟩, .int .i64 0] 33) = w1 := h.out.symm
theorem one_byte (s : ByteArray) (i : Nat) (hi : i < s.size) (c : UInt8) (h : byte s i = c.toNat) : s.extract i (i + 1) = ⟨#[c]⟩ := by
  apply bext
  rw [C.extract_list, Nat.add_sub_cancel_left]
  have hl : i < s.data.toList.length := by rw [bsize]; exact hi
  rw [List.drop_eq_getElem_cons hl]
  have hg : s.data.toList[i] = c := by
    unfold byte at h
    rw [List.getD_eq_getElem?_getD, List.getElem?_eq_getElem hl, Option.getD_some] at h
    exact UInt8.toNat_inj.1 (by omega)
  rw [hg]; rfl
set_option maxRecDepth 100000 in
set_option maxHeartbeats 2000000 in
theorem read_any (s : ByteArray) (w : World) (hs : s.size ≤ 900000) (hv : Vars w) : Calls Tryd.prog 12 #[.string s] w (ReadPost w s) := by
  obtain ⟨k, hk⟩ : ∃ k, k = min s.size 33 := ⟨_, rfl⟩
  have hmin : ∀ (w : World) (ts : Array TypeId) (t : TypeId), Sem.run Tryd.prog (Builtin.min_ ts t #[.int .i64 (s.size : Int), .int .i64 33]) w = .ok (.int .i64 (k : Int)) w := fun w ts t => run_min33 w ts t _ _ hk
  have hk0 : (0 : Int) ≤ (k : Int) := by omega
  have hk1 : (k : Int) ≤ (s.size : Int) := by omega
  obtain ⟨w1, hw1⟩ : ∃ w1, w1 = lboxW w zL := ⟨_, rfl⟩
  have hbx : BoxL w1 w.heap.size zL := by rw [hw1]; exact BoxL.new w zL
  have hb1 : Below w.heap.size w w1 := by rw [hw1]; exact below_lbox w zL
  have HW := Lib.hid hw1; have HB1 := Lib.hid hb1; have HBX := Lib.hid hbx; have HK := Lib.hid hk; have HV := Lib.hid hv
  obtain ⟨p, hp⟩ : ∃ p, p = s.extract 0 k := ⟨_, rfl⟩
  have hps : p.size = k := by rw [hp]; exact pre_size s k (by omega)
  have HC := Lib.hid (E.any_all p w1 (by omega))
  have hcs := any_cases p
  have HP := Lib.hid hp
  have HPS := Lib.hid hps
  clear hv hw1 hb1 hbx hk hp hps
  rcases hcs with ⟨hno, hat⟩ | ⟨i, hi, hm, hn, hat⟩
  · have HNO := Lib.hid hno; have HAT := Lib.hid hat
    clear hno hat
    go_enter Tryd.func12, Tryd.ntmps12
    go_wp2_with fail
    rw [lboxz_out HW]
    rw [← HP.out]
    refine HC.out.mono ?_
    rintro e w2 ⟨rfl, hb2⟩
    rw [HAT.out]
    have HB2 := Lib.hid (HB1.out.trans (hb2.mono HB1.out.size))
    have hbx2 := HBX.out.below hb2 HBX.out.lt
    have HBX2 := Lib.hid hbx2
    obtain ⟨c0, c1, c2⟩ := hbx2.cells
    have f0 := hbx2.frozen 0; have f1 := hbx2.frozen 1; have f2 := hbx2.frozen 2
    clear hb2 hbx2
    go_wp2_with fail
    refine bodyPost_ret (results_read _ _ w.heap.size zL (.int .i64 2) rfl rfl (HBX2.out.put zL)) rfl ?_
    exact ⟨none, readIs_none (no_marks HK.out (by rw [← HP.out]; rw [← HPS.out]; exact HNO.out)), rfl, putL_below (Nat.le_refl _) zL HB2.out⟩
  · have hks : k ≤ s.size := by omega
    have hik : i < k := by rw [← HPS.out]; exact hi
    have hi0 : (0 : Int) ≤ (i : Int) := by omega
    have hi1 : (i : Int) ≤ (s.size : Int) := by omega
    have hineg : ¬ (i : Int) < 0 := by omega
    have HFM := Lib.hid (fun (j : Nat) (x : Lab) (hx : IsAt s j x) => first_mark HK.out hik (by rw [← HP.out]; exact hm) (by rw [← HP.out]; exact hn) hx)
    have hms : Marked s i := by
      have := hm
      unfold Marked at this ⊢
      rw [HP.out, byte_pre s k i hik] at this
      exact this
    obtain ⟨t, ht⟩ : ∃ t, t = s.extract 0 i := ⟨_, rfl⟩
    have hts : t.size = i := by rw [ht]; exact pre_size s i (by omega)
    have HT := Lib.hid ht; have HTS := Lib.hid hts; have HMS := Lib.hid hms; have HAT := Lib.hid hat
    have HI := Lib.hid (show i < s.size by omega)
    clear hm hn hms hat ht hts hi hik
    cases hwf : wfB tagB t with
    | false =>
      have HWF := Lib.hid hwf
      clear hwf
      go_enter Tryd.func12, Tryd.ntmps12
      go_wp2_with fail
      rw [lboxz_out HW]
      rw [← HP.out]
      refine HC.out.mono ?_
      rintro e w2 ⟨rfl, hb2⟩
      rw [HAT.out]
      have HB2 := Lib.hid (HB1.out.trans (hb2.mono HB1.out.size))
      have hbx2 := HBX.out.below hb2 HBX.out.lt
      have HBX2 := Lib.hid hbx2
      obtain ⟨c0, c1, c2⟩ := hbx2.cells
      have f0 := hbx2.frozen 0; have f1 := hbx2.frozen 1; have f2 := hbx2.frozen 2
      clear hb2 hbx2
      go_wp2_with fail
      rw [← HT.out]
      refine (tag_any t w2 (by rw [HTS.out]; unfold maxLen; omega)).mono ?_
      rintro e w3 ⟨rfl, rfl⟩
      rw [HWF.out]
      go_wp2_with fail
      refine bodyPost_ret (results_read _ _ w.heap.size zL (.int .i64 2) rfl rfl (HBX2.out.put zL)) rfl ?_
      exact ⟨none, readIs_none (fun j x hx => by have := HFM.out j x hx; subst this; have := hx.2.1; rw [← HT.out, HWF.out] at this; cases this), rfl, putL_below (Nat.le_refl _) zL HB2.out⟩
    | true =>
      have HWF := Lib.hid hwf
      clear hwf
      go_enter Tryd.func12, Tryd.ntmps12
      go_wp2_with fail
      rw [lboxz_out HW]
      rw [← HP.out]
      refine HC.out.mono ?_
      rintro e w2 ⟨rfl, hb2⟩
      rw [HAT.out]
      have HB2 := Lib.hid (HB1.out.trans (hb2.mono HB1.out.size))
      have hbx2 := HBX.out.below hb2 HBX.out.lt
      have HBX2 := Lib.hid hbx2
      obtain ⟨c0, c1, c2⟩ := hbx2.cells
      have f0 := hbx2.frozen 0; have f1 := hbx2.frozen 1; have f2 := hbx2.frozen 2
      clear hb2 hbx2
      go_wp2_with fail
      rw [← HT.out]
      refine (tag_any t w2 (by rw [HTS.out]; unfold maxLen; omega)).mono ?_
      rintro e w3 ⟨rfl, rfl⟩
      rw [HWF.out]
      have hi2 : (i : Int) + 1 ≤ (s.size : Int) := by have := HI.out; omega
      have hi3 : (0 : Int) ≤ (i : Int) + 1 := by omega
      have hi4 : (i : Int) ≤ (i : Int) + 1 := by omega
      have hwr : IntKind.i64.wrap ((i : Int) + 1) = (i : Int) + 1 := IntWalk.i64_in _ (by omega)
      go_wp2_with fail
      rw [← HT.out]
      obtain ⟨w4, hw4⟩ : ∃ w4, w4 = lboxW w2 ⟨t, noS, 0⟩ := ⟨_, rfl⟩
      have hbx4 : BoxL w4 w2.heap.size ⟨t, noS, 0⟩ := by rw [hw4]; exact BoxL.new w2 _
      have hb4 : Below w2.heap.size w2 w4 := by rw [hw4]; exact below_lbox w2 _
      rw [show w2.alloc (.cells #[.string t, .string ⟨#[]⟩, .int .i64 0] 33) = w4 from hw4.symm]
      have HBX4 := Lib.hid hbx4; have HB4 := Lib.hid hb4
      clear hw4 hbx4 hb4 c0 c1 c2 f0 f1 f2
      go_quiet (fail)
      have HR := Lib.hid (rest_size s (i + 1))
      obtain ⟨r, hr⟩ : ∃ r, r = s.extract (i + 1) s.size := ⟨_, rfl⟩
      rw [← hr]
      rw [← hr] at HR
      have HRR := Lib.hid hr
      clear hr
      have hbq : Below w2.heap.size w2 (w4.drewN nq) := HB4.out.trans ⟨rfl, rfl, rfl, Nat.le_refl _, fun _ _ => rfl⟩
      have hbxq : BoxL (w4.drewN nq) w2.heap.size ⟨t, noS, 0⟩ := HBX4.out
      obtain ⟨w5, hw5⟩ : ∃ w5, w5 = w4.drewN nq := ⟨_, rfl⟩
      rw [← hw5] at hbq hbxq ⊢
      clear hw5
      have HB5 := Lib.hid (HB2.out.trans (hbq.mono HB2.out.size))
      have HBX5 := Lib.hid hbxq
      have HV5 := Lib.hid (HV.out.belowC HB5.out)
      have HBR5 := Lib.hid (HBX2.out.below hbq HBX2.out.lt)
      have HNE := Lib.hid (show w.heap.size ≠ w2.heap.size from fun h => by have := HBX2.out.lt; omega)
      clear hbq hbxq
      rcases HMS.out with h58 | h35
      · rw [one_byte s i HI.out 58 h58]
        have H58 := Lib.hid h58
        clear h58
        have HK := Lib.hid (readCount_any r w5 (by have := HR.out; omega) HV5.out)
        go_wp2_with fail
        refine HK.out.mono ?_
        rintro e w6 ⟨n, b, rfl, hbt, hbf, hb6⟩
        have HB6 := Lib.hid (HB5.out.trans (hb6.mono HB5.out.size))
        have hx6 := HBX5.out.below hb6 HBX5.out.lt
        have hr6 := HBR5.out.below hb6 HBR5.out.lt
        have HX6 := Lib.hid hx6; have HR6 := Lib.hid hr6
        obtain ⟨c0, c1, c2⟩ := hx6.cells
        have f0 := hx6.frozen 0; have f1 := hx6.frozen 1; have f2 := hx6.frozen 2
        obtain ⟨d0, d1, d2⟩ := hr6.cells
        have g0 := hr6.frozen 0; have g1 := hr6.frozen 1; have g2 := hr6.frozen 2
        have HBT := Lib.hid hbt; have HBF := Lib.hid hbf
        have hne := HNE.out
        have hne' := hne.symm
        clear hbt hbf hb6 hx6 hr6
        cases b with
        | false =>
          go_wp2_with fail
          refine bodyPost_ret (results_read _ _ w.heap.size zL (.int .i64 2) rfl rfl ((HR6.out.otherCell HNE.out _).put zL)) rfl ?_
          exact ⟨none, readIs_none (fun j x hx => by
            have := HFM.out j x hx
            subst this
            rcases hx.2.2.2 with ⟨h1, h2⟩ | ⟨h1, h2⟩
            · first | exact HBF.out rfl x (by rw [HRR.out]; exact h2) | exact HBF.out trivial x (by rw [HRR.out]; exact h2)
            · rw [H58.out] at h1; cases h1), rfl, putL_below (Nat.le_refl _) zL (HB6.out.setCell (p := ⟨w2.heap.size, 2, none⟩) HB2.out.size _)⟩
        | true =>
          go_wp2_with fail
          refine bodyPost_ret (results_read _ _ w.heap.size ⟨t, noS, n⟩ (.int .i64 0) rfl rfl ((HR6.out.otherCell HNE.out _).put ⟨t, noS, n⟩)) rfl ?_
          exact ⟨some ⟨t, noS, n⟩, readIs_some (i := i) ⟨HI.out, by rw [← HT.out]; exact HWF.out, HT.out, .inl ⟨H58.out, by rw [show restOf s i = r from HRR.out.symm]; first | exact HBT.out rfl t | exact HBT.out trivial t⟩⟩, rfl, putL_below (Nat.le_refl _) ⟨t, noS, n⟩ (HB6.out.setCell (p := ⟨w2.heap.size, 2, none⟩) HB2.out.size _)⟩
      · rw [one_byte s i HI.out 35 h35]
        have H58 := Lib.hid h35
        clear h35
        have HK := Lib.hid (readKey_any r w5 (by have := HR.out; omega) HV5.out)
        go_wp2_with fail
        refine HK.out.mono ?_
        rintro e w6 ⟨n, b, rfl, hbt, hbf, hb6⟩
        have HB6 := Lib.hid (HB5.out.trans (hb6.mono HB5.out.size))
        have hx6 := HBX5.out.below hb6 HBX5.out.lt
        have hr6 := HBR5.out.below hb6 HBR5.out.lt
        have HX6 := Lib.hid hx6; have HR6 := Lib.hid hr6
        obtain ⟨c0, c1, c2⟩ := hx6.cells
        have f0 := hx6.frozen 0; have f1 := hx6.frozen 1; have f2 := hx6.frozen 2
        obtain ⟨d0, d1, d2⟩ := hr6.cells
        have g0 := hr6.frozen 0; have g1 := hr6.frozen 1; have g2 := hr6.frozen 2
        have HBT := Lib.hid hbt; have HBF := Lib.hid hbf
        have hne := HNE.out
        have hne' := hne.symm
        clear hbt hbf hb6 hx6 hr6
        cases b with
        | false =>
          go_wp2_with fail
          refine bodyPost_ret (results_read _ _ w.heap.size zL (.int .i64 2) rfl rfl ((HR6.out.otherCell HNE.out _).put zL)) rfl ?_
          exact ⟨none, readIs_none (fun j x hx => by
            have := HFM.out j x hx
            subst this
            rcases hx.2.2.2 with ⟨h1, h2⟩ | ⟨h1, h2⟩
            · rw [H58.out] at h1; cases h1
            · first | exact HBF.out rfl x (by rw [HRR.out]; exact h2) | exact HBF.out trivial x (by rw [HRR.out]; exact h2)), rfl, putL_below (Nat.le_refl _) zL (HB6.out.setCell (p := ⟨w2.heap.size, 1, none⟩) HB2.out.size _)⟩
        | true =>
          go_wp2_with fail
          refine bodyPost_ret (results_read _ _ w.heap.size ⟨t, n, 0⟩ (.int .i64 0) rfl rfl ((HR6.out.otherCell HNE.out _).put ⟨t, n, 0⟩)) rfl ?_
          exact ⟨some ⟨t, n, 0⟩, readIs_some (i := i) ⟨HI.out, by rw [← HT.out]; exact HWF.out, HT.out, .inr ⟨H58.out, by rw [show restOf s i = r from HRR.out.symm]; first | exact HBT.out rfl t | exact HBT.out trivial t⟩⟩, rfl, putL_below (Nat.le_refl _) ⟨t, n, 0⟩ (HB6.out.setCell (p := ⟨w2.heap.size, 1, none⟩) HB2.out.size _)⟩
end Go.Proofs.YtlebcebihieiiaaDoor
