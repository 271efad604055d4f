/-
  The reference's Read: the walk.
-/
import Derived.Test.YtlebcebihieiiaaDoorLBox
import Derived.Test.YtlebcebihieiiaaDoorCWholeWalk
import Derived.Test.YtlebcebihieiiaaDoorERefUn
import Derived.Test.YtlebcebihieiiaaDoorESpan
namespace Go.Proofs.YtlebcebihieiiaaDoor
open Go.RowKit Go.Sort
set_option linter.unusedVariables false
theorem inner_false (t : ByteArray) : wfB (innerB false) t = wfB tagB t := by
  have : innerB false = tagB := by funext c; simp [innerB]
  rw [this]
theorem byte_at (s : ByteArray) (i : Nat) (hi : i < s.size) (c : UInt8) (hc : s[i] = c) : byte s i = c.toNat := byte_get (by rw [← hc]; exact Lib.data_getElem? s i hi)
/-- One step of the range over the text. -/
theorem next_step (wr : World) (B : Nat) (s : ByteArray) (i : Nat) (hit : wr.heap[B]? = some (.stringIter s i)) (hlt : i < s.size) :
    ∃ (r : Int) (k : Nat), 1 ≤ k ∧ i + k ≤ s.size ∧ (∀ j, i < j → j < i + k → ¬ Marked s j) ∧ (∀ ty, (Instr.next (.pointer (some ⟨B, 0, none⟩)) true ty).run Tryd.prog wr = .ok (.tuple #[.bool true, .int .i64 i, .int .i32 r]) (wr.iterAt B s (i + k))) := by
  have hxl : s.data.toList[i]? = some s[i] := Lib.data_getElem? s i hlt
  have hgx := E.get_list s i _ hxl
  by_cases hasc : (s[i]).toNat < 128
  · exact ⟨(s[i]).toNat, 1, by omega, by omega, fun j h1 h2 => by omega, fun ty => Lib.run_next_ascii_at (P := Tryd.prog) wr B s i ty hit hlt hasc⟩
  · have hsp := E.decode_span s i hlt (by rw [hgx]; omega)
    have hd := decode_high s i hlt (by omega)
    refine ⟨(Utf8.decode s i).1, (Utf8.decode s i).2, by omega, by omega, fun j h1 h2 hm => ?_, fun ty => Lib.run_next_any_at (P := Tryd.prog) wr B s i ty hit hlt⟩
    have h3 := hsp.2 (j - i) (by omega)
    rw [show i + (j - i) = j by omega] at h3
    have hj : j < s.size := by omega
    rw [E.get_list s j _ (Lib.data_getElem? s j hj)] at h3
    unfold Marked at hm
    rw [byte_at s j hj _ rfl] at hm
    omega
def NoneTo (s : ByteArray) (i : Nat) : Prop := ∀ j x, j < i → ¬ IsAt s j x
theorem noneTo_more {s : ByteArray} {i k : Nat} (h : NoneTo s i) (hm : ∀ j, i < j → j < i + k → ¬ Marked s j) (hi : ∀ x, ¬ IsAt s i x) : NoneTo s (i + k) := fun j x hj hx => by
  rcases Nat.lt_trichotomy j i with h1 | h1 | h1
  · exact h j x h1 hx
  · subst h1; exact hi x hx
  · exact hm j h1 hj (mark_at hx)
def RRel (s : ByteArray) (w : World) (B : Nat) (g : Nat) (wx : World) : Prop :=
  ∃ i : Nat, i ≤ s.size ∧ s.size - i ≤ g ∧ RowKit.Hid (wx.heap[B]? = some (.stringIter s i)) ∧ RowKit.Hid (BoxL wx w.heap.size zL) ∧ RowKit.Hid (NoneTo s i) ∧ RowKit.Hid (Below w.heap.size w wx)
set_option maxRecDepth 100000 in
set_option maxHeartbeats 4000000 in
theorem refRead_any (s : ByteArray) (w : World) (hs : s.size ≤ 2000) : Calls Tryd.prog 19 #[.string s] w (ReadPost w s) := by
  obtain ⟨w1, hw1⟩ : ∃ w1, w1 = lboxW w zL := ⟨_, rfl⟩
  have hbx : BoxL w1 w.heap.size zL := by rw [hw1]; exact BoxL.new w zL
  have hb1 : Below w.heap.size w w1 := by rw [hw1]; exact below_lbox w zL
  have HS1 := Lib.hid (show w1.heap.size = w.heap.size + 1 by rw [hw1]; simp)
  have HB1 := Lib.hid hb1; have HBX := Lib.hid hbx; have HW := Lib.hid hw1
  clear hw1 hb1 hbx
  go_enter Tryd.func19, Tryd.ntmps19
  go_wp2_with fail
  rw [show w.alloc (.cells #[.string ⟨#[]⟩, .string ⟨#[]⟩, .int .i64 0] 33) = w1 from HW.out.symm]
  have hlt1 : w.heap.size < w.heap.size + 1 := Nat.lt_succ_self _
  go_loopg [4] s.size (fun g _ wx => RRel s w (w.heap.size + 1) g wx)
  case atStart => exact ⟨0, by omega, by omega, Lib.hid (by rw [← HS1.out]; exact World.iter_heap w1 s 0), Lib.hid (HBX.out.below ((Below.refl _ _).alloc (Nat.le_refl _) _) HBX.out.lt), Lib.hid (fun j x hj => absurd hj (Nat.not_lt_zero _)), Lib.hid (HB1.out.trans (((Below.refl _ _).alloc (Nat.le_refl _) _).mono HB1.out.size))⟩
  case round =>
    obtain ⟨i, hi, hig, HIT, HBR, HNO, HBE⟩ := hrel
    by_cases hlt : i < s.size
    · obtain ⟨rr, k, hk1, hk2, hk3, hnx⟩ := next_step wr (w.heap.size + 1) s i HIT.out hlt
      obtain ⟨w2, hw2⟩ : ∃ w2, w2 = wr.iterAt (w.heap.size + 1) s (i + k) := ⟨_, rfl⟩
      rw [← hw2] at hnx
      have HI2 := Lib.hid (show w2.heap[(w.heap.size + 1)]? = some (.stringIter s (i + k)) by rw [hw2]; exact Lib.iterAt_heap wr (w.heap.size + 1) s i (i + k) HIT.out)
      have HB2 := Lib.hid (show Below w.heap.size w w2 by rw [hw2]; exact Lib.below_iterAt HBE.out (Nat.le_succ _) s (i + k))
      have HR2 := Lib.hid (show BoxL w2 w.heap.size zL by rw [hw2]; exact HBR.out.below (Lib.below_iterAt (Below.refl (w.heap.size + 1) wr) (Nat.le_refl _) s (i + k)) hlt1)
      have HMORE := Lib.hid (fun hx : ∀ x, ¬ IsAt s i x => noneTo_more HNO.out hk3 hx)
      clear hw2 hk3 HIT HBR HNO HBE
      obtain ⟨c, hc⟩ : ∃ c : UInt8, s[i]'hlt = c := ⟨_, rfl⟩
      have HBC := Lib.hid (byte_at s i hlt c hc)
      obtain ⟨t, ht⟩ : ∃ t, t = s.extract 0 i := ⟨_, rfl⟩
      have HT := Lib.hid ht
      have HTS := Lib.hid (show t.size = i by rw [ht]; exact pre_size s i (by omega))
      clear ht
      have hi0 : (0 : Int) ≤ (i : Int) := by omega
      have hi1 : (i : Int) ≤ (s.size : Int) := by omega
      have hi2 : (i : Int) + 1 ≤ (s.size : Int) := by omega
      have hi3 : (0 : Int) ≤ (i : Int) + 1 := by omega
      have hi4 : (i : Int) < (s.size : Int) := by omega
      have hwr : IntKind.i64.wrap ((i : Int) + 1) = (i : Int) + 1 := IntWalk.i64_in _ (by omega)
      obtain ⟨w3, hw3⟩ : ∃ w3, w3 = lboxW w2 ⟨t, noS, 0⟩ := ⟨_, rfl⟩
      have HX3 := Lib.hid (show BoxL w3 w2.heap.size ⟨t, noS, 0⟩ by rw [hw3]; exact BoxL.new w2 _)
      have hb3 : Below w2.heap.size w2 w3 := by rw [hw3]; exact below_lbox w2 _
      have HB3 := Lib.hid (HB2.out.trans (hb3.mono HB2.out.size))
      have HIL2 := Lib.hid (show (w.heap.size + 1) < w2.heap.size from (Array.getElem?_eq_some_iff.1 HI2.out).1)
      have HI3 := Lib.hid ((hb3.block _ HIL2.out).trans HI2.out)
      have HIL3 := Lib.hid (show (w.heap.size + 1) < w3.heap.size from (Array.getElem?_eq_some_iff.1 HI3.out).1)
      have HR3 := Lib.hid (HR2.out.below hb3 HR2.out.lt)
      have HNE3 := Lib.hid (show w.heap.size ≠ w2.heap.size from fun h => by have := HR2.out.lt; omega)
      have HW3 := Lib.hid hw3
      clear hw3 hb3
      obtain ⟨r, hr⟩ : ∃ r, r = s.extract (i + 1) s.size := ⟨_, rfl⟩
      have HRS := Lib.hid (show r.size ≤ 2000 by rw [hr, rest_size]; omega)
      have HRR := Lib.hid hr
      clear hr
      go_wp2_with fail
      rw [← HT.out]
      rw [show w2.alloc (.cells #[.string t, .string ⟨#[]⟩, .int .i64 0] 33) = w3 from HW3.out.symm]
      refine (named_any t false w3 (by rw [HTS.out]; unfold maxLen; omega)).mono ?_
      rintro e w' ⟨rfl, rfl⟩
      rw [inner_false]
      cases hwf : wfB tagB t with
      | false =>
        have HWF := Lib.hid hwf
        clear hwf
        go_wp2_with fail
        go_roundg (gk - k)
        case measure => omega
        case rel => exact ⟨i + k, by omega, by omega, HI3, HR3, Lib.hid (HMORE.out (fun x hx => by have := hx.2.1; rw [← HT.out, HWF.out] at this; cases this)), HB3⟩
      | true =>
        have HWF := Lib.hid hwf
        clear hwf
        obtain ⟨n, b, hn⟩ : ∃ n b, C.whN r.data.toList = (n, b) := ⟨_, _, rfl⟩
        have HN := Lib.hid hn
        obtain ⟨u, p, er, hu⟩ : ∃ u p er, E.unesc r.data.toList = (u, p, er) := ⟨_, _, _, rfl⟩
        obtain ⟨uk, huk⟩ : ∃ uk, uk = E.str u := ⟨_, rfl⟩
        have hor := E.unesc_only r.data.toList
        rw [hu] at hor
        have HU := Lib.hid hu
        have HUK := Lib.hid huk
        have HOR := Lib.hid (show er = 0 ∨ er = 2 by rcases hor with h | h; exact .inl h.1; exact .inr h.1)
        have HC3 := Lib.hid (C.refWhole_any r w3 (by have := HRS.out; omega))
        clear hn hu huk hor
        go_wp2_with fail
        rw [← HRR.out]
        refine HC3.out.mono ?_
        unfold C.WholePost
        rw [HN.out]
        rintro e w3a ⟨rfl, hb3a⟩
        dsimp only
        have HB3a := Lib.hid (HB3.out.trans (hb3a.mono HB3.out.size))
        have HX3a := Lib.hid (HX3.out.below hb3a HX3.out.lt)
        have HR3a := Lib.hid (HR3.out.below hb3a HR3.out.lt)
        have HI3a := Lib.hid ((hb3a.block _ HIL3.out).trans HI3.out)
        have HIL3a := Lib.hid (show (w.heap.size + 1) < w3a.heap.size from (Array.getElem?_eq_some_iff.1 HI3a.out).1)
        clear hb3a HB3 HX3 HR3 HI3 HIL3 HC3
        have HUC := Lib.hid (E.refUnescape_any r w3a (by have := HRS.out; omega))
        by_cases h58 : c = 58
        · subst h58
          obtain ⟨c0, c1, c2⟩ := HX3a.out.cells
          have f0 := HX3a.out.frozen 0; have f1 := HX3a.out.frozen 1; have f2 := HX3a.out.frozen 2
          obtain ⟨d0, d1, d2⟩ := HR3a.out.cells
          have g0 := HR3a.out.frozen 0; have g1 := HR3a.out.frozen 1; have g2 := HR3a.out.frozen 2
          have hne := HNE3.out
          have hne' := hne.symm
          cases b with
          | true =>
            by_cases hn1 : 1 ≤ n
            · have HN1 := Lib.hid hn1
              go_wp2_with fail
              refine bodyPost_ret (results_rread _ _ w.heap.size ⟨t, noS, n⟩ (.int .i64 0) rfl rfl ((HR3a.out.otherCell HNE3.out _).put ⟨t, noS, n⟩)) rfl ?_
              exact ⟨some ⟨t, noS, n⟩, readIs_some (i := i) ⟨hlt, by rw [← HT.out]; exact HWF.out, HT.out, .inl ⟨HBC.out, by rw [show restOf s i = r from HRR.out.symm]; exact ⟨HN.out, HN1.out, rfl⟩⟩⟩, rfl, putL_below (Nat.le_refl _) ⟨t, noS, n⟩ (HB3a.out.setCell (p := ⟨w2.heap.size, 2, none⟩) HB2.out.size _)⟩
            · have HN1 := Lib.hid hn1
              clear c0 c1 c2 f0 f1 f2 d0 d1 d2 g0 g1 g2 hne hne'
              go_wp2_with fail
              rw [← HRR.out]
              refine HUC.out.mono ?_
              unfold E.UPost
              rw [HU.out]
              rintro e w4 ⟨rfl, hb4⟩
              dsimp only
              rw [← HUK.out]
              have HB4 := Lib.hid (HB3a.out.trans (hb4.mono HB3a.out.size))
              have HX4 := Lib.hid (HX3a.out.below hb4 HX3a.out.lt)
              have HR4 := Lib.hid (HR3a.out.below hb4 HR3a.out.lt)
              have HI4 := Lib.hid ((hb4.block _ HIL3a.out).trans HI3a.out)
              clear hb4
              obtain ⟨c0, c1, c2⟩ := HX4.out.cells
              have f0 := HX4.out.frozen 0; have f1 := HX4.out.frozen 1; have f2 := HX4.out.frozen 2
              obtain ⟨d0, d1, d2⟩ := HR4.out.cells
              have g0 := HR4.out.frozen 0; have g1 := HR4.out.frozen 1; have g2 := HR4.out.frozen 2
              have hne := HNE3.out
              have hne' := hne.symm
              go_wp2_with fail
              go_roundg (gk - k)
              case measure => omega
              case rel => exact ⟨i + k, by omega, by omega, HI4, HR4, Lib.hid (HMORE.out (fun x hx => by
                              rcases hx.2.2.2 with ⟨h1, h2⟩ | ⟨h1, h2⟩
                              · rw [show restOf s i = r from HRR.out.symm] at h2; have h3 := HN.out.symm.trans h2.1; simp at h3; have := h2.2.1; have := HN1.out; omega
                              · rw [HBC.out] at h1; cases h1)), HB4⟩
          | false =>
            clear c0 c1 c2 f0 f1 f2 d0 d1 d2 g0 g1 g2 hne hne'
            go_wp2_with fail
            rw [← HRR.out]
            refine HUC.out.mono ?_
            unfold E.UPost
            rw [HU.out]
            rintro e w4 ⟨rfl, hb4⟩
            dsimp only
            rw [← HUK.out]
            have HB4 := Lib.hid (HB3a.out.trans (hb4.mono HB3a.out.size))
            have HX4 := Lib.hid (HX3a.out.below hb4 HX3a.out.lt)
            have HR4 := Lib.hid (HR3a.out.below hb4 HR3a.out.lt)
            have HI4 := Lib.hid ((hb4.block _ HIL3a.out).trans HI3a.out)
            clear hb4
            obtain ⟨c0, c1, c2⟩ := HX4.out.cells
            have f0 := HX4.out.frozen 0; have f1 := HX4.out.frozen 1; have f2 := HX4.out.frozen 2
            obtain ⟨d0, d1, d2⟩ := HR4.out.cells
            have g0 := HR4.out.frozen 0; have g1 := HR4.out.frozen 1; have g2 := HR4.out.frozen 2
            have hne := HNE3.out
            have hne' := hne.symm
            go_wp2_with fail
            go_roundg (gk - k)
            case measure => omega
            case rel => exact ⟨i + k, by omega, by omega, HI4, HR4, Lib.hid (HMORE.out (fun x hx => by
                          rcases hx.2.2.2 with ⟨h1, h2⟩ | ⟨h1, h2⟩
                          · rw [show restOf s i = r from HRR.out.symm] at h2; have h3 := HN.out.symm.trans h2.1; simp at h3
                          · rw [HBC.out] at h1; cases h1)), HB4⟩
        · have h58' : ¬ (c.toNat : Int) = 58 := fun h => h58 (UInt8.toNat_inj.1 (by have : (58 : UInt8).toNat = 58 := rfl; omega))
          have hb58 : ((c.toNat : Int) == 58) = false := by simpa using h58'
          by_cases h35 : c = 35
          · subst h35
            clear h58 h58' hb58
            have HNUM := Lib.hid (show ∀ x, IsAt s i x → KeyAt r x from fun x hx => by
              rcases hx.2.2.2 with ⟨h1, h2⟩ | ⟨h1, h2⟩
              · rw [HBC.out] at h1; cases h1
              · rw [show restOf s i = r from HRR.out.symm] at h2; exact h2)
            rcases HOR.out with he | he
            · subst he
              by_cases hke : uk = noS
              · have hk' : uk.toList.isEmpty = true := isEmpty_noS.2 hke
                have HKE := Lib.hid hke
                clear hke
                go_wp2_with fail
                rw [← HRR.out]
                refine HUC.out.mono ?_
                unfold E.UPost
                rw [HU.out]
                rintro e w4 ⟨rfl, hb4⟩
                dsimp only
                rw [← HUK.out]
                have HB4 := Lib.hid (HB3a.out.trans (hb4.mono HB3a.out.size))
                have HX4 := Lib.hid (HX3a.out.below hb4 HX3a.out.lt)
                have HR4 := Lib.hid (HR3a.out.below hb4 HR3a.out.lt)
                have HI4 := Lib.hid ((hb4.block _ HIL3a.out).trans HI3a.out)
                clear hb4
                obtain ⟨c0, c1, c2⟩ := HX4.out.cells
                have f0 := HX4.out.frozen 0; have f1 := HX4.out.frozen 1; have f2 := HX4.out.frozen 2
                obtain ⟨d0, d1, d2⟩ := HR4.out.cells
                have g0 := HR4.out.frozen 0; have g1 := HR4.out.frozen 1; have g2 := HR4.out.frozen 2
                have hne := HNE3.out
                have hne' := hne.symm
                go_wp2_with fail
                go_roundg (gk - k)
                case measure => omega
                case rel => exact ⟨i + k, by omega, by omega, HI4, HR4, Lib.hid (HMORE.out (fun x hx => by have h1 := HNUM.out x hx; have h2 := h1.2.1; rw [HU.out, ← HUK.out] at h2; exact h1.2.2.1 (h2.trans HKE.out))), HB4⟩
              · have hk' : uk.toList.isEmpty = false := by
                  cases hb : uk.toList.isEmpty with
                  | true => exact absurd (isEmpty_noS.1 hb) hke
                  | false => rfl
                have HKE := Lib.hid hke
                clear hke
                by_cases hfit : (uk.size : Int) ≤ 65536
                · have HFI := Lib.hid hfit
                  go_wp2_with fail
                  rw [← HRR.out]
                  refine HUC.out.mono ?_
                  unfold E.UPost
                  rw [HU.out]
                  rintro e w4 ⟨rfl, hb4⟩
                  dsimp only
                  rw [← HUK.out]
                  have HB4 := Lib.hid (HB3a.out.trans (hb4.mono HB3a.out.size))
                  have HX4 := Lib.hid (HX3a.out.below hb4 HX3a.out.lt)
                  have HR4 := Lib.hid (HR3a.out.below hb4 HR3a.out.lt)
                  have HI4 := Lib.hid ((hb4.block _ HIL3a.out).trans HI3a.out)
                  clear hb4
                  obtain ⟨c0, c1, c2⟩ := HX4.out.cells
                  have f0 := HX4.out.frozen 0; have f1 := HX4.out.frozen 1; have f2 := HX4.out.frozen 2
                  obtain ⟨d0, d1, d2⟩ := HR4.out.cells
                  have g0 := HR4.out.frozen 0; have g1 := HR4.out.frozen 1; have g2 := HR4.out.frozen 2
                  have hne := HNE3.out
                  have hne' := hne.symm
                  go_wp2_with fail
                  refine bodyPost_ret (results_rread _ _ w.heap.size ⟨t, uk, 0⟩ (.int .i64 0) rfl rfl ((HR4.out.otherCell HNE3.out _).put ⟨t, uk, 0⟩)) rfl ?_
                  exact ⟨some ⟨t, uk, 0⟩, readIs_some (i := i) ⟨hlt, by rw [← HT.out]; exact HWF.out, HT.out, .inr ⟨HBC.out, by rw [show restOf s i = r from HRR.out.symm]; exact ⟨by rw [HU.out], by rw [HU.out]; exact HUK.out, HKE.out, by have := HFI.out; show uk.size ≤ 65536; omega, rfl⟩⟩⟩, rfl, putL_below (Nat.le_refl _) ⟨t, uk, 0⟩ (HB4.out.setCell (p := ⟨w2.heap.size, 1, none⟩) HB2.out.size _)⟩
                · have HFI := Lib.hid hfit
                  go_wp2_with fail
                  rw [← HRR.out]
                  refine HUC.out.mono ?_
                  unfold E.UPost
                  rw [HU.out]
                  rintro e w4 ⟨rfl, hb4⟩
                  dsimp only
                  rw [← HUK.out]
                  have HB4 := Lib.hid (HB3a.out.trans (hb4.mono HB3a.out.size))
                  have HX4 := Lib.hid (HX3a.out.below hb4 HX3a.out.lt)
                  have HR4 := Lib.hid (HR3a.out.below hb4 HR3a.out.lt)
                  have HI4 := Lib.hid ((hb4.block _ HIL3a.out).trans HI3a.out)
                  clear hb4
                  obtain ⟨c0, c1, c2⟩ := HX4.out.cells
                  have f0 := HX4.out.frozen 0; have f1 := HX4.out.frozen 1; have f2 := HX4.out.frozen 2
                  obtain ⟨d0, d1, d2⟩ := HR4.out.cells
                  have g0 := HR4.out.frozen 0; have g1 := HR4.out.frozen 1; have g2 := HR4.out.frozen 2
                  have hne := HNE3.out
                  have hne' := hne.symm
                  go_wp2_with fail
                  go_roundg (gk - k)
                  case measure => omega
                  case rel => exact ⟨i + k, by omega, by omega, HI4, HR4, Lib.hid (HMORE.out (fun x hx => by have h1 := HNUM.out x hx; have h2 := h1.2.1; rw [HU.out, ← HUK.out] at h2; have h3 := h1.2.2.2.1; rw [h2] at h3; have := HFI.out; omega)), HB4⟩
            · subst he
              go_wp2_with fail
              rw [← HRR.out]
              refine HUC.out.mono ?_
              unfold E.UPost
              rw [HU.out]
              rintro e w4 ⟨rfl, hb4⟩
              dsimp only
              rw [← HUK.out]
              have HB4 := Lib.hid (HB3a.out.trans (hb4.mono HB3a.out.size))
              have HX4 := Lib.hid (HX3a.out.below hb4 HX3a.out.lt)
              have HR4 := Lib.hid (HR3a.out.below hb4 HR3a.out.lt)
              have HI4 := Lib.hid ((hb4.block _ HIL3a.out).trans HI3a.out)
              clear hb4
              obtain ⟨c0, c1, c2⟩ := HX4.out.cells
              have f0 := HX4.out.frozen 0; have f1 := HX4.out.frozen 1; have f2 := HX4.out.frozen 2
              obtain ⟨d0, d1, d2⟩ := HR4.out.cells
              have g0 := HR4.out.frozen 0; have g1 := HR4.out.frozen 1; have g2 := HR4.out.frozen 2
              have hne := HNE3.out
              have hne' := hne.symm
              go_wp2_with fail
              go_roundg (gk - k)
              case measure => omega
              case rel => exact ⟨i + k, by omega, by omega, HI4, HR4, Lib.hid (HMORE.out (fun x hx => by have h1 := (HNUM.out x hx).1; rw [HU.out] at h1; cases h1)), HB4⟩
          · have h35' : ¬ (c.toNat : Int) = 35 := fun h => h35 (UInt8.toNat_inj.1 (by have : (35 : UInt8).toNat = 35 := rfl; omega))
            have hb35 : ((c.toNat : Int) == 35) = false := by simpa using h35'
            have H58 := Lib.hid h58'; have H35 := Lib.hid h35'
            clear h58 h35
            go_wp2_with fail
            rw [← HRR.out]
            refine HUC.out.mono ?_
            unfold E.UPost
            rw [HU.out]
            rintro e w4 ⟨rfl, hb4⟩
            dsimp only
            rw [← HUK.out]
            have HB4 := Lib.hid (HB3a.out.trans (hb4.mono HB3a.out.size))
            have HX4 := Lib.hid (HX3a.out.below hb4 HX3a.out.lt)
            have HR4 := Lib.hid (HR3a.out.below hb4 HR3a.out.lt)
            have HI4 := Lib.hid ((hb4.block _ HIL3a.out).trans HI3a.out)
            clear hb4
            obtain ⟨c0, c1, c2⟩ := HX4.out.cells
            have f0 := HX4.out.frozen 0; have f1 := HX4.out.frozen 1; have f2 := HX4.out.frozen 2
            obtain ⟨d0, d1, d2⟩ := HR4.out.cells
            have g0 := HR4.out.frozen 0; have g1 := HR4.out.frozen 1; have g2 := HR4.out.frozen 2
            have hne := HNE3.out
            have hne' := hne.symm
            go_wp2_with fail
            go_roundg (gk - k)
            case measure => omega
            case rel => exact ⟨i + k, by omega, by omega, HI4, HR4, Lib.hid (HMORE.out (fun x hx => by
                          rcases hx.2.2.2 with ⟨h1, h2⟩ | ⟨h1, h2⟩
                          · rw [HBC.out] at h1; exact H58.out h1
                          · rw [HBC.out] at h1; exact H35.out h1)), HB4⟩
    · obtain rfl : i = s.size := by omega
      have hnx := fun ty => Lib.run_next_end_at (P := Tryd.prog) wr (w.heap.size + 1) s s.size ty HIT.out (by omega)
      obtain ⟨d0, d1, d2⟩ := HBR.out.cells
      have g0 := HBR.out.frozen 0; have g1 := HBR.out.frozen 1; have g2 := HBR.out.frozen 2
      go_wp2_with fail
      refine bodyPost_ret (results_rread _ _ w.heap.size zL (.int .i64 2) rfl rfl (HBR.out.put zL)) rfl ?_
      exact ⟨none, readIs_none (fun j x hx => HNO.out j x hx.1 hx), rfl, putL_below (Nat.le_refl _) zL HBE.out⟩
end Go.Proofs.YtlebcebihieiiaaDoor
