/-
  The law DatumBack: its walk.
-/
import Derived.Test.YtjnhcoflmechmaaGreatDoorDLaw8
import Derived.Test.YtjnhcoflmechmaaGreatDoorDFew
import Derived.Test.YtjnhcoflmechmaaGreatDoorDRPrint
import Derived.Deep.RegionHeld3
namespace Go.Proofs.YtjnhcoflmechmaaGreatDoor
open Go.RowKit Go.Sort
set_option linter.unusedVariables false
set_option maxRecDepth 100000
/-- The value in its box, and all else as it was. -/
structure LwS (w1 : World) (B : Nat) (d : Dt) (x : NV) (W : World) : Prop where
  c : DatCells W B 0 d x
  b : Below w1.heap.size w1 W
theorem LwS.step {w1 : World} {B : Nat} {d : Dt} {x : NV} {W W' : World} (h : LwS w1 B d x W) (hB : B < w1.heap.size) (hb : Below W.heap.size W W') : LwS w1 B d x W' := ⟨h.c.below (hb.mono h.b.size) hB, h.b.trans (hb.mono h.b.size)⟩
theorem LwS.all {w1 : World} {B : Nat} {d : Dt} {x : NV} {W : World} (h : LwS w1 B d x W) : (W.cell? ⟨B, 0, none⟩ = some (.int .i64 d.kind) ∧ W.cell? ⟨B, 1, none⟩ = some (.int .i64 d.num) ∧ W.cell? ⟨B, 2, none⟩ = some (.string d.text) ∧ W.cell? ⟨B, 3, none⟩ = some (.slice x.A d.names.length x.ca) ∧ W.cell? ⟨B, 4, none⟩ = some (.slice x.K d.list.length x.ck) ∧ LwS w1 B d x W) := by
  obtain ⟨c0, c1, c2, c3, c4⟩ := h.c
  exact ⟨c0, c1, c2, c3, c4, h⟩
theorem LwS.hd {w1 : World} {B : Nat} {d : Dt} {x : NV} {W : World} (hB : B < w1.heap.size) (h : RowKit.Hid (LwS w1 B d x W)) : LwS w1 B d x W.drew := h.out.step hB (below_drewN _ W 1)
theorem keepL {w1 : World} {B : Nat} {d : Dt} {x : NV} {W W' : World} (hB : B < w1.heap.size) (hb : Below W.heap.size W W') (h : (W.cell? ⟨B, 0, none⟩ = some (.int .i64 d.kind) ∧ W.cell? ⟨B, 1, none⟩ = some (.int .i64 d.num) ∧ W.cell? ⟨B, 2, none⟩ = some (.string d.text) ∧ W.cell? ⟨B, 3, none⟩ = some (.slice x.A d.names.length x.ca) ∧ W.cell? ⟨B, 4, none⟩ = some (.slice x.K d.list.length x.ck) ∧ LwS w1 B d x W)) : (W'.cell? ⟨B, 0, none⟩ = some (.int .i64 d.kind) ∧ W'.cell? ⟨B, 1, none⟩ = some (.int .i64 d.num) ∧ W'.cell? ⟨B, 2, none⟩ = some (.string d.text) ∧ W'.cell? ⟨B, 3, none⟩ = some (.slice x.A d.names.length x.ca) ∧ W'.cell? ⟨B, 4, none⟩ = some (.slice x.K d.list.length x.ck) ∧ LwS w1 B d x W') := (h.2.2.2.2.2.step hB hb).all
theorem text_short {d : Dt} (hg : GoodD d) (hr : RightP d) : (strB (textD d)).size ≤ 1000000000 := by
  have h := textD_le d (good_nums hg) 2000 0 hr
  rw [← size_list, strB_data]
  unfold RightP at hr
  omega
theorem val_print {d : Dt} (hg : GoodD d) (hr : RightP d) : valP 0 (restL (strB (textD d)) 0) = .ok d [] := by
  have h := val_text d (good_nums hg) 2000 0 hr [] stops_nil
  rw [List.append_nil] at h
  exact h
set_option maxHeartbeats 8000000 in
theorem law7_any (d : Dt) (x : NV) (w : World) (ht : DatAt w w.heap.size d x) (hf : FitD d) (hv : Vars w) : Calls Tryz.prog 7 #[datV d x] w (TrueP w) := by
  obtain ⟨w1, hw1⟩ : ∃ w1, w1 = boxD w d x := ⟨_, rfl⟩
  have hb1 : Below w.heap.size w w1 := by rw [hw1]; exact below_boxD _ _ _
  have hx1 : DatCells w1 w.heap.size 0 d x := by rw [hw1]; exact box_dat _ _ _
  have hB := hx1.block_lt
  have HA1 := Lib.hid (ht.up hb1)
  have HB1 := Lib.hid hb1
  have HV1 := Lib.hid (hv.belowC hb1)
  have CF := Lib.hid (fewD_any d x 3000 w1 (ht.up hb1) hf (by decide))
  have HW1 := Lib.hid hw1
  have HS1 := Lib.hid (show LwS w1 w.heap.size d x w1 from ⟨hx1, Below.refl _ _⟩)
  have HT := Lib.hid (show ∀ W, LwS w1 w.heap.size d x W → DatAt W W.heap.size d x ∧ Vars W ∧ Below w.heap.size w W from fun W h => ⟨HA1.out.up h.b, HV1.out.belowC h.b, HB1.out.trans (h.b.mono HB1.out.size)⟩)
  obtain ⟨p0, p1, p2, p3, p4⟩ := hx1
  clear hw1 hb1 ht hf hv HA1 HB1 HV1
  go_enter Tryz.func7, Tryz.ntmps7
  go_upto_region 1 with (fail)
  rw [boxD_out HW1]
  clear HW1
  go_wp2_with fail
  refine CF.out.mono ?_
  rintro e w2 ⟨r, rfl, hr, hb2⟩
  have HS2 := Lib.hid (HS1.out.step hB hb2)
  have HR := Lib.hid hr
  clear hb2 hr CF HS1 p0 p1 p2 p3 p4
  cases r with
  | false =>
    have CS := Lib.hid (same_any w2 (HT.out w2 HS2.out).2.1)
    go_wp2_with fail
    refine CS.out.mono ?_
    rintro e w3 hs
    have HF := Lib.hid (SameP.true (HT.out w2 HS2.out).2.2 hs)
    obtain ⟨rfl, -⟩ := hs
    clear CS
    go_wp2_with fail
    go_ret
    exact HF.out
  | true =>
    obtain ⟨hg, -⟩ := HR.out rfl
    have HG := Lib.hid hg
    have CP := Lib.hid (print_any d x w2 (HT.out w2 HS2.out).1 hg (HT.out w2 HS2.out).2.1)
    obtain ⟨p0, p1, p2, p3, p4⟩ := HS2.out.c
    clear hg HR
    go_wp2_with fail
    refine CP.out.mono ?_
    rintro e w3 ⟨hp, hb3⟩
    have HS3 := Lib.hid (HS2.out.step hB hb3)
    clear p0 p1 p2 p3 p4 hb3 CP HS2
    have CR := Lib.hid (show ∀ W, LwS w1 w.heap.size d x W → Calls Tryz.prog 22 #[datV d x] W (BoolP (RightP d) W) from fun W h => right_any d x W (HT.out W h).1 HG.out)
    have CRR := Lib.hid (show ∀ W, LwS w1 w.heap.size d x W → Calls Tryz.prog 23 #[datV d x] W (BoolP (RightP d) W) from fun W h => refRight_any d x W (HT.out W h).1 HG.out)
    by_cases hrt : RightP d
    · have he : e = .returned (.tuple #[.string (strB (textD d)), .int .i64 0]) := by
        rcases hp with ⟨_, he⟩ | ⟨hn, _⟩
        · exact he
        · exact absurd hrt hn
      subst he
      have HRT := Lib.hid hrt
      have CR2 := Lib.hid (show ∀ W, LwS w1 w.heap.size d x W → Calls Tryz.prog 22 #[datV d x] W (fun e w' => e = .returned (.bool true) ∧ Below W.heap.size W w') from fun W h => (CR.out W h).mono (fun e w' ⟨b, h1, h2, h3⟩ => ⟨by rw [h1, h2.2 HRT.out], h3⟩))
      have CRR2 := Lib.hid (show ∀ W, LwS w1 w.heap.size d x W → Calls Tryz.prog 23 #[datV d x] W (fun e w' => e = .returned (.bool true) ∧ Below W.heap.size W w') from fun W h => (CRR.out W h).mono (fun e w' ⟨b, h1, h2, h3⟩ => ⟨by rw [h1, h2.2 HRT.out], h3⟩))
      clear hp hrt CR CRR
      obtain ⟨p0, p1, p2, p3, p4⟩ := HS3.out.c
      go_wp2_with fail
      go_region_held3 (fun W => (W.cell? ⟨w.heap.size, 0, none⟩ = some (.int .i64 d.kind) ∧ W.cell? ⟨w.heap.size, 1, none⟩ = some (.int .i64 d.num) ∧ W.cell? ⟨w.heap.size, 2, none⟩ = some (.string d.text) ∧ W.cell? ⟨w.heap.size, 3, none⟩ = some (.slice x.A d.names.length x.ca) ∧ W.cell? ⟨w.heap.size, 4, none⟩ = some (.slice x.K d.list.length x.ck) ∧ LwS w1 w.heap.size d x W))
        (first | assumption | exact (LwS.hd hB HS3).all)
        ((first
          | (go_at_call 22; refine (CR2.out _ (And.right (And.right (And.right (And.right (And.right (by assumption : _ ∧ _ ∧ _ ∧ _ ∧ _ ∧ LwS w1 w.heap.size d x _))))))).mono ?_; rintro e w7 ⟨rfl, hb7⟩; have hfin := keepL hB hb7 (by assumption))
          | (go_at_call 23; refine (CRR2.out _ (And.right (And.right (And.right (And.right (And.right (by assumption : _ ∧ _ ∧ _ ∧ _ ∧ _ ∧ LwS w1 w.heap.size d x _))))))).mono ?_; rintro e w7 ⟨rfl, hb7⟩; have hfin := keepL hB hb7 (by assumption))))
      have HS4 := Lib.hid hfin.2.2.2.2.2
      clear p0 p1 p2 p3 p4
      obtain ⟨p0, p1, p2, p3, p4, -⟩ := hfin
      clear HS3
      go_wp2_with fail
      refine (CRR2.out _ HS4.out).mono ?_
      rintro e w5 ⟨rfl, hb5⟩
      have HS5 := Lib.hid (HS4.out.step hB hb5)
      have C1 := Lib.hid (parse_any (strB (textD d)) w5 (text_short HG.out HRT.out) (HT.out w5 HS5.out).2.1 (fun d' l h _ => by rw [val_print HG.out HRT.out] at h; cases h; exact HG.out))
      have HSY := Lib.hid (ParSays.good (s := strB (textD d)) d (val_print HG.out HRT.out) HRT.out)
      obtain ⟨st, hst⟩ : ∃ st, st = strB (textD d) := ⟨_, rfl⟩
      have HFI := Lib.hid (fine_of d 2000 0 HRT.out)
      have HLN := Lib.hid (text_short HG.out HRT.out)
      clear hb5 HS4 CR2 CRR2 p0 p1 p2 p3 p4
      obtain ⟨p0, p1, p2, p3, p4⟩ := HS5.out.c
      go_wp2_with fail
      refine C1.out.mono ?_
      rintro e w6 ⟨d', x', a', er', rfl, hsy, hda, hgd, hb6⟩
      obtain ⟨hd', rfl, rfl⟩ := hsy.uniq HSY.out
      obtain ⟨w7, hw7⟩ : ∃ w7, w7 = boxD w6 d' x' := ⟨_, rfl⟩
      have hb67 : Below w6.heap.size w6 w7 := by rw [hw7]; exact below_boxD _ _ _
      have hx7 : DatCells w7 w6.heap.size 0 d' x' := by rw [hw7]; exact box_dat _ _ _
      have hX7 := hx7.block_lt
      have HA7 := Lib.hid (hda.up hb67)
      have HS7 := Lib.hid (HS5.out.step hB (hb6.trans (hb67.mono hb6.size)))
      have HX7 := Lib.hid hx7; have HW7 := Lib.hid hw7; have HD' := Lib.hid hd'
      have C2 := Lib.hid (refPrint_any d HFI.out HG.out x w7 (HT.out w7 HS7.out).1 (by have := HLN.out; rw [← size_list, strB_data] at this; omega))
      have HGD := Lib.hid hgd
      clear hsy hd' hda hgd hb6 hw7 hb67 hx7 C1 HS5 p0 p1 p2 p3 p4 hst
      obtain ⟨p0, p1, p2, p3, p4⟩ := HS7.out.c
      go_upto_region 9 with (fail)
      rw [boxD_out HW7]
      clear HW7
      go_wp2_with fail
      refine C2.out.mono ?_
      rintro e w8 ⟨rfl, hb8⟩
      have HS8 := Lib.hid (HS7.out.step hB hb8)
      have C3 := Lib.hid (same16_any d' d x' x w8 (HA7.out.up hb8) (HT.out w8 HS8.out).1 HGD.out HG.out)
      have HX8 := Lib.hid (HX7.out.below hb8 hX7)
      clear hb8 C2 HS7 HA7 HX7 p0 p1 p2 p3 p4
      obtain ⟨p0, p1, p2, p3, p4⟩ := HS8.out.c
      obtain ⟨q0, q1, q2, q3, q4⟩ := HX8.out
      go_wp2_with fail
      refine C3.out.mono ?_
      rintro e w10 ⟨r, rfl, hr, hb10⟩
      obtain rfl : r = true := hr.2 HD'.out
      have HS10 := Lib.hid (HS8.out.step hB hb10)
      have CS := Lib.hid (same_any w10 (HT.out w10 HS10.out).2.1)
      clear hr hb10 C3 HS8 HX8 HD' p0 p1 p2 p3 p4 q0 q1 q2 q3 q4
      go_wp2_with fail
      refine CS.out.mono ?_
      rintro e w9 hs
      have HF := Lib.hid (SameP.true ((HT.out w10 HS10.out).2.2) hs)
      obtain ⟨rfl, -⟩ := hs
      clear CS
      go_wp2_with fail
      go_ret
      exact HF.out
    · have he : e = .returned (.tuple #[.string ⟨#[]⟩, .int .i64 24]) := by
        rcases hp with ⟨hn, _⟩ | ⟨_, he⟩
        · exact absurd hn hrt
        · exact he
      subst he
      have HRT := Lib.hid hrt
      have CR2 := Lib.hid (show ∀ W, LwS w1 w.heap.size d x W → Calls Tryz.prog 22 #[datV d x] W (fun e w' => e = .returned (.bool false) ∧ Below W.heap.size W w') from fun W h => (CR.out W h).mono (fun e w' ⟨b, h1, h2, h3⟩ => ⟨by cases b with | false => exact h1 | true => exact absurd (h2.1 rfl) HRT.out, h3⟩))
      have CRR2 := Lib.hid (show ∀ W, LwS w1 w.heap.size d x W → Calls Tryz.prog 23 #[datV d x] W (fun e w' => e = .returned (.bool false) ∧ Below W.heap.size W w') from fun W h => (CRR.out W h).mono (fun e w' ⟨b, h1, h2, h3⟩ => ⟨by cases b with | false => exact h1 | true => exact absurd (h2.1 rfl) HRT.out, h3⟩))
      clear hp hrt CR CRR
      obtain ⟨p0, p1, p2, p3, p4⟩ := HS3.out.c
      go_wp2_with fail
      go_region_held3 (fun W => (W.cell? ⟨w.heap.size, 0, none⟩ = some (.int .i64 d.kind) ∧ W.cell? ⟨w.heap.size, 1, none⟩ = some (.int .i64 d.num) ∧ W.cell? ⟨w.heap.size, 2, none⟩ = some (.string d.text) ∧ W.cell? ⟨w.heap.size, 3, none⟩ = some (.slice x.A d.names.length x.ca) ∧ W.cell? ⟨w.heap.size, 4, none⟩ = some (.slice x.K d.list.length x.ck) ∧ LwS w1 w.heap.size d x W))
        (first | assumption | exact (LwS.hd hB HS3).all)
        ((first
          | (go_at_call 22; refine (CR2.out _ (And.right (And.right (And.right (And.right (And.right (by assumption : _ ∧ _ ∧ _ ∧ _ ∧ _ ∧ LwS w1 w.heap.size d x _))))))).mono ?_; rintro e w7 ⟨rfl, hb7⟩; have hfin := keepL hB hb7 (by assumption))
          | (go_at_call 23; refine (CRR2.out _ (And.right (And.right (And.right (And.right (And.right (by assumption : _ ∧ _ ∧ _ ∧ _ ∧ _ ∧ LwS w1 w.heap.size d x _))))))).mono ?_; rintro e w7 ⟨rfl, hb7⟩; have hfin := keepL hB hb7 (by assumption))))
      have HS4 := Lib.hid hfin.2.2.2.2.2
      clear p0 p1 p2 p3 p4
      obtain ⟨p0, p1, p2, p3, p4, -⟩ := hfin
      clear HS3
      go_wp2_with fail
      refine (CRR2.out _ HS4.out).mono ?_
      rintro e w5 ⟨rfl, hb5⟩
      have HS5 := Lib.hid (HS4.out.step hB hb5)
      have CS := Lib.hid (same_any w5 (HT.out w5 HS5.out).2.1)
      clear hb5 HS4 CR2 CRR2 p0 p1 p2 p3 p4
      go_wp2_with fail
      refine CS.out.mono ?_
      rintro e w9 hs
      have HF := Lib.hid (SameP.true ((HT.out w5 HS5.out).2.2) hs)
      obtain ⟨rfl, -⟩ := hs
      clear CS
      go_wp2_with fail
      go_ret
      exact HF.out
end Go.Proofs.YtjnhcoflmechmaaGreatDoor
