/-
  tendrillaw11.VtreeChecks: true, whatever the tree.
-/
import Derived.Test.YtlebcebihieiiaaSameV
import Derived.Deep.RegionHeld3
namespace Go.Proofs.Ytlebcebihieiiaa
open Go.RowKit Go.Sort
set_option linter.unusedVariables false
def TrueB (w : World) (e : Ending) (w' : World) : Prop := e = .returned (.bool true) ∧ Below w.heap.size w w'
theorem ok_len {t : Tr} (h : (seenL aloneT t).2 = 0) : itemsL t = (seenL aloneT t).1 := by
  obtain ⟨h1, h2, h3, h4, h5⟩ := visit_below aloneT t 1 (-1) [] (Clean.nil aloneT)
  exact h4 h
theorem keepS {w1 W W' : World} {b : Nat} {t : Tr} {x : NV} (hb : Below W.heap.size W W')
    (h : W.cell? ⟨b, 0, none⟩ = some (.string t.tag) ∧ W.cell? ⟨b, 1, none⟩ = some (.string t.key) ∧ W.cell? ⟨b, 2, none⟩ = some (.string t.text) ∧ W.cell? ⟨b, 3, none⟩ = some (.slice x.A t.as.length x.ca) ∧ W.cell? ⟨b, 4, none⟩ = some (.slice x.K t.kids.length x.ck) ∧ RowKit.Hid (Below w1.heap.size w1 W)) :
    W'.cell? ⟨b, 0, none⟩ = some (.string t.tag) ∧ W'.cell? ⟨b, 1, none⟩ = some (.string t.key) ∧ W'.cell? ⟨b, 2, none⟩ = some (.string t.text) ∧ W'.cell? ⟨b, 3, none⟩ = some (.slice x.A t.as.length x.ca) ∧ W'.cell? ⟨b, 4, none⟩ = some (.slice x.K t.kids.length x.ck) ∧ RowKit.Hid (Below w1.heap.size w1 W') := by
  have hk := kept_below hb (fun _ => False)
  have nf : ¬ False := fun h => h
  obtain ⟨h0, h1, h2, h3, h4, h5⟩ := h
  exact ⟨hk.cellOf h0 nf, hk.cellOf h1 nf, hk.cellOf h2 nf, hk.cellOf h3 nf, hk.cellOf h4 nf, Lib.hid (h5.out.trans (hb.mono h5.out.size))⟩
set_option maxHeartbeats 8000000 in
set_option maxRecDepth 100000 in
theorem checks_any (t : Tr) (x : NV) (w : World) (h : TreeAt w w.heap.size t x) (hf : FitT t) : Calls Try.prog 3 #[nodeV t x] w (TrueB w) := by
  obtain ⟨w1, hw1⟩ : ∃ w1, w1 = boxW w t x := ⟨_, rfl⟩
  have hb1 : Below w.heap.size w w1 := by rw [hw1]; exact below_box w t x
  have hbox : KidCells w1 w.heap.size 0 t x := by rw [hw1]; exact box_node w t x
  have hlt1 : w.heap.size < w1.heap.size := hbox.block_lt
  have ht1 := h.up hb1
  have C1 := Lib.hid (few_any t x 5000 w1 ht1 hf (by omega))
  rw [show ((5000 : Nat) : Int) = 5000 from rfl] at C1
  have HW := Lib.hid hw1; have HB1 := Lib.hid hb1; have HBX := Lib.hid hbox; have HT1 := Lib.hid ht1
  obtain ⟨c0, c1, c2, c3, c4⟩ := hbox
  clear h hw1 hb1 hf ht1
  go_enter Try.func3, Try.ntmps3
  go_wp2_with fail
  rw [box_out HW]
  refine C1.out.mono ?_
  rintro e w2 ⟨b, rfl, hgd, hb2⟩
  clear c0 c1 c2 c3 c4 C1
  have HB2 := Lib.hid (HB1.out.trans (hb2.mono HB1.out.size)); have HB12 := Lib.hid hb2
  cases b with
  | false =>
    clear hgd hb2
    go_wp2_with fail
    refine (same11_any w2).mono ?_
    rintro e w3 ⟨rfl, hb3⟩
    have HB3 := Lib.hid (HB2.out.trans (hb3.mono HB2.out.size))
    clear hb3
    go_wp2_with fail
    go_ret
    exact ⟨rfl, HB3.out⟩
  | true =>
    obtain ⟨hg, -⟩ := hgd rfl
    have HG := Lib.hid hg
    obtain ⟨c0, c1, c2, c3, c4⟩ := HBX.out.below hb2 hlt1
    have C2 := Lib.hid (vcheck_any t x w2 (HT1.out.up hb2) hg)
    have HSF := Lib.hid (seen_first aloneT t)
    have HOKL := Lib.hid (ok_len (t := t))
    clear hgd hb2 hg
    have hra := HSF
    obtain ⟨r, hr⟩ : ∃ r, r = seenL aloneT t := ⟨_, rfl⟩
    have HRE := Lib.hid hr
    rw [← hr] at C2 HSF HOKL
    clear hra hr
    obtain ⟨l, f⟩ := r
    obtain ⟨a, ha⟩ : ∃ a : Int, a = if (l, f).2 = 0 then (0 : Int) else ((l, f).1.length : Int) := ⟨_, rfl⟩
    rw [← ha] at C2 HSF
    clear ha
    go_wp2_with fail
    refine C2.out.mono ?_
    rintro e w3 ⟨rfl, hb3⟩
    have HB13 := Lib.hid (HB12.out.trans (hb3.mono HB12.out.size))
    have C3 := Lib.hid (icheck_any t x w3 (HT1.out.up HB13.out) HG.out)
    obtain ⟨d0, d1, d2, d3, d4⟩ := HBX.out.below HB13.out hlt1
    clear hb3 c0 c1 c2 c3 c4 C2 HB12
    go_wp2_with fail
    refine C3.out.mono ?_
    rintro e w4 ⟨a', f', rfl, hff, hb4⟩
    obtain ⟨ea, ef⟩ := firstF_unique hff HSF.out
    have HB14 := Lib.hid (HB13.out.trans (hb4.mono HB13.out.size))
    obtain ⟨c0, c1, c2, c3, c4⟩ := HBX.out.below HB14.out hlt1
    have hlt4 : w.heap.size < w4.heap.size := Nat.lt_of_lt_of_le hlt1 HB14.out.size
    obtain rfl : f' = f := ef
    obtain rfl : a' = a := ea
    clear hff hb4 d0 d1 d2 d3 d4 C3 HB13 HSF
    by_cases hz : f' = 0
    · subst hz
      have HLE := Lib.hid (HOKL.out rfl)
      have C10 := Lib.hid (show ∀ W, W.cell? ⟨w.heap.size, 0, none⟩ = some (.string t.tag) ∧ W.cell? ⟨w.heap.size, 1, none⟩ = some (.string t.key) ∧ W.cell? ⟨w.heap.size, 2, none⟩ = some (.string t.text) ∧ W.cell? ⟨w.heap.size, 3, none⟩ = some (.slice x.A t.as.length x.ca) ∧ W.cell? ⟨w.heap.size, 4, none⟩ = some (.slice x.K t.kids.length x.ck) ∧ RowKit.Hid (Below w1.heap.size w1 W) → Calls Try.prog 10 #[nodeV t x] W (fun e w' => e = .returned (.int .i64 l.length) ∧ Below W.heap.size W w') from fun W hW => by
        have := vsize_any t x W (HT1.out.up hW.2.2.2.2.2.out) HG.out
        rw [← HRE.out, if_pos rfl] at this
        exact this)
      have C11 := Lib.hid (show ∀ W, W.cell? ⟨w.heap.size, 0, none⟩ = some (.string t.tag) ∧ W.cell? ⟨w.heap.size, 1, none⟩ = some (.string t.key) ∧ W.cell? ⟨w.heap.size, 2, none⟩ = some (.string t.text) ∧ W.cell? ⟨w.heap.size, 3, none⟩ = some (.slice x.A t.as.length x.ca) ∧ W.cell? ⟨w.heap.size, 4, none⟩ = some (.slice x.K t.kids.length x.ck) ∧ RowKit.Hid (Below w1.heap.size w1 W) → Calls Try.prog 11 #[nodeV t x] W (fun e w' => e = .returned (.int .i64 (maxD l)) ∧ Below W.heap.size W w') from fun W hW => by
        have := vdepth_any t x W (HT1.out.up hW.2.2.2.2.2.out) HG.out
        rw [← HRE.out, if_pos rfl] at this
        exact this)
      have C12 := Lib.hid (show ∀ W, W.cell? ⟨w.heap.size, 0, none⟩ = some (.string t.tag) ∧ W.cell? ⟨w.heap.size, 1, none⟩ = some (.string t.key) ∧ W.cell? ⟨w.heap.size, 2, none⟩ = some (.string t.text) ∧ W.cell? ⟨w.heap.size, 3, none⟩ = some (.slice x.A t.as.length x.ca) ∧ W.cell? ⟨w.heap.size, 4, none⟩ = some (.slice x.K t.kids.length x.ck) ∧ RowKit.Hid (Below w1.heap.size w1 W) → Calls Try.prog 12 #[nodeV t x] W (fun e w' => ∃ A c n, e = .returned (.slice A n c) ∧ n = l.length ∧ Below W.heap.size W w') from fun W hW => by
        refine (items_any t x W (HT1.out.up hW.2.2.2.2.2.out)).mono ?_
        rintro e w' ⟨A, c, ps, rfl, _, hm, _, hb⟩
        refine ⟨A, c, _, rfl, ?_, hb⟩
        have := congrArg List.length hm
        rw [HLE.out] at this
        simpa using this)
      have C13 := Lib.hid (show ∀ W, W.cell? ⟨w.heap.size, 0, none⟩ = some (.string t.tag) ∧ W.cell? ⟨w.heap.size, 1, none⟩ = some (.string t.key) ∧ W.cell? ⟨w.heap.size, 2, none⟩ = some (.string t.text) ∧ W.cell? ⟨w.heap.size, 3, none⟩ = some (.slice x.A t.as.length x.ca) ∧ W.cell? ⟨w.heap.size, 4, none⟩ = some (.slice x.K t.kids.length x.ck) ∧ RowKit.Hid (Below w1.heap.size w1 W) → Calls Try.prog 13 #[nodeV t x] W (fun e w' => e = .returned (.int .i64 (maxD l)) ∧ Below W.heap.size W w') from fun W hW => by
        have := rdepth_any t x W (HT1.out.up hW.2.2.2.2.2.out)
        rw [HLE.out] at this
        exact this)
      have HST := Lib.hid (show (fun W => W.cell? ⟨w.heap.size, 0, none⟩ = some (.string t.tag) ∧ W.cell? ⟨w.heap.size, 1, none⟩ = some (.string t.key) ∧ W.cell? ⟨w.heap.size, 2, none⟩ = some (.string t.text) ∧ W.cell? ⟨w.heap.size, 3, none⟩ = some (.slice x.A t.as.length x.ca) ∧ W.cell? ⟨w.heap.size, 4, none⟩ = some (.slice x.K t.kids.length x.ck) ∧ RowKit.Hid (Below w1.heap.size w1 W)) w4.drew from ⟨c0, c1, c2, c3, c4, Lib.hid (HB14.out.trans (below_drewN _ w4 1))⟩)
      clear c0 c1 c2 c3 c4
      obtain ⟨c0, c1, c2, c3, c4, hB4⟩ := HST.out
      go_wp2_with fail
      go_region_held3 (fun W => W.cell? ⟨w.heap.size, 0, none⟩ = some (.string t.tag) ∧ W.cell? ⟨w.heap.size, 1, none⟩ = some (.string t.key) ∧ W.cell? ⟨w.heap.size, 2, none⟩ = some (.string t.text) ∧ W.cell? ⟨w.heap.size, 3, none⟩ = some (.slice x.A t.as.length x.ca) ∧ W.cell? ⟨w.heap.size, 4, none⟩ = some (.slice x.K t.kids.length x.ck) ∧ RowKit.Hid (Below w1.heap.size w1 W))
        (first | assumption | exact HST.out)
        ((first
          | (go_at_call 10; refine (C10.out _ (by assumption)).mono ?_; rintro e w5 ⟨rfl, hb5⟩; have hfin := keepS hb5 (by assumption))
          | (go_at_call 12; refine (C12.out _ (by assumption)).mono ?_; rintro e w5 ⟨A, c, n, rfl, rfl, hb5⟩; have hfin := keepS hb5 (by assumption))
          | (go_at_call 11; refine (C11.out _ (by assumption)).mono ?_; rintro e w5 ⟨rfl, hb5⟩; have hfin := keepS hb5 (by assumption))
          | (go_at_call 13; refine (C13.out _ (by assumption)).mono ?_; rintro e w5 ⟨rfl, hb5⟩; have hfin := keepS hb5 (by assumption))
          | (go_at_call 7; refine (same11_any _).mono ?_; rintro e w5 ⟨rfl, hb5⟩; have hfin := keepS hb5 (by assumption))))
      all_goals
        have HFN := Lib.hid hfin.2.2.2.2.2.out
        go_wp2_with fail
        go_ret
        exact ⟨rfl, HB1.out.trans (HFN.out.mono HB1.out.size)⟩
    · have hz' : (f' != 0) = true := by simpa using hz
      have C4 := Lib.hid (vsize_any t x w4 (HT1.out.up HB14.out) HG.out)
      rw [← HRE.out, if_neg hz] at C4
      have HZ := Lib.hid hz
      clear hz
      go_wp2_with fail
      refine C4.out.mono ?_
      rintro e w5 ⟨rfl, hb5⟩
      have HB15 := Lib.hid (HB14.out.trans (hb5.mono HB14.out.size))
      obtain ⟨d0, d1, d2, d3, d4⟩ := HBX.out.below HB15.out hlt1
      have C5 := Lib.hid (vdepth_any t x w5 (HT1.out.up HB15.out) HG.out)
      rw [← HRE.out, if_neg HZ.out] at C5
      clear hb5 c0 c1 c2 c3 c4 C4 HB14
      go_wp2_with fail
      refine C5.out.mono ?_
      rintro e w6 ⟨rfl, hb6⟩
      have HB16 := Lib.hid (HB15.out.trans (hb6.mono HB15.out.size))
      clear hb6 d0 d1 d2 d3 d4 C5 HB15
      go_wp2_with fail
      refine (same11_any w6).mono ?_
      rintro e w7 ⟨rfl, hb7⟩
      have HB17 := Lib.hid (HB16.out.trans (hb7.mono HB16.out.size))
      clear hb7
      go_wp2_with fail
      go_ret
      exact ⟨rfl, HB1.out.trans (HB17.out.mono HB1.out.size)⟩
end Go.Proofs.Ytlebcebihieiiaa
