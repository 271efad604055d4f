/-
  tendrillaw12.LabelTexts: true, whatever the label and the text.
-/
import Derived.Test.YtlebcebihieiiaaDoorLHeavy
import Derived.Test.YtlebcebihieiiaaDoorLRef
namespace Go.Proofs.YtlebcebihieiiaaDoor
open Go.RowKit Go.Sort
set_option linter.unusedVariables false
theorem keep3 {w0 W W' : World} {bx by_ bz : Nat} {x y : Lab} (hb : Below W.heap.size W W') (h : W.cell? ⟨bx, 0, none⟩ = some (.string x.tag) ∧ W.cell? ⟨bx, 1, none⟩ = some (.string x.key) ∧ W.cell? ⟨bx, 2, none⟩ = some (.int .i64 x.n) ∧ W.cell? ⟨by_, 0, none⟩ = some (.string y.tag) ∧ W.cell? ⟨by_, 1, none⟩ = some (.string y.key) ∧ W.cell? ⟨by_, 2, none⟩ = some (.int .i64 y.n) ∧ W.cell? ⟨bz, 0, none⟩ = some (.string y.tag) ∧ W.cell? ⟨bz, 1, none⟩ = some (.string y.key) ∧ W.cell? ⟨bz, 2, none⟩ = some (.int .i64 y.n) ∧ RowKit.Hid (Below w0.heap.size w0 W)) : W'.cell? ⟨bx, 0, none⟩ = some (.string x.tag) ∧ W'.cell? ⟨bx, 1, none⟩ = some (.string x.key) ∧ W'.cell? ⟨bx, 2, none⟩ = some (.int .i64 x.n) ∧ W'.cell? ⟨by_, 0, none⟩ = some (.string y.tag) ∧ W'.cell? ⟨by_, 1, none⟩ = some (.string y.key) ∧ W'.cell? ⟨by_, 2, none⟩ = some (.int .i64 y.n) ∧ W'.cell? ⟨bz, 0, none⟩ = some (.string y.tag) ∧ W'.cell? ⟨bz, 1, none⟩ = some (.string y.key) ∧ W'.cell? ⟨bz, 2, none⟩ = some (.int .i64 y.n) ∧ RowKit.Hid (Below w0.heap.size w0 W') := by
  have hk := kept_below hb (fun _ => False)
  have nf : ¬ False := fun h => h
  obtain ⟨a0, a1, a2, b0, b1, b2, c0, c1, c2, h5⟩ := h
  exact ⟨hk.cellOf a0 nf, hk.cellOf a1 nf, hk.cellOf a2 nf, hk.cellOf b0 nf, hk.cellOf b1 nf, hk.cellOf b2 nf, hk.cellOf c0 nf, hk.cellOf c1 nf, hk.cellOf c2 nf, Lib.hid (h5.out.trans (hb.mono h5.out.size))⟩
theorem row_one (w : World) (x : Lab) : LRow (lboxW w x) (lboxW w x).heap.size (some ⟨w.heap.size, 0, none⟩) [x] := fun _ => by
  obtain ⟨c0, c1, c2⟩ := lbox_cells w x
  refine ⟨w.heap.size, 0, rfl, by simp, fun j hj => ?_⟩
  match j, hj with
  | 0, _ => exact ⟨c0, c1, c2⟩
theorem light_wf {x : Lab} (h : Light x) (hf : LFit x) : LWf x := ⟨by unfold Light at h; omega, by unfold Light at h; omega, hf.n⟩
def ordV (o : Option Lab) : Lab := o.getD zL
def errV (o : Option Lab) : Int := if o.isSome then 0 else 2
theorem resV_eq (o : Option Lab) : resV o = .tuple #[labV (ordV o), .int .i64 (errV o)] := by cases o <;> rfl
set_option maxRecDepth 100000 in
set_option maxHeartbeats 8000000 in
theorem texts_any (x : Lab) (s : ByteArray) (w : World) (hf : LFit x) (hs : s.size ≤ 140737488355328) (hv : Vars w) : Calls Tryd.prog 5 #[labV x, .string s] w (TrueB w) := by
  obtain ⟨w1, hw1⟩ : ∃ w1, w1 = lboxW w x := ⟨_, rfl⟩
  have HX1 := Lib.hid (show BoxL w1 w.heap.size x by rw [hw1]; exact BoxL.new w x)
  have HB1 := Lib.hid (show Below w.heap.size w w1 by rw [hw1]; exact below_lbox w x)
  obtain ⟨w2, hw2⟩ : ∃ w2, w2 = lboxW w1 x := ⟨_, rfl⟩
  have hb2 : Below w1.heap.size w1 w2 := by rw [hw2]; exact below_lbox w1 x
  have HX2 := Lib.hid (HX1.out.below hb2 HX1.out.lt)
  have HB2 := Lib.hid (HB1.out.trans (hb2.mono HB1.out.size))
  have C1 := Lib.hid (heavy_any (some ⟨w.heap.size + 1, 0, none⟩) 1 [x] w2 (by rw [hw2, ← show w1.heap.size = w.heap.size + 1 by rw [hw1]; simp]; exact row_one w1 x) (fun L hL => by simp at hL; rw [hL]; exact hf) (by simp [maxLen]))
  have HW1 := Lib.hid hw1; have HW2 := Lib.hid hw2; have HF := Lib.hid hf; have HV := Lib.hid hv
  clear hw1 hw2 hb2 hf hv
  obtain ⟨c0, c1, c2⟩ := HX1.out.cells
  go_enter Tryd.func5, Tryd.ntmps5
  go_wp2_with fail
  rw [show (w.alloc (.cells #[.string x.tag, .string x.key, .int .i64 x.n] 33)).alloc (.cells #[.string x.tag, .string x.key, .int .i64 x.n] 33) = w2 by rw [HW2.out, HW1.out]]
  refine C1.out.mono ?_
  rintro e w3 ⟨b, rfl, hlight, hb3⟩
  have HB3 := Lib.hid (HB2.out.trans (hb3.mono HB2.out.size))
  have HX3 := Lib.hid (HX2.out.below hb3 HX2.out.lt)
  clear hb3 C1 c0 c1 c2
  cases b with
  | true =>
    clear hlight
    go_wp2_with fail
    refine (same_any w3 (HV.out.belowC HB3.out)).mono ?_
    rintro e w9 ⟨rfl, hb9⟩
    have HB9 := Lib.hid (HB3.out.trans (hb9.mono HB3.out.size))
    clear hb9
    go_wp2_with fail
    go_ret
    exact ⟨rfl, HB9.out⟩
  | false =>
    have HLI := Lib.hid ((hlight rfl).1 x (by simp))
    clear hlight
    by_cases hbig : (1000 : Int) < (s.size : Int)
    · go_wp2_with fail
      refine (same_any w3 (HV.out.belowC HB3.out)).mono ?_
      rintro e w9 ⟨rfl, hb9⟩
      have HB9 := Lib.hid (HB3.out.trans (hb9.mono HB3.out.size))
      clear hb9
      go_wp2_with fail
      go_ret
      exact ⟨rfl, HB9.out⟩
    · have HSS := Lib.hid (show s.size ≤ 1000 by omega)
      have C2 := Lib.hid (read_any s w3 (by omega) (HV.out.belowC HB3.out))
      go_wp2_with fail
      refine C2.out.mono ?_
      rintro e w4 ⟨o, ho, rfl, hb4⟩
      rw [resV_eq]
      obtain ⟨y, hy⟩ : ∃ y, y = ordV o := ⟨_, rfl⟩
      obtain ⟨er, her⟩ : ∃ er, er = errV o := ⟨_, rfl⟩
      rw [← hy, ← her]
      have HB4 := Lib.hid (HB3.out.trans (hb4.mono HB3.out.size))
      have HX4 := Lib.hid (HX3.out.below hb4 HX3.out.lt)
      have HO := Lib.hid ho; have HY := Lib.hid hy; have HER := Lib.hid her
      clear hb4 ho hy her C2
      obtain ⟨w5, hw5⟩ : ∃ w5, w5 = lboxW w4 y := ⟨_, rfl⟩
      have HY5 := Lib.hid (show BoxL w5 w4.heap.size y by rw [hw5]; exact BoxL.new w4 y)
      have hb5 : Below w4.heap.size w4 w5 := by rw [hw5]; exact below_lbox w4 y
      have HX5 := Lib.hid (HX4.out.below hb5 HX4.out.lt)
      have HB5 := Lib.hid (HB4.out.trans (hb5.mono HB4.out.size))
      have HW5 := Lib.hid hw5
      have C3 := Lib.hid (refRead_any s w5 (by have := HSS.out; omega))
      clear hw5 hb5
      go_wp2_with fail
      rw [lbox_out HW5]
      refine C3.out.mono ?_
      rintro e w6 ⟨o', ho', rfl, hb6⟩
      obtain rfl : o' = o := readIs_eq ho' HO.out
      rw [resV_eq, ← HY.out, ← HER.out]
      have HB6 := Lib.hid (HB5.out.trans (hb6.mono HB5.out.size))
      have HX6 := Lib.hid (HX5.out.below hb6 HX5.out.lt)
      have HY6 := Lib.hid (HY5.out.below hb6 HY5.out.lt)
      clear hb6 ho' C3
      obtain ⟨w7, hw7⟩ : ∃ w7, w7 = lboxW w6 y := ⟨_, rfl⟩
      have HZ7 := Lib.hid (show BoxL w7 w6.heap.size y by rw [hw7]; exact BoxL.new w6 y)
      have hb7 : Below w6.heap.size w6 w7 := by rw [hw7]; exact below_lbox w6 y
      have HX7 := Lib.hid (HX6.out.below hb7 HX6.out.lt)
      have HY7 := Lib.hid (HY6.out.below hb7 HY6.out.lt)
      have HB7 := Lib.hid (HB6.out.trans (hb7.mono HB6.out.size))
      have HW7 := Lib.hid hw7
      clear hw7 hb7
      obtain ⟨tx, htx⟩ : ∃ tx, tx = textS x := ⟨_, rfl⟩
      have CX := Lib.hid (show ∀ W, W.cell? ⟨w.heap.size, 0, none⟩ = some (.string x.tag) ∧ W.cell? ⟨w.heap.size, 1, none⟩ = some (.string x.key) ∧ W.cell? ⟨w.heap.size, 2, none⟩ = some (.int .i64 x.n) ∧ W.cell? ⟨w4.heap.size, 0, none⟩ = some (.string y.tag) ∧ W.cell? ⟨w4.heap.size, 1, none⟩ = some (.string y.key) ∧ W.cell? ⟨w4.heap.size, 2, none⟩ = some (.int .i64 y.n) ∧ W.cell? ⟨w6.heap.size, 0, none⟩ = some (.string y.tag) ∧ W.cell? ⟨w6.heap.size, 1, none⟩ = some (.string y.key) ∧ W.cell? ⟨w6.heap.size, 2, none⟩ = some (.int .i64 y.n) ∧ RowKit.Hid (Below w.heap.size w W) → Calls Tryd.prog 13 #[.agg #[.string x.tag, .string x.key, .int .i64 x.n]] W (fun e w' => e = .returned (.string tx) ∧ Below W.heap.size W w') from fun W hW => by rw [htx]; exact text_any x W (light_wf HLI.out HF.out) (HV.out.belowC hW.2.2.2.2.2.2.2.2.2.out))
      have CR := Lib.hid (show ∀ W, W.cell? ⟨w.heap.size, 0, none⟩ = some (.string x.tag) ∧ W.cell? ⟨w.heap.size, 1, none⟩ = some (.string x.key) ∧ W.cell? ⟨w.heap.size, 2, none⟩ = some (.int .i64 x.n) ∧ W.cell? ⟨w4.heap.size, 0, none⟩ = some (.string y.tag) ∧ W.cell? ⟨w4.heap.size, 1, none⟩ = some (.string y.key) ∧ W.cell? ⟨w4.heap.size, 2, none⟩ = some (.int .i64 y.n) ∧ W.cell? ⟨w6.heap.size, 0, none⟩ = some (.string y.tag) ∧ W.cell? ⟨w6.heap.size, 1, none⟩ = some (.string y.key) ∧ W.cell? ⟨w6.heap.size, 2, none⟩ = some (.int .i64 y.n) ∧ RowKit.Hid (Below w.heap.size w W) → Calls Tryd.prog 20 #[.agg #[.string x.tag, .string x.key, .int .i64 x.n]] W (fun e w' => e = .returned (.string tx) ∧ Below W.heap.size W w') from fun W hW => by rw [htx]; exact refText_any x W (light_wf HLI.out HF.out))
      have CS := Lib.hid (show ∀ W, W.cell? ⟨w.heap.size, 0, none⟩ = some (.string x.tag) ∧ W.cell? ⟨w.heap.size, 1, none⟩ = some (.string x.key) ∧ W.cell? ⟨w.heap.size, 2, none⟩ = some (.int .i64 x.n) ∧ W.cell? ⟨w4.heap.size, 0, none⟩ = some (.string y.tag) ∧ W.cell? ⟨w4.heap.size, 1, none⟩ = some (.string y.key) ∧ W.cell? ⟨w4.heap.size, 2, none⟩ = some (.int .i64 y.n) ∧ W.cell? ⟨w6.heap.size, 0, none⟩ = some (.string y.tag) ∧ W.cell? ⟨w6.heap.size, 1, none⟩ = some (.string y.key) ∧ W.cell? ⟨w6.heap.size, 2, none⟩ = some (.int .i64 y.n) ∧ RowKit.Hid (Below w.heap.size w W) → Calls Tryd.prog 7 #[] W (fun e w' => e = .returned (.bool true) ∧ Below W.heap.size W w') from fun W hW => same_any W (HV.out.belowC hW.2.2.2.2.2.2.2.2.2.out))
      have HST := Lib.hid (show (fun W => W.cell? ⟨w.heap.size, 0, none⟩ = some (.string x.tag) ∧ W.cell? ⟨w.heap.size, 1, none⟩ = some (.string x.key) ∧ W.cell? ⟨w.heap.size, 2, none⟩ = some (.int .i64 x.n) ∧ W.cell? ⟨w4.heap.size, 0, none⟩ = some (.string y.tag) ∧ W.cell? ⟨w4.heap.size, 1, none⟩ = some (.string y.key) ∧ W.cell? ⟨w4.heap.size, 2, none⟩ = some (.int .i64 y.n) ∧ W.cell? ⟨w6.heap.size, 0, none⟩ = some (.string y.tag) ∧ W.cell? ⟨w6.heap.size, 1, none⟩ = some (.string y.key) ∧ W.cell? ⟨w6.heap.size, 2, none⟩ = some (.int .i64 y.n) ∧ RowKit.Hid (Below w.heap.size w W)) w7.drew from ⟨HX7.out.cells.1, HX7.out.cells.2.1, HX7.out.cells.2.2, HY7.out.cells.1, HY7.out.cells.2.1, HY7.out.cells.2.2, HZ7.out.cells.1, HZ7.out.cells.2.1, HZ7.out.cells.2.2, Lib.hid (HB7.out.trans (below_drewN _ w7 1))⟩)
      have hqy : ∀ W : World, (Op.equalIn 10000 33 (.agg #[.string y.tag, .string y.key, .int .i64 y.n]) (.agg #[.string y.tag, .string y.key, .int .i64 y.n])).run Tryd.prog W = .ok true W := fun W => (eqL y y W).trans (by rw [decide_eq_true rfl])
      have htt : (tx.toList == tx.toList) = true := by simp
      clear htx
      go_wp2_with fail
      rw [lbox_out HW7]
      cases o' with
      | none =>
        obtain rfl : er = 2 := HER.out
        refine wp_region_held_drew (S := fun W => W.cell? ⟨w.heap.size, 0, none⟩ = some (.string x.tag) ∧ W.cell? ⟨w.heap.size, 1, none⟩ = some (.string x.key) ∧ W.cell? ⟨w.heap.size, 2, none⟩ = some (.int .i64 x.n) ∧ W.cell? ⟨w4.heap.size, 0, none⟩ = some (.string y.tag) ∧ W.cell? ⟨w4.heap.size, 1, none⟩ = some (.string y.key) ∧ W.cell? ⟨w4.heap.size, 2, none⟩ = some (.int .i64 y.n) ∧ W.cell? ⟨w6.heap.size, 0, none⟩ = some (.string y.tag) ∧ W.cell? ⟨w6.heap.size, 1, none⟩ = some (.string y.key) ∧ W.cell? ⟨w6.heap.size, 2, none⟩ = some (.int .i64 y.n) ∧ RowKit.Hid (Below w.heap.size w W)) (by kernel_rfl) HST.out (fun hHeld => ?_)
        refine wpAnyH_take (i := 0) (oi := ⟨some 28, _, _, _, _, _⟩) (v := ?_) rfl (by kernel_rfl) (by kernel_rfl) (by kernel_rfl) (fun _ _ _ h => h) (Or.inl ⟨by rfl, ?_⟩) hHeld ?_
        rotate_left
        · (intro w hSw; (try dsimp only at hSw); go_simp; try with_reducible rfl)
        try simp only [Act.put, List.setIfInBounds_toArray, List.set_cons_zero, List.set_cons_succ]
        refine wpAnyH_take (i := 2) (oi := ⟨some 30, _, _, _, _, _⟩) (v := ?_) rfl (by kernel_rfl) (by kernel_rfl) (by kernel_rfl) (fun _ _ _ h => h) (Or.inl ⟨by rfl, ?_⟩) hHeld ?_
        rotate_left
        · (intro w hSw; (try dsimp only at hSw); go_simp; try with_reducible rfl)
        try simp only [Act.put, List.setIfInBounds_toArray, List.set_cons_zero, List.set_cons_succ]
        refine wpAnyH_ready (rs := [1]) (by kernel_rfl) (by simp) ?_
        refine AllReadyH.cons (o := ⟨some 29, _, _, _, _, _⟩) rfl (fun K hK => ?_) AllReadyH.nil
        go_simp
        refine (CX.out _ hHeld).mono ?_
        rintro e w8 ⟨rfl, hb8⟩
        have hfin := keep3 hb8 hHeld
        go_wp2_with fail
        refine hK.out _ _ hfin (fun hHeld2 => ?_)
        clear hK K hHeld hb8 hfin
        have hHeld := hHeld2
        clear hHeld2
        try simp only [Act.put, List.setIfInBounds_toArray, List.set_cons_zero, List.set_cons_succ]
        refine wpAnyH_ready (rs := [3]) (by kernel_rfl) (by simp) ?_
        refine AllReadyH.cons (o := ⟨some 31, _, _, _, _, _⟩) rfl (fun K hK => ?_) AllReadyH.nil
        go_simp
        refine (CR.out _ hHeld).mono ?_
        rintro e w8 ⟨rfl, hb8⟩
        have hfin := keep3 hb8 hHeld
        go_wp2_with fail
        refine hK.out _ _ hfin (fun hHeld2 => ?_)
        clear hK K hHeld hb8 hfin
        have hHeld := hHeld2
        clear hHeld2
        try simp only [Act.put, List.setIfInBounds_toArray, List.set_cons_zero, List.set_cons_succ]
        refine wpAnyH_take (i := 4) (oi := ⟨some 32, _, _, _, _, _⟩) (v := ?_) rfl (by kernel_rfl) (by kernel_rfl) (by kernel_rfl) (fun _ _ _ h => h) (Or.inl ⟨by rfl, ?_⟩) hHeld ?_
        rotate_left
        · (intro w hSw; (try dsimp only at hSw); go_simp; try with_reducible rfl)
        try simp only [Act.put, List.setIfInBounds_toArray, List.set_cons_zero, List.set_cons_succ]
        refine wpAnyH_take (i := 5) (oi := ⟨some 33, _, _, _, _, _⟩) (v := ?_) rfl (by kernel_rfl) (by kernel_rfl) (by kernel_rfl) (fun _ _ _ h => h) (Or.inl ⟨by rfl, ?_⟩) hHeld ?_
        rotate_left
        · (intro w hSw; (try dsimp only at hSw); go_simp; try with_reducible rfl)
        try simp only [Act.put, List.setIfInBounds_toArray, List.set_cons_zero, List.set_cons_succ]
        refine wpAnyH_take (i := 6) (oi := ⟨some 34, _, _, _, _, _⟩) (v := ?_) rfl (by kernel_rfl) (by kernel_rfl) (by kernel_rfl) (fun _ _ _ h => h) (Or.inl ⟨by rfl, ?_⟩) hHeld ?_
        rotate_left
        · (intro w hSw; (try dsimp only at hSw); go_simp; try with_reducible rfl)
        try simp only [Act.put, List.setIfInBounds_toArray, List.set_cons_zero, List.set_cons_succ]
        refine wpAnyH_take (i := 7) (oi := ⟨some 35, _, _, _, _, _⟩) (v := ?_) rfl (by kernel_rfl) (by kernel_rfl) (by kernel_rfl) (fun _ _ _ h => h) (Or.inl ⟨by rfl, ?_⟩) hHeld ?_
        rotate_left
        · (intro w hSw; (try dsimp only at hSw); go_simp; try with_reducible rfl)
        try simp only [Act.put, List.setIfInBounds_toArray, List.set_cons_zero, List.set_cons_succ]
        refine wpAnyH_take (i := 8) (oi := ⟨some 36, _, _, _, _, _⟩) (v := ?_) rfl (by kernel_rfl) (by kernel_rfl) (by kernel_rfl) (fun _ _ _ h => h) (Or.inl ⟨by rfl, ?_⟩) hHeld ?_
        rotate_left
        · (intro w hSw; (try dsimp only at hSw); go_simp; try with_reducible rfl)
        try simp only [Act.put, List.setIfInBounds_toArray, List.set_cons_zero, List.set_cons_succ]
        refine wpAnyH_take (i := 9) (oi := ⟨some 37, _, _, _, _, _⟩) (v := ?_) rfl (by kernel_rfl) (by kernel_rfl) (by kernel_rfl) (fun _ _ _ h => h) (Or.inl ⟨by rfl, ?_⟩) hHeld ?_
        rotate_left
        · (intro w hSw; (try dsimp only at hSw); go_simp; try with_reducible rfl)
        try simp only [Act.put, List.setIfInBounds_toArray, List.set_cons_zero, List.set_cons_succ]
        refine wpAnyH_take (i := 10) (oi := ⟨some 38, _, _, _, _, _⟩) (v := ?_) rfl (by kernel_rfl) (by kernel_rfl) (by kernel_rfl) (fun _ _ _ h => h) (Or.inl ⟨by rfl, ?_⟩) hHeld ?_
        rotate_left
        · (intro w hSw; (try dsimp only at hSw); go_simp; try with_reducible rfl)
        try simp only [Act.put, List.setIfInBounds_toArray, List.set_cons_zero, List.set_cons_succ]
        refine wpAnyH_take (i := 11) (oi := ⟨some 39, _, _, _, _, _⟩) (v := ?_) rfl (by kernel_rfl) (by kernel_rfl) (by kernel_rfl) (fun _ _ _ h => h) (Or.inl ⟨by rfl, ?_⟩) hHeld ?_
        rotate_left
        · (intro w hSw; (try dsimp only at hSw); go_simp; try with_reducible rfl)
        try simp only [Act.put, List.setIfInBounds_toArray, List.set_cons_zero, List.set_cons_succ]
        refine wpAnyH_take (i := 12) (oi := ⟨some 40, _, _, _, _, _⟩) (v := ?_) rfl (by kernel_rfl) (by kernel_rfl) (by kernel_rfl) (fun _ _ _ h => h) (Or.inl ⟨by rfl, ?_⟩) hHeld ?_
        rotate_left
        · (intro w hSw; (try dsimp only at hSw); go_simp; try with_reducible rfl)
        try simp only [Act.put, List.setIfInBounds_toArray, List.set_cons_zero, List.set_cons_succ]
        refine wpAnyH_take (i := 13) (oi := ⟨some 41, _, _, _, _, _⟩) (v := ?_) rfl (by kernel_rfl) (by kernel_rfl) (by kernel_rfl) (fun _ _ _ h => h) (Or.inl ⟨by rfl, ?_⟩) hHeld ?_
        rotate_left
        · (intro w hSw; (try dsimp only at hSw); go_simp; try with_reducible rfl)
        try simp only [Act.put, List.setIfInBounds_toArray, List.set_cons_zero, List.set_cons_succ]
        refine wpAnyH_take (i := 14) (oi := ⟨some 42, _, _, _, _, _⟩) (v := ?_) rfl (by kernel_rfl) (by kernel_rfl) (by kernel_rfl) (fun _ _ _ h => h) (Or.inl ⟨by rfl, ?_⟩) hHeld ?_
        rotate_left
        · (intro w hSw; (try dsimp only at hSw); go_simp; try with_reducible rfl)
        try simp only [Act.put, List.setIfInBounds_toArray, List.set_cons_zero, List.set_cons_succ]
        refine wpAnyH_take (i := 15) (oi := ⟨some 43, _, _, _, _, _⟩) (v := ?_) rfl (by kernel_rfl) (by kernel_rfl) (by kernel_rfl) (fun _ _ _ h => h) (Or.inl ⟨by rfl, ?_⟩) hHeld ?_
        rotate_left
        · (intro w hSw; (try dsimp only at hSw); go_simp; try with_reducible rfl)
        try simp only [Act.put, List.setIfInBounds_toArray, List.set_cons_zero, List.set_cons_succ]
        refine wpAnyH_take (i := 16) (oi := ⟨some 44, _, _, _, _, _⟩) (v := ?_) rfl (by kernel_rfl) (by kernel_rfl) (by kernel_rfl) (fun _ _ _ h => h) (Or.inl ⟨by rfl, ?_⟩) hHeld ?_
        rotate_left
        · (intro w hSw; (try dsimp only at hSw); go_simp; try with_reducible rfl)
        try simp only [Act.put, List.setIfInBounds_toArray, List.set_cons_zero, List.set_cons_succ]
        refine wpAnyH_take (i := 17) (oi := ⟨some 45, _, _, _, _, _⟩) (v := ?_) rfl (by kernel_rfl) (by kernel_rfl) (by kernel_rfl) (fun _ _ _ h => h) (Or.inl ⟨by rfl, ?_⟩) hHeld ?_
        rotate_left
        · (intro w hSw; (try dsimp only at hSw); go_simp; try with_reducible rfl)
        try simp only [Act.put, List.setIfInBounds_toArray, List.set_cons_zero, List.set_cons_succ]
        refine wpAnyH_take (i := 18) (oi := ⟨some 46, _, _, _, _, _⟩) (v := ?_) rfl (by kernel_rfl) (by kernel_rfl) (by kernel_rfl) (fun _ _ _ h => h) (Or.inl ⟨by rfl, ?_⟩) hHeld ?_
        rotate_left
        · (intro w hSw; (try dsimp only at hSw); go_simp; try with_reducible rfl)
        try simp only [Act.put, List.setIfInBounds_toArray, List.set_cons_zero, List.set_cons_succ]
        refine wpAnyH_take (i := 19) (oi := ⟨some 47, _, _, _, _, _⟩) (v := undef) rfl (by kernel_rfl) (by kernel_rfl) (by kernel_rfl) (fun _ _ _ h => h) (Or.inr ⟨by rfl, rfl⟩) hHeld ?_
        try simp only [Act.put, List.setIfInBounds_toArray, List.set_cons_zero, List.set_cons_succ]
        refine wpAnyH_take (i := 20) (oi := ⟨some 48, _, _, _, _, _⟩) (v := undef) rfl (by kernel_rfl) (by kernel_rfl) (by kernel_rfl) (fun _ _ _ h => h) (Or.inr ⟨by rfl, rfl⟩) hHeld ?_
        try simp only [Act.put, List.setIfInBounds_toArray, List.set_cons_zero, List.set_cons_succ]
        refine wpAnyH_take (i := 21) (oi := ⟨some 49, _, _, _, _, _⟩) (v := undef) rfl (by kernel_rfl) (by kernel_rfl) (by kernel_rfl) (fun _ _ _ h => h) (Or.inr ⟨by rfl, rfl⟩) hHeld ?_
        try simp only [Act.put, List.setIfInBounds_toArray, List.set_cons_zero, List.set_cons_succ]
        refine wpAnyH_take (i := 22) (oi := ⟨some 50, _, _, _, _, _⟩) (v := undef) rfl (by kernel_rfl) (by kernel_rfl) (by kernel_rfl) (fun _ _ _ h => h) (Or.inr ⟨by rfl, rfl⟩) hHeld ?_
        try simp only [Act.put, List.setIfInBounds_toArray, List.set_cons_zero, List.set_cons_succ]
        refine wpAnyH_take (i := 23) (oi := ⟨some 51, _, _, _, _, _⟩) (v := ?_) rfl (by kernel_rfl) (by kernel_rfl) (by kernel_rfl) (fun _ _ _ h => h) (Or.inl ⟨by rfl, ?_⟩) hHeld ?_
        rotate_left
        · (intro w hSw; (try dsimp only at hSw); go_simp; try with_reducible rfl)
        try simp only [Act.put, List.setIfInBounds_toArray, List.set_cons_zero, List.set_cons_succ]
        refine wpAnyH_take (i := 24) (oi := ⟨some 52, _, _, _, _, _⟩) (v := ?_) rfl (by kernel_rfl) (by kernel_rfl) (by kernel_rfl) (fun _ _ _ h => h) (Or.inl ⟨by rfl, ?_⟩) hHeld ?_
        rotate_left
        · (intro w hSw; (try dsimp only at hSw); go_simp; try with_reducible rfl)
        try simp only [Act.put, List.setIfInBounds_toArray, List.set_cons_zero, List.set_cons_succ]
        refine wpAnyH_take (i := 25) (oi := ⟨some 53, _, _, _, _, _⟩) (v := ?_) rfl (by kernel_rfl) (by kernel_rfl) (by kernel_rfl) (fun _ _ _ h => h) (Or.inl ⟨by rfl, ?_⟩) hHeld ?_
        rotate_left
        · (intro w hSw; (try dsimp only at hSw); go_simp; try with_reducible rfl)
        try simp only [Act.put, List.setIfInBounds_toArray, List.set_cons_zero, List.set_cons_succ]
        refine wpAnyH_ready (rs := [26]) (by kernel_rfl) (by simp) ?_
        refine AllReadyH.cons (o := ⟨some 54, _, _, _, _, _⟩) rfl (fun K hK => ?_) AllReadyH.nil
        go_simp
        refine (CS.out _ hHeld).mono ?_
        rintro e w8 ⟨rfl, hb8⟩
        have hfin := keep3 hb8 hHeld
        go_wp2_with fail
        refine hK.out _ _ hfin (fun hHeld2 => ?_)
        clear hK K hHeld hb8 hfin
        have hHeld := hHeld2
        clear hHeld2
        try simp only [Act.put, List.setIfInBounds_toArray, List.set_cons_zero, List.set_cons_succ]
        refine wpAnyH_take (i := 27) (oi := ⟨some 55, _, _, _, _, _⟩) (v := ?_) rfl (by kernel_rfl) (by kernel_rfl) (by kernel_rfl) (fun _ _ _ h => h) (Or.inl ⟨by rfl, ?_⟩) hHeld ?_
        rotate_left
        · (intro w hSw; (try dsimp only at hSw); go_simp; try with_reducible rfl)
        try simp only [Act.put, List.setIfInBounds_toArray, List.set_cons_zero, List.set_cons_succ]
        refine wpAnyH_take (i := 28) (oi := ⟨some 4, _, _, _, _, _⟩) (v := ?_) rfl (by kernel_rfl) (by kernel_rfl) (by kernel_rfl) (fun _ _ _ h => h) (Or.inl ⟨by rfl, ?_⟩) hHeld ?_
        rotate_left
        · (intro w hSw; (try dsimp only at hSw); go_simp; try with_reducible rfl)
        try simp only [Act.put, List.setIfInBounds_toArray, List.set_cons_zero, List.set_cons_succ]
        refine wpAnyH_done (by kernel_rfl) ?_ _
        have HFN := Lib.hid hHeld.2.2.2.2.2.2.2.2.2.out
        go_wp2_with fail
        go_ret
        exact ⟨rfl, HFN.out⟩
      | some y' =>
        obtain rfl : er = 0 := HER.out
        obtain rfl : y = y' := HY.out
        obtain ⟨j, hj⟩ := (HO.out y).1 rfl
        have CY := Lib.hid (show ∀ W, W.cell? ⟨w.heap.size, 0, none⟩ = some (.string x.tag) ∧ W.cell? ⟨w.heap.size, 1, none⟩ = some (.string x.key) ∧ W.cell? ⟨w.heap.size, 2, none⟩ = some (.int .i64 x.n) ∧ W.cell? ⟨w4.heap.size, 0, none⟩ = some (.string y.tag) ∧ W.cell? ⟨w4.heap.size, 1, none⟩ = some (.string y.key) ∧ W.cell? ⟨w4.heap.size, 2, none⟩ = some (.int .i64 y.n) ∧ W.cell? ⟨w6.heap.size, 0, none⟩ = some (.string y.tag) ∧ W.cell? ⟨w6.heap.size, 1, none⟩ = some (.string y.key) ∧ W.cell? ⟨w6.heap.size, 2, none⟩ = some (.int .i64 y.n) ∧ RowKit.Hid (Below w.heap.size w W) → Calls Tryd.prog 13 #[.agg #[.string y.tag, .string y.key, .int .i64 y.n]] W (fun e w' => e = .returned (.string s) ∧ Below W.heap.size W w') from fun W hW => by
          have := text_any y W (isAt_wf hj) (HV.out.belowC hW.2.2.2.2.2.2.2.2.2.out)
          unfold TextPost at this
          rw [isAt_text hj] at this
          exact this)
        have hss : (s.toList == s.toList) = true := by simp
        clear hj
        refine wp_region_held_drew (S := fun W => W.cell? ⟨w.heap.size, 0, none⟩ = some (.string x.tag) ∧ W.cell? ⟨w.heap.size, 1, none⟩ = some (.string x.key) ∧ W.cell? ⟨w.heap.size, 2, none⟩ = some (.int .i64 x.n) ∧ W.cell? ⟨w4.heap.size, 0, none⟩ = some (.string y.tag) ∧ W.cell? ⟨w4.heap.size, 1, none⟩ = some (.string y.key) ∧ W.cell? ⟨w4.heap.size, 2, none⟩ = some (.int .i64 y.n) ∧ W.cell? ⟨w6.heap.size, 0, none⟩ = some (.string y.tag) ∧ W.cell? ⟨w6.heap.size, 1, none⟩ = some (.string y.key) ∧ W.cell? ⟨w6.heap.size, 2, none⟩ = some (.int .i64 y.n) ∧ RowKit.Hid (Below w.heap.size w W)) (by kernel_rfl) HST.out (fun hHeld => ?_)
        refine wpAnyH_take (i := 0) (oi := ⟨some 28, _, _, _, _, _⟩) (v := ?_) rfl (by kernel_rfl) (by kernel_rfl) (by kernel_rfl) (fun _ _ _ h => h) (Or.inl ⟨by rfl, ?_⟩) hHeld ?_
        rotate_left
        · (intro w hSw; (try dsimp only at hSw); go_simp; try with_reducible rfl)
        try simp only [Act.put, List.setIfInBounds_toArray, List.set_cons_zero, List.set_cons_succ]
        refine wpAnyH_take (i := 2) (oi := ⟨some 30, _, _, _, _, _⟩) (v := ?_) rfl (by kernel_rfl) (by kernel_rfl) (by kernel_rfl) (fun _ _ _ h => h) (Or.inl ⟨by rfl, ?_⟩) hHeld ?_
        rotate_left
        · (intro w hSw; (try dsimp only at hSw); go_simp; try with_reducible rfl)
        try simp only [Act.put, List.setIfInBounds_toArray, List.set_cons_zero, List.set_cons_succ]
        refine wpAnyH_ready (rs := [1]) (by kernel_rfl) (by simp) ?_
        refine AllReadyH.cons (o := ⟨some 29, _, _, _, _, _⟩) rfl (fun K hK => ?_) AllReadyH.nil
        go_simp
        refine (CX.out _ hHeld).mono ?_
        rintro e w8 ⟨rfl, hb8⟩
        have hfin := keep3 hb8 hHeld
        go_wp2_with fail
        refine hK.out _ _ hfin (fun hHeld2 => ?_)
        clear hK K hHeld hb8 hfin
        have hHeld := hHeld2
        clear hHeld2
        try simp only [Act.put, List.setIfInBounds_toArray, List.set_cons_zero, List.set_cons_succ]
        refine wpAnyH_ready (rs := [3]) (by kernel_rfl) (by simp) ?_
        refine AllReadyH.cons (o := ⟨some 31, _, _, _, _, _⟩) rfl (fun K hK => ?_) AllReadyH.nil
        go_simp
        refine (CR.out _ hHeld).mono ?_
        rintro e w8 ⟨rfl, hb8⟩
        have hfin := keep3 hb8 hHeld
        go_wp2_with fail
        refine hK.out _ _ hfin (fun hHeld2 => ?_)
        clear hK K hHeld hb8 hfin
        have hHeld := hHeld2
        clear hHeld2
        try simp only [Act.put, List.setIfInBounds_toArray, List.set_cons_zero, List.set_cons_succ]
        refine wpAnyH_take (i := 4) (oi := ⟨some 32, _, _, _, _, _⟩) (v := ?_) rfl (by kernel_rfl) (by kernel_rfl) (by kernel_rfl) (fun _ _ _ h => h) (Or.inl ⟨by rfl, ?_⟩) hHeld ?_
        rotate_left
        · (intro w hSw; (try dsimp only at hSw); go_simp; try with_reducible rfl)
        try simp only [Act.put, List.setIfInBounds_toArray, List.set_cons_zero, List.set_cons_succ]
        refine wpAnyH_take (i := 5) (oi := ⟨some 33, _, _, _, _, _⟩) (v := ?_) rfl (by kernel_rfl) (by kernel_rfl) (by kernel_rfl) (fun _ _ _ h => h) (Or.inl ⟨by rfl, ?_⟩) hHeld ?_
        rotate_left
        · (intro w hSw; (try dsimp only at hSw); go_simp; try with_reducible rfl)
        try simp only [Act.put, List.setIfInBounds_toArray, List.set_cons_zero, List.set_cons_succ]
        refine wpAnyH_take (i := 6) (oi := ⟨some 34, _, _, _, _, _⟩) (v := ?_) rfl (by kernel_rfl) (by kernel_rfl) (by kernel_rfl) (fun _ _ _ h => h) (Or.inl ⟨by rfl, ?_⟩) hHeld ?_
        rotate_left
        · (intro w hSw; (try dsimp only at hSw); go_simp; try with_reducible rfl)
        try simp only [Act.put, List.setIfInBounds_toArray, List.set_cons_zero, List.set_cons_succ]
        refine wpAnyH_take (i := 7) (oi := ⟨some 35, _, _, _, _, _⟩) (v := ?_) rfl (by kernel_rfl) (by kernel_rfl) (by kernel_rfl) (fun _ _ _ h => h) (Or.inl ⟨by rfl, ?_⟩) hHeld ?_
        rotate_left
        · (intro w hSw; (try dsimp only at hSw); go_simp; try with_reducible rfl)
        try simp only [Act.put, List.setIfInBounds_toArray, List.set_cons_zero, List.set_cons_succ]
        refine wpAnyH_take (i := 8) (oi := ⟨some 36, _, _, _, _, _⟩) (v := ?_) rfl (by kernel_rfl) (by kernel_rfl) (by kernel_rfl) (fun _ _ _ h => h) (Or.inl ⟨by rfl, ?_⟩) hHeld ?_
        rotate_left
        · (intro w hSw; (try dsimp only at hSw); go_simp; try with_reducible rfl)
        try simp only [Act.put, List.setIfInBounds_toArray, List.set_cons_zero, List.set_cons_succ]
        refine wpAnyH_take (i := 9) (oi := ⟨some 37, _, _, _, _, _⟩) (v := ?_) rfl (by kernel_rfl) (by kernel_rfl) (by kernel_rfl) (fun _ _ _ h => h) (Or.inl ⟨by rfl, ?_⟩) hHeld ?_
        rotate_left
        · (intro w hSw; (try dsimp only at hSw); go_simp; try with_reducible rfl)
        try simp only [Act.put, List.setIfInBounds_toArray, List.set_cons_zero, List.set_cons_succ]
        refine wpAnyH_take (i := 10) (oi := ⟨some 38, _, _, _, _, _⟩) (v := ?_) rfl (by kernel_rfl) (by kernel_rfl) (by kernel_rfl) (fun _ _ _ h => h) (Or.inl ⟨by rfl, ?_⟩) hHeld ?_
        rotate_left
        · (intro w hSw; (try dsimp only at hSw); go_simp; try with_reducible rfl)
        try simp only [Act.put, List.setIfInBounds_toArray, List.set_cons_zero, List.set_cons_succ]
        refine wpAnyH_take (i := 11) (oi := ⟨some 39, _, _, _, _, _⟩) (v := ?_) rfl (by kernel_rfl) (by kernel_rfl) (by kernel_rfl) (fun _ _ _ h => h) (Or.inl ⟨by rfl, ?_⟩) hHeld ?_
        rotate_left
        · (intro w hSw; (try dsimp only at hSw); go_simp; try with_reducible rfl)
        try simp only [Act.put, List.setIfInBounds_toArray, List.set_cons_zero, List.set_cons_succ]
        refine wpAnyH_take (i := 12) (oi := ⟨some 40, _, _, _, _, _⟩) (v := ?_) rfl (by kernel_rfl) (by kernel_rfl) (by kernel_rfl) (fun _ _ _ h => h) (Or.inl ⟨by rfl, ?_⟩) hHeld ?_
        rotate_left
        · (intro w hSw; (try dsimp only at hSw); go_simp; try with_reducible rfl)
        try simp only [Act.put, List.setIfInBounds_toArray, List.set_cons_zero, List.set_cons_succ]
        refine wpAnyH_take (i := 13) (oi := ⟨some 41, _, _, _, _, _⟩) (v := ?_) rfl (by kernel_rfl) (by kernel_rfl) (by kernel_rfl) (fun _ _ _ h => h) (Or.inl ⟨by rfl, ?_⟩) hHeld ?_
        rotate_left
        · (intro w hSw; (try dsimp only at hSw); go_simp; try with_reducible rfl)
        try simp only [Act.put, List.setIfInBounds_toArray, List.set_cons_zero, List.set_cons_succ]
        refine wpAnyH_take (i := 14) (oi := ⟨some 42, _, _, _, _, _⟩) (v := ?_) rfl (by kernel_rfl) (by kernel_rfl) (by kernel_rfl) (fun _ _ _ h => h) (Or.inl ⟨by rfl, ?_⟩) hHeld ?_
        rotate_left
        · (intro w hSw; (try dsimp only at hSw); go_simp; try with_reducible rfl)
        try simp only [Act.put, List.setIfInBounds_toArray, List.set_cons_zero, List.set_cons_succ]
        refine wpAnyH_take (i := 15) (oi := ⟨some 43, _, _, _, _, _⟩) (v := ?_) rfl (by kernel_rfl) (by kernel_rfl) (by kernel_rfl) (fun _ _ _ h => h) (Or.inl ⟨by rfl, ?_⟩) hHeld ?_
        rotate_left
        · (intro w hSw; (try dsimp only at hSw); go_simp; try with_reducible rfl)
        try simp only [Act.put, List.setIfInBounds_toArray, List.set_cons_zero, List.set_cons_succ]
        refine wpAnyH_take (i := 16) (oi := ⟨some 44, _, _, _, _, _⟩) (v := ?_) rfl (by kernel_rfl) (by kernel_rfl) (by kernel_rfl) (fun _ _ _ h => h) (Or.inl ⟨by rfl, ?_⟩) hHeld ?_
        rotate_left
        · (intro w hSw; (try dsimp only at hSw); go_simp; try with_reducible rfl)
        try simp only [Act.put, List.setIfInBounds_toArray, List.set_cons_zero, List.set_cons_succ]
        refine wpAnyH_take (i := 17) (oi := ⟨some 45, _, _, _, _, _⟩) (v := ?_) rfl (by kernel_rfl) (by kernel_rfl) (by kernel_rfl) (fun _ _ _ h => h) (Or.inl ⟨by rfl, ?_⟩) hHeld ?_
        rotate_left
        · (intro w hSw; (try dsimp only at hSw); go_simp; try with_reducible rfl)
        try simp only [Act.put, List.setIfInBounds_toArray, List.set_cons_zero, List.set_cons_succ]
        refine wpAnyH_take (i := 18) (oi := ⟨some 46, _, _, _, _, _⟩) (v := ?_) rfl (by kernel_rfl) (by kernel_rfl) (by kernel_rfl) (fun _ _ _ h => h) (Or.inl ⟨by rfl, ?_⟩) hHeld ?_
        rotate_left
        · (intro w hSw; (try dsimp only at hSw); go_simp; try with_reducible rfl)
        try simp only [Act.put, List.setIfInBounds_toArray, List.set_cons_zero, List.set_cons_succ]
        refine wpAnyH_take (i := 19) (oi := ⟨some 47, _, _, _, _, _⟩) (v := ?_) rfl (by kernel_rfl) (by kernel_rfl) (by kernel_rfl) (fun _ _ _ h => h) (Or.inl ⟨by rfl, ?_⟩) hHeld ?_
        rotate_left
        · (intro w hSw; (try dsimp only at hSw); go_simp; try with_reducible rfl)
        try simp only [Act.put, List.setIfInBounds_toArray, List.set_cons_zero, List.set_cons_succ]
        refine wpAnyH_take (i := 21) (oi := ⟨some 49, _, _, _, _, _⟩) (v := ?_) rfl (by kernel_rfl) (by kernel_rfl) (by kernel_rfl) (fun _ _ _ h => h) (Or.inl ⟨by rfl, ?_⟩) hHeld ?_
        rotate_left
        · (intro w hSw; (try dsimp only at hSw); go_simp; try with_reducible rfl)
        try simp only [Act.put, List.setIfInBounds_toArray, List.set_cons_zero, List.set_cons_succ]
        refine wpAnyH_ready (rs := [20]) (by kernel_rfl) (by simp) ?_
        refine AllReadyH.cons (o := ⟨some 48, _, _, _, _, _⟩) rfl (fun K hK => ?_) AllReadyH.nil
        go_simp
        refine (CY.out _ hHeld).mono ?_
        rintro e w8 ⟨rfl, hb8⟩
        have hfin := keep3 hb8 hHeld
        go_wp2_with fail
        refine hK.out _ _ hfin (fun hHeld2 => ?_)
        clear hK K hHeld hb8 hfin
        have hHeld := hHeld2
        clear hHeld2
        try simp only [Act.put, List.setIfInBounds_toArray, List.set_cons_zero, List.set_cons_succ]
        refine wpAnyH_take (i := 22) (oi := ⟨some 50, _, _, _, _, _⟩) (v := ?_) rfl (by kernel_rfl) (by kernel_rfl) (by kernel_rfl) (fun _ _ _ h => h) (Or.inl ⟨by rfl, ?_⟩) hHeld ?_
        rotate_left
        · (intro w hSw; (try dsimp only at hSw); go_simp; try with_reducible rfl)
        try simp only [Act.put, List.setIfInBounds_toArray, List.set_cons_zero, List.set_cons_succ]
        refine wpAnyH_take (i := 23) (oi := ⟨some 51, _, _, _, _, _⟩) (v := ?_) rfl (by kernel_rfl) (by kernel_rfl) (by kernel_rfl) (fun _ _ _ h => h) (Or.inl ⟨by rfl, ?_⟩) hHeld ?_
        rotate_left
        · (intro w hSw; (try dsimp only at hSw); go_simp; try with_reducible rfl)
        try simp only [Act.put, List.setIfInBounds_toArray, List.set_cons_zero, List.set_cons_succ]
        refine wpAnyH_take (i := 24) (oi := ⟨some 52, _, _, _, _, _⟩) (v := ?_) rfl (by kernel_rfl) (by kernel_rfl) (by kernel_rfl) (fun _ _ _ h => h) (Or.inl ⟨by rfl, ?_⟩) hHeld ?_
        rotate_left
        · (intro w hSw; (try dsimp only at hSw); go_simp; try with_reducible rfl)
        try simp only [Act.put, List.setIfInBounds_toArray, List.set_cons_zero, List.set_cons_succ]
        refine wpAnyH_take (i := 25) (oi := ⟨some 53, _, _, _, _, _⟩) (v := ?_) rfl (by kernel_rfl) (by kernel_rfl) (by kernel_rfl) (fun _ _ _ h => h) (Or.inl ⟨by rfl, ?_⟩) hHeld ?_
        rotate_left
        · (intro w hSw; (try dsimp only at hSw); go_simp; try with_reducible rfl)
        try simp only [Act.put, List.setIfInBounds_toArray, List.set_cons_zero, List.set_cons_succ]
        refine wpAnyH_ready (rs := [26]) (by kernel_rfl) (by simp) ?_
        refine AllReadyH.cons (o := ⟨some 54, _, _, _, _, _⟩) rfl (fun K hK => ?_) AllReadyH.nil
        go_simp
        refine (CS.out _ hHeld).mono ?_
        rintro e w8 ⟨rfl, hb8⟩
        have hfin := keep3 hb8 hHeld
        go_wp2_with fail
        refine hK.out _ _ hfin (fun hHeld2 => ?_)
        clear hK K hHeld hb8 hfin
        have hHeld := hHeld2
        clear hHeld2
        try simp only [Act.put, List.setIfInBounds_toArray, List.set_cons_zero, List.set_cons_succ]
        refine wpAnyH_take (i := 27) (oi := ⟨some 55, _, _, _, _, _⟩) (v := ?_) rfl (by kernel_rfl) (by kernel_rfl) (by kernel_rfl) (fun _ _ _ h => h) (Or.inl ⟨by rfl, ?_⟩) hHeld ?_
        rotate_left
        · (intro w hSw; (try dsimp only at hSw); go_simp; try with_reducible rfl)
        try simp only [Act.put, List.setIfInBounds_toArray, List.set_cons_zero, List.set_cons_succ]
        refine wpAnyH_take (i := 28) (oi := ⟨some 4, _, _, _, _, _⟩) (v := ?_) rfl (by kernel_rfl) (by kernel_rfl) (by kernel_rfl) (fun _ _ _ h => h) (Or.inl ⟨by rfl, ?_⟩) hHeld ?_
        rotate_left
        · (intro w hSw; (try dsimp only at hSw); go_simp; try with_reducible rfl)
        try simp only [Act.put, List.setIfInBounds_toArray, List.set_cons_zero, List.set_cons_succ]
        refine wpAnyH_done (by kernel_rfl) ?_ _
        have HFN := Lib.hid hHeld.2.2.2.2.2.2.2.2.2.out
        go_wp2_with fail
        go_ret
        exact ⟨rfl, HFN.out⟩
end Go.Proofs.YtlebcebihieiiaaDoor
