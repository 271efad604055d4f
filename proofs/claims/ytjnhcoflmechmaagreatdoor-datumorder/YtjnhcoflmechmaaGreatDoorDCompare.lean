/-
  datum.order and Compare.
-/
import Derived.Test.YtjnhcoflmechmaaGreatDoorDOrder
import Derived.Deep.RegionHeld3
namespace Go.Proofs.YtjnhcoflmechmaaGreatDoor
open Go.RowKit Go.Sort
set_option linter.unusedVariables false
set_option maxRecDepth 100000
def HeldO (w2 : World) (n1 n2 : Nat) (a b : Dt) (x y : NV) (W : World) : Prop :=
  W.cell? ⟨n1, 0, none⟩ = some (.int .i64 a.kind) ∧ W.cell? ⟨n1, 1, none⟩ = some (.int .i64 a.num) ∧ W.cell? ⟨n1, 2, none⟩ = some (.string a.text) ∧ W.cell? ⟨n1, 3, none⟩ = some (.slice x.A a.names.length x.ca) ∧ W.cell? ⟨n1, 4, none⟩ = some (.slice x.K a.list.length x.ck) ∧
  W.cell? ⟨n2, 0, none⟩ = some (.int .i64 b.kind) ∧ W.cell? ⟨n2, 1, none⟩ = some (.int .i64 b.num) ∧ W.cell? ⟨n2, 2, none⟩ = some (.string b.text) ∧ W.cell? ⟨n2, 3, none⟩ = some (.slice y.A b.names.length y.ca) ∧ W.cell? ⟨n2, 4, none⟩ = some (.slice y.K b.list.length y.ck) ∧ RowKit.Hid (Below w2.heap.size w2 W)
theorem keepO {w2 : World} {n1 n2 : Nat} {a b : Dt} {x y : NV} {W W' : World} (hb : Below W.heap.size W W') (h : HeldO w2 n1 n2 a b x y W) : HeldO w2 n1 n2 a b x y W' := by
  have hk := kept_below hb (fun _ => False)
  have nf : ¬ False := fun h => h
  obtain ⟨a0, a1, a2, a3, a4, b0, b1, b2, b3, b4, hB⟩ := h
  exact ⟨hk.cellOf a0 nf, hk.cellOf a1 nf, hk.cellOf a2 nf, hk.cellOf a3 nf, hk.cellOf a4 nf, hk.cellOf b0 nf, hk.cellOf b1 nf, hk.cellOf b2 nf, hk.cellOf b3 nf, hk.cellOf b4 nf, Lib.hid (hB.out.trans (hb.mono hB.out.size))⟩
theorem five_cells (W : World) (a b c d e : Int) (t : TypeId) : ∀ j, (hj : j < [a, b, c, d, e].length) → (W.alloc (.cells #[.int .i64 a, .int .i64 b, .int .i64 c, .int .i64 d, .int .i64 e] t)).cell? ⟨W.heap.size, j, none⟩ = some (.int .i64 [a, b, c, d, e][j]) := by
  intro j hj
  have e1 : (W.alloc (.cells #[.int .i64 a, .int .i64 b, .int .i64 c, .int .i64 d, .int .i64 e] t)).cell? ⟨W.heap.size, j, none⟩ = (#[.int .i64 a, .int .i64 b, .int .i64 c, .int .i64 d, .int .i64 e] : Array Value)[j]? := cell_of_row _ _ _ _ _ (0, 0) (heap_alloc_new W _)
  rw [e1]
  match j, hj with
  | 0, _ => rfl
  | 1, _ => rfl
  | 2, _ => rfl
  | 3, _ => rfl
  | 4, _ => rfl
theorem or5 (a b c d e : Int) : orL [a, b, c, d, e] = orI a (orI b (orI c (orI d e))) := by
  have : orI e 0 = e := by unfold orI; split <;> omega
  simp only [orL, this]
theorem or5_any (n a b c d f : Int) (W : World) (t : TypeId) (hn : n = orI a (orI b (orI c (orI d f)))) : Calls Tryz.prog 88 #[.slice (some ⟨W.heap.size, 0, none⟩) 5 5] (W.alloc (.cells #[.int .i64 a, .int .i64 b, .int .i64 c, .int .i64 d, .int .i64 f] t)) fun e w' => e = .returned (.int .i64 n) ∧ W.alloc (.cells #[.int .i64 a, .int .i64 b, .int .i64 c, .int .i64 d, .int .i64 f] t) = w' := by
  rw [hn, ← or5]
  exact or_any W.heap.size 5 [a, b, c, d, f] _ (five_cells W a b c d f t) (by show 5 ≤ 1000000; omega)
set_option maxHeartbeats 8000000 in
theorem order_any : ∀ a : Dt, GoodD a → OrderP a := by
  refine dt_ind (fun a ih hga => ?_)
  intro b x y w ha hb hgb
  obtain ⟨w1, hw1⟩ : ∃ w1, w1 = boxD w a x := ⟨_, rfl⟩
  have hb1 : Below w.heap.size w w1 := by rw [hw1]; exact below_boxD w a x
  have hbx1 : DatCells w1 w.heap.size 0 a x := by rw [hw1]; exact box_dat w a x
  obtain ⟨w2, hw2⟩ : ∃ w2, w2 = boxD w1 b y := ⟨_, rfl⟩
  have hb2 : Below w1.heap.size w1 w2 := by rw [hw2]; exact below_boxD w1 b y
  have hbx2 : DatCells w2 w1.heap.size 0 b y := by rw [hw2]; exact box_dat w1 b y
  have hsz1 : w1.heap.size = w.heap.size + 1 := by rw [hw1]; simp
  have hB2 := hb1.trans (hb2.mono hb1.size)
  have hsz : w.heap.size + 1 < w2.heap.size := by have := hbx2.block_lt; omega
  obtain ⟨a0, a1, a2, a3, a4⟩ := hbx1.below hb2 hbx1.block_lt
  obtain ⟨b0, b1, b2, b3, b4⟩ := hbx2
  rw [hsz1] at b0 b1 b2 b3 b4
  have HST := Lib.hid (show HeldO w2 w.heap.size (w.heap.size + 1) a b x y w2.drew from ⟨a0, a1, a2, a3, a4, b0, b1, b2, b3, b4, Lib.hid (below_drewN _ w2 1)⟩)
  have HA2 := (ha.up hb1).up hb2
  have HB2' := (hb.up hb1).up hb2
  obtain ⟨n3, hn3⟩ : ∃ n3, n3 = cmpN a.text b.text := ⟨_, rfl⟩
  obtain ⟨n4, hn4⟩ : ∃ n4, n4 = cmpNL a.names b.names := ⟨_, rfl⟩
  obtain ⟨n5, hn5⟩ : ∃ n5, n5 = cmpDL a.list b.list := ⟨_, rfl⟩
  obtain ⟨R, hR⟩ : ∃ R, R = cmpD a b := ⟨_, rfl⟩
  have hRn : R = orI (cmpI a.kind b.kind) (orI (cmpI a.num b.num) (orI n3 (orI n4 n5))) := by rw [hR, cmpD_eq, hn3, hn4, hn5]
  obtain ⟨ga1, ga2, ga3, ga4, ga5, ga6⟩ := hga.sizes
  obtain ⟨gb1, gb2, gb3, gb4, gb5, gb6⟩ := hgb.sizes
  have C3 := Lib.hid (show ∀ W, Calls Tryz.prog 90 #[.string a.text, .string b.text] W (fun e w' => e = .returned (.int .i64 n3) ∧ W = w') from fun W => by rw [hn3]; exact charsCompare_any _ _ _)
  have C4 := Lib.hid (show ∀ W, HeldO w2 w.heap.size (w.heap.size + 1) a b x y W → Calls Tryz.prog 91 #[.slice x.A a.names.length x.ca, .slice y.A b.names.length y.ca, .func (.func 90) #[] #[]] W (fun e w' => e = .returned (.int .i64 n4) ∧ W = w') from fun W hW => by
    rw [hn4]
    have hBW := hW.2.2.2.2.2.2.2.2.2.2.out
    exact cfN_any _ _ _ _ _ _ W (HA2.names.up hBW) (HB2'.names.up hBW) ga4 gb4)
  have C5 := Lib.hid (show ∀ W, HeldO w2 w.heap.size (w.heap.size + 1) a b x y W → Calls Tryz.prog 92 #[.slice x.K a.list.length x.ck, .slice y.K b.list.length y.ck, .func (.func 53) #[] #[]] W (fun e w' => e = .returned (.int .i64 n5) ∧ Below W.heap.size W w') from fun W hW => by
    rw [hn5]
    have hBW := hW.2.2.2.2.2.2.2.2.2.2.out
    refine cfD_any a.list b.list (fun k hk => ih k hk (by obtain ⟨j, hj, rfl⟩ := List.getElem_of_mem hk; exact hga.kid hj rfl)) _ _ _ _ W (fun j hj => ?_) (fun j hj => ?_) (fun k hk => by obtain ⟨j, hj, rfl⟩ := List.getElem_of_mem hk; exact hgb.kid hj rfl) ga6 gb6
    · obtain ⟨bk, off, k, z, hK, hbk, hk, hc, ht⟩ := (HA2.up hBW).kid hj
      subst hk; exact ⟨bk, off, z, hK, hbk, hc, ht⟩
    · obtain ⟨bk, off, k, z, hK, hbk, hk, hc, ht⟩ := (HB2'.up hBW).kid hj
      subst hk; exact ⟨bk, off, z, hK, hbk, hc, ht⟩)
  rw [← hR]
  have HRN := Lib.hid hRn; have HW1 := Lib.hid hw1; have HW2 := Lib.hid hw2; have HB := Lib.hid hB2
  clear ih hga hgb ha hb hw1 hw2 hb1 hb2 hbx1 hsz1 hB2 hsz HA2 HB2' hn3 hn4 hn5 hR hRn ga1 ga2 ga3 ga4 ga5 ga6 gb1 gb2 gb3 gb4 gb5 gb6 a0 a1 a2 a3 a4 b0 b1 b2 b3 b4
  go_enter Tryz.func53, Tryz.ntmps53
  go_upto_region 1 with (fail)
  rw [boxD_out HW1]
  rw [boxD_out HW2]
  obtain ⟨a0, a1, a2, a3, a4, b0, b1, b2, b3, b4, hB⟩ := HST.out
  go_region_held3 (fun W => W.cell? ⟨w.heap.size, 0, none⟩ = some (.int .i64 a.kind) ∧ W.cell? ⟨w.heap.size, 1, none⟩ = some (.int .i64 a.num) ∧ W.cell? ⟨w.heap.size, 2, none⟩ = some (.string a.text) ∧ W.cell? ⟨w.heap.size, 3, none⟩ = some (.slice x.A a.names.length x.ca) ∧ W.cell? ⟨w.heap.size, 4, none⟩ = some (.slice x.K a.list.length x.ck) ∧
    W.cell? ⟨w.heap.size + 1, 0, none⟩ = some (.int .i64 b.kind) ∧ W.cell? ⟨w.heap.size + 1, 1, none⟩ = some (.int .i64 b.num) ∧ W.cell? ⟨w.heap.size + 1, 2, none⟩ = some (.string b.text) ∧ W.cell? ⟨w.heap.size + 1, 3, none⟩ = some (.slice y.A b.names.length y.ca) ∧ W.cell? ⟨w.heap.size + 1, 4, none⟩ = some (.slice y.K b.list.length y.ck) ∧ RowKit.Hid (Below w2.heap.size w2 W))
    (first | assumption | exact HST.out | exact keepO ((Below.refl _ _).alloc (Nat.le_refl _) _) (by assumption))
    ((first
      | (go_at_call 89; refine (cmpI_any _ _ _).mono ?_; rintro e w7 ⟨rfl, rfl⟩)
      | (go_at_call 90; refine (C3.out _).mono ?_; rintro e w7 ⟨rfl, rfl⟩)
      | (go_at_call 91; refine (C4.out _ (by assumption)).mono ?_; rintro e w7 ⟨rfl, rfl⟩)
      | (go_at_call 92; refine (C5.out _ (by assumption)).mono ?_; rintro e w7 ⟨rfl, hb7⟩; have hfin := keepO hb7 (by assumption))
      | (go_at_call 88; refine (or5_any R (cmpI a.kind b.kind) (cmpI a.num b.num) n3 n4 n5 _ _ HRN.out).mono ?_; rintro e w8 ⟨rfl, rfl⟩)))
  all_goals
    have HFN := Lib.hid (show Below w2.heap.size w2 _ from (by assumption : HeldO w2 w.heap.size (w.heap.size + 1) a b x y _).2.2.2.2.2.2.2.2.2.2.out)
    go_wp2_with fail
    go_ret
    exact ⟨rfl, HB.out.trans (HFN.out.mono HB.out.size)⟩
def CompareP (a b : Dt) (w : World) (e : Ending) (w' : World) : Prop := ∃ n : Int, e = .returned (.int .i64 n) ∧ ((RightP a ∧ RightP b ∧ n = cmpD a b) ∨ (¬ (RightP a ∧ RightP b) ∧ n = 0)) ∧ Below w.heap.size w w'
set_option maxHeartbeats 4000000 in
theorem compare_any (a b : Dt) (x y : NV) (w : World) (ha : DatAt w w.heap.size a x) (hb : DatAt w w.heap.size b y) (hga : GoodD a) (hgb : GoodD b) : Calls Tryz.prog 28 #[datV a x, datV b y] w (CompareP a b w) := by
  obtain ⟨w1, hw1⟩ : ∃ w1, w1 = boxD w a x := ⟨_, rfl⟩
  have hb1 : Below w.heap.size w w1 := by rw [hw1]; exact below_boxD w a x
  have hbx1 : DatCells w1 w.heap.size 0 a x := by rw [hw1]; exact box_dat w a x
  obtain ⟨w2, hw2⟩ : ∃ w2, w2 = boxD w1 b y := ⟨_, rfl⟩
  have hb2 : Below w1.heap.size w1 w2 := by rw [hw2]; exact below_boxD w1 b y
  have hbx2 : DatCells w2 w1.heap.size 0 b y := by rw [hw2]; exact box_dat w1 b y
  have hsz1 : w1.heap.size = w.heap.size + 1 := by rw [hw1]; simp
  have hB2 := hb1.trans (hb2.mono hb1.size)
  have hsz : w.heap.size + 1 < w2.heap.size := by have := hbx2.block_lt; omega
  have HX1 := Lib.hid (hbx1.below hb2 hbx1.block_lt)
  have hbx2' : DatCells w2 (w.heap.size + 1) 0 b y := by rw [← hsz1]; exact hbx2
  have HX2 := Lib.hid hbx2'
  have HA2 := Lib.hid ((ha.up hb1).up hb2); have HB2' := Lib.hid ((hb.up hb1).up hb2)
  have HGA := Lib.hid hga; have HGB := Lib.hid hgb
  have HW1 := Lib.hid hw1; have HW2 := Lib.hid hw2; have HB := Lib.hid hB2
  have CA := Lib.hid (right_any a x w2 HA2.out hga)
  obtain ⟨a0, a1, a2, a3, a4⟩ := HX1.out
  obtain ⟨b0, b1, b2, b3, b4⟩ := HX2.out
  clear ha hb hga hgb hw1 hw2 hb1 hb2 hbx1 hbx2 hbx2' hsz1 hB2
  go_enter Tryz.func28, Tryz.ntmps28
  go_upto_region 1 with (fail)
  rw [boxD_out HW1]
  rw [boxD_out HW2]
  go_wp2_with fail
  refine CA.out.mono ?_
  rintro e w3 ⟨r, rfl, hr, hb3⟩
  have HR := Lib.hid hr; have HB3 := Lib.hid hb3
  have hsz3 : w2.heap.size ≤ w3.heap.size := hb3.size
  have HB03 := Lib.hid (HB.out.trans (hb3.mono HB.out.size))
  clear hr hb3 CA a0 a1 a2 a3 a4 b0 b1 b2 b3 b4
  obtain ⟨a0, a1, a2, a3, a4⟩ := HX1.out.below HB3.out (by omega)
  obtain ⟨b0, b1, b2, b3, b4⟩ := HX2.out.below HB3.out (by omega)
  cases r with
  | false =>
    go_wp2_with fail
    go_ret
    exact ⟨0, rfl, .inr ⟨fun h => (by have := HR.out.2 h.1; cases this), rfl⟩, HB03.out⟩
  | true =>
    have CB := Lib.hid (right_any b y w3 (HB2'.out.up HB3.out) HGB.out)
    go_wp2_with fail
    refine CB.out.mono ?_
    rintro e w4 ⟨r2, rfl, hr2, hb4⟩
    have HR2 := Lib.hid hr2; have HB4 := Lib.hid hb4
    have hsz4 : w3.heap.size ≤ w4.heap.size := hb4.size
    have HB04 := Lib.hid (HB03.out.trans (hb4.mono HB03.out.size))
    clear hr2 hb4 CB a0 a1 a2 a3 a4 b0 b1 b2 b3 b4
    obtain ⟨a0, a1, a2, a3, a4⟩ := (HX1.out.below HB3.out (by omega)).below HB4.out (by omega)
    obtain ⟨b0, b1, b2, b3, b4⟩ := (HX2.out.below HB3.out (by omega)).below HB4.out (by omega)
    cases r2 with
    | false =>
      go_wp2_with fail
      go_ret
      exact ⟨0, rfl, .inr ⟨fun h => (by have := HR2.out.2 h.2; cases this), rfl⟩, HB04.out⟩
    | true =>
      have CO := Lib.hid (order_any a HGA.out b x y w4 ((HA2.out.up HB3.out).up HB4.out) ((HB2'.out.up HB3.out).up HB4.out) HGB.out)
      go_wp2_with fail
      refine CO.out.mono ?_
      rintro e w5 ⟨rfl, hb5⟩
      have HB5 := Lib.hid (HB04.out.trans (hb5.mono HB04.out.size))
      clear hb5 CO
      go_wp2_with fail
      go_ret
      exact ⟨_, rfl, .inl ⟨HR.out.1 (by trivial), HR2.out.1 (by trivial), rfl⟩, HB5.out⟩
end Go.Proofs.YtjnhcoflmechmaaGreatDoor
