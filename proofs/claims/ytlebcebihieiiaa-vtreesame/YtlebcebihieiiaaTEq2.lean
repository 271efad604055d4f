/-
  Trees held against each other: equal, isValid, vtree.Same, tendrilplain.Nodes.
-/
import Derived.Test.YtlebcebihieiiaaTEq
import Derived.Deep.RegionHeld3
namespace Go.Proofs.Ytlebcebihieiiaa
open Go.RowKit Go.Sort Go.Lib
set_option linter.unusedVariables false
theorem two_cells (w : World) (a b : Tr) (x y : NV) : KidCells (boxW (boxW w a x) b y) w.heap.size 0 a x ∧ KidCells (boxW (boxW w a x) b y) (w.heap.size + 1) 0 b y := by
  refine ⟨(box_node w a x).kept (kept_alloc _ _ (fun _ => False)) (fun h => h), ?_⟩
  have := box_node (boxW w a x) b y
  simpa [boxW] using this
set_option maxHeartbeats 4000000 in
set_option maxRecDepth 100000 in
theorem equal_any : ∀ a : Tr, ∀ (b : Tr) (x y : NV) (w : World), TreeAt w w.heap.size a x → TreeAt w w.heap.size b y → GoodT a → GoodT b → Calls Try.prog 25 #[nodeV a x, nodeV b y] w (EqPost a b w) := by
  refine tr_ind (fun a ih => ?_)
  intro b x y w ha hb ga gb
  obtain ⟨w1, hw1⟩ : ∃ w1, w1 = boxW w a x := ⟨_, rfl⟩
  obtain ⟨w2, hw2⟩ : ∃ w2, w2 = boxW w1 b y := ⟨_, rfl⟩
  have hb1 : Below w.heap.size w w1 := by rw [hw1]; exact below_box _ _ _
  have hb2 : Below w1.heap.size w1 w2 := by rw [hw2]; exact below_box _ _ _
  obtain ⟨hc1, hc2⟩ := two_cells w a b x y
  rw [← hw1, ← hw2] at hc1 hc2
  have hba := (ha.up hb1).up hb2
  have hbb := (hb.up hb1).up hb2
  have HA := Lib.hid hba; have HB := Lib.hid hbb; have GA := Lib.hid ga; have GB := Lib.hid gb; have HIH := Lib.hid ih
  have HW1 := Lib.hid hw1; have HW2 := Lib.hid hw2
  have HB2 := Lib.hid (hb1.trans (hb2.mono hb1.size))
  have HC1 := Lib.hid hc1; have HC2 := Lib.hid hc2
  have hla := ga.sizes.2.2.2.1
  have hlb := gb.sizes.2.2.2.1
  clear ih ha hb ga gb hba hbb hw1 hw2 hb1 hb2
  obtain ⟨c0, c1, c2, c3, c4⟩ := hc1
  obtain ⟨d0, d1, d2, d3, d4⟩ := hc2
  by_cases e0 : a.tag = b.tag
  · have e0' : (a.tag.toList == b.tag.toList) = true := by rw [eqB]; exact decide_eq_true e0
    by_cases e1 : a.key = b.key
    · have e1' : (a.key.toList == b.key.toList) = true := by rw [eqB]; exact decide_eq_true e1
      by_cases e2 : a.text = b.text
      · have e2' : (a.text.toList == b.text.toList) = true := by rw [eqB]; exact decide_eq_true e2
        have C := Lib.hid (attSame_any x.A y.A x.ca y.ca a.as b.as w2 HA.out.att HB.out.att hla hlb)
        have HE := Lib.hid (And.intro e0 (And.intro e1 e2))
        clear e0 e1 e2
        by_cases e3 : a.as = b.as
        · rw [decide_eq_true e3] at C
          have HE3 := Lib.hid e3
          clear e3
          go_enter Try.func25, Try.ntmps25
          go_wp2_with fail
          rw [two_out HW1 HW2]
          refine C.out.mono ?_
          rintro e w3 ⟨rfl, hb3⟩
          have hl1 : w.heap.size < w2.heap.size := HC1.out.block_lt
          have hl2 : w.heap.size + 1 < w2.heap.size := HC2.out.block_lt
          have C2 := Lib.hid (eqFunc_any a b x y w3 HIH.out (HA.out.up hb3) (HB.out.up hb3) GA.out GB.out)
          have HB3 := Lib.hid (HB2.out.trans (hb3.mono HB2.out.size))
          clear c0 c1 c2 c3 c4 d0 d1 d2 d3 d4
          obtain ⟨c0, c1, c2, c3, c4⟩ := HC1.out.below hb3 hl1
          obtain ⟨d0, d1, d2, d3, d4⟩ := HC2.out.below hb3 hl2
          clear hb3 C
          go_wp2_with fail
          refine C2.out.mono ?_
          rintro e w4 ⟨r, rfl, hr, hb4⟩
          have HB4 := Lib.hid (HB3.out.trans (hb4.mono HB3.out.size)); have HR := Lib.hid hr
          clear hr hb4 C2 c0 c1 c2 c3 c4 d0 d1 d2 d3 d4
          go_wp2_with fail
          go_ret
          refine ⟨r, rfl, HR.out.trans ⟨fun h => tr_ext.2 ⟨HE.out.1, HE.out.2.1, HE.out.2.2, HE3.out, h⟩, fun h => (tr_ext.1 h).2.2.2.2⟩, HB4.out⟩
        · rw [decide_eq_false e3] at C
          have HE3 := Lib.hid e3
          clear e3
          go_enter Try.func25, Try.ntmps25
          go_wp2_with fail
          rw [two_out HW1 HW2]
          refine C.out.mono ?_
          rintro e w3 ⟨rfl, hb3⟩
          have HB3 := Lib.hid (HB2.out.trans (hb3.mono HB2.out.size))
          clear hb3 C c0 c1 c2 c3 c4 d0 d1 d2 d3 d4
          go_wp2_with fail
          go_ret
          exact ⟨false, rfl, ⟨(fun h => by cases h), fun h => absurd (tr_ext.1 h).2.2.2.1 HE3.out⟩, HB3.out⟩
      · have e2' : (a.text.toList == b.text.toList) = false := by rw [eqB]; exact decide_eq_false e2
        have HE := Lib.hid e2
        clear e0 e1 e2
        go_enter Try.func25, Try.ntmps25
        go_wp2_with fail
        rw [two_out HW1 HW2]
        go_ret
        exact ⟨false, rfl, ⟨(fun h => by cases h), fun h => absurd (tr_ext.1 h).2.2.1 HE.out⟩, HB2.out⟩
    · have e1' : (a.key.toList == b.key.toList) = false := by rw [eqB]; exact decide_eq_false e1
      have HE := Lib.hid e1
      clear e0 e1
      go_enter Try.func25, Try.ntmps25
      go_wp2_with fail
      rw [two_out HW1 HW2]
      go_ret
      exact ⟨false, rfl, ⟨(fun h => by cases h), fun h => absurd (tr_ext.1 h).2.1 HE.out⟩, HB2.out⟩
  · have e0' : (a.tag.toList == b.tag.toList) = false := by rw [eqB]; exact decide_eq_false e0
    have HE := Lib.hid e0
    clear e0
    go_enter Try.func25, Try.ntmps25
    go_wp2_with fail
    rw [two_out HW1 HW2]
    go_ret
    exact ⟨false, rfl, ⟨(fun h => by cases h), fun h => absurd (tr_ext.1 h).1 HE.out⟩, HB2.out⟩
set_option maxHeartbeats 2000000 in
theorem isValid_any (t : Tr) (x : NV) (w : World) (h : TreeAt w w.heap.size t x) (hg : GoodT t) : Calls Try.prog 23 #[nodeV t x] w fun e w' => ∃ b, e = .returned (.bool b) ∧ (b = true ↔ okT t) ∧ Below w.heap.size w w' := by
  obtain ⟨w1, hw1⟩ : ∃ w1, w1 = boxW w t x := ⟨_, rfl⟩
  have hb1 : Below w.heap.size w w1 := by rw [hw1]; exact below_box w t x
  obtain ⟨c0, c1, c2, c3, c4⟩ : KidCells w1 w.heap.size 0 t x := by rw [hw1]; exact box_node w t x
  have C := Lib.hid (vcheck_any t x w1 (h.up hb1) hg)
  have HW := Lib.hid hw1; have HB1 := Lib.hid hb1
  obtain ⟨r, hr⟩ : ∃ r, r = seenL aloneT t := ⟨_, rfl⟩
  rw [← hr] at C
  have HR := Lib.hid (show r.2 = 0 ↔ okT t by rw [hr]; exact Iff.rfl)
  clear h hw1 hb1 hg hr
  obtain ⟨l, f⟩ := r
  obtain ⟨a, ha⟩ : ∃ a : Int, a = if (l, f).2 = 0 then (0 : Int) else ((l, f).1.length : Int) := ⟨_, rfl⟩
  rw [← ha] at C
  clear ha
  go_enter Try.func23, Try.ntmps23
  go_wp2_with fail
  rw [box_out HW]
  refine C.out.mono ?_
  rintro e w2 ⟨rfl, hb2⟩
  have HB2 := Lib.hid (HB1.out.trans (hb2.mono HB1.out.size))
  clear hb2 c0 c1 c2 c3 c4 C
  by_cases h0 : f = 0
  · have HZ := Lib.hid h0
    subst h0
    go_wp2_with fail
    go_ret
    exact ⟨true, rfl, ⟨fun _ => HR.out.1 (by first | exact rfl | exact trivial), fun _ => rfl⟩, HB2.out⟩
  · have h0' : (f == 0) = false := by simpa using h0
    have HZ := Lib.hid (show ¬ okT t from fun h => h0 (HR.out.2 h))
    clear h0
    go_wp2_with fail
    go_ret
    exact ⟨false, rfl, ⟨(fun h => by cases h), fun h => absurd h HZ.out⟩, HB2.out⟩
set_option maxHeartbeats 2000000 in
theorem vsame_any (a b : Tr) (x y : NV) (w : World) (ha : TreeAt w w.heap.size a x) (hb : TreeAt w w.heap.size b y) (ga : GoodT a) (gb : GoodT b) : Calls Try.prog 16 #[nodeV a x, nodeV b y] w fun e w' => ∃ r, e = .returned (.bool r) ∧ (r = true ↔ okT a ∧ a = b) ∧ Below w.heap.size w w' := by
  obtain ⟨w1, hw1⟩ : ∃ w1, w1 = boxW w a x := ⟨_, rfl⟩
  obtain ⟨w2, hw2⟩ : ∃ w2, w2 = boxW w1 b y := ⟨_, rfl⟩
  have hb1 : Below w.heap.size w w1 := by rw [hw1]; exact below_box _ _ _
  have hb2 : Below w1.heap.size w1 w2 := by rw [hw2]; exact below_box _ _ _
  obtain ⟨hc1, hc2⟩ := two_cells w a b x y
  rw [← hw1, ← hw2] at hc1 hc2
  have hl1 : w.heap.size < w2.heap.size := hc1.block_lt
  have hl2 : w.heap.size + 1 < w2.heap.size := hc2.block_lt
  have hba := (ha.up hb1).up hb2
  have hbb := (hb.up hb1).up hb2
  have C := Lib.hid (isValid_any a x w2 hba ga)
  have HA := Lib.hid hba; have HB := Lib.hid hbb; have GA := Lib.hid ga; have GB := Lib.hid gb
  have HW1 := Lib.hid hw1; have HW2 := Lib.hid hw2
  have HB2 := Lib.hid (hb1.trans (hb2.mono hb1.size))
  have HC1 := Lib.hid hc1; have HC2 := Lib.hid hc2
  clear ha hb ga gb hba hbb hw1 hw2 hb1 hb2
  obtain ⟨c0, c1, c2, c3, c4⟩ := hc1
  obtain ⟨d0, d1, d2, d3, d4⟩ := hc2
  go_enter Try.func16, Try.ntmps16
  go_wp2_with fail
  rw [two_out HW1 HW2]
  refine C.out.mono ?_
  rintro e w3 ⟨v, rfl, hv, hb3⟩
  have HV := Lib.hid hv
  have HB3 := Lib.hid (HB2.out.trans (hb3.mono HB2.out.size))
  clear c0 c1 c2 c3 c4 d0 d1 d2 d3 d4 C hv
  obtain ⟨c0, c1, c2, c3, c4⟩ := HC1.out.below hb3 hl1
  obtain ⟨d0, d1, d2, d3, d4⟩ := HC2.out.below hb3 hl2
  have C2 := Lib.hid (equal_any a b x y w3 (HA.out.up hb3) (HB.out.up hb3) GA.out GB.out)
  clear hb3
  cases v with
  | true =>
    have HOK := Lib.hid (HV.out.1 rfl)
    clear HV
    go_wp2_with fail
    refine C2.out.mono ?_
    rintro e w4 ⟨r, rfl, hr, hb4⟩
    have HB4 := Lib.hid (HB3.out.trans (hb4.mono HB3.out.size)); have HR := Lib.hid hr
    clear hr hb4 C2 c0 c1 c2 c3 c4 d0 d1 d2 d3 d4
    go_wp2_with fail
    go_ret
    exact ⟨r, rfl, HR.out.trans ⟨fun h => ⟨HOK.out, h⟩, fun h => h.2⟩, HB4.out⟩
  | false =>
    have HOK := Lib.hid (show ¬ okT a from fun h => by have := HV.out.2 h; cases this)
    clear HV
    go_wp2_with fail
    go_ret
    exact ⟨false, rfl, ⟨(fun h => by cases h), fun h => absurd h.1 HOK.out⟩, HB3.out⟩
end Go.Proofs.Ytlebcebihieiiaa
