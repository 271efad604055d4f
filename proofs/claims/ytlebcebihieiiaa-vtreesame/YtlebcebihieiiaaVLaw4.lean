/-
  tendrillaw11.VtreeSame: true, whatever the two trees.
-/
import Derived.Test.YtlebcebihieiiaaCopy
import Derived.Test.YtlebcebihieiiaaVLaw2
namespace Go.Proofs.Ytlebcebihieiiaa
open Go.RowKit Go.Sort Go.Lib
set_option linter.unusedVariables false
theorem good_no : GoodT noT := good_leaf _ _ _ (by decide) (by decide) (by decide)
theorem iff_bool {b : Bool} {p : Prop} (h : b = true ↔ p) : (p → b = true) ∧ (¬ p → b = false) := ⟨h.2, fun hn => by cases b with | false => rfl | true => exact absurd (h.1 rfl) hn⟩
theorem own_apart {w : World} {b1 b2 : Nat} {v u : Value} {n m : Nat} {xs ys : List Value} (h : w.ownsRow b1 25 5 v n xs) (h' : w.ownsRow b2 42 2 u m ys) {b : Nat} (hb : OwnB v b) : ¬ OwnB u b := by
  intro hu
  rcases h.2 with ⟨rfl, _⟩ | ⟨g, c, cur, rfl, _, hg, _⟩
  · cases hb
  · rcases h'.2 with ⟨rfl, _⟩ | ⟨g', c', cur', rfl, _, hg', _⟩
    · cases hu
    · have e1 : g = b := by simpa [OwnB, Value.ownBlock] using hb
      have e2 : g' = b := by simpa [OwnB, Value.ownBlock] using hu
      rw [e1] at hg
      rw [e2, hg] at hg'
      simp at hg'
theorem ok_tag {t : Tr} (h : okT t) : t.tag.size ≤ 32 := by
  have h1 := (goodV_iff.1 ((ok_char t).1.1 h).1).1
  cases hw : wfB tagB t.tag with
  | false => rw [alone_tag hw] at h1; cases h1
  | true =>
    simp only [wfB, Bool.and_eq_true, decide_eq_true_eq] at hw
    exact hw.1.1.2
set_option maxHeartbeats 8000000 in
set_option maxRecDepth 100000 in
theorem sames_any (a b : Tr) (x y : NV) (w : World) (ha : TreeAt w w.heap.size a x) (hb : TreeAt w w.heap.size b y) (fa : FitT a) (fb : FitT b) : Calls Try.prog 4 #[nodeV a x, nodeV b y] w (TrueB w) := by
  have nf : ¬ (False : Prop) := fun h => h
  obtain ⟨w1, hw1⟩ : ∃ w1, w1 = boxW w a x := ⟨_, rfl⟩
  obtain ⟨w2, hw2⟩ : ∃ w2, w2 = boxW w1 b y := ⟨_, rfl⟩
  have hb1 : Below w.heap.size w w1 := by rw [hw1]; exact below_box _ _ _
  have hb2 : Below w1.heap.size w1 w2 := by rw [hw2]; exact below_box _ _ _
  obtain ⟨hc1, hc2⟩ := two_cells w a b x y
  rw [← hw1, ← hw2] at hc1 hc2
  have hl1 : w.heap.size < w2.heap.size := hc1.block_lt
  have hl2 : w.heap.size + 1 < w2.heap.size := hc2.block_lt
  have hta := (ha.up hb1).up hb2
  have htb := (hb.up hb1).up hb2
  have HA := Lib.hid hta; have HB := Lib.hid htb; have FB := Lib.hid fb
  have C1 := Lib.hid (few_any a x 800 w2 hta fa (by omega))
  rw [show ((800 : Nat) : Int) = 800 from rfl] at C1
  have HW1 := Lib.hid hw1; have HW2 := Lib.hid hw2
  have HB2 := Lib.hid (hb1.trans (hb2.mono hb1.size))
  have HC1 := Lib.hid hc1; have HC2 := Lib.hid hc2
  clear ha hb fa fb hta htb hw1 hw2 hb1 hb2
  obtain ⟨c0, c1, c2, c3, c4⟩ := hc1
  obtain ⟨d0, d1, d2, d3, d4⟩ := hc2
  go_enter Try.func4, Try.ntmps4
  go_wp2_with fail
  rw [two_out HW1 HW2]
  refine C1.out.mono ?_
  rintro e w3 ⟨r, rfl, hga, hb3⟩
  have HB3 := Lib.hid hb3
  clear c0 c1 c2 c3 c4 d0 d1 d2 d3 d4 C1
  cases r with
  | false =>
    clear hga hb3
    go_wp2_with fail
    refine (same11_any w3).mono ?_
    rintro e w4 ⟨rfl, hb4⟩
    have HB4 := Lib.hid (HB3.out.trans (hb4.mono HB3.out.size))
    clear hb4
    go_wp2_with fail
    go_ret
    exact ⟨rfl, HB2.out.trans (HB4.out.mono HB2.out.size)⟩
  | true =>
    obtain ⟨ga, -⟩ := hga rfl
    have GA := Lib.hid ga
    obtain ⟨d0, d1, d2, d3, d4⟩ := HC2.out.below hb3 hl2
    have C2 := Lib.hid (few_any b y 800 w3 (HB.out.up hb3) FB.out (by omega))
    rw [show ((800 : Nat) : Int) = 800 from rfl] at C2
    clear hga hb3 ga
    go_wp2_with fail
    refine C2.out.mono ?_
    rintro e w4 ⟨r, rfl, hgb, hb4⟩
    have HB4 := Lib.hid (HB3.out.trans (hb4.mono HB3.out.size))
    clear d0 d1 d2 d3 d4 C2
    cases r with
    | false =>
      clear hgb hb4
      go_wp2_with fail
      refine (same11_any w4).mono ?_
      rintro e w5 ⟨rfl, hb5⟩
      have HB5 := Lib.hid (HB4.out.trans (hb5.mono HB4.out.size))
      clear hb5
      go_wp2_with fail
      go_ret
      exact ⟨rfl, HB2.out.trans (HB5.out.mono HB2.out.size)⟩
    | true =>
      obtain ⟨gb, -⟩ := hgb rfl
      have GB := Lib.hid gb
      obtain ⟨c0, c1, c2, c3, c4⟩ := HC1.out.below HB4.out hl1
      have C3 := Lib.hid (right_any a x w4 (HA.out.up HB4.out) GA.out)
      clear hgb hb4 gb
      go_wp2_with fail
      refine C3.out.mono ?_
      rintro e w5 ⟨is, rfl, his, hb5⟩
      have HIS := Lib.hid his
      have HB5 := Lib.hid (HB4.out.trans (hb5.mono HB4.out.size))
      have C4 := Lib.hid (copy_any a x w5 (HA.out.up HB5.out) GA.out)
      clear c0 c1 c2 c3 c4 C3 his
      obtain ⟨c0, c1, c2, c3, c4⟩ := HC1.out.below HB5.out hl1
      clear hb5
      have hl5 : w.heap.size + 1 < w5.heap.size := Nat.lt_of_lt_of_le hl2 HB5.out.size
      go_wp2_with fail
      refine C4.out.mono ?_
      rintro e w6 (⟨hno, rfl, hb6⟩ | ⟨hok, x', ps, rfl, hti, hoa, hok', hpm, hb6⟩)
      · have his : is = false := (iff_bool HIS.out).2 hno
        subst his
        obtain ⟨w7, hw7⟩ : ∃ w7, w7 = boxW w6 noT leafNV := ⟨_, rfl⟩
        have hb7 : Below w6.heap.size w6 w7 := by rw [hw7]; exact below_box _ _ _
        have hkn : KidCells w7 w6.heap.size 0 noT leafNV := by rw [hw7]; exact box_node _ _ _
        have HB6 := Lib.hid (HB5.out.trans (hb6.mono HB5.out.size))
        have HB7 := Lib.hid (HB6.out.trans (hb7.mono HB6.out.size))
        have C5 := Lib.hid (vsame_any a b x y w7 (HA.out.up HB7.out) (HB.out.up HB7.out) GA.out GB.out)
        have HW7 := Lib.hid hw7; have HKN := Lib.hid hkn; have HNO := Lib.hid hno
        have hl7 : w6.heap.size < w7.heap.size := hkn.block_lt
        clear c0 c1 c2 c3 c4
        obtain ⟨c0, c1, c2, c3, c4⟩ := kid_raw (t := noT) (x := leafNV) (B := 0) (HC1.out.below HB6.out hl1)
        obtain ⟨d0, d1, d2, d3, d4⟩ := kid_raw (t := noT) (x := leafNV) (B := 0) (HC2.out.below HB6.out hl2)
        clear hw7 hb7 hkn hno hb6 C4 HIS
        go_wp2_with fail
        rw [box_out HW7]
        refine C5.out.mono ?_
        rintro e w8 ⟨r1, rfl, hr1, hb8⟩
        obtain rfl : r1 = false := (iff_bool hr1).2 (fun h => HNO.out h.1)
        have HB8 := Lib.hid (HB7.out.trans (hb8.mono HB7.out.size))
        clear c0 c1 c2 c3 c4 d0 d1 d2 d3 d4 hr1 C5
        obtain ⟨c0, c1, c2, c3, c4⟩ := HC1.out.below HB8.out hl1
        obtain ⟨k0, k1, k2, k3, k4⟩ := HKN.out.below hb8 hl7
        have C6 := Lib.hid (nodes_any noT noT leafNV leafNV w8 (leaf_tree _ _ _ _ _) (leaf_tree _ _ _ _ _) good_no good_no)
        change RowKit.Hid (Calls Try.prog 17 #[nodeV noT leafNV, .agg #[.string ⟨#[]⟩, .string ⟨#[]⟩, .string ⟨#[]⟩, .slice none 0 0, .slice none 0 0]] w8 _) at C6
        clear hb8
        go_wp2_with fail
        refine C6.out.mono ?_
        rintro e w9 ⟨r2, rfl, hr2, hb9⟩
        obtain rfl : r2 = true := hr2.2 rfl
        have HB9 := Lib.hid (HB8.out.trans (hb9.mono HB8.out.size))
        clear c0 c1 c2 c3 c4 k0 k1 k2 k3 k4 hr2 C6 hb9
        obtain ⟨c0, c1, c2, c3, c4⟩ := HC1.out.below HB9.out hl1
        have C7 := Lib.hid (vsame_any a a x x w9 (HA.out.up HB9.out) (HA.out.up HB9.out) GA.out GA.out)
        go_wp2_with fail
        refine C7.out.mono ?_
        rintro e w10 ⟨r3, rfl, hr3, hb10⟩
        obtain rfl : r3 = false := (iff_bool hr3).2 (fun h => HNO.out h.1)
        have HB10 := Lib.hid (HB9.out.trans (hb10.mono HB9.out.size))
        clear c0 c1 c2 c3 c4 hr3 C7 hb10
        go_wp2_with fail
        refine (same11_any w10).mono ?_
        rintro e w11 ⟨rfl, hb11⟩
        have HB11 := Lib.hid (HB10.out.trans (hb11.mono HB10.out.size))
        clear hb11
        go_wp2_with fail
        go_ret
        exact ⟨rfl, HB2.out.trans (HB11.out.mono HB2.out.size)⟩
      · have his : is = true := (iff_bool HIS.out).1 hok
        subst his
        obtain ⟨w7, hw7⟩ : ∃ w7, w7 = boxW w6 a x' := ⟨_, rfl⟩
        have hb7 : Below w6.heap.size w6 w7 := by rw [hw7]; exact below_box _ _ _
        have hkn : KidCells w7 w6.heap.size 0 a x' := by rw [hw7]; exact box_node _ _ _
        have HB6 := Lib.hid (HB5.out.trans (hb6.mono HB5.out.size))
        have HB7 := Lib.hid (HB6.out.trans (hb7.mono HB6.out.size)); have HB67 := Lib.hid hb7
        have C5 := Lib.hid (vsame_any a b x y w7 (HA.out.up HB7.out) (HB.out.up HB7.out) GA.out GB.out)
        have HW7 := Lib.hid hw7; have HKN := Lib.hid hkn; have HOK := Lib.hid hok; have HTI := Lib.hid hti; have HOA := Lib.hid hoa; have HOKR := Lib.hid hok'; have HPM := Lib.hid hpm
        have hl7 : w6.heap.size < w7.heap.size := hkn.block_lt
        have hs56 : w5.heap.size ≤ w6.heap.size := hb6.size
        have hpl : ps.length = a.kids.length := by rw [← hpm]; simp
        clear c0 c1 c2 c3 c4
        obtain ⟨c0, c1, c2, c3, c4⟩ := kid_raw (t := a) (x := x') (B := 0) (HC1.out.below HB6.out hl1)
        obtain ⟨d0, d1, d2, d3, d4⟩ := kid_raw (t := a) (x := x') (B := 0) (HC2.out.below HB6.out hl2)
        clear hw7 hb7 hkn hok hb6 C4 HIS hti hoa hok' hpm
        have hcase : a = b ∨ (¬ a = b ∧ okT b) ∨ (¬ a = b ∧ ¬ okT b) := by
          by_cases h1 : a = b
          · exact .inl h1
          · by_cases h2 : okT b
            · exact .inr (.inl ⟨h1, h2⟩)
            · exact .inr (.inr ⟨h1, h2⟩)
        go_wp2_with fail
        rw [box_out HW7]
        rcases hcase with hab | ⟨hab, hokb⟩ | ⟨hab, hokb⟩
        case' inl =>
          have HAB := Lib.hid hab
          clear hab
          refine C5.out.mono ?_
          rintro e w8 ⟨r1, rfl, hr1, hb8⟩
          have HB8 := Lib.hid (HB7.out.trans (hb8.mono HB7.out.size))
          have HB68 := Lib.hid (HB67.out.trans (hb8.mono HB67.out.size))
          have HB78 := Lib.hid hb8
          clear c0 c1 c2 c3 c4 d0 d1 d2 d3 d4 C5
          obtain ⟨c0, c1, c2, c3, c4⟩ := HC1.out.below HB8.out hl1
          obtain ⟨d0, d1, d2, d3, d4⟩ := HC2.out.below HB8.out hl2
          have C6 := Lib.hid (right_any b y w8 (HB.out.up HB8.out) GB.out)
          clear hb8
          obtain rfl : r1 = true := (iff_bool hr1).1 ⟨HOK.out, HAB.out⟩
          go_wp2_with fail
          refine C6.out.mono ?_
          rintro e w9 ⟨r2, rfl, hr2, hb9⟩
          obtain rfl : r2 = true := (iff_bool hr2).1 (HAB.out ▸ HOK.out)
          have HB9 := Lib.hid (HB8.out.trans (hb9.mono HB8.out.size))
          have HB69 := Lib.hid (HB68.out.trans (hb9.mono HB68.out.size))
          have HB79 := Lib.hid (HB78.out.trans (hb9.mono HB78.out.size))
          clear c0 c1 c2 c3 c4 d0 d1 d2 d3 d4 C6 hr2 hb9 hr1
          obtain ⟨c0, c1, c2, c3, c4⟩ := HC1.out.below HB9.out hl1
          obtain ⟨d0, d1, d2, d3, d4⟩ := HC2.out.below HB9.out hl2
          have C7 := Lib.hid (nodes_any a b x y w9 (HA.out.up HB9.out) (HB.out.up HB9.out) GA.out GB.out)
          go_wp2_with fail
          refine C7.out.mono ?_
          rintro e wz ⟨r3, rfl, hr3, hbz⟩
          obtain rfl : r3 = true := hr3.2 HAB.out
          have HBz := Lib.hid (HB9.out.trans (hbz.mono HB9.out.size))
          have HB6z := Lib.hid (HB69.out.trans (hbz.mono HB69.out.size))
          have HB7z := Lib.hid (show Below w7.heap.size w7 wz from HB79.out.trans (hbz.mono HB79.out.size))
          clear c0 c1 c2 c3 c4 d0 d1 d2 d3 d4 C7 hr3 hbz HB9 HB69
          have hAB := trivial
        case' inr.inl =>
          have HAB := Lib.hid hab; have HOKB := Lib.hid hokb
          clear hab hokb
          refine C5.out.mono ?_
          rintro e w8 ⟨r1, rfl, hr1, hb8⟩
          have HB8 := Lib.hid (HB7.out.trans (hb8.mono HB7.out.size))
          have HB68 := Lib.hid (HB67.out.trans (hb8.mono HB67.out.size))
          have HB78 := Lib.hid hb8
          clear c0 c1 c2 c3 c4 d0 d1 d2 d3 d4 C5
          obtain ⟨c0, c1, c2, c3, c4⟩ := HC1.out.below HB8.out hl1
          obtain ⟨d0, d1, d2, d3, d4⟩ := HC2.out.below HB8.out hl2
          have C6 := Lib.hid (right_any b y w8 (HB.out.up HB8.out) GB.out)
          clear hb8
          obtain rfl : r1 = false := (iff_bool hr1).2 (fun h => HAB.out h.2)
          go_wp2_with fail
          refine C6.out.mono ?_
          rintro e w9 ⟨r2, rfl, hr2, hb9⟩
          obtain rfl : r2 = true := (iff_bool hr2).1 HOKB.out
          have HB9 := Lib.hid (HB8.out.trans (hb9.mono HB8.out.size))
          have HB69 := Lib.hid (HB68.out.trans (hb9.mono HB68.out.size))
          have HB79 := Lib.hid (HB78.out.trans (hb9.mono HB78.out.size))
          clear c0 c1 c2 c3 c4 d0 d1 d2 d3 d4 C6 hr2 hb9 hr1
          obtain ⟨c0, c1, c2, c3, c4⟩ := HC1.out.below HB9.out hl1
          obtain ⟨d0, d1, d2, d3, d4⟩ := HC2.out.below HB9.out hl2
          have C7 := Lib.hid (nodes_any a b x y w9 (HA.out.up HB9.out) (HB.out.up HB9.out) GA.out GB.out)
          go_wp2_with fail
          refine C7.out.mono ?_
          rintro e wz ⟨r3, rfl, hr3, hbz⟩
          obtain rfl : r3 = false := (iff_bool hr3).2 HAB.out
          have HBz := Lib.hid (HB9.out.trans (hbz.mono HB9.out.size))
          have HB6z := Lib.hid (HB69.out.trans (hbz.mono HB69.out.size))
          have HB7z := Lib.hid (show Below w7.heap.size w7 wz from HB79.out.trans (hbz.mono HB79.out.size))
          clear c0 c1 c2 c3 c4 d0 d1 d2 d3 d4 C7 hr3 hbz HB9 HB69
          have hAB := trivial
        case' inr.inr =>
          have HAB := Lib.hid hab; have HOKB := Lib.hid hokb
          clear hab hokb
          refine C5.out.mono ?_
          rintro e w8 ⟨r1, rfl, hr1, hb8⟩
          have HB8 := Lib.hid (HB7.out.trans (hb8.mono HB7.out.size))
          have HB68 := Lib.hid (HB67.out.trans (hb8.mono HB67.out.size))
          have HB78 := Lib.hid hb8
          clear c0 c1 c2 c3 c4 d0 d1 d2 d3 d4 C5
          obtain ⟨c0, c1, c2, c3, c4⟩ := HC1.out.below HB8.out hl1
          obtain ⟨d0, d1, d2, d3, d4⟩ := HC2.out.below HB8.out hl2
          have C6 := Lib.hid (right_any b y w8 (HB.out.up HB8.out) GB.out)
          clear hb8
          obtain rfl : r1 = false := (iff_bool hr1).2 (fun h => HAB.out h.2)
          go_wp2_with fail
          refine C6.out.mono ?_
          rintro e wz ⟨r2, rfl, hr2, hbz⟩
          obtain rfl : r2 = false := (iff_bool hr2).2 HOKB.out
          have HBz := Lib.hid (HB8.out.trans (hbz.mono HB8.out.size))
          have HB6z := Lib.hid (HB68.out.trans (hbz.mono HB68.out.size))
          have HB7z := Lib.hid (show Below w7.heap.size w7 wz from HB78.out.trans (hbz.mono HB78.out.size))
          clear c0 c1 c2 c3 c4 d0 d1 d2 d3 d4 C6 hr2 hbz hr1
          have hAB := trivial
        all_goals
          clear HAB HB8 HB68 hAB HB78
          obtain ⟨c0, c1, c2, c3, c4⟩ := HC1.out.below HBz.out hl1
          obtain ⟨k0, k1, k2, k3, k4⟩ := HKN.out.kept (kept_below (show Below w7.heap.size w7 wz from HB7z.out) (fun _ => False)) nf
          have htz := (HTI.out.kept (kept_below HB6z.out (fun _ => False)) (fun _ _ => nf) (Q := fun b => b < wz.heap.size) (fun b hb => Nat.lt_of_lt_of_le hb.2 HB6z.out.size)).tree (B := wz.heap.size) (fun b hb => hb)
          have C8 := Lib.hid (nodes_any a a x x' wz (HA.out.up HBz.out) htz GA.out GA.out)
          clear htz
          go_wp2_with fail
          refine C8.out.mono ?_
          rintro e wy ⟨r4, rfl, hr4, hby⟩
          obtain rfl : r4 = true := hr4.2 rfl
          have HBy := Lib.hid (HBz.out.trans (hby.mono HBz.out.size))
          have HB6y := Lib.hid (HB6z.out.trans (hby.mono HB6z.out.size))
          have HB7y := Lib.hid (HB7z.out.trans (hby.mono HB7z.out.size))
          clear c0 c1 c2 c3 c4 k0 k1 k2 k3 k4 C8 hr4 hby HBz HB6z HB7z
          obtain ⟨c0, c1, c2, c3, c4⟩ := HC1.out.below HBy.out hl1
          have C9 := Lib.hid (twin_any a x wy (HA.out.up HBy.out) GA.out)
          go_wp2_with fail
          refine C9.out.mono ?_
          rintro e wt ⟨xw, rfl, hiw, hbt⟩
          have HBt := Lib.hid (HBy.out.trans (hbt.mono HBy.out.size))
          have HB6t := Lib.hid (HB6y.out.trans (hbt.mono HB6y.out.size))
          have HB7t := Lib.hid (HB7y.out.trans (hbt.mono HB7y.out.size))
          have hsyt : wy.heap.size ≤ wt.heap.size := hbt.size
          have hs6y : w6.heap.size < wy.heap.size := Nat.lt_of_lt_of_le hl7 HB7y.out.size
          have HIW := Lib.hid hiw
          clear c0 c1 c2 c3 c4 C9 hbt hiw
          obtain ⟨wu, hwu⟩ : ∃ wu, wu = boxW wt a xw := ⟨_, rfl⟩
          have hbu : Below wt.heap.size wt wu := by rw [hwu]; exact below_box _ _ _
          have hkw : KidCells wu wt.heap.size 0 a xw := by rw [hwu]; exact box_node _ _ _
          have hltu : wt.heap.size < wu.heap.size := hkw.block_lt
          obtain ⟨c0, c1, c2, c3, c4⟩ := kid_raw (t := a) (x := xw) (B := 0) (HC1.out.below HBt.out hl1)
          obtain ⟨k0, k1, k2, k3, k4⟩ := kid_raw (t := a) (x := xw) (B := 0) (HKN.out.kept (kept_below HB7t.out (fun _ => False)) nf)
          have HWU := Lib.hid hwu; have HKW := Lib.hid hkw
          have HBu := Lib.hid (HBt.out.trans (hbu.mono HBt.out.size))
          have HB6u := Lib.hid (HB6t.out.trans (hbu.mono HB6t.out.size))
          have HKNu := Lib.hid ((HKN.out.kept (kept_below HB7t.out (fun _ => False)) nf).kept (kept_below hbu (fun _ => False)) nf)
          have HC1u := Lib.hid (HC1.out.below HBu.out hl1)
          have HIWu := Lib.hid (HIW.out.kept (kept_below hbu (fun _ => False)) (fun _ _ => nf) (Q := NewIn wy wu) (fun b hb => ⟨hb.1, Nat.lt_of_lt_of_le hb.2 hbu.size⟩))
          have HOKu := Lib.hid ((kept_below HB6u.out (fun _ => False)).own HOKR.out (fun _ _ => nf))
          have HOAu := Lib.hid ((kept_below HB6u.out (fun _ => False)).own HOA.out (fun _ _ => nf))
          have HLK := Lib.hid (show ∀ b, OwnB (.slice x'.K a.kids.length x'.ck) b → w5.heap.size ≤ b ∧ b < w6.heap.size from fun b hb => HOKR.out.lt b hb)
          have HLA := Lib.hid (show ∀ b, OwnB (.slice x'.A a.as.length x'.ca) b → w5.heap.size ≤ b ∧ b < w6.heap.size from fun b hb => HOA.out.lt b hb)
          have HAP := Lib.hid (show ∀ b, OwnB (.slice x'.K a.kids.length x'.ck) b → ¬ OwnB (.slice x'.A a.as.length x'.ca) b from fun b hb => own_apart HOKR.out HOA.out hb)
          have hkl : a.kids.length ≤ 1000000 := GA.out.sizes.2.2.2.2.2
          have hal : a.as.length ≤ 1000000 := GA.out.sizes.2.2.2.1
          have htag : a.tag.size ≤ 32 := ok_tag HOK.out
          clear hwu hbu hkw HIW HBt HB6t HB7t HBy HB6y HB7y
          go_wp2_with fail
          rw [box_out HWU]
          clear c0 c1 c2 c3 c4 k0 k1 k2 k3 k4
          go_loopg [72] a.kids.length (fun g s72 wr => ∃ (i : Nat) (xs : List Value), s72 = .int .i64 i ∧ i ≤ a.kids.length ∧ a.kids.length - i ≤ g ∧ RowKit.Hid (wr.ownsRow w5.heap.size 25 5 (.slice x'.K a.kids.length x'.ck) a.kids.length xs) ∧ RowKit.Hid (Kept (OwnB (.slice x'.K a.kids.length x'.ck)) wu wr))
          case atStart => exact ⟨0, nds ps, rfl, by omega, by omega, Lib.hid (by rw [← hpl]; rw [← hpl] at HOKu; exact HOKu.out), Lib.hid (Kept.refl _ _)⟩
          case round =>
            obtain ⟨i, xs, rfl, hi, hg, HOW, HKR⟩ := hrel
            obtain ⟨k0, k1, k2, k3, k4⟩ := HKNu.out.kept HKR.out (fun h => by have := HLK.out _ h; omega)
            by_cases hlt : i < a.kids.length
            · have h1 : (i : Int) < (a.kids.length : Int) := by omega
              obtain ⟨g0, hKg⟩ : ∃ g0, x'.K = some ⟨g0, 0, none⟩ := by
                rcases HOW.out.2 with ⟨he, hn⟩ | ⟨g0, c, cur, he, _⟩
                · omega
                · simp at he; exact ⟨g0, he.1⟩
              have how := HOW.out
              rw [hKg] at how
              have hxl : i * 5 < xs.length := by have := how.1; omega
              have p0 : wr.cell? ⟨g0, i * 5, none⟩ = some xs[i * 5] := (how.cellAt (i * 5) (by omega)).trans (List.getElem?_eq_getElem hxl)
              have z0 := how.frozenAt (i * 5)
              have HST := Lib.hid (fun u => (how.stored (i * 5) u).1)
              have HKS := Lib.hid (fun u => kept_setCell wr ⟨g0, i * 5, none⟩ u)
              have HKG := Lib.hid (show OwnB (.slice x'.K a.kids.length x'.ck) g0 by rw [hKg]; rfl)
              clear how
              go_wp2_with fail
              try rw [← hKg]
              go_roundg (a.kids.length - (i + 1))
              case measure => omega
              case rel => exact ⟨i + 1, xs.set (i * 5) (.string (a.tag ++ ⟨#[45]⟩)), by go_num, by omega, by omega, Lib.hid (by rw [hKg]; exact HST.out _), Lib.hid (HKR.out.trans ((HKS.out _).mono (fun b _ h => by rw [show b = g0 from h]; rw [hKg]; rfl)))⟩
            · have h1 : ¬ (i : Int) < (a.kids.length : Int) := by omega
              have HKQ := Lib.hid (HKR.out.mono (T := fun b => OwnB (.slice x'.K a.kids.length x'.ck) b ∨ OwnB (.slice x'.A a.as.length x'.ca) b) (fun _ _ h => .inl h))
              have HOAr := Lib.hid (HKR.out.own HOAu.out (fun b hb h => HAP.out b h hb))
              go_wp2_with fail
              clear k0 k1 k2 k3 k4 HKR HOW
              go_loopg [86] a.as.length (fun g s86 wr => ∃ (j : Nat) (ys : List Value), s86 = .int .i64 j ∧ j ≤ a.as.length ∧ a.as.length - j ≤ g ∧ RowKit.Hid (wr.ownsRow w5.heap.size 42 2 (.slice x'.A a.as.length x'.ca) a.as.length ys) ∧ RowKit.Hid (Kept (fun b => OwnB (.slice x'.K a.kids.length x'.ck) b ∨ OwnB (.slice x'.A a.as.length x'.ca) b) wu wr))
              case atStart => exact ⟨0, ats a.as, rfl, by omega, by omega, HOAr, HKQ⟩
              case round =>
                obtain ⟨j, ys, rfl, hj, hgj, HOW, HKR⟩ := hrel
                have hnot : ∀ b, w6.heap.size ≤ b → ¬ (OwnB (.slice x'.K a.kids.length x'.ck) b ∨ OwnB (.slice x'.A a.as.length x'.ca) b) := fun b hb h => by
                  rcases h with h | h
                  · have := HLK.out b h; omega
                  · have := HLA.out b h; omega
                have HNOT := Lib.hid hnot
                clear hnot
                obtain ⟨k0, k1, k2, k3, k4⟩ := HKNu.out.kept HKR.out (HNOT.out _ (Nat.le_refl _))
                by_cases hlt : j < a.as.length
                · have h2 : (j : Int) < (a.as.length : Int) := by omega
                  obtain ⟨g0, hAg⟩ : ∃ g0, x'.A = some ⟨g0, 0, none⟩ := by
                    rcases HOW.out.2 with ⟨he, hn⟩ | ⟨g0, c, cur, he, _⟩
                    · omega
                    · simp at he; exact ⟨g0, he.1⟩
                  have how := HOW.out
                  rw [hAg] at how
                  have hxl : j * 2 < ys.length := by have := how.1; omega
                  have p0 : wr.cell? ⟨g0, j * 2, none⟩ = some ys[j * 2] := (how.cellAt (j * 2) (by omega)).trans (List.getElem?_eq_getElem hxl)
                  have z0 := how.frozenAt (j * 2)
                  have HST := Lib.hid (fun u => (how.stored (j * 2) u).1)
                  have HKS := Lib.hid (fun u => kept_setCell wr ⟨g0, j * 2, none⟩ u)
                  clear how
                  go_wp2_with fail
                  try rw [← hAg]
                  go_roundg (a.as.length - (j + 1))
                  case measure => omega
                  case rel => exact ⟨j + 1, ys.set (j * 2) (.string ⟨#[]⟩), by go_num, by omega, by omega, Lib.hid (by rw [hAg]; exact HST.out _), Lib.hid (HKR.out.trans ((HKS.out _).mono (fun b _ h => .inr (by rw [show b = g0 from h]; rw [hAg]; rfl))))⟩
                · have h2 : ¬ (j : Int) < (a.as.length : Int) := by omega
                  have hs25 : w2.heap.size ≤ w5.heap.size := HB5.out.size
                  have HBr := Lib.hid (HBu.out.trans (HKR.out.below HBu.out.size (fun b h => by
                    rcases h with h | h
                    · have := HLK.out b h; omega
                    · have := HLA.out b h; omega)))
                  have htw := (HIWu.out.kept HKR.out (fun b hb => HNOT.out b (by have h3 : wy.heap.size ≤ b := hb.1; omega)) (Q := fun b => b < wr.heap.size) (fun b hb => Nat.lt_of_lt_of_le hb.2 HKR.out.size)).tree (B := wr.heap.size) (fun b hb => hb)
                  have C10 := Lib.hid (nodes_any a a x xw wr (HA.out.up HBr.out) htw GA.out GA.out)
                  obtain ⟨c0, c1, c2, c3, c4⟩ := HC1.out.below HBr.out hl1
                  obtain ⟨v0, v1, v2, v3, v4⟩ := HKW.out.kept HKR.out (HNOT.out _ (by omega))
                  clear htw
                  go_wp2_with fail
                  refine C10.out.mono ?_
                  rintro e w20 ⟨r5, rfl, hr5, hb20⟩
                  obtain rfl : r5 = true := hr5.2 rfl
                  have HB20 := Lib.hid (HBr.out.trans (hb20.mono HBr.out.size))
                  clear c0 c1 c2 c3 c4 v0 v1 v2 v3 v4 k0 k1 k2 k3 k4 C10 hr5 hb20
                  obtain ⟨c0, c1, c2, c3, c4⟩ := HC1.out.below HB20.out hl1
                  have C11 := Lib.hid (vsame_any a a x x w20 (HA.out.up HB20.out) (HA.out.up HB20.out) GA.out GA.out)
                  go_wp2_with fail
                  refine C11.out.mono ?_
                  rintro e w21 ⟨r6, rfl, hr6, hb21⟩
                  obtain rfl : r6 = true := hr6.2 (by first | exact ⟨HOK.out, rfl⟩ | exact ⟨HOK.out, trivial⟩ | exact HOK.out)
                  have HB21 := Lib.hid (HB20.out.trans (hb21.mono HB20.out.size))
                  clear c0 c1 c2 c3 c4 C11 hr6 hb21
                  go_wp2_with fail
                  refine (same11_any w21).mono ?_
                  rintro e w22 ⟨rfl, hb22⟩
                  have HB22 := Lib.hid (HB21.out.trans (hb22.mono HB21.out.size))
                  clear hb22
                  go_wp2_with fail
                  go_ret
                  exact ⟨rfl, HB2.out.trans (HB22.out.mono HB2.out.size)⟩
end Go.Proofs.Ytlebcebihieiiaa
