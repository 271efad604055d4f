/-
  The fixed example of the laws of layer 15: its mathematics.
-/
import Derived.Test.YtjnhcoflmechmaaGreatDoorMParsW
import Derived.Test.YtjnhcoflmechmaaGreatDoorMPrint
import Derived.Test.YtjnhcoflmechmaaGreatDoorNodes
namespace Go.Proofs.YtjnhcoflmechmaaGreatDoor.M
open Go.RowKit Go.Sort
set_option linter.unusedVariables false
set_option maxRecDepth 100000
def q1 : ByteArray := ⟨#[60, 112, 32, 35, 61, 34, 107, 34, 32, 97, 61, 34, 49, 34, 62, 120, 60, 98, 47, 62, 60, 47, 112, 62]⟩
def q2 : ByteArray := ⟨#[60, 112, 62, 60, 47, 112, 62]⟩
abbrev tB : Tr := .mk ⟨#[98]⟩ ⟨#[]⟩ ⟨#[]⟩ [] []
abbrev t0 : Tr := .mk ⟨#[112]⟩ ⟨#[107]⟩ ⟨#[120]⟩ [(⟨#[97]⟩, ⟨#[49]⟩)] [tB]
theorem alone_of {t : Tr} (h1 : wfB tagB t.tag = true) (h2 : t.key.size ≤ 65536) (h3 : t.text.size ≤ 65536) (h4 : ∀ j, j < t.as.length → faultL t.as j = 0) : aloneT t = 0 := by
  unfold aloneT
  rw [if_neg (by rw [h1]; decide), if_neg (by omega)]
  exact (attE_of (.inr ⟨rfl, rfl, h4⟩ : CheckP t.as 0 0)).symm
theorem alone_tB : aloneT tB = 0 := alone_of (by decide +kernel) (by decide) (by decide) (fun j hj => by simp [Tr.as] at hj)
theorem alone_t0 : aloneT t0 = 0 := alone_of (by decide +kernel) (by decide) (by decide) (fun j hj => by
  have : j = 0 := by simp [Tr.as] at hj; omega
  subst this
  decide +kernel)
theorem ok_t0 : okT t0 := by
  unfold okT seenL
  have n0 : nodeF aloneT [] ⟨t0, 1, -1⟩ = 0 := nodeF_ok (by decide) (by decide) alone_t0 (fun h => absurd h.1 (by decide))
  have n1 : nodeF aloneT [⟨t0, 1, -1⟩] ⟨tB, 2, 0⟩ = 0 := nodeF_ok (by decide) (by decide) alone_tB (fun h => absurd rfl h.2.1)
  have v1 : visitL aloneT tB 2 0 [⟨t0, 1, -1⟩] = ([⟨t0, 1, -1⟩, ⟨tB, 2, 0⟩], 0) := by
    rw [visitL_eq, if_pos n1]
    show visitK aloneT [] _ _ _ = _
    rw [visitK]; rfl
  rw [visitL_eq, if_pos n0]
  show (visitK aloneT [tB] 2 0 [⟨t0, 1, -1⟩]).2 = 0
  rw [visitK, v1, if_pos rfl, visitK]
theorem wordy_one (c : UInt8) (h : lowC c = true) : Wordy ⟨#[c]⟩ := ⟨c, [], rfl, h, fun x hx => by simp at hx; subst hx; exact low_name h⟩
theorem wordy_t0 : WordyT t0 := .mk (wordy_one 112 (by decide)) (fun a ha => by simp [Tr.as] at ha; subst ha; exact wordy_one 97 (by decide)) (fun k hk => by
  simp [Tr.kids] at hk
  subst hk
  exact .mk (wordy_one 98 (by decide)) (fun a ha => by simp [Tr.as] at ha) (fun k hk => by simp [Tr.kids] at hk))
theorem pr_t0 : prT t0 = q1.data.toList := by
  have e1 : E.escL [107] = [107] := by decide
  have e2 : E.escL [49] = [49] := by decide
  have e3 : E.escL [120] = [120] := by decide
  have n1 : ¬ (⟨#[107]⟩ : ByteArray) = noB := by decide
  have n2 : ¬ ((⟨#[120]⟩ : ByteArray) = noB ∧ [tB] = ([] : List Tr)) := by rintro ⟨h, _⟩; exact absurd h (by decide)
  have n3 : (⟨#[]⟩ : ByteArray) = noB := rfl
  rw [prT, if_neg n2]
  simp [headB, prL, prT, attB, n1, e1, e2, e3, n3, q1]
theorem node_t0 : nodeP q1.data.toList = .ok t0 [] := by
  have := node_of t0 wordy_t0 []
  rwa [List.append_nil, pr_t0] at this
theorem good_t0 : GoodT t0 := good_pr t0 (by rw [pr_t0]; decide)
theorem whole_t0 : wholeP q1.data.toList = .ok t0 [] := by
  unfold wholeP
  rw [node_t0]
  rfl
theorem says_q1 : ParseM q1 t0 0 0 := by
  unfold ParseM
  rw [whole_t0]
  have h := seen_first aloneT t0
  rw [show (seenL aloneT t0).2 = 0 from ok_t0] at h
  exact ⟨0, 0, h, .inl ⟨rfl, rfl, rfl, rfl⟩⟩
theorem start_q2 : startP q2.data.toList = .bad 4 2 := by
  have hh : headP q2.data.toList = .ok (⟨#[112]⟩, noB, []) [62, 60, 47, 112, 62] := head_of (h := (⟨#[112]⟩, noB, [])) (c := 62) (r := [60, 47, 112, 62]) (wordy_one 112 (by decide)) (fun a ha => by cases ha) (.inr rfl)
  have ht : txtP [60, 47, 112, 62] = .ok noB [60, 47, 112, 62] := txt_of noB (c := 60) (r := [47, 112, 62]) (by decide)
  have e1 : preP [47, 62] [62, 60, 47, 112, 62] = .bad 5 2 := rfl
  have e2 : preP [62] [62, 60, 47, 112, 62] = .ok () [60, 47, 112, 62] := rfl
  have e3 : startP q2.data.toList = tailP (⟨#[112]⟩, noB, []) [62, 60, 47, 112, 62] := by
    rw [show startP q2.data.toList = bnd (headP q2.data.toList) tailP from rfl, hh]; rfl
  rw [e3]
  unfold tailP
  rw [e1]
  simp only
  rw [e2, bnd_okE, ht, bnd_okE, if_pos ⟨rfl, rfl⟩]
  rfl
theorem node_q2 : nodeP q2.data.toList = .bad 4 2 := by rw [node_start, start_q2]; rfl
theorem says_q2 : ParseM q2 zeroT 3 2 := by
  unfold ParseM
  have : wholeP q2.data.toList = .bad 4 2 := by unfold wholeP; rw [node_q2]; rfl
  rw [this]
  exact ⟨rfl, rfl, rfl⟩
def SameP (w : World) (e : Ending) (w' : World) : Prop := e = .returned (.bool true) ∧ Below w.heap.size w w'
/-- The example in memory. -/
abbrev exW (w : World) : World := ((w.alloc (.cells #[.string ⟨#[97]⟩, .string ⟨#[49]⟩] 63)).alloc (.cells #[.string ⟨#[98]⟩, .string ⟨#[]⟩, .string ⟨#[]⟩, .slice none 0 0, .slice none 0 0] 25)).alloc (.cells #[.string ⟨#[112]⟩, .string ⟨#[107]⟩, .string ⟨#[120]⟩, .slice (some ⟨w.heap.size, 0, none⟩) 1 1, .slice (some ⟨w.heap.size + 1, 0, none⟩) 1 1] 25)
theorem ex_tree (w : World) : KidCells (exW w) (w.heap.size + 2) 0 t0 ⟨some ⟨w.heap.size, 0, none⟩, 1, some ⟨w.heap.size + 1, 0, none⟩, 1⟩ ∧ TreeAt (exW w) (w.heap.size + 2) t0 ⟨some ⟨w.heap.size, 0, none⟩, 1, some ⟨w.heap.size + 1, 0, none⟩, 1⟩ := by
  obtain ⟨wa, hwa⟩ : ∃ wa, wa = w.alloc (.cells #[.string ⟨#[97]⟩, .string ⟨#[49]⟩] 63) := ⟨_, rfl⟩
  have sa : wa.heap.size = w.heap.size + 1 := by rw [hwa]; simp
  have ha : wa.heap[w.heap.size]? = some (.cells #[.string ⟨#[97]⟩, .string ⟨#[49]⟩] 63 (0, 0)) := by rw [hwa]; exact heap_alloc_new w _
  obtain ⟨wb, hwb⟩ : ∃ wb, wb = wa.alloc (.cells #[.string ⟨#[98]⟩, .string ⟨#[]⟩, .string ⟨#[]⟩, .slice none 0 0, .slice none 0 0] 25) := ⟨_, rfl⟩
  have sb : wb.heap.size = w.heap.size + 2 := by rw [hwb]; simp [sa]
  have hbx : KidCells wb (w.heap.size + 1) 0 tB ⟨none, 0, none, 0⟩ := by rw [hwb, ← sa]; exact box_node wa tB ⟨none, 0, none, 0⟩
  have ka : Kept (fun _ => False) wa wb := by rw [hwb]; exact kept_alloc _ _ _
  obtain ⟨wc, hwc⟩ : ∃ wc, wc = boxW wb t0 ⟨some ⟨w.heap.size, 0, none⟩, 1, some ⟨w.heap.size + 1, 0, none⟩, 1⟩ := ⟨_, rfl⟩
  have he : exW w = wc := by rw [hwc, hwb, hwa]; rfl
  have hcx : KidCells wc (w.heap.size + 2) 0 t0 ⟨some ⟨w.heap.size, 0, none⟩, 1, some ⟨w.heap.size + 1, 0, none⟩, 1⟩ := by rw [hwc, ← sb]; exact box_node wb t0 _
  have kb : Kept (fun _ => False) wb wc := by rw [hwc]; exact kept_alloc _ _ _
  rw [he]
  refine ⟨hcx, .mk (fun _ => ⟨none, 0, none, 0⟩) (fun _ => ⟨w.heap.size, 0, rfl, by omega, fun j hj => ?_⟩) (Nat.le_refl _) (by simp [maxLen]) (fun h => by cases h) (Nat.le_refl _) (by simp [maxLen]) (fun h => by cases h) (fun _ => ⟨w.heap.size + 1, 0, rfl, by omega, fun j hj => ?_⟩) (fun j hj => ?_)⟩
  · have : j = 0 := by simp [Tr.as] at hj; omega
    subst this
    have h1 := (ka.trans kb).block w.heap.size (by omega) (fun h => h)
    have h2 := h1.trans ha
    exact ⟨by rw [cell_of_row _ _ _ _ _ (0, 0) h2]; rfl, by rw [cell_of_row _ _ _ _ _ (0, 0) h2]; rfl⟩
  · have : j = 0 := by simp [Tr.kids] at hj; omega
    subst this
    exact hbx.kept kb (fun h => h)
  · have : j = 0 := by simp [Tr.kids] at hj; omega
    subst this
    show TreeAt wc (w.heap.size + 2) tB ⟨none, 0, none, 0⟩
    exact .mk (fun _ => ⟨none, 0, none, 0⟩) (fun h => by simp [Tr.as] at h) (Nat.le_refl _) (by simp [maxLen]) (fun _ => rfl) (Nat.le_refl _) (by simp [maxLen]) (fun _ => rfl) (fun h => by simp [Tr.kids] at h) (fun j h => by simp [Tr.kids] at h)
theorem ex_below (w : World) : Below w.heap.size w (exW w) := (((Below.refl _ _).alloc (Nat.le_refl _) _).alloc (by simp) _).alloc (by simp; omega) _
theorem ex_size (w : World) : (exW w).heap.size = w.heap.size + 3 := by simp
theorem ex_out {w w1 : World} (h : RowKit.Hid (w1 = exW w)) : ((w.alloc (.cells #[.string ⟨#[97]⟩, .string ⟨#[49]⟩] 63)).alloc (.cells #[.string ⟨#[98]⟩, .string ⟨#[]⟩, .string ⟨#[]⟩, .slice none 0 0, .slice none 0 0] 25)).alloc (.cells #[.string ⟨#[112]⟩, .string ⟨#[107]⟩, .string ⟨#[120]⟩, .slice (some ⟨w.heap.size, 0, none⟩) 1 1, .slice (some ⟨w.heap.size + 1, 0, none⟩) 1 1] 25) = w1 := h.out.symm
theorem print_q1 {e : Ending} (h : ∃ f g : Int, FirstF aloneT (itemsL t0) f g ∧ ((g = 0 ∧ e = .returned (.tuple #[.string (strB (prT t0)), .int .i64 0])) ∨ (g ≠ 0 ∧ e = .returned (.tuple #[.string ⟨#[]⟩, .int .i64 g])))) : e = .returned (.tuple #[.string ⟨#[60, 112, 32, 35, 61, 34, 107, 34, 32, 97, 61, 34, 49, 34, 62, 120, 60, 98, 47, 62, 60, 47, 112, 62]⟩, .int .i64 0]) := by
  obtain ⟨f, g, hf, h⟩ := h
  have h2 := seen_first aloneT t0
  rw [show (seenL aloneT t0).2 = 0 from ok_t0] at h2
  obtain ⟨_, rfl⟩ := firstF_unique hf h2
  rcases h with ⟨_, h⟩ | ⟨h, _⟩
  · rw [h, pr_t0]; rfl
  · exact absurd rfl h
set_option maxHeartbeats 8000000 in
theorem same_any (w : World) (hv : Vars w) : Calls Tryz.prog 12 #[] w (SameP w) := by
  obtain ⟨w1, hw1⟩ : ∃ w1, w1 = exW w := ⟨_, rfl⟩
  obtain ⟨N, hN⟩ : ∃ N, N = w.heap.size + 1 + 1 := ⟨_, rfl⟩
  have hb1 : Below w.heap.size w w1 := by rw [hw1]; exact ex_below w
  obtain ⟨hx1, ht1⟩ := ex_tree w
  rw [← hw1, show w.heap.size + 2 = N from hN.symm] at hx1 ht1
  have hs1 : N < w1.heap.size := by rw [hw1, ex_size]; omega
  have ht1' := ht1.mono (Nat.le_of_lt hs1)
  have hv1 := hv.belowC hb1
  have C1 := Lib.hid (print_any t0 _ w1 ht1' good_t0 (fun _ => by rw [pr_t0]; decide) hv1)
  have HV := Lib.hid hv; have HB1 := Lib.hid hb1; have HX1 := Lib.hid hx1; have HT1 := Lib.hid ht1; have HW1 := Lib.hid hw1; have HN := Lib.hid hN.symm
  obtain ⟨p0, p1, p2, p3, p4⟩ := hx1
  clear hv hw1 hb1 ht1 ht1' hv1 hN
  go_enter Tryz.func12, Tryz.ntmps12
  go_upto_region 2 with (fail)
  rw [ex_out HW1]
  rw [HN.out]
  go_wp2_with fail
  refine C1.out.mono ?_
  rintro e w2 ⟨hp, hb2⟩
  obtain rfl := print_q1 hp
  have C2 := Lib.hid (show Calls Tryz.prog 15 #[.string ⟨#[60, 112, 32, 35, 61, 34, 107, 34, 32, 97, 61, 34, 49, 34, 62, 120, 60, 98, 47, 62, 60, 47, 112, 62]⟩] w2 (ParseC q1 w2) from parse_any q1 w2 (by decide) (Nat.le_trans (cntK_le _) (by rw [restL_len]; decide)) (fun t l h => by
    have h' : nodeP q1.data.toList = .ok t l := h
    rw [node_t0] at h'; cases h'; exact good_t0) ((HV.out.belowC HB1.out).belowC hb2))
  have HB2 := Lib.hid (HB1.out.trans (hb2.mono HB1.out.size)); have HX2 := Lib.hid (HX1.out.below hb2 hs1); have HT2 := Lib.hid (HT1.out.keepB (hb2.mono (Nat.le_of_lt hs1)))
  have hs2 : N < w2.heap.size := Nat.lt_of_lt_of_le hs1 hb2.size
  clear hp hb2 C1 HB1 HX1 HT1 p0 p1 p2 p3 p4 HW1
  go_wp2_with fail
  refine C2.out.mono ?_
  rintro e w3 ⟨t, x, a, er, he, hti, hpm, hb3⟩
  obtain ⟨rfl, rfl, rfl⟩ := parseM_unique hpm says_q1
  have he' : e = .returned (.tuple #[.agg #[.string ⟨#[112]⟩, .string ⟨#[107]⟩, .string ⟨#[120]⟩, .slice x.A 1 x.ca, .slice x.K 1 x.ck], .int .i64 0, .int .i64 0]) := he
  subst he'
  obtain ⟨w4, hw4⟩ : ∃ w4, w4 = w3.alloc (.cells #[.string ⟨#[112]⟩, .string ⟨#[107]⟩, .string ⟨#[120]⟩, .slice x.A 1 x.ca, .slice x.K 1 x.ck] 25) := ⟨_, rfl⟩
  have hb4 : Below w3.heap.size w3 w4 := by rw [hw4]; exact (Below.refl _ _).alloc (Nat.le_refl _) _
  have hx4 : KidCells w4 w3.heap.size 0 t0 x := by rw [hw4]; exact box_node w3 t0 x
  have hs4 := hx4.block_lt
  have hb24 : Below w2.heap.size w2 w4 := hb3.trans (hb4.mono hb3.size)
  have hb04 := HB2.out.trans (hb24.mono HB2.out.size)
  have C3 := Lib.hid (show Calls Tryz.prog 15 #[.string ⟨#[60, 112, 62, 60, 47, 112, 62]⟩] w4 (ParseC q2 w4) from parse_any q2 w4 (by decide) (Nat.le_trans (cntK_le _) (by rw [restL_len]; decide)) (fun t l h => by
    have h' : nodeP q2.data.toList = .ok t l := h
    rw [node_q2] at h'; cases h') (HV.out.belowC hb04))
  have HW4 := Lib.hid hw4.symm; have HB4 := Lib.hid hb04; have HX4 := Lib.hid hx4; have HT4 := Lib.hid (hti.at.up hb4)
  have HX14 := Lib.hid (HX2.out.below hb24 hs2); have HT14 := Lib.hid (HT2.out.keepB (hb24.mono (Nat.le_of_lt hs2)))
  have hs14 : N < w4.heap.size := Nat.lt_of_lt_of_le hs2 hb24.size
  clear he hti hpm hb3 hw4 hb4 hx4 hb24 hb04 C2 HB2 HX2 HT2
  go_upto_region 4 with (fail)
  rw [HW4.out]
  clear HW4
  go_wp2_with fail
  refine C3.out.mono ?_
  rintro e w5 ⟨t, x', a, er, he, hti, hpm, hb5⟩
  obtain ⟨rfl, rfl, rfl⟩ := parseM_unique hpm says_q2
  have he' : e = .returned (.tuple #[.agg #[.string ⟨#[]⟩, .string ⟨#[]⟩, .string ⟨#[]⟩, .slice x'.A 0 x'.ca, .slice x'.K 0 x'.ck], .int .i64 3, .int .i64 2]) := he
  subst he'
  obtain ⟨w6, hw6⟩ : ∃ w6, w6 = w5.alloc (.cells #[.string ⟨#[]⟩, .string ⟨#[]⟩, .string ⟨#[]⟩, .slice x'.A 0 x'.ca, .slice x'.K 0 x'.ck] 25) := ⟨_, rfl⟩
  have hb6 : Below w5.heap.size w5 w6 := by rw [hw6]; exact (Below.refl _ _).alloc (Nat.le_refl _) _
  have hb46 : Below w4.heap.size w4 w6 := hb5.trans (hb6.mono hb5.size)
  obtain ⟨c0, c1, c2, c3, c4⟩ := HX4.out.below hb46 hs4
  obtain ⟨d0, d1, d2, d3, d4⟩ := HX14.out.below hb46 hs14
  have C5 := Lib.hid (show Calls Tryz.prog 17 #[.agg #[.string ⟨#[112]⟩, .string ⟨#[107]⟩, .string ⟨#[120]⟩, .slice x.A 1 x.ca, .slice x.K 1 x.ck], .agg #[.string ⟨#[112]⟩, .string ⟨#[107]⟩, .string ⟨#[120]⟩, .slice (some ⟨w.heap.size, 0, none⟩) 1 1, .slice (some ⟨w.heap.size + 1, 0, none⟩) 1 1]] w6 (EqPost t0 t0 w6) from nodes_any t0 t0 x ⟨some ⟨w.heap.size, 0, none⟩, 1, some ⟨w.heap.size + 1, 0, none⟩, 1⟩ w6 (HT4.out.up hb46) ((HT14.out.mono (Nat.le_of_lt hs14)).up hb46) good_t0 good_t0)
  have HB6 := Lib.hid (HB4.out.trans (hb46.mono HB4.out.size)); have HW6 := Lib.hid hw6.symm
  have c0 : w6.cell? ⟨w3.heap.size, 0, none⟩ = some (.string ⟨#[112]⟩) := c0
  have c1 : w6.cell? ⟨w3.heap.size, 1, none⟩ = some (.string ⟨#[107]⟩) := c1
  have c2 : w6.cell? ⟨w3.heap.size, 2, none⟩ = some (.string ⟨#[120]⟩) := c2
  have c3 : w6.cell? ⟨w3.heap.size, 3, none⟩ = some (.slice x.A 1 x.ca) := c3
  have c4 : w6.cell? ⟨w3.heap.size, 4, none⟩ = some (.slice x.K 1 x.ck) := c4
  have d0 : w6.cell? ⟨N, 0, none⟩ = some (.string ⟨#[112]⟩) := d0
  have d1 : w6.cell? ⟨N, 1, none⟩ = some (.string ⟨#[107]⟩) := d1
  have d2 : w6.cell? ⟨N, 2, none⟩ = some (.string ⟨#[120]⟩) := d2
  have d3 : w6.cell? ⟨N, 3, none⟩ = some (.slice (some ⟨w.heap.size, 0, none⟩) 1 1) := d3
  have d4 : w6.cell? ⟨N, 4, none⟩ = some (.slice (some ⟨w.heap.size + 1, 0, none⟩) 1 1) := d4
  clear he hti hpm hb5 hw6 hb6 hb46 C3 HB4 HX4 HT4 HX14 HT14 HV HN
  go_upto_region 5 with (fail)
  rw [HW6.out]
  clear HW6
  go_wp2_with fail
  refine C5.out.mono ?_
  rintro e w7 ⟨b, rfl, hr, hb7⟩
  obtain rfl : b = true := hr.2 rfl
  have HF := Lib.hid (HB6.out.trans (hb7.mono HB6.out.size))
  clear hr hb7 C5 HB6
  go_wp2_with fail
  go_ret
  exact ⟨rfl, HF.out⟩
end Go.Proofs.YtjnhcoflmechmaaGreatDoor.M
