/-
  The fixed example of the laws of layer 16: its mathematics. | The fixed example of the laws of layer 16.
-/
import Derived.Test.YtjnhcoflmechmaaGreatDoorDGet
import Derived.Test.YtjnhcoflmechmaaGreatDoorDPrint
namespace Go.Proofs.YtjnhcoflmechmaaGreatDoor
open Go.RowKit Go.Sort
set_option linter.unusedVariables false
set_option maxRecDepth 100000
def s1 : ByteArray := ⟨#[123, 97, 61, 49, 44, 98, 61, 91, 121, 101, 115, 44, 34, 120, 34, 93, 125]⟩
def s2 : ByteArray := ⟨#[91, 49, 44, 93]⟩
abbrev dOne : Dt := .mk 2 1 noB [] []
def dLst : Dt := .mk 4 0 noB [] [.mk 1 1 noB [] [], .mk 3 0 (strB [120]) [] []]
def d1 : Dt := .mk 5 0 noB [strB [97], strB [98]] [dOne, dLst]
theorem names_nil : NamesP [] := fun i h => by simp at h
theorem own_one (k n : Int) (t : ByteArray) (left : Int) (op : Nat) (hl : 1 ≤ left) (h : (k = 2 ∧ t = noB) ∨ (k = 1 ∧ n = 1 ∧ t = noB) ∨ (k = 3 ∧ n = 0 ∧ t.size ≤ 65536)) : wghD (.mk k n t [] []) left op = left - 1 := by
  have ho : OwnP (.mk k n t [] []) left op := by
    refine ⟨hl, ?_, ?_, by simp [Dt.names]; omega, names_nil⟩
    · unfold PlainP
      simp only [Dt.kind, Dt.num, Dt.text, Dt.names, Dt.list]
      have hz : noB.size = 0 := rfl
      rcases h with ⟨rfl, rfl⟩ | ⟨rfl, rfl, rfl⟩ | ⟨rfl, rfl, h⟩
      · simp [hz]
      · simp [hz]
      · simp [h]
    · simp only [Dt.kind]; omega
  rw [wghD_ok ho]
  simp [Dt.list, wghL]
theorem wgh_lst : wghD dLst 1998 1 = 1995 := by
  have ho : OwnP dLst 1998 1 := by
    refine ⟨by decide, ?_, by simp [dLst, Dt.kind], by simp [dLst, Dt.names], names_nil⟩
    unfold PlainP
    have hz : noB.size = 0 := rfl
    simp [dLst, Dt.kind, Dt.num, Dt.text, Dt.names, Dt.list, hz]
  rw [wghD_ok ho]
  show wghL [.mk 1 1 noB [] [], .mk 3 0 (strB [120]) [] []] (1998 - 1) 2 = 1995
  rw [wghL, own_one _ _ _ _ _ (by decide) (.inr (.inl ⟨rfl, rfl, rfl⟩)), if_neg (by decide), wghL, own_one _ _ _ _ _ (by decide) (.inr (.inr ⟨rfl, rfl, by decide⟩)), if_neg (by decide), wghL]
  rfl
theorem names_d1 : NamesP [strB [97], strB [98]] := by
  intro i h
  match i, h with
  | 0, _ => exact ⟨(by decide : nmB (strB [97]) = true), fun h => absurd h (by decide)⟩
  | 1, _ => exact ⟨(by decide : nmB (strB [98]) = true), fun _ => (by decide : cmpN (strB [97]) (strB [98]) < 0)⟩
theorem right_d1 : RightP d1 := by
  have ho : OwnP d1 2000 0 := by
    refine ⟨by decide, ?_, by simp [d1, Dt.kind], by simp [d1, Dt.names], names_d1⟩
    unfold PlainP
    have hz : noB.size = 0 := rfl
    simp [d1, Dt.kind, Dt.num, Dt.text, Dt.names, Dt.list, hz]
  unfold RightP
  rw [wghD_ok ho]
  show 0 ≤ wghL [dOne, dLst] (2000 - 1) 1
  rw [wghL, own_one _ _ _ _ _ (by decide) (.inl ⟨rfl, rfl⟩), if_neg (by decide), wghL, show (2000 : Int) - 1 - 1 = 1998 by decide, wgh_lst, if_neg (by decide), wghL]
  decide
theorem right_one : RightP dOne := by
  unfold RightP
  rw [own_one _ _ _ _ _ (by decide) (.inl ⟨rfl, rfl⟩)]
  decide
theorem good_leaf (k n : Int) (t : ByteArray) (h1 : C.I64 k) (h2 : C.I64 n) (h3 : t.size ≤ 100000000) : GoodD (.mk k n t [] []) := .mk h1 h2 h3 (by simp [Dt.names]) (fun n h => by cases h) (by simp [Dt.list]) (fun k h => by cases h)
theorem good_d1 : GoodD d1 := by
  have i1 : C.I64 1 := by unfold C.I64; decide
  have i0 : C.I64 0 := by unfold C.I64; decide
  have i2 : C.I64 2 := by unfold C.I64; decide
  have i3 : C.I64 3 := by unfold C.I64; decide
  have i4 : C.I64 4 := by unfold C.I64; decide
  have i5 : C.I64 5 := by unfold C.I64; decide
  have gl : GoodD dLst := .mk i4 i0 (by decide) (by decide) (fun n h => by cases h) (by decide) (fun k h => by
    simp [dLst, Dt.list] at h
    rcases h with rfl | rfl
    · exact good_leaf _ _ _ i1 i1 (by decide)
    · exact good_leaf _ _ _ i3 i0 (by decide))
  refine .mk i5 i0 (by decide) (by decide) (fun n h => ?_) (by decide) (fun k h => ?_)
  · simp [d1, Dt.names] at h
    rcases h with rfl | rfl <;> decide
  · simp [d1, Dt.list] at h
    rcases h with rfl | rfl
    · exact good_leaf _ _ _ i2 i1 (by decide)
    · exact gl
theorem itoa_one : Lib.itoa 1 = [49] := by
  rw [Lib.itoa, if_neg (by decide), Lib.decDigits, dif_pos (by decide)]
  rfl
theorem text_d1 : strB (textD d1) = s1 := by
  have e1 := itoa_one
  have e2 : E.escL [120] = [120] := by decide
  simp [d1, dLst, textD, textL, e1, e2, s1, strB]
theorem text_d1' : textD d1 = s1.data.toList := by rw [← text_d1]; rfl
theorem val_d1 : valP 0 (restL s1 0) = .ok d1 [] := by
  have h := val_text d1 (good_nums good_d1) 2000 0 right_d1 [] stops_nil
  rw [List.append_nil, text_d1'] at h
  exact h
theorem val_s2 : valP 0 (restL s2 0) = .bad 1 2 := by
  have e : restL s2 0 = openC false :: [49, 44, 93] := rfl
  have t1 : ([49, 44, 93] : Bytes).takeWhile numC = [49] := by decide
  have t2 : ([49, 44, 93] : Bytes).dropWhile numC = [44, 93] := by decide
  have w1 : C.whN [49] = (1, true) := C.whN_num ⟨by unfold C.I64; decide, itoa_one.symm⟩
  have v1 : valP 1 [49, 44, 93] = .ok dOne [44, 93] := by
    rw [valP_num 1 (by decide) (by decide), t1, t2, w1]; rfl
  have v2 : valP 1 [93] = .bad 1 2 := valP_other 1 (by decide) (by decide) (by decide) (by decide) (by decide)
  have e1 : elemsP false 1 [93] = .bad 1 2 := elems_bad (show el1P false 1 [93] = .bad 1 2 by show withN [] (valP 1 [93]) = _; rw [v2]; rfl)
  have e2 : elemsP false 1 [49, 44, 93] = .bad 1 2 := by
    rw [elems_comma (k5 := false) (l2 := [44, 93]) (l3 := [93]) (p := ([], dOne)) (u := ()) (n := 2) (e := 2) (show withN [] (valP 1 [49, 44, 93]) = _ by rw [v1]; rfl) rfl (byteP_cons 44 [93]), e1]; rfl
  rw [e, valP_group, grpP_eq (by decide)]
  show grpR (kindZ false) (withinP false 1 [49, 44, 93]) = _
  rw [show withinP false 1 [49, 44, 93] = elemsP false 1 [49, 44, 93] from rfl, e2]
  rfl
end Go.Proofs.YtjnhcoflmechmaaGreatDoor

namespace Go.Proofs.YtjnhcoflmechmaaGreatDoor
open Go.RowKit Go.Sort
set_option linter.unusedVariables false
set_option maxRecDepth 100000
theorem says_s1 : ParSays s1 d1 0 0 := .good d1 val_d1 right_d1
theorem says_s2 : ParSays s2 zeroD 3 2 := .bad 1 2 val_s2
theorem get_d1 {d r : Dt} {b : Bool} (hd : d = d1) (h : (b = true ∧ RightP d ∧ d.kind = 5 ∧ ∃ i, ∃ h : i < d.names.length, ∃ h' : i < d.list.length, d.names[i] = ⟨#[97]⟩ ∧ r = d.list[i]) ∨ (b = false ∧ r = zeroD ∧ ¬ HasN d ⟨#[97]⟩)) : b = true ∧ r = dOne := by
  subst hd
  rcases h with ⟨hb, _, _, i, h1, h2, h3, h4⟩ | ⟨_, _, h⟩
  · refine ⟨hb, ?_⟩
    match i, h1, h2, h3, h4 with
    | 0, _, _, _, h4 => exact h4
    | 1, _, _, h3, _ => exact absurd h3 (by decide : strB [98] ≠ ⟨#[97]⟩)
  · exact absurd ⟨right_d1, rfl, strB [97], by simp [d1, Dt.names], rfl⟩ h
def SameP (w : World) (e : Ending) (w' : World) : Prop := e = .returned (.bool true) ∧ Below w.heap.size w w'
set_option maxHeartbeats 8000000 in
theorem same_any (w : World) (hv : Vars w) : Calls Tryz.prog 20 #[] w (SameP w) := by
  have C1 := Lib.hid (show Calls Tryz.prog 24 #[.string ⟨#[123, 97, 61, 49, 44, 98, 61, 91, 121, 101, 115, 44, 34, 120, 34, 93, 125]⟩] w (ParC s1 w) from parse_any s1 w (by decide) hv (fun d l h _ => by rw [val_d1] at h; cases h; exact good_d1))
  have HV := Lib.hid hv
  clear hv
  go_enter Tryz.func20, Tryz.ntmps20
  go_wp2_with fail
  refine C1.out.mono ?_
  rintro e w1 ⟨d, x, a, er, rfl, hs, hda, hgd, hb1⟩
  obtain ⟨hd, rfl, rfl⟩ := hs.uniq says_s1
  have HD := Lib.hid hd
  obtain ⟨w2, hw2⟩ : ∃ w2, w2 = boxD w1 d x := ⟨_, rfl⟩
  have hb12 : Below w1.heap.size w1 w2 := by rw [hw2]; exact below_boxD _ _ _
  have hx2 : DatCells w2 w1.heap.size 0 d x := by rw [hw2]; exact box_dat _ _ _
  have hl2 := hx2.block_lt
  have hb2 : Below w.heap.size w w2 := hb1.trans (hb12.mono hb1.size)
  have C2 := Lib.hid (print_any d x w2 (hda.up hb12) hgd (HV.out.belowC hb2))
  have HX2 := Lib.hid hx2; have HB2 := Lib.hid hb2; have HW2 := Lib.hid hw2; have HA2 := Lib.hid (hda.up hb12); have HG := Lib.hid hgd
  obtain ⟨p0, p1, p2, p3, p4⟩ := hx2
  clear hs hd hda hgd hb1 hw2 hb12 hb2 C1
  go_upto_region 2 with (fail)
  rw [boxD_out HW2]
  clear HW2
  go_wp2_with fail
  refine C2.out.mono ?_
  rintro e w3 ⟨hp, hb3⟩
  have he : e = .returned (.tuple #[.string ⟨#[123, 97, 61, 49, 44, 98, 61, 91, 121, 101, 115, 44, 34, 120, 34, 93, 125]⟩, .int .i64 0]) := by
    rcases hp with ⟨_, he⟩ | ⟨hn, _⟩
    · rw [he, HD.out, text_d1]; rfl
    · exact absurd (by rw [HD.out]; exact right_d1) hn
  subst he
  have C3 := Lib.hid (get_any d x ⟨#[97]⟩ w3 (HA2.out.up hb3) HG.out)
  have hx3 := HX2.out.below hb3 hl2
  have hb03 := HB2.out.trans (hb3.mono HB2.out.size)
  have HB3 := Lib.hid hb03
  clear p0 p1 p2 p3 p4
  obtain ⟨p0, p1, p2, p3, p4⟩ := hx3
  clear hp hb3 hb03 C2 HX2 HB2 HA2 HG
  go_wp2_with fail
  refine C3.out.mono ?_
  rintro e w4 ⟨r, y, b, he, hdr, hgr, hb4, hc⟩
  obtain ⟨rfl, rfl⟩ := get_d1 HD.out hc
  have he' : e = .returned (.tuple #[.agg #[.int .i64 2, .int .i64 1, .string ⟨#[]⟩, .slice y.A 0 y.ca, .slice y.K 0 y.ck], .bool true]) := he
  subst he'
  obtain ⟨w5, hw5⟩ : ∃ w5, w5 = w4.alloc (.cells #[.int .i64 2, .int .i64 1, .string ⟨#[]⟩, .slice y.A 0 y.ca, .slice y.K 0 y.ck] 46) := ⟨_, rfl⟩
  have hb45 : Below w4.heap.size w4 w5 := by rw [hw5]; exact (Below.refl _ _).alloc (Nat.le_refl _) _
  have hx5 : DatCells w5 w4.heap.size 0 dOne y := by rw [hw5]; exact box_dat w4 dOne y
  have hl5 := hx5.block_lt
  have hb04 := HB3.out.trans (hb4.mono HB3.out.size)
  have hb5 : Below w.heap.size w w5 := hb04.trans (hb45.mono hb04.size)
  have C4 := Lib.hid (show Calls Tryz.prog 24 #[.string ⟨#[91, 49, 44, 93]⟩] w5 (ParC s2 w5) from parse_any s2 w5 (by decide) (HV.out.belowC hb5) (fun d l h _ => by rw [val_s2] at h; cases h))
  have HX5 := Lib.hid hx5; have HB5 := Lib.hid hb5; have HW5 := Lib.hid hw5.symm; have HA5 := Lib.hid (hdr.up hb45); have HG := Lib.hid hgr
  clear he hdr hgr hb4 hc hw5 hb45 hb04 hb5 C3 HB3 p0 p1 p2 p3 p4 HD hx5
  go_upto_region 4 with (fail)
  rw [HW5.out]
  clear HW5
  go_wp2_with fail
  refine C4.out.mono ?_
  rintro e w6 ⟨d', x', a', er', he, hs, -, -, hb6⟩
  obtain ⟨rfl, rfl, rfl⟩ := hs.uniq says_s2
  have he' : e = .returned (.tuple #[.agg #[.int .i64 0, .int .i64 0, .string ⟨#[]⟩, .slice x'.A 0 x'.ca, .slice x'.K 0 x'.ck], .int .i64 3, .int .i64 2]) := he
  subst he'
  obtain ⟨w7, hw7⟩ : ∃ w7, w7 = w6.alloc (.cells #[.int .i64 0, .int .i64 0, .string ⟨#[]⟩, .slice x'.A 0 x'.ca, .slice x'.K 0 x'.ck] 46) := ⟨_, rfl⟩
  have hb67 : Below w6.heap.size w6 w7 := by rw [hw7]; exact (Below.refl _ _).alloc (Nat.le_refl _) _
  have hb57 : Below w5.heap.size w5 w7 := hb6.trans (hb67.mono hb6.size)
  obtain ⟨p0, p1, p2, p3, p4⟩ := HX5.out.below hb57 hl5
  have p0 : w7.cell? ⟨w4.heap.size, 0, none⟩ = some (.int .i64 2) := p0
  have p1 : w7.cell? ⟨w4.heap.size, 1, none⟩ = some (.int .i64 1) := p1
  have p2 : w7.cell? ⟨w4.heap.size, 2, none⟩ = some (.string ⟨#[]⟩) := p2
  have p3 : w7.cell? ⟨w4.heap.size, 3, none⟩ = some (.slice y.A 0 y.ca) := p3
  have p4 : w7.cell? ⟨w4.heap.size, 4, none⟩ = some (.slice y.K 0 y.ck) := p4
  have hb7 := HB5.out.trans (hb57.mono HB5.out.size)
  have C5 := Lib.hid (show Calls Tryz.prog 22 #[.agg #[.int .i64 2, .int .i64 1, .string ⟨#[]⟩, .slice y.A 0 y.ca, .slice y.K 0 y.ck]] w7 _ from right_any dOne y w7 (HA5.out.up hb57) HG.out)
  have HB7 := Lib.hid hb7; have HW7 := Lib.hid hw7.symm
  clear he hs hb6 hw7 hb67 hb57 hb7 C4 HX5 HB5 HA5 HG HV
  go_upto_region 5 with (fail)
  rw [HW7.out]
  clear HW7
  go_wp2_with fail
  refine C5.out.mono ?_
  rintro e w8 ⟨b, rfl, hr, hb8⟩
  obtain rfl : b = true := hr.2 right_one
  have HF := Lib.hid (HB7.out.trans (hb8.mono HB7.out.size))
  clear hr hb8 C5 HB7
  go_wp2_with fail
  go_ret
  exact ⟨rfl, HF.out⟩
end Go.Proofs.YtjnhcoflmechmaaGreatDoor
