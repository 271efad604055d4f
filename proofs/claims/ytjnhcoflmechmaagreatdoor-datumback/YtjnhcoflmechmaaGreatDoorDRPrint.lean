/-
  tendrilref16.Print: the reference's text of a value.
-/
import Derived.Test.YtjnhcoflmechmaaGreatDoorDPrint
import Derived.Test.YtjnhcoflmechmaaGreatDoorESpanR
import Derived.Test.YtjnhcoflmechmaaGreatDoorCNumMath
namespace Go.Proofs.YtjnhcoflmechmaaGreatDoor
open Go.RowKit Go.Sort
set_option linter.unusedVariables false
set_option maxRecDepth 100000
def RPrintP (d : Dt) : Prop := ∀ (x : NV) (w : World), DatAt w w.heap.size d x → (textD d).length ≤ 100000000000 → Calls Tryz.prog 25 #[datV d x] w fun e w' => e = .returned (.string (strB (textD d))) ∧ Below w.heap.size w w'
theorem strB_size (l : Bytes) : (strB l).size = l.length := by rw [← size_list]; rfl
theorem ret_strB {a : ByteArray} {l : Bytes} (h : a.data.toList = l) : Ending.returned (.string a) = .returned (.string (strB l)) := by rw [← h, strB_eq]
set_option maxHeartbeats 8000000 in
theorem refPrint_any : ∀ d : Dt, FineD d → GoodD d → RPrintP d := by
  refine dt_ind (fun d ih hf hg => ?_)
  obtain ⟨g1, g2, g3, g4, g5, g6⟩ := hg.sizes
  intro x w ht hlen
  have hpl : PlainP d := by cases hf; assumption
  obtain ⟨⟨k0, k5⟩, p1, p2, p3, p4, p5, p6, p7⟩ := hpl
  obtain ⟨w1, hw1⟩ : ∃ w1, w1 = boxD w d x := ⟨_, rfl⟩
  have hb1 : Below w.heap.size w w1 := by rw [hw1]; exact below_boxD w d x
  have hbox : DatCells w1 w.heap.size 0 d x := by rw [hw1]; exact box_dat w d x
  have hsz1 : w.heap.size < w1.heap.size := hbox.block_lt
  have HW := Lib.hid hw1; have HB1 := Lib.hid hb1; have HT1 := Lib.hid (ht.up hb1); have HBX := Lib.hid hbox; have HIH := Lib.hid ih; have HF := Lib.hid hf; have HG := Lib.hid hg
  obtain ⟨T, hT⟩ : ∃ T, T = textD d := ⟨_, rfl⟩
  rw [← hT] at hlen ⊢
  have hk : d.kind = 0 ∨ d.kind = 1 ∨ d.kind = 2 ∨ d.kind = 3 ∨ d.kind = 4 ∨ d.kind = 5 := by omega
  obtain ⟨c0, c1, c2, c3, c4⟩ := hbox
  clear hw1 hb1 ht ih hf hg
  rcases hk with hk | hk | hk | hk | hk | hk
  · have e0 := kq hk 0 (r := true) rfl
    have HTE := Lib.hid (show T = [110, 111, 110, 101] by rw [hT, textD_0 hk])
    clear hk p1 p2 p3 p4 p5 p6 p7 k0 k5 hT hlen
    go_enter Tryz.func25, Tryz.ntmps25
    go_upto_region 1 with (fail)
    rw [boxD_out HW]
    go_wp2_with fail
    go_ret
    exact ⟨ret_strB (by rw [HTE.out]), HB1.out⟩
  · have e0 := kq hk 0 (r := false) rfl
    have e1 := kq hk 1 (r := true) rfl
    have hT1 := hT
    rw [textD_1 hk] at hT1
    rcases p5 hk with h01 | h01
    · have n1 : (d.num == 1) = false := by rw [h01]; rfl
      rw [if_neg (by omega)] at hT1
      have HTE := Lib.hid hT1
      clear hk p1 p2 p3 p4 p5 p6 p7 k0 k5 hT hT1 hlen h01
      go_enter Tryz.func25, Tryz.ntmps25
      go_upto_region 1 with (fail)
      rw [boxD_out HW]
      go_wp2_with fail
      go_ret
      exact ⟨ret_strB (by rw [HTE.out]), HB1.out⟩
    · have n1 : (d.num == 1) = true := by rw [h01]; rfl
      rw [if_pos h01] at hT1
      have HTE := Lib.hid hT1
      clear hk p1 p2 p3 p4 p5 p6 p7 k0 k5 hT hT1 hlen h01
      go_enter Tryz.func25, Tryz.ntmps25
      go_upto_region 1 with (fail)
      rw [boxD_out HW]
      go_wp2_with fail
      go_ret
      exact ⟨ret_strB (by rw [HTE.out]), HB1.out⟩
  · have e0 := kq hk 0 (r := false) rfl
    have e1 := kq hk 1 (r := false) rfl
    have e2 := kq hk 2 (r := true) rfl
    have CD := Lib.hid (C.refDecimal_any d.num w1 g2)
    obtain ⟨tx, htx⟩ : ∃ tx : ByteArray, tx = C.str (Lib.itoa d.num) := ⟨_, rfl⟩
    have htl : tx.data.toList = T := by rw [hT, textD_2 hk, htx]; rfl
    rw [← htx] at CD
    have HTE := Lib.hid htl
    clear hk p1 p2 p3 p4 p5 p6 p7 k0 k5 hT hlen htx htl
    go_enter Tryz.func25, Tryz.ntmps25
    go_upto_region 1 with (fail)
    rw [boxD_out HW]
    go_wp2_with fail
    refine CD.out.mono ?_
    rintro e w2 ⟨rfl, hb2⟩
    have HB2 := Lib.hid (HB1.out.trans (hb2.mono HB1.out.size))
    clear hb2 CD
    go_wp2_with fail
    go_ret
    exact ⟨ret_strB HTE.out, HB2.out⟩
  · have e0 := kq hk 0 (r := false) rfl
    have e1 := kq hk 1 (r := false) rfl
    have e2 := kq hk 2 (r := false) rfl
    have e3 := kq hk 3 (r := true) rfl
    obtain ⟨et, het⟩ : ∃ et : Bytes, et = E.escL d.text.data.toList := ⟨_, rfl⟩
    have htl : T = 34 :: (et ++ [34]) := by rw [hT, textD_3 hk, het]
    have CE := E.refEscape_any d.text w1 (by omega)
    rw [← het] at CE
    obtain ⟨es, hes⟩ : ∃ es : ByteArray, es = E.str et := ⟨_, rfl⟩
    have hel : es.size + 2 ≤ 100000000000 := by rw [hes, E.str_size]; rw [htl] at hlen; simp at hlen; omega
    unfold E.StrPost at CE
    rw [← hes] at CE
    have HCE := Lib.hid CE
    have HTE := Lib.hid (show T = 34 :: (es.data.toList ++ [34]) by rw [htl, hes, E.str_data])
    have q1 : ¬ 9223372036854775807 < 1 + es.size := by omega
    have q2 : ¬ 9223372036854775807 < 1 + es.size + 1 := by omega
    clear hk p1 p2 p3 p4 p5 p6 p7 k0 k5 hT hlen htl het CE hes
    go_enter Tryz.func25, Tryz.ntmps25
    go_upto_region 1 with (fail)
    rw [boxD_out HW]
    go_wp2_with fail
    refine HCE.out.mono ?_
    rintro e w2 ⟨rfl, hb2⟩
    have HB2 := Lib.hid (HB1.out.trans (hb2.mono HB1.out.size))
    clear hb2 HCE
    go_wp2_with fail
    go_ret
    exact ⟨ret_strB (by rw [HTE.out, E.app_list, E.app_list]; rfl), HB2.out⟩
  · have e0 := kq hk 0 (r := false) rfl
    have e1 := kq hk 1 (r := false) rfl
    have e2 := kq hk 2 (r := false) rfl
    have e3 := kq hk 3 (r := false) rfl
    have e5 := kq hk 5 (r := false) rfl
    have hgr := textD_group (d := d) (by omega)
    rw [if_neg (by omega), if_neg (by omega), ← hT] at hgr
    have hlen2 : (uptoD d d.list.length).length + 2 ≤ 100000000000 := by rw [hgr] at hlen; simp at hlen; omega
    have HTE := Lib.hid hgr; have HK := Lib.hid hk
    clear hk p1 p2 p3 p4 p5 p6 p7 k0 k5 hT hlen hgr
    go_enter Tryz.func25, Tryz.ntmps25
    go_upto_region 1 with (fail)
    rw [boxD_out HW]
    go_wp2_with fail
    go_loopg [3, 36] d.list.length (fun g s3 s36 wr => ∃ (k : Nat) (acc : ByteArray), s36 = .int .i64 k ∧ s3 = .string acc ∧ k ≤ d.list.length ∧ d.list.length - k ≤ g ∧ RowKit.Hid (acc.data.toList = uptoD d k) ∧ RowKit.Hid (Below w1.heap.size w1 wr))
    case atStart => exact ⟨0, ⟨#[]⟩, rfl, rfl, by omega, by omega, Lib.hid rfl, Lib.hid (Below.refl _ _)⟩
    case round =>
      clear c0 c1 c2 c3 c4
      obtain ⟨k, acc, rfl, rfl, hk, hg, HAC, HBr⟩ := hrel
      obtain ⟨c0, c1, c2, c3, c4⟩ := HBX.out.below HBr.out hsz1
      have hsza : acc.size = (uptoD d k).length := by rw [← size_list, HAC.out]
      have hle := uptoD_le d k d.list.length hk
      by_cases hlt : k < d.list.length
      · have h1 : (k : Int) < (d.list.length : Int) := by omega
        obtain ⟨bk, off, kd, y, hK, hbk, hkd, hkc, hkt⟩ := (HT1.out.up HBr.out).kid hlt
        obtain ⟨p0, p1, p2, p3, p4⟩ := hkc
        have hkk : d.list.getD k (.mk 0 0 noB [] []) = kd := by rw [hkd, List.getD_eq_getElem?_getD, List.getElem?_eq_getElem hlt]; rfl
        have hup : uptoD d (k + 1) = uptoD d k ++ pieceD d k (textD kd) := by rw [uptoD, hkk]
        have hle2 := uptoD_le d (k + 1) d.list.length (by omega)
        rw [hup, List.length_append, ← hsza] at hle2
        have hfk : FineD kd := by cases HF.out with | mk own nm sub => exact sub kd (by rw [hkd]; exact List.getElem_mem _)
        have hpl : (textD kd).length ≤ (pieceD d k (textD kd)).length := by unfold pieceD; simp only [List.length_append]; omega
        have HUP := Lib.hid hup
        have CK := HIH.out kd (by rw [hkd]; exact List.getElem_mem _) hfk (HG.out.kid hlt hkd) y wr hkt (by omega)
        obtain ⟨kt, hktx⟩ : ∃ kt, kt = strB (textD kd) := ⟨_, rfl⟩
        rw [← hktx] at CK
        have HCK := Lib.hid CK
        have hkts : kt.size = (textD kd).length := by rw [hktx, strB_size]
        have hktl : kt.data.toList = textD kd := by rw [hktx]; rfl
        have HKL := Lib.hid hktl
        have HHK := Lib.hid hK
        by_cases h0 : k = 0
        · have hpc : pieceD d k (textD kd) = textD kd := by unfold pieceD; rw [if_pos h0, if_neg (by rw [HK.out]; decide)]; simp
          have hlp := congrArg List.length hpc
          have HPC := Lib.hid hpc
          have hgt : ¬ (k : Int) > 0 := by omega
          have q4 : ¬ 9223372036854775807 < acc.size + kt.size := by omega
          clear hpc hlp hle2 hpl hup hkk hktx hkts hktl hle hsza h0 hkt hkd CK hfk
          go_wp2_with fail
          refine HCK.out.mono ?_
          rintro e w3 ⟨rfl, hb3⟩
          have HB3 := Lib.hid (HBr.out.trans (hb3.mono HBr.out.size))
          clear hb3 HCK
          go_wp2_with fail
          try rw [← HHK.out]
          go_roundg (d.list.length - (k + 1))
          case measure => omega
          case rel => exact ⟨k + 1, _, by go_num, rfl, by omega, by omega, Lib.hid (by rw [HUP.out, HPC.out, E.app_list, HAC.out, HKL.out]; try simp), HB3⟩
        · have hpc : pieceD d k (textD kd) = 44 :: textD kd := by unfold pieceD; rw [if_neg h0, if_neg (by rw [HK.out]; decide)]; simp
          have hlp := congrArg List.length hpc
          simp only [List.length_cons] at hlp
          have HPC := Lib.hid hpc
          have hgt : (k : Int) > 0 := by omega
          have q1 : ¬ 9223372036854775807 < acc.size + 1 := by omega
          have q4 : ¬ 9223372036854775807 < acc.size + 1 + kt.size := by omega
          clear hpc hlp hle2 hpl hup hkk hktx hkts hktl hle hsza h0 hkt hkd CK hfk
          go_wp2_with fail
          refine HCK.out.mono ?_
          rintro e w3 ⟨rfl, hb3⟩
          have HB3 := Lib.hid (HBr.out.trans (hb3.mono HBr.out.size))
          clear hb3 HCK
          go_wp2_with fail
          try rw [← HHK.out]
          go_roundg (d.list.length - (k + 1))
          case measure => omega
          case rel => exact ⟨k + 1, _, by go_num, rfl, by omega, by omega, Lib.hid (by rw [HUP.out, HPC.out, E.app_list, E.app_list, HAC.out, HKL.out]; try simp), HB3⟩
      · have h1 : ¬ (k : Int) < (d.list.length : Int) := by omega
        have hke : k = d.list.length := by omega
        have HKE := Lib.hid hke
        have q1 : ¬ 9223372036854775807 < 1 + acc.size := by omega
        have q2 : ¬ 9223372036854775807 < 1 + acc.size + 1 := by omega
        clear hke hle hsza
        go_wp2_with fail
        go_ret
        exact ⟨ret_strB (by rw [HTE.out, E.app_list, E.app_list, HAC.out, HKE.out]; rfl), HB1.out.trans (HBr.out.mono HB1.out.size)⟩
  · have e0 := kq hk 0 (r := false) rfl
    have e1 := kq hk 1 (r := false) rfl
    have e2 := kq hk 2 (r := false) rfl
    have e3 := kq hk 3 (r := false) rfl
    have e5 := kq hk 5 (r := true) rfl
    have hgr := textD_group (d := d) (by omega)
    rw [if_pos hk, if_pos hk, ← hT] at hgr
    have hlen2 : (uptoD d d.list.length).length + 2 ≤ 100000000000 := by rw [hgr] at hlen; simp at hlen; omega
    have HNL := Lib.hid (p6 hk)
    have HTE := Lib.hid hgr; have HK := Lib.hid hk
    clear hk p1 p2 p3 p4 p5 p6 p7 k0 k5 hT hlen hgr
    go_enter Tryz.func25, Tryz.ntmps25
    go_upto_region 1 with (fail)
    rw [boxD_out HW]
    go_wp2_with fail
    go_loopg [3, 36] d.list.length (fun g s3 s36 wr => ∃ (k : Nat) (acc : ByteArray), s36 = .int .i64 k ∧ s3 = .string acc ∧ k ≤ d.list.length ∧ d.list.length - k ≤ g ∧ RowKit.Hid (acc.data.toList = uptoD d k) ∧ RowKit.Hid (Below w1.heap.size w1 wr))
    case atStart => exact ⟨0, ⟨#[]⟩, rfl, rfl, by omega, by omega, Lib.hid rfl, Lib.hid (Below.refl _ _)⟩
    case round =>
      clear c0 c1 c2 c3 c4
      obtain ⟨k, acc, rfl, rfl, hk, hg, HAC, HBr⟩ := hrel
      obtain ⟨c0, c1, c2, c3, c4⟩ := HBX.out.below HBr.out hsz1
      have hsza : acc.size = (uptoD d k).length := by rw [← size_list, HAC.out]
      have hle := uptoD_le d k d.list.length hk
      by_cases hlt : k < d.list.length
      · have h1 : (k : Int) < (d.list.length : Int) := by omega
        obtain ⟨bk, off, kd, y, hK, hbk, hkd, hkc, hkt⟩ := (HT1.out.up HBr.out).kid hlt
        obtain ⟨p0, p1, p2, p3, p4⟩ := hkc
        have hkk : d.list.getD k (.mk 0 0 noB [] []) = kd := by rw [hkd, List.getD_eq_getElem?_getD, List.getElem?_eq_getElem hlt]; rfl
        have hup : uptoD d (k + 1) = uptoD d k ++ pieceD d k (textD kd) := by rw [uptoD, hkk]
        have hle2 := uptoD_le d (k + 1) d.list.length (by omega)
        rw [hup, List.length_append, ← hsza] at hle2
        have hfk : FineD kd := by cases HF.out with | mk own nm sub => exact sub kd (by rw [hkd]; exact List.getElem_mem _)
        have hpl : (textD kd).length ≤ (pieceD d k (textD kd)).length := by unfold pieceD; simp only [List.length_append]; omega
        have HUP := Lib.hid hup
        have CK := HIH.out kd (by rw [hkd]; exact List.getElem_mem _) hfk (HG.out.kid hlt hkd) y wr hkt (by omega)
        obtain ⟨kt, hktx⟩ : ∃ kt, kt = strB (textD kd) := ⟨_, rfl⟩
        rw [← hktx] at CK
        have HCK := Lib.hid CK
        have hkts : kt.size = (textD kd).length := by rw [hktx, strB_size]
        have hktl : kt.data.toList = textD kd := by rw [hktx]; rfl
        have HKL := Lib.hid hktl
        have hnl2 : k < d.names.length := by have := HNL.out; omega
        obtain ⟨bn, on, nk, hA, hbn, hnk, hcn⟩ := srow_at ((HT1.out.up HBr.out).names) hnl2
        have hgd : d.names.getD k noB = nk := by rw [hnk, List.getD_eq_getElem?_getD, List.getElem?_eq_getElem hnl2]; rfl
        have hnl3 : (k : Int) < (d.names.length : Int) := by omega
        have hnsz : nk.data.toList.length = nk.size := size_list nk
        have HHA := Lib.hid hA
        rw [hA] at c3
        have HHK := Lib.hid hK
        by_cases h0 : k = 0
        · have hpc : pieceD d k (textD kd) = (nk.data.toList ++ 61 :: textD kd) := by unfold pieceD; rw [if_pos h0, if_pos HK.out, hgd]; simp
          have hlp := congrArg List.length hpc
          simp only [List.length_cons, List.length_append] at hlp
          have HPC := Lib.hid hpc
          have hgt : ¬ (k : Int) > 0 := by omega
          have q2 : ¬ 9223372036854775807 < acc.size + nk.size := by omega
          have q3 : ¬ 9223372036854775807 < acc.size + nk.size + 1 := by omega
          have q4 : ¬ 9223372036854775807 < acc.size + nk.size + 1 + kt.size := by omega
          clear hpc hlp hle2 hpl hup hkk hktx hkts hktl hle hsza h0 hkt hkd CK hfk hA hnk hgd hnsz
          go_wp2_with fail
          refine HCK.out.mono ?_
          rintro e w3 ⟨rfl, hb3⟩
          have HB3 := Lib.hid (HBr.out.trans (hb3.mono HBr.out.size))
          clear hb3 HCK
          go_wp2_with fail
          try rw [← HHK.out]
          try rw [← HHA.out]
          go_roundg (d.list.length - (k + 1))
          case measure => omega
          case rel => exact ⟨k + 1, _, by go_num, rfl, by omega, by omega, Lib.hid (by rw [HUP.out, HPC.out, E.app_list, E.app_list, E.app_list, HAC.out, HKL.out]; try simp), HB3⟩
        · have hpc : pieceD d k (textD kd) = 44 :: (nk.data.toList ++ 61 :: textD kd) := by unfold pieceD; rw [if_neg h0, if_pos HK.out, hgd]; simp
          have hlp := congrArg List.length hpc
          simp only [List.length_cons, List.length_append] at hlp
          have HPC := Lib.hid hpc
          have hgt : (k : Int) > 0 := by omega
          have q1 : ¬ 9223372036854775807 < acc.size + 1 := by omega
          have q2 : ¬ 9223372036854775807 < acc.size + 1 + nk.size := by omega
          have q3 : ¬ 9223372036854775807 < acc.size + 1 + nk.size + 1 := by omega
          have q4 : ¬ 9223372036854775807 < acc.size + 1 + nk.size + 1 + kt.size := by omega
          clear hpc hlp hle2 hpl hup hkk hktx hkts hktl hle hsza h0 hkt hkd CK hfk hA hnk hgd hnsz
          go_wp2_with fail
          refine HCK.out.mono ?_
          rintro e w3 ⟨rfl, hb3⟩
          have HB3 := Lib.hid (HBr.out.trans (hb3.mono HBr.out.size))
          clear hb3 HCK
          go_wp2_with fail
          try rw [← HHK.out]
          try rw [← HHA.out]
          go_roundg (d.list.length - (k + 1))
          case measure => omega
          case rel => exact ⟨k + 1, _, by go_num, rfl, by omega, by omega, Lib.hid (by rw [HUP.out, HPC.out, E.app_list, E.app_list, E.app_list, E.app_list, HAC.out, HKL.out]; try simp), HB3⟩
      · have h1 : ¬ (k : Int) < (d.list.length : Int) := by omega
        have hke : k = d.list.length := by omega
        have HKE := Lib.hid hke
        have q1 : ¬ 9223372036854775807 < 1 + acc.size := by omega
        have q2 : ¬ 9223372036854775807 < 1 + acc.size + 1 := by omega
        clear hke hle hsza
        go_wp2_with fail
        go_ret
        exact ⟨ret_strB (by rw [HTE.out, E.app_list, E.app_list, HAC.out, HKE.out]; rfl), HB1.out.trans (HBr.out.mono HB1.out.size)⟩
end Go.Proofs.YtjnhcoflmechmaaGreatDoor
