/-
  tendrilref15.Print: the markup of a tree.
-/
import Derived.Test.YtjnhcoflmechmaaGreatDoorMPrint
import Derived.Test.YtjnhcoflmechmaaGreatDoorESpanR
namespace Go.Proofs.YtjnhcoflmechmaaGreatDoor.M
open Go.RowKit Go.Sort
set_option linter.unusedVariables false
set_option maxRecDepth 100000
theorem strB_size (l : Bytes) : (strB l).size = l.length := by rw [← size_list]; rfl
theorem ret_strB {a : ByteArray} {l : Bytes} (h : a.data.toList = l) : Ending.returned (.string a) = .returned (.string (strB l)) := by rw [← h, strB_eq]
def pairB (n v : ByteArray) : Bytes := 32 :: (n.data.toList ++ [61, 34] ++ E.escL v.data.toList ++ [34])
set_option maxHeartbeats 4000000 in
theorem pair_any (n v : ByteArray) (w : World) (hn : n.size ≤ 100000000) (hv : v.size ≤ 900000) : Calls Tryz.prog 39 #[.string n, .string v] w fun e w' => e = .returned (.string (strB (pairB n v))) ∧ Below w.heap.size w w' := by
  have CE := E.refEscape_any v w hv
  obtain ⟨es, hes⟩ : ∃ es : ByteArray, es = E.str (E.escL v.data.toList) := ⟨_, rfl⟩
  have hsz : es.size ≤ 6000000 := by
    have h1 := E.escL_length v.data.toList
    have e1 := size_list v
    rw [hes, E.str_size]; omega
  unfold E.StrPost at CE
  rw [← hes] at CE
  have HCE := Lib.hid CE
  have HT := Lib.hid (show pairB n v = 32 :: (n.data.toList ++ [61, 34] ++ es.data.toList ++ [34]) by unfold pairB; rw [hes, E.str_data])
  have q1 : ¬ 9223372036854775807 < 1 + n.size := by omega
  have q2 : ¬ 9223372036854775807 < 1 + n.size + 2 := by omega
  have q3 : ¬ 9223372036854775807 < 1 + n.size + 2 + es.size := by omega
  have q4 : ¬ 9223372036854775807 < 1 + n.size + 2 + es.size + 1 := by omega
  clear CE hes hsz
  go_enter Tryz.func39, Tryz.ntmps39
  go_wp2_with fail
  refine HCE.out.mono ?_
  rintro e w2 ⟨rfl, hb2⟩
  have HB2 := Lib.hid hb2
  clear hb2 HCE
  go_wp2_with fail
  go_ret
  exact ⟨ret_strB (by rw [HT.out, E.app_list, E.app_list, E.app_list, E.app_list]; simp), HB2.out⟩
def RPrintT (t : Tr) : Prop := ∀ (x : NV) (w : World), TreeAt w w.heap.size t x → (prT t).length ≤ 100000000000 → Calls Tryz.prog 16 #[nodeV t x] w fun e w' => e = .returned (.string (strB (prT t))) ∧ Below w.heap.size w w'
set_option maxHeartbeats 16000000 in
theorem refPrint_any : ∀ t : Tr, GoodT t → AllT fineN t → RPrintT t := by
  refine tr_ind fun t ih hg hf => ?_
  intro x w ht hlen
  obtain ⟨-, -, -, hal, hsh, hkl⟩ := hg.sizes
  have hfn : fineN t ∧ ∀ k ∈ t.kids, AllT fineN k := by cases hf with | mk h sub => exact ⟨h, sub⟩
  obtain ⟨⟨hf1, hf2, hf3⟩, hfk⟩ := hfn
  have hIH : ∀ k ∈ t.kids, RPrintT k := fun k hk => ih k hk (by cases hg with | mk h1 h2 h3 h4 h5 h6 sub => exact sub k hk) (hfk k hk)
  obtain ⟨w1, hw1⟩ : ∃ w1, w1 = boxW w t x := ⟨_, rfl⟩
  have hb1 : Below w.heap.size w w1 := by rw [hw1]; exact below_box w t x
  have hbox : KidCells w1 w.heap.size 0 t x := by rw [hw1]; exact box_node w t x
  have hsz1 : w.heap.size < w1.heap.size := hbox.block_lt
  have HW := Lib.hid hw1; have HB1 := Lib.hid hb1; have HT1 := Lib.hid (ht.up hb1); have HBX := Lib.hid hbox; have HIH := Lib.hid hIH; have HSH := Lib.hid hsh
  have hpr := prT_eq t
  have hbig : (1 + t.tag.size + (keyB t.key).length + (t.as.flatMap attB).length) + (if t.text = noB ∧ t.kids = [] then [47, 62] else 62 :: (E.escL t.text.data.toList ++ (prL t.kids ++ ([60, 47] ++ (t.tag.data.toList ++ [62]))))).length ≤ 100000000000 := by
    have e := congrArg List.length hpr
    have e1 := size_list t.tag
    rw [List.length_append, List.length_cons, List.length_append, List.length_append] at e
    omega
  obtain ⟨T, hT⟩ : ∃ T, T = prT t := ⟨_, rfl⟩
  rw [← hT] at hpr hlen ⊢
  have HTT := Lib.hid hpr; have HBIG := Lib.hid hbig
  obtain ⟨c0, c1, c2, c3, c4⟩ := hbox
  have q1 : ¬ 9223372036854775807 < 1 + t.tag.size := by omega
  clear hw1 hb1 ht ih hf hg hIH hpr hbig hT hfk hsh hlen
  go_enter Tryz.func16, Tryz.ntmps16
  go_upto_region 1 with (fail)
  rw [box_out HW]
  go_upto_if 11 with (fail)
  obtain ⟨kb, hkb⟩ : ∃ kb, kb = t.key.toList.isEmpty := ⟨_, rfl⟩
  rw [← hkb]
  have HKB0 := Lib.hid hkb
  clear hkb
  go_cut [3] from 12 (fun s3 wc => ∃ acc : ByteArray, s3 = .string acc ∧ RowKit.Hid (acc.data.toList = 60 :: (t.tag.data.toList ++ keyB t.key)) ∧ RowKit.Hid (Below w1.heap.size w1 wc))
  case first =>
    cases kb with
    | true =>
      have hk0 : t.key = noB := isEmpty_noB.1 HKB0.out.symm
      have HKE := Lib.hid (show keyB t.key = [] from if_pos hk0)
      clear hk0
      go_wp2_with fail
      go_meet
      exact ⟨_, rfl, Lib.hid (by rw [E.app_list, HKE.out]; simp), Lib.hid (Below.refl _ _)⟩
    | false =>
      have hk0 : ¬ t.key = noB := fun e => by have := isEmpty_noB.2 e; rw [← HKB0.out] at this; cases this
      obtain ⟨ps, hps⟩ : ∃ ps, ps = strB (pairB ⟨#[35]⟩ t.key) := ⟨_, rfl⟩
      have HKE := Lib.hid (show keyB t.key = ps.data.toList by
        rw [hps, show keyB t.key = _ from if_neg hk0]
        show _ = pairB ⟨#[35]⟩ t.key
        simp [pairB])
      have hpl : ps.size ≤ 100000000000 := by
        have e1 := congrArg List.length HKE.out
        rw [size_list] at e1
        have := HBIG.out; omega
      have q2 : ¬ 9223372036854775807 < 1 + t.tag.size + ps.size := by have := HBIG.out; omega
      have CP := pair_any ⟨#[35]⟩ t.key w1 (by decide) hf1
      rw [← hps] at CP
      have HCP := Lib.hid CP
      clear hk0 hps hpl CP
      go_wp2_with fail
      refine HCP.out.mono ?_
      rintro e w2 ⟨rfl, hb2⟩
      have HB2 := Lib.hid hb2
      clear hb2 HCP
      go_wp2_with fail
      go_meet
      exact ⟨_, rfl, Lib.hid (by rw [E.app_list, E.app_list, HKE.out]; simp), HB2⟩
  case rest =>
    obtain ⟨acc0, rfl, HA0, HBc⟩ := hcut
    clear c0 c1 c2 c3 c4 q1
    obtain ⟨c0, c1, c2, c3, c4⟩ := HBX.out.below HBc.out hsz1
    go_wp2_with fail
    go_loopg [3, 4, 20] t.as.length (fun m s3 s4 s20 wr => ∃ (k : Nat) (acc : ByteArray), s20 = .int .i64 k ∧ s3 = .string acc ∧ k ≤ t.as.length ∧ t.as.length - k ≤ m ∧ RowKit.Hid (acc.data.toList = 60 :: (t.tag.data.toList ++ keyB t.key ++ (t.as.take k).flatMap attB)) ∧ RowKit.Hid (Below w1.heap.size w1 wr))
    case atStart => exact ⟨0, acc0, rfl, rfl, by omega, by omega, Lib.hid (by rw [HA0.out]; simp), HBc⟩
    case round =>
      clear c0 c1 c2 c3 c4 HA0 HBc
      obtain ⟨k, acc, rfl, rfl, hk, hm, HAC, HBr⟩ := hrel
      obtain ⟨c0, c1, c2, c3, c4⟩ := HBX.out.below HBr.out hsz1
      have hsza : acc.size = 1 + t.tag.size + (keyB t.key).length + ((t.as.take k).flatMap attB).length := by
        have e1 := size_list t.tag
        rw [← size_list, HAC.out, List.length_cons, List.length_append, List.length_append]; omega
      by_cases hlt : k < t.as.length
      · have h1 : (k : Int) < (t.as.length : Int) := by omega
        obtain ⟨bq, off, p, hA, hbq, hp, a1, a2⟩ := trow_at (HT1.out.up HBr.out).att hlt
        have hpm : p ∈ t.as := by rw [hp]; exact List.getElem_mem _
        obtain ⟨ps, hps⟩ : ∃ ps, ps = strB (pairB p.1 p.2) := ⟨_, rfl⟩
        have hpsd : ps.data.toList = attB p := by rw [hps]; rfl
        have hle := flat_take_le t.as (k + 1)
        rw [flat_take hlt, List.length_append, ← hp] at hle
        have hpl : ps.size = (attB p).length := by rw [← size_list, hpsd]
        have HBL := HBIG.out
        have q2 : ¬ 9223372036854775807 < acc.size + ps.size := by omega
        have CP := pair_any p.1 p.2 wr.drew (HSH.out p hpm).1 (hf3 p hpm)
        rw [← hps] at CP
        have HCP := Lib.hid CP
        have HNX := Lib.hid (show (acc ++ ps).data.toList = 60 :: (t.tag.data.toList ++ keyB t.key ++ (t.as.take (k + 1)).flatMap attB) by
          rw [E.app_list, HAC.out, hpsd, flat_take hlt, ← hp]; simp)
        have hwk : IntKind.i64.wrap ((k : Int) + 1) = (k : Int) + 1 := by rw [IntKind.wrap_i64]; omega
        have hki : (0 : Int) ≤ (k : Int) := by omega
        clear hp hpm hps hpsd hle hpl HBL CP hsza
        go_wp2_with fail
        go_region_law (go_simp; go_at_call 39; refine HCP.out.mono ?_; rintro e w4 ⟨rfl, hb4⟩)
        all_goals
          have HB4 := Lib.hid (HBr.out.trans (((below_drewN _ wr 1 : Below wr.heap.size wr (wr.drewN 1)).trans hb4).mono HBr.out.size))
          clear hb4
          go_wp2_with fail
          try rw [← hA]
          go_roundg (t.as.length - (k + 1))
          case measure => omega
          case rel => exact ⟨k + 1, _, by go_num, rfl, by omega, by omega, HNX, HB4⟩
      · have h1 : ¬ (k : Int) < (t.as.length : Int) := by omega
        have HA3 := Lib.hid (show acc.data.toList = 60 :: (t.tag.data.toList ++ keyB t.key ++ t.as.flatMap attB) by
          have := HAC.out
          rw [List.take_of_length_le (by omega)] at this
          exact this)
        have hs3 : acc.size = 1 + t.tag.size + (keyB t.key).length + (t.as.flatMap attB).length := by
          rw [hsza, List.take_of_length_le (by omega)]
        obtain ⟨e0, he0⟩ : ∃ e0 : Bool, e0 = decide (t.text = noB ∧ t.kids = []) := ⟨_, rfl⟩
        have HE0 := Lib.hid he0; have HS3 := Lib.hid hs3
        clear HAC hsza he0 hs3
        go_upto_region 9 with (fail)
        go_cut [47] from 39 (fun s47 wc => s47 = .bool e0 ∧ wc = wr)
        case first =>
          by_cases hk0 : t.text = noB
          · have hkl : t.text.toList = [] := by rw [hk0, Lib.toList_data]; rfl
            by_cases hks : t.kids = []
            · have hkz : ((t.kids.length : Int) == 0) = true := by rw [hks]; rfl
              have hee : e0 = true := by rw [HE0.out]; simp [hk0, hks]
              clear hk0 hks
              go_wp2_with fail
              go_meet
              exact ⟨by rw [hee], rfl⟩
            · have hkz : ((t.kids.length : Int) == 0) = false := by
                rw [beq_eq_false_iff_ne]
                intro e
                exact hks (List.eq_nil_of_length_eq_zero (by omega))
              have hee : e0 = false := by rw [HE0.out]; simp [hks]
              clear hk0 hks
              go_wp2_with fail
              go_meet
              exact ⟨by rw [hee], rfl⟩
          · have hkl : (t.text.toList == []) = false := by
              rw [Lib.toList_data, beq_eq_false_iff_ne]
              intro e
              apply hk0
              rw [← strB_eq t.text, e]; rfl
            have hkl2 : ¬ t.text.toList = [] := by simpa using hkl
            have hee : e0 = false := by rw [HE0.out]; simp [hk0]
            clear hk0
            go_wp2_with fail
            go_meet
            exact ⟨by rw [hee], rfl⟩
        case rest =>
          obtain ⟨rfl, rfl⟩ := hcut
          cases e0 with
          | true =>
            have hee : t.text = noB ∧ t.kids = [] := of_decide_eq_true HE0.out.symm
            have q2 : ¬ 9223372036854775807 < acc.size + 2 := by
              have h2 := HBIG.out; rw [if_pos hee] at h2; have h3 := HS3.out; simp only [List.length_cons, List.length_nil] at h2; omega
            have HFT := Lib.hid (show T = acc.data.toList ++ [47, 62] by rw [HTT.out, if_pos hee, HA3.out])
            clear hee
            go_wp2_with fail
            go_ret
            exact ⟨ret_strB (by rw [HFT.out, E.app_list]), HB1.out.trans (HBr.out.mono HB1.out.size)⟩
          | false =>
            have hee : ¬ (t.text = noB ∧ t.kids = []) := of_decide_eq_false HE0.out.symm
            have hbig2 := HBIG.out
            rw [if_neg hee] at hbig2
            have HBG := Lib.hid (show (1 + t.tag.size + (keyB t.key).length + (t.as.flatMap attB).length) + (1 + (E.escL t.text.data.toList).length + (prL t.kids).length + 2 + t.tag.size + 1) ≤ 100000000000 by
              have e1 := size_list t.tag
              simp only [List.length_append, List.length_cons, List.length_nil] at hbig2
              omega)
            obtain ⟨es, hes⟩ : ∃ es : ByteArray, es = E.str (E.escL t.text.data.toList) := ⟨_, rfl⟩
            have CE := E.refEscape_any t.text wc hf2
            unfold E.StrPost at CE
            rw [← hes] at CE
            have HCE := Lib.hid CE
            have hesd : es.data.toList = E.escL t.text.data.toList := by rw [hes]; rfl
            have hess : es.size = (E.escL t.text.data.toList).length := by rw [← size_list, hesd]
            have HES := Lib.hid hess
            have HPR := Lib.hid (show T = acc.data.toList ++ (62 :: (es.data.toList ++ (prL t.kids ++ ([60, 47] ++ (t.tag.data.toList ++ [62]))))) by
              rw [HTT.out, if_neg hee, HA3.out, hesd])
            have q2 : ¬ 9223372036854775807 < acc.size + 1 := by have := HBG.out; have := HS3.out; omega
            have q3 : ¬ 9223372036854775807 < acc.size + 1 + es.size := by have := HBG.out; have := HS3.out; omega
            clear hee hbig2 HE0 HBIG HTT CE hes hesd hess
            go_wp2_with fail
            refine HCE.out.mono ?_
            rintro e w5 ⟨rfl, hb5⟩
            have HB5 := Lib.hid (HBr.out.trans (hb5.mono HBr.out.size))
            clear hb5 HCE c0 c1 c2 c3 c4
            obtain ⟨c0, c1, c2, c3, c4⟩ := HBX.out.below HB5.out hsz1
            obtain ⟨A0, hA0⟩ : ∃ A0 : Bytes, A0 = acc.data.toList ++ (62 :: es.data.toList) := ⟨_, rfl⟩
            have HAA := Lib.hid hA0
            have HAS := Lib.hid (show A0.length = (1 + t.tag.size + (keyB t.key).length + (t.as.flatMap attB).length) + (1 + (E.escL t.text.data.toList).length) by
              have e1 := size_list acc; have e2 := size_list es
              rw [hA0, List.length_append, List.length_cons, e1, e2, HS3.out, HES.out]; omega)
            have HPR2 := Lib.hid (show T = A0 ++ (prL t.kids ++ ([60, 47] ++ (t.tag.data.toList ++ [62]))) by rw [HPR.out, hA0]; simp)
            clear hA0
            go_wp2_with fail
            go_loopg [3, 5, 59] t.kids.length (fun m s3 s5 s59 wr => ∃ (k : Nat) (ac : ByteArray), s59 = .int .i64 k ∧ s3 = .string ac ∧ k ≤ t.kids.length ∧ t.kids.length - k ≤ m ∧ RowKit.Hid (ac.data.toList = A0 ++ prL (t.kids.take k)) ∧ RowKit.Hid (Below w1.heap.size w1 wr))
            case atStart => exact ⟨0, _, rfl, rfl, by omega, by omega, Lib.hid (by rw [E.app_list, E.app_list, HAA.out]; simp [prL]), HB5⟩
            case round =>
              clear c0 c1 c2 c3 c4 HB5
              obtain ⟨j, ac, rfl, rfl, hj, hmj, HAJ, HBj⟩ := hrel
              obtain ⟨c0, c1, c2, c3, c4⟩ := HBX.out.below HBj.out hsz1
              have hszj : ac.size = A0.length + (prL (t.kids.take j)).length := by rw [← size_list, HAJ.out, List.length_append]
              by_cases hjt : j < t.kids.length
              · have h2 : (j : Int) < (t.kids.length : Int) := by omega
                obtain ⟨bk, off, kd, y, hK, hbk, hkd, hkc, hkt⟩ := (HT1.out.up HBj.out).kid hjt
                obtain ⟨p0, p1, p2, p3, p4⟩ := hkc
                have hle := prL_take_le t.kids (j + 1)
                rw [prL_take hjt, List.length_append, ← hkd] at hle
                obtain ⟨kt, hktx⟩ : ∃ kt, kt = strB (prT kd) := ⟨_, rfl⟩
                have hkts : kt.size = (prT kd).length := by rw [hktx, strB_size]
                have CK := HIH.out kd (by rw [hkd]; exact List.getElem_mem _) y wr hkt (by have := HBG.out; omega)
                rw [← hktx] at CK
                have HCK := Lib.hid CK
                have q4 : ¬ 9223372036854775807 < ac.size + kt.size := by have := HBG.out; have := HAS.out; omega
                have HNX := Lib.hid (show (ac ++ kt).data.toList = A0 ++ prL (t.kids.take (j + 1)) by
                  rw [E.app_list, HAJ.out, prL_take hjt, ← hkd, hktx, strB_data, List.append_assoc])
                have hwj : IntKind.i64.wrap ((j : Int) + 1) = (j : Int) + 1 := by rw [IntKind.wrap_i64]; omega
                clear hkd hkt hle hktx hkts CK hszj
                go_wp2_with fail
                refine HCK.out.mono ?_
                rintro e w8 ⟨rfl, hb8⟩
                have HB8 := Lib.hid (HBj.out.trans (hb8.mono HBj.out.size))
                clear hb8 HCK p0 p1 p2 p3 p4
                go_wp2_with fail
                try rw [← hK]
                go_roundg (t.kids.length - (j + 1))
                case measure => omega
                case rel => exact ⟨j + 1, _, by go_num, rfl, by omega, by omega, HNX, HB8⟩
              · have h2 : ¬ (j : Int) < (t.kids.length : Int) := by omega
                have hacf : ac.data.toList = A0 ++ prL t.kids := by
                  have := HAJ.out
                  rw [List.take_of_length_le (by omega)] at this
                  exact this
                have hszf : ac.size = A0.length + (prL t.kids).length := by rw [← size_list, hacf, List.length_append]
                have q4 : ¬ 9223372036854775807 < ac.size + 2 := by have := HBG.out; have := HAS.out; omega
                have q5 : ¬ 9223372036854775807 < ac.size + 2 + t.tag.size := by have := HBG.out; have := HAS.out; omega
                have q6 : ¬ 9223372036854775807 < ac.size + 2 + t.tag.size + 1 := by have := HBG.out; have := HAS.out; omega
                have HF := Lib.hid (show T = ac.data.toList ++ [60, 47] ++ t.tag.data.toList ++ [62] by rw [HPR2.out, hacf]; simp)
                clear hacf hszf hszj
                go_wp2_with fail
                go_ret
                exact ⟨ret_strB (by rw [HF.out, E.app_list, E.app_list, E.app_list]), HB1.out.trans (HBj.out.mono HB1.out.size)⟩
end Go.Proofs.YtjnhcoflmechmaaGreatDoor.M
