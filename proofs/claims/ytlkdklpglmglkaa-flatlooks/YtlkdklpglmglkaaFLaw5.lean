/-
  tendrillaw13.FlatLooks.
-/
import Derived.Test.YtlkdklpglmglkaaFLists
import Derived.Test.YtlkdklpglmglkaaFPath
import Derived.Test.YtlkdklpglmglkaaFLaw6
import Derived.Test.YtlkdklpglmglkaaVLaw1
namespace Go.Proofs.Ytlkdklpglmglkaa
open Go.RowKit Go.Sort Go.Lib
set_option linter.unusedVariables false
set_option maxRecDepth 100000
theorem keep5 {w1 W W' : World} {g k bs o : Nat} {v z : Value} (hb : Below W.heap.size W W')
    (h : W.cell? ⟨g, k, none⟩ = some v ∧ W.cell? ⟨bs, o, none⟩ = some z ∧ RowKit.Hid (Below w1.heap.size w1 W)) :
    W'.cell? ⟨g, k, none⟩ = some v ∧ W'.cell? ⟨bs, o, none⟩ = some z ∧ RowKit.Hid (Below w1.heap.size w1 W') := by
  have hk := kept_below hb (fun _ => False)
  have nf : ¬ False := fun h => h
  obtain ⟨h0, h1, h5⟩ := h
  exact ⟨hk.cellOf h0 nf, hk.cellOf h1 nf, Lib.hid (h5.out.trans (hb.mono h5.out.size))⟩
theorem spL_end {rs : List Rw} (hf : FormTo rs rs.length) {k : Nat} (hk : k ≤ rs.length) : (spL rs 0).getD k 0 = ((spanTo rs k rs.length : Nat) : Int) := by
  have h1 := spL_get rs 0 hk
  rw [← spanAt_end hf hk]
  have h2 : k < (spL rs 0).length := by rw [spL_length]; omega
  simp only [I.ints, List.getElem?_map, List.getElem?_eq_getElem h2, Option.map_some, Option.some.injEq, Value.int.injEq, true_and] at h1
  rw [List.getD_eq_getElem?_getD, List.getElem?_eq_getElem h2]
  exact h1
set_option maxHeartbeats 8000000 in
theorem law5_any (A : Option Addr) (c : Nat) (l : List Rw) (h : Int) (w : World) (ha : RIn w A c l) : Calls Try.prog 5 #[.slice A l.length c, .int .i64 h] w (TrueB w) := by
  have nf : ¬ (False : Prop) := fun h => h
  have C := Lib.hid (fewRows_any A c l 400 w ha.row ha.fit (by omega) ha.len)
  have HA := Lib.hid ha
  rw [show ((400 : Nat) : Int) = 400 from rfl] at C
  clear ha
  go_enter Try.func5, Try.ntmps5
  go_wp2_with fail
  refine C.out.mono ?_
  rintro e w1 ⟨r1, rfl, h1, hb1⟩
  have HB1 := Lib.hid hb1
  clear C hb1
  cases r1 with
  | false =>
    have CS := Lib.hid (same13_any w1)
    clear h1
    go_wp2_with fail
    refine CS.out.mono ?_
    rintro e w2 ⟨rfl, hb2⟩
    have HB2 := Lib.hid (HB1.out.trans (hb2.mono HB1.out.size))
    clear hb2 CS
    go_wp2_with fail
    go_ret
    exact ⟨rfl, HB2.out⟩
  | true =>
    have HG := Lib.hid (h1 rfl).1
    have hll : l.length ≤ 400 := (h1 rfl).2
    have HR1 := Lib.hid (HA.out.row.up HB1.out)
    have HCAP := Lib.hid HA.out.cap
    have CL := Lib.hid (lists_any A c l w1 HR1.out HG.out (by omega) HCAP.out)
    clear h1
    go_wp2_with fail
    refine CL.out.mono ?_
    rintro e w2 (⟨hne, rfl, hb2⟩ | ⟨heq, Ak, rfl, hLL, hb2⟩)
    · have HB2 := Lib.hid (HB1.out.trans (hb2.mono HB1.out.size))
      have HR2 := Lib.hid (HR1.out.up hb2); have HNE := Lib.hid hne
      have CS := Lib.hid (spans_any A c l w2 HR2.out HG.out (by omega) HCAP.out)
      rw [show spansR l = [] by rw [spansR, if_neg hne]] at CS
      have HP := Lib.hid (show pathL l h = [] by rw [pathL, if_neg (fun q => hne q.2.2)])
      clear hne hb2 CL
      go_wp2_with fail
      refine CS.out.mono ?_
      rintro e w3 ⟨A3, c3, rfl, -, -, -, -, hb3⟩
      have HB3 := Lib.hid (HB2.out.trans (hb3.mono HB2.out.size))
      have HR3 := Lib.hid (HR2.out.up hb3)
      have CP := Lib.hid (path_any A c l h w3 HR3.out HG.out (by omega) HCAP.out)
      rw [HP.out] at CP
      rw [show ([] : List Int).length = 0 from rfl]
      clear hb3 CS
      go_wp2_with fail
      refine CP.out.mono ?_
      rintro e w4 ⟨A4, c4, rfl, -, -, -, -, hb4⟩
      have HB4 := Lib.hid (HB3.out.trans (hb4.mono HB3.out.size))
      have HR4 := Lib.hid (HR3.out.up hb4)
      have CR := Lib.hid (rcheck_any A c l w4 HR4.out HG.out (by omega))
      rw [show ([] : List Int).length = 0 from rfl]
      clear hb4 CP
      go_wp2_with fail
      refine CR.out.mono ?_
      rintro e w5 ⟨rfl, hb5⟩
      have HB5 := Lib.hid (HB4.out.trans (hb5.mono HB4.out.size))
      obtain ⟨er, her⟩ : ∃ e, e = errR l := ⟨_, rfl⟩
      rw [← her]
      have hz' : (er != 0) = true := by have := HNE.out; rw [← her] at this; simpa using this
      have CS := Lib.hid (same13_any w5)
      clear hb5 her CR
      go_wp2_with fail
      refine CS.out.mono ?_
      rintro e w6 ⟨rfl, hb6⟩
      have HB6 := Lib.hid (HB5.out.trans (hb6.mono HB5.out.size))
      clear hb6 CS
      go_wp2_with fail
      go_ret
      exact ⟨ret_bool (by simp), HB6.out⟩
    · have HB2 := Lib.hid (HB1.out.trans (hb2.mono HB1.out.size))
      have HR2 := Lib.hid (HR1.out.up hb2); have HE := Lib.hid heq; have HL2 := Lib.hid hLL
      have CS := Lib.hid (spans_any A c l w2 HR2.out HG.out (by omega) HCAP.out)
      rw [show spansR l = spL l 0 by rw [spansR, if_pos heq]; rfl] at CS
      have hsl := spL_length l 0
      have HF := Lib.hid (errR_form heq)
      clear heq hb2 hLL CL
      go_wp2_with fail
      refine CS.out.mono ?_
      rintro e w3 ⟨A3, c3, rfl, hs3, -, -, -, hb3⟩
      rw [hsl]
      have HB3 := Lib.hid (HB2.out.trans (hb3.mono HB2.out.size))
      have HR3 := Lib.hid (HR2.out.up hb3); have HL3 := Lib.hid (HL2.out.up hb3); have HS3 := Lib.hid hs3
      have CP := Lib.hid (path_any A c l h w3 HR3.out HG.out (by omega) HCAP.out)
      have HSL := Lib.hid hsl
      obtain ⟨pp, hpp⟩ : ∃ p, p = pathL l h := ⟨_, rfl⟩
      have HPP := Lib.hid hpp
      rw [← hpp] at CP
      have hpl : pp.length ≤ 1000 := by
        rw [hpp, pathL]
        split
        · simp [nums]; have := chain_len l h.toNat; omega
        · simp
      clear hb3 CS hs3 hsl hpp
      go_wp2_with fail
      refine CP.out.mono ?_
      rintro e w4 ⟨A4, c4, rfl, hp4, -, -, -, hb4⟩
      have HB4 := Lib.hid (HB3.out.trans (hb4.mono HB3.out.size))
      have HR4 := Lib.hid (HR3.out.up hb4); have HL4 := Lib.hid (HL3.out.up hb4); have HS4 := Lib.hid ((HS3.out.below hb4).mono hb4.size); have HP4 := Lib.hid hp4
      have CR := Lib.hid (rcheck_any A c l w4 HR4.out HG.out (by omega))
      clear hb4 CP hp4
      go_wp2_with fail
      refine CR.out.mono ?_
      rintro e w5 ⟨rfl, hb5⟩
      rw [HE.out]
      have HB5 := Lib.hid (HB4.out.trans (hb5.mono HB4.out.size))
      have HR5 := Lib.hid (HR4.out.up hb5); have HL5 := Lib.hid (HL4.out.up hb5); have HS5 := Lib.hid ((HS4.out.below hb5).mono hb5.size); have HP5 := Lib.hid ((HP4.out.below hb5).mono hb5.size)
      have hwl : IntKind.i64.wrap ((l.length : Int) + 1) = (l.length : Int) + 1 := by rw [IntKind.wrap_i64]; omega
      have hq1 : ((l.length : Int) + 1 != (l.length : Int) + 1) = false := by simp
      clear hb5 CR
      go_wp2_with fail
      go_loopg [8, 51] (l.length + 1) (fun g _ s51 wr => ∃ k : Nat, s51 = .int .i64 k ∧ k ≤ l.length + 1 ∧ l.length + 1 - k ≤ g ∧ RowKit.Hid (Below w5.heap.size w5 wr))
      case atStart => exact ⟨0, rfl, by omega, by omega, Lib.hid (Below.refl _ _)⟩
      case round =>
        obtain ⟨k, rfl, hk, hg, HB⟩ := hrel
        by_cases hlt : k < l.length + 1
        · have h1 : (k : Int) < (l.length : Int) + 1 := by omega
          have hl1 := HL5.out.up HB.out
          obtain ⟨g, A', c', hAk, hgl, hcell, hrow, -⟩ := hl1.at hlt
          obtain ⟨bs, os, z, hA3, hbs, hz, hzc⟩ := I.row_at ((HS5.out.below HB.out).mono HB.out.size) (j := k) (by rw [HSL.out]; exact hlt)
          rw [spL_end HF.out (by omega)] at hz
          obtain ⟨ks, hks⟩ : ∃ ks, ks = nums (kidsH l k) := ⟨_, rfl⟩
          rw [← hks] at hcell hrow
          have hkl : ks.length ≤ 1000 := by rw [hks]; simp [nums]; have := kidsTo_len l k l.length; unfold kidsH; omega
          have hkll : k ≤ l.length := by omega
          have HROW := Lib.hid hrow; have HRW := Lib.hid (HR5.out.up HB.out)
          have C27 := Lib.hid (show ∀ W, (W.cell? ⟨g, k, none⟩ = some (.slice A' ks.length c') ∧ W.cell? ⟨bs, os + k, none⟩ = some (.int .i64 z) ∧ RowKit.Hid (Below wr.heap.size wr W)) → Calls Try.prog 27 #[.slice A l.length c, .int .i64 k] W (fun e w' => ∃ A2 c2, e = .returned (.slice A2 ks.length c2) ∧ I.Row w' w'.heap.size A2 ks ∧ Below W.heap.size W w') from fun W hW => by
            refine (kids_any A c l (k : Int) W (HRW.out.up hW.2.2.out) (by omega)).mono ?_
            rintro e w' ⟨A2, c2, rfl, q1, -, -, -, q2⟩
            rw [← hks] at q1 ⊢
            exact ⟨A2, c2, rfl, q1, q2⟩)
          have C26 := Lib.hid (show ∀ W A2 c2, (W.cell? ⟨g, k, none⟩ = some (.slice A' ks.length c') ∧ W.cell? ⟨bs, os + k, none⟩ = some (.int .i64 z) ∧ RowKit.Hid (Below wr.heap.size wr W)) → I.Row W W.heap.size A2 ks → Calls Try.prog 26 #[.slice A' ks.length c', .slice A2 ks.length c2] W (fun e w' => e = .returned (.bool true) ∧ Below W.heap.size W w') from fun W A2 c2 hW hr => I.ints_any A' A2 c' c2 ks W ((HROW.out.below hW.2.2.out).mono hW.2.2.out.size) hr (by omega))
          have C28 := Lib.hid (show ∀ W, (W.cell? ⟨g, k, none⟩ = some (.slice A' ks.length c') ∧ W.cell? ⟨bs, os + k, none⟩ = some (.int .i64 z) ∧ RowKit.Hid (Below wr.heap.size wr W)) → Calls Try.prog 28 #[.slice A l.length c, .int .i64 k] W (fun e w' => e = .returned (.int .i64 z) ∧ Below W.heap.size W w') from fun W hW => by
            refine (rspan_any A c l k W (HRW.out.up hW.2.2.out) HF.out hkll (by omega)).mono ?_
            rintro e w' ⟨rfl, rfl⟩
            exact ⟨by rw [hz], Below.refl _ _⟩)
          have hqz : (z != z) = false := by simp
          have HST := Lib.hid (show (fun W : World => W.cell? ⟨g, k, none⟩ = some (.slice A' ks.length c') ∧ W.cell? ⟨bs, os + k, none⟩ = some (.int .i64 z) ∧ RowKit.Hid (Below wr.heap.size wr W)) wr.drew from ⟨hcell, hzc, Lib.hid (below_drewN _ wr 1)⟩)
          clear hz hks hl1 hrow hcell hzc
          obtain ⟨hcell, hzc, hbw⟩ := HST.out
          go_wp2_with fail
          go_region_held3 (fun W => W.cell? ⟨g, k, none⟩ = some (.slice A' ks.length c') ∧ W.cell? ⟨bs, os + k, none⟩ = some (.int .i64 z) ∧ RowKit.Hid (Below wr.heap.size wr W))
            (first | assumption | exact HST.out)
            ((first
              | (go_at_call 27; refine (C27.out _ (by assumption)).mono ?_; rintro e w7 ⟨A2, c2, rfl, hr7, hb7⟩; have hfin := keep5 hb7 (by assumption))
              | (go_at_call 26; refine (C26.out _ _ _ (by assumption) (by assumption)).mono ?_; rintro e w7 ⟨rfl, hb7⟩; have hfin := keep5 hb7 (by assumption))
              | (go_at_call 28; refine (C28.out _ (by assumption)).mono ?_; rintro e w7 ⟨rfl, hb7⟩; have hfin := keep5 hb7 (by assumption))))
          all_goals
            have HFN := Lib.hid (HB.out.trans (hfin.2.2.out.mono HB.out.size))
            clear hfin hcell hzc hbw
            go_wp2_with fail
            try rw [← hAk]
            try rw [← hA3]
            go_roundg (l.length + 1 - (k + 1))
            case measure => omega
            case rel => exact ⟨k + 1, by go_num, by omega, by omega, HFN⟩
        · have h1 : ¬ (k : Int) < (l.length : Int) + 1 := by omega
          have HRW := Lib.hid (HR5.out.up HB.out)
          have HPW := Lib.hid ((HP5.out.below HB.out).mono HB.out.size)
          have CQ := Lib.hid (rpath_any A c l h wr HRW.out HE.out (by omega))
          rw [← HPP.out] at CQ
          go_wp2_with fail
          refine CQ.out.mono ?_
          rintro e w6 ⟨A6, c6, rfl, hr6, -, -, -, hb6⟩
          have HB6 := Lib.hid (HB.out.trans (hb6.mono HB.out.size))
          have CI := Lib.hid (I.ints_any A4 A6 c4 c6 pp w6 ((HPW.out.below hb6).mono hb6.size) hr6 (by omega))
          clear CQ hr6 hb6
          go_wp2_with fail
          refine CI.out.mono ?_
          rintro e w7 ⟨rfl, hb7⟩
          have HB7 := Lib.hid (HB6.out.trans (hb7.mono HB6.out.size))
          have CS := Lib.hid (same13_any w7)
          clear hb7 CI
          go_wp2_with fail
          refine CS.out.mono ?_
          rintro e w8 ⟨rfl, hb8⟩
          have HB8 := Lib.hid (HB7.out.trans (hb8.mono HB7.out.size))
          clear hb8 CS
          go_wp2_with fail
          go_ret
          exact ⟨ret_bool (by simp), HB5.out.trans (HB8.out.mono HB5.out.size)⟩
end Go.Proofs.Ytlkdklpglmglkaa
