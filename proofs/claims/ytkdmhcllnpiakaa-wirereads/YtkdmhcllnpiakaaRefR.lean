/-
  tendrilref04: ReadNum, ReadText and End answer as wire's Reader does.
-/
import Derived.Test.YtkdmhcllnpiakaaReads
namespace Go.Proofs.Ytkdmhcllnpiakaa
open Go.RowKit
set_option linter.unusedVariables false

theorem xend_any (w : World) (q B : Nat) (A : Option Addr) (c : Nat) (bs : List Int) (err : Int) (h : Rd w q B A c bs err) :
    Calls Try.prog 21 #[.pointer (some ⟨q, 0, none⟩)] w fun e w' => e = .returned (.int .i64 (rEnd bs err)) ∧ w = w' := by
  obtain ⟨h0, h1, f0, f1, hr, hc, hm, hn, hb, hfew, hlow⟩ := h
  by_cases he : err = 0
  · subst he
    by_cases hl : 0 < bs.length
    · have hl' : (0 : Int) < bs.length := by omega
      go_enter Try.func21, Try.ntmps21
      go_wp2
      go_ret
      refine ⟨ret_int ?_, rfl⟩
      unfold rEnd; rw [if_pos ⟨rfl, hl⟩]
    · have hl' : decide (0 < bs.length) = false := by simpa using hl
      go_enter Try.func21, Try.ntmps21
      go_wp2
      go_ret
      refine ⟨ret_int ?_, rfl⟩
      unfold rEnd; rw [if_neg (by omega)]
  · have he' : (err == 0) = false := by simpa using he
    go_enter Try.func21, Try.ntmps21
    go_wp2
    go_ret
    refine ⟨ret_int ?_, rfl⟩
    unfold rEnd; rw [if_neg (by omega)]

theorem tkErr_tkE {bs : List Int} : tkE bs 0 = tkErr bs := by simp [tkE]

set_option maxHeartbeats 1000000 in
theorem xnum_any (w : World) (q B : Nat) (A : Option Addr) (c : Nat) (bs : List Int) (err most : Int) (h : Rd w q B A c bs err) (hm0 : 0 ≤ most) (hm1 : most < 18446744073709551616) :
    Calls Try.prog 19 #[.pointer (some ⟨q, 0, none⟩), .int .u64 most] w (RNum w q B bs err most) := by
  have H := Lib.hid h
  obtain ⟨h0, h1, f0, f1, hr, hcap, hcm, hn, hby, hfew, hlow⟩ := h
  unfold maxLen at hcm
  by_cases he : err = 0
  · subst he
    have ct := refTake_any A c bs B w hr hby hfew
    by_cases ht : tkErr bs = 0
    · obtain ⟨t, htl, ht1, ht2, hn0, hn1, -⟩ := enc_tk hby ht
      obtain ⟨b, off, rfl, -, -⟩ := hr (by omega)
      rw [ht, htl] at ct
      have CT := Lib.hid ct; clear ct
      have HL := Lib.hid htl; clear htl
      have HT := Lib.hid (tkErr_tkE.trans ht); clear ht
      by_cases hm : most < tkNum bs
      · go_enter Try.func19, Try.ntmps19
        go_wp2_with (go_at_call 28; refine CT.out.mono ?_; rintro e w' ⟨rfl, rfl⟩)
        go_ret2
        have e1 : rNumE bs 0 most = 5 := by simp [rNumE, HT.out, hm]
        exact RNum.mk e1 (by simp [rNumV, e1]) (by simp [rNumR, e1]) (H.out.setErr 5) (kept_set _ _ _ _)
      · have hrow := row_cut hr t hcap
        have e1 : rNumE bs 0 most = 0 := by simp [rNumE, HT.out]; omega
        have E1 := Lib.hid e1; clear e1
        by_cases hct : c = t
        · subst hct
          rw [if_pos rfl] at hrow
          have HR := Lib.hid hrow; clear hrow
          go_enter Try.func19, Try.ntmps19
          go_wp2_with (go_at_call 28; refine CT.out.mono ?_; rintro e w' ⟨rfl, rfl⟩)
          go_ret2
          refine RNum.mk E1.out (by simp [rNumV, E1.out]) (by simp [rNumR, E1.out, HL.out]; rfl) (A := some ⟨b, off, none⟩) (c := 0) ?_ (kept_set _ _ _ _)
          have := H.out.setRest HR.out (c' := 0) (by simp; omega) (by unfold maxLen; omega) (by intro h; cases h) (bytes_drop hby c) (by simp; omega)
          simpa [show bs.length - c = 0 by omega] using this
        · rw [if_neg hct] at hrow
          have HR := Lib.hid hrow; clear hrow
          go_enter Try.func19, Try.ntmps19
          go_wp2_with (go_at_call 28; refine CT.out.mono ?_; rintro e w' ⟨rfl, rfl⟩)
          go_ret2
          refine RNum.mk E1.out (by simp [rNumV, E1.out]) (by simp [rNumR, E1.out, HL.out]; rfl) (A := some ⟨b, off + t, none⟩) (c := c - t) ?_ (kept_set _ _ _ _)
          have := H.out.setRest HR.out (c' := c - t) (by simp; omega) (by unfold maxLen; omega) (by intro h; cases h) (bytes_drop hby t) (by simp; omega)
          simpa using this
    · have hte : (tkErr bs != 0) = true := by simpa using ht
      have hte' : (tkErr bs == 0) = false := by simpa using ht
      have CT := Lib.hid ct; clear ct
      have HT := Lib.hid ht; clear ht
      go_enter Try.func19, Try.ntmps19
      go_wp2_with (go_at_call 28; refine CT.out.mono ?_; rintro e w' ⟨rfl, rfl⟩)
      go_ret2
      have e1 : rNumE bs 0 most = tkErr bs := by simp [rNumE, tkE, HT.out]
      exact RNum.mk e1 (by simp [rNumV, e1, HT.out]) (by simp [rNumR, e1, HT.out]) (H.out.setErr _) (kept_set _ _ _ _)
  · have he' : (err != 0) = true := by simpa using he
    have HE := Lib.hid he; clear he
    go_enter Try.func19, Try.ntmps19
    go_wp2
    go_quiet (fail)
    go_wp2
    go_ret2
    have e0 : tkE bs err = err := by simp [tkE, HE.out]
    have e1 : rNumE bs err most = err := by simp [rNumE, e0, HE.out]
    exact RNum.mk e1 (by simp [rNumV, e1, HE.out]) (by simp [rNumR, e1, HE.out]) (H.out.drew nq) (kept_drewN _ _ _)

set_option maxRecDepth 100000 in
set_option maxHeartbeats 2000000 in
theorem xtxt_any (w : World) (q B : Nat) (A : Option Addr) (c : Nat) (bs : List Int) (err most : Int) (h : Rd w q B A c bs err) (hm0 : -9223372036854775808 ≤ most) (hm1 : most ≤ 9223372036854775807) :
    Calls Try.prog 20 #[.pointer (some ⟨q, 0, none⟩), .int .i64 most] w (RTxt w q B bs err most) := by
  have H := Lib.hid h
  obtain ⟨h0, h1, f0, f1, hr, hcap, hcm, hnn, hby, hfew, hlow⟩ := h
  unfold maxLen at hcm
  by_cases he : err = 0
  · subst he
    have ct := refTake_any A c bs B w hr hby hfew
    by_cases ht : tkErr bs = 0
    · obtain ⟨t, htl, ht1, ht2, hn0, hn1, -⟩ := enc_tk hby ht
      obtain ⟨n, hn⟩ := Int.eq_ofNat_of_zero_le hn0
      obtain ⟨b, off, rfl, -, -⟩ := hr (by omega)
      rw [ht, htl, hn] at ct
      have CT := Lib.hid ct; clear ct
      rw [hn] at hn1
      have HL := Lib.hid htl; clear htl
      have HN := Lib.hid hn; clear hn hn0
      have HT := Lib.hid (tkErr_tkE.trans ht); clear ht
      by_cases hneg : most < 0
      · go_enter Try.func20, Try.ntmps20
        go_wp2_with (go_at_call 28; refine CT.out.mono ?_; rintro e w' ⟨rfl, rfl⟩)
        go_ret2
        have e1 : rTxtE bs 0 most = 3 := by simp [rTxtE, HT.out, hneg]
        exact RTxt.mk (v := []) e1 (by simp [rTxtV, e1]) (by simp [rTxtR, e1]) (H.out.setErr 3) (kept_set _ _ _ _)
      · obtain ⟨m, rfl⟩ := Int.eq_ofNat_of_zero_le (show 0 ≤ most by omega)
        by_cases hbig : m < n
        · go_enter Try.func20, Try.ntmps20
          go_wp2_with (go_at_call 28; refine CT.out.mono ?_; rintro e w' ⟨rfl, rfl⟩)
          go_ret2
          have e1 : rTxtE bs 0 m = 3 := by simp [rTxtE, HT.out, HN.out]; omega
          exact RTxt.mk (v := []) e1 (by simp [rTxtV, e1]) (by simp [rTxtR, e1]) (H.out.setErr 3) (kept_set _ _ _ _)
        · clear hn1
          by_cases hsh : (bs.length : Int) - t < n
          · go_enter Try.func20, Try.ntmps20
            go_wp2_with (go_at_call 28; refine CT.out.mono ?_; rintro e w' ⟨rfl, rfl⟩)
            go_ret2
            have e1 : rTxtE bs 0 m = 4 := by simp [rTxtE, HT.out, HN.out, HL.out]; omega
            exact RTxt.mk (v := []) e1 (by simp [rTxtV, e1]) (by simp [rTxtR, e1]) (H.out.setErr 4) (kept_set _ _ _ _)
          · have e1 : rTxtE bs 0 m = 0 := by simp [rTxtE, HT.out, HN.out, HL.out]; omega
            have E1 := Lib.hid e1; clear e1
            by_cases hct : c = t
            · subst hct
              obtain rfl : n = 0 := by omega
              clear hsh
              have hcv : ∀ cap, (convert 26 9 (.slice (some ⟨b, off, none⟩) 0 cap)).run Try.prog w = .ok (.string (strOfNums [])) w := fun cap => conv_row (P := Try.prog) (B := 0) (zs := []) 26 5 9 Try.underlying26 Try.underlying5 Try.underlying9 (fun h => by simp at h) cap
              go_enter Try.func20, Try.ntmps20
              go_wp2_with fail
              refine CT.out.mono ?_
              rintro e w' ⟨rfl, rfl⟩
              go_wp2
              go_ret2
              refine RTxt.mk E1.out (by simp [rTxtV, E1.out, HN.out]) (by simp [rTxtR, E1.out, HL.out, HN.out]; rfl) (A := some ⟨b, off, none⟩) (c := 0) ?_ (kept_set _ _ _ _)
              have hr2 : Row .u8 w B (some ⟨b, off, none⟩) (bs.drop c) := fun h0 => by simp at h0; omega
              have := H.out.setRest hr2 (c' := 0) (by simp; omega) (by unfold maxLen; omega) (by intro h; cases h) (bytes_drop hby c) (by simp; omega)
              simpa [show bs.length - c = 0 by omega] using this
            · have hrow := row_cut hr t hcap
              rw [if_neg hct] at hrow
              have hcv : ∀ cap, (convert 26 9 (.slice (some ⟨b, off + t, none⟩) n cap)).run Try.prog w = .ok (.string (strOfNums ((bs.drop t).take n))) w := by
                intro cap
                have := conv_row (P := Try.prog) 26 5 9 Try.underlying26 Try.underlying5 Try.underlying9 (row_take hrow n) cap
                rwa [show ((bs.drop t).take n).length = n by simp; omega] at this
              have HR := Lib.hid hrow; clear hrow
              by_cases hcn : c = t + n
              · obtain rfl := hcn
                go_enter Try.func20, Try.ntmps20
                go_wp2_with fail
                refine CT.out.mono ?_
                rintro e w' ⟨rfl, rfl⟩
                go_wp2_with fail
                go_ret2
                have hnil : (bs.drop t).drop n = [] := by apply List.eq_nil_of_length_eq_zero; simp; omega
                refine RTxt.mk E1.out (by simp [rTxtV, E1.out, HN.out, HL.out]) (r := []) (by simp only [rTxtR, E1.out, HL.out, HN.out]; simpa using hnil) (A := some ⟨b, off, none⟩) (c := 0) ?_ (kept_set _ _ _ _)
                have := H.out.setRest (A' := some ⟨b, off, none⟩) (bs' := []) (fun h0 => by simp at h0) (c' := 0) (by simp) (by unfold maxLen; omega) (by intro h; cases h) (fun j hj => by simp at hj) (by simp)
                simpa using this
              · go_enter Try.func20, Try.ntmps20
                go_wp2_with fail
                refine CT.out.mono ?_
                rintro e w' ⟨rfl, rfl⟩
                go_wp2_with fail
                go_ret2
                have hr2 := row_cut hr (t + n) hcap
                rw [if_neg hcn] at hr2
                refine RTxt.mk E1.out (by simp [rTxtV, E1.out, HN.out, HL.out]) (r := bs.drop (t + n)) (by simp [rTxtR, E1.out, HL.out, HN.out]) (A := some ⟨b, off + (t + n), none⟩) (c := c - (t + n)) ?_ (kept_set _ _ _ _)
                have := H.out.setRest hr2 (c' := c - (t + n)) (by simp; omega) (by unfold maxLen; omega) (by intro h; cases h) (bytes_drop hby (t + n)) (by simp; omega)
                rw [List.length_drop] at this
                exact this
    · have hte : (tkErr bs != 0) = true := by simpa using ht
      have hte' : (tkErr bs == 0) = false := by simpa using ht
      have CT := Lib.hid ct; clear ct
      have HT := Lib.hid ht; clear ht
      go_enter Try.func20, Try.ntmps20
      go_wp2_with (go_at_call 28; refine CT.out.mono ?_; rintro e w' ⟨rfl, rfl⟩)
      go_ret2
      have e1 : rTxtE bs 0 most = tkErr bs := by simp [rTxtE, tkE, HT.out]
      exact RTxt.mk (v := []) e1 (by simp [rTxtV, e1, HT.out]) (by simp [rTxtR, e1, HT.out]) (H.out.setErr _) (kept_set _ _ _ _)
  · have he' : (err != 0) = true := by simpa using he
    have HE := Lib.hid he; clear he
    go_enter Try.func20, Try.ntmps20
    go_wp2
    go_quiet (fail)
    go_wp2
    go_ret2
    have e0 : tkE bs err = err := by simp [tkE, HE.out]
    have e1 : rTxtE bs err most = err := by simp [rTxtE, e0, HE.out]
    exact RTxt.mk (v := []) e1 (by simp [rTxtV, e1, HE.out]) (by simp [rTxtR, e1, HE.out]) (H.out.drew nq) (kept_drewN _ _ _)
end Go.Proofs.Ytkdmhcllnpiakaa
