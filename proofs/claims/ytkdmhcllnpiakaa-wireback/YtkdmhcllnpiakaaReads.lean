/-
  wire's Reader: take, Num and Text.
-/
import Derived.Test.YtkdmhcllnpiakaaReader
namespace Go.Proofs.Ytkdmhcllnpiakaa
open Go.RowKit
set_option linter.unusedVariables false

theorem kept_set (w : World) (q o : Nat) (u : Value) : Kept (· = q) w (w.setCell ⟨q, o, none⟩ u) := kept_setCell w ⟨q, o, none⟩ u
def tkE (bs : List Int) (err : Int) : Int := if err = 0 then tkErr bs else err
def tkN (bs : List Int) (err : Int) : Int := if err = 0 then tkNum bs else 0
def tkL (bs : List Int) (err : Int) : Int := if err = 0 then tkLen bs else 0

def RTake (w : World) (q B : Nat) (A : Option Addr) (c : Nat) (bs : List Int) (err : Int) (e : Ending) (w' : World) : Prop :=
  e = .returned (.tuple #[.int .u64 (tkN bs err), .int .i64 (tkL bs err), .int .i64 (tkE bs err)]) ∧ Rd w' q B A c bs (tkE bs err) ∧ Kept (· = q) w w'

theorem ret3 {a b c a' b' c' : Int} (h1 : a = a') (h2 : b = b') (h3 : c = c') : Ending.returned (.tuple #[.int .u64 a, .int .i64 b, .int .i64 c]) = .returned (.tuple #[.int .u64 a', .int .i64 b', .int .i64 c']) := by rw [h1, h2, h3]

set_option maxHeartbeats 1000000 in
theorem rtake_any (w : World) (q B : Nat) (A : Option Addr) (c : Nat) (bs : List Int) (err : Int) (h : Rd w q B A c bs err) :
    Calls Try.prog 26 #[.pointer (some ⟨q, 0, none⟩)] w (RTake w q B A c bs err) := by
  have H := Lib.hid h
  obtain ⟨h0, h1, f0, f1, hr, hc, hm, hn, hb, hfew, hlow⟩ := h
  by_cases he : err = 0
  · subst he
    have ct := take_any A c bs B w hr hb hfew
    by_cases ht : tkErr bs = 0
    · rw [ht] at ct
      have CT := Lib.hid ct; clear ct
      have HT := Lib.hid ht; clear ht
      go_enter Try.func26, Try.ntmps26
      go_wp2_with (go_at_call 31; refine CT.out.mono ?_; rintro e w' ⟨rfl, rfl⟩)
      go_ret3
      refine ⟨ret3 (by simp [tkN]) (by simp [tkL]) (by simp [tkE, HT.out]), ?_, Kept.refl _ _⟩
      simpa [tkE, HT.out] using H.out
    · have hte : (tkErr bs != 0) = true := by simpa using ht
      have CT := Lib.hid ct; clear ct
      have HT := Lib.hid ht; clear ht
      go_enter Try.func26, Try.ntmps26
      go_wp2_with (first
        | (go_at_call 31; refine CT.out.mono ?_; rintro e w' ⟨rfl, rfl⟩)
        | (go_at_call 27; refine (fail_any w q 0 (tkErr bs) h1 f1).mono ?_; rintro e w' ⟨rfl, rfl⟩))
      go_ret3
      refine ⟨ret3 (by simp [tkN, tk_fail HT.out]) (by simp [tkL, tk_fail HT.out]) (by simp [tkE]), ?_, kept_set _ _ _ _⟩
      have := H.out.setErr (tkErr bs)
      simpa [tkE] using this
  · have he' : (err != 0) = true := by simpa using he
    have HE := Lib.hid he; clear he
    go_enter Try.func26, Try.ntmps26
    go_wp2
    go_quiet (fail)
    go_wp2
    go_ret3
    refine ⟨ret3 (by simp [tkN, HE.out]) (by simp [tkL, HE.out]) (by simp [tkE, HE.out]), ?_, kept_drewN _ _ _⟩
    have := H.out.drew nq
    simpa [tkE, HE.out] using this

def rNumE (bs : List Int) (err most : Int) : Int := if tkE bs err ≠ 0 then tkE bs err else if most < tkNum bs then 5 else 0
def rNumV (bs : List Int) (err most : Int) : Int := if rNumE bs err most ≠ 0 then 0 else tkNum bs
def rNumR (bs : List Int) (err most : Int) : List Int := if rNumE bs err most ≠ 0 then bs else bs.drop (tkLen bs).toNat

def RNum (w : World) (q B : Nat) (bs : List Int) (err most : Int) (e : Ending) (w' : World) : Prop :=
  ∃ A c, e = .returned (.tuple #[.int .u64 (rNumV bs err most), .int .i64 (rNumE bs err most)]) ∧ Rd w' q B A c (rNumR bs err most) (rNumE bs err most) ∧ Kept (· = q) w w'

theorem RNum.mk {w w' : World} {q B : Nat} {A : Option Addr} {c : Nat} {bs : List Int} {err most v e : Int} {r : List Int} (h1 : rNumE bs err most = e) (h2 : rNumV bs err most = v) (h3 : rNumR bs err most = r) (hr : Rd w' q B A c r e) (hk : Kept (· = q) w w') :
    RNum w q B bs err most (.returned (.tuple #[.int .u64 v, .int .i64 e])) w' := by
  subst h1 h2 h3; exact ⟨A, c, rfl, hr, hk⟩
theorem tkE_zero {bs : List Int} {err : Int} (h : tkE bs err = 0) : err = 0 ∧ tkErr bs = 0 := by
  unfold tkE at h; split at h
  · exact ⟨by assumption, h⟩
  · contradiction

set_option maxHeartbeats 1000000 in
theorem rnum_any (w : World) (q B : Nat) (A : Option Addr) (c : Nat) (bs : List Int) (err most : Int) (h : Rd w q B A c bs err) (hm0 : 0 ≤ most) (hm1 : most < 18446744073709551616) :
    Calls Try.prog 18 #[.pointer (some ⟨q, 0, none⟩), .int .u64 most] w (RNum w q B bs err most) := by
  have ct := rtake_any w q B A c bs err h
  have CT := Lib.hid ct; clear ct
  by_cases ht : tkE bs err = 0
  · obtain ⟨rfl, hte⟩ := tkE_zero ht
    obtain ⟨t, htl, ht1, ht2, hn0, hn1, -⟩ := enc_tk h.byte hte
    obtain ⟨b, off, rfl, -, -⟩ := h.row (by omega)
    have HCT : Calls Try.prog 26 #[.pointer (some ⟨q, 0, none⟩)] w (fun e w' => e = .returned (.tuple #[.int .u64 (tkNum bs), .int .i64 t, .int .i64 0]) ∧ Rd w' q B (some ⟨b, off, none⟩) c bs 0 ∧ Kept (· = q) w w') := by
      refine CT.out.mono ?_
      rintro e w' ⟨rfl, h1, h2⟩
      rw [ht] at h1 ⊢
      refine ⟨ret3 (by simp [tkN]) (by simp [tkL, htl]) rfl, h1, h2⟩
    clear CT
    have CT := Lib.hid HCT; clear HCT
    have HL := Lib.hid htl; clear htl
    have HT := Lib.hid ht; clear ht hte
    have hby := h.byte; have hfew := h.few; have hcap := h.cap; have hcm := h.capm
    unfold maxLen at hcm
    clear h
    by_cases hm : most < tkNum bs
    · go_enter Try.func18, Try.ntmps18
      go_wp2_with fail
      refine CT.out.mono ?_
      rintro e w1 ⟨rfl, hr1, hk1⟩
      go_wp2_with fail
      refine (fail_any w1 q 0 5 hr1.error hr1.fr1).mono ?_
      rintro e w2 ⟨rfl, rfl⟩
      go_wp2
      go_ret2
      have e1 : rNumE bs 0 most = 5 := by simp [rNumE, HT.out, hm]
      exact RNum.mk e1 (by simp [rNumV, e1]) (by simp [rNumR, e1]) (hr1.setErr 5) (hk1.trans (kept_set _ _ _ _))
    · go_enter Try.func18, Try.ntmps18
      go_wp2_with fail
      refine CT.out.mono ?_
      rintro e w1 ⟨rfl, hr1, hk1⟩
      have h0 := hr1.rest
      have f0 := hr1.fr0
      have hrow := row_cut hr1.row t hcap
      have HM := Lib.hid hm; clear hm
      by_cases hct : c = t
      · subst hct
        rw [if_pos rfl] at hrow
        have HR := Lib.hid hrow; clear hrow
        have hm := HM.out
        go_wp2
        go_ret2
        have e1 : rNumE bs 0 most = 0 := by simp [rNumE, HT.out]; omega
        refine RNum.mk e1 (by simp [rNumV, e1]) (by simp [rNumR, e1, HL.out]; rfl) (A := some ⟨b, off, none⟩) (c := 0) ?_ (hk1.trans (kept_set _ _ _ _))
        have := hr1.setRest HR.out (c' := 0) (by simp; omega) (by unfold maxLen; omega) (by intro h; cases h) (bytes_drop hby c) (by simp; omega)
        simpa [show bs.length - c = 0 by omega] using this
      · rw [if_neg hct] at hrow
        have HR := Lib.hid hrow; clear hrow
        have hm := HM.out
        go_wp2
        go_ret2
        have e1 : rNumE bs 0 most = 0 := by simp [rNumE, HT.out]; omega
        refine RNum.mk e1 (by simp [rNumV, e1]) (by simp [rNumR, e1, HL.out]; rfl) (A := some ⟨b, off + t, none⟩) (c := c - t) ?_ (hk1.trans (kept_set _ _ _ _))
        have := hr1.setRest HR.out (c' := c - t) (by simp; omega) (by unfold maxLen; omega) (by intro h; cases h) (bytes_drop hby t) (by simp; omega)
        simpa using this
  · have hte : (tkE bs err != 0) = true := by simpa using ht
    have HT := Lib.hid ht; clear ht
    go_enter Try.func18, Try.ntmps18
    go_wp2_with fail
    refine CT.out.mono ?_
    rintro e w1 ⟨rfl, hr1, hk1⟩
    go_wp2
    go_ret2
    have e1 : rNumE bs err most = tkE bs err := by simp [rNumE, HT.out]
    exact RNum.mk e1 (by simp [rNumV, e1, HT.out]) (by simp [rNumR, e1, HT.out]) hr1 hk1

def rTxtE (bs : List Int) (err most : Int) : Int := if tkE bs err ≠ 0 then tkE bs err else if most < 0 ∨ most < tkNum bs then 3 else if (bs.length : Int) - tkLen bs < tkNum bs then 4 else 0
def rTxtV (bs : List Int) (err most : Int) : List Int := if rTxtE bs err most ≠ 0 then [] else (bs.drop (tkLen bs).toNat).take (tkNum bs).toNat
def rTxtR (bs : List Int) (err most : Int) : List Int := if rTxtE bs err most ≠ 0 then bs else (bs.drop (tkLen bs).toNat).drop (tkNum bs).toNat

def RTxt (w : World) (q B : Nat) (bs : List Int) (err most : Int) (e : Ending) (w' : World) : Prop :=
  ∃ A c, e = .returned (.tuple #[.string (strOfNums (rTxtV bs err most)), .int .i64 (rTxtE bs err most)]) ∧ Rd w' q B A c (rTxtR bs err most) (rTxtE bs err most) ∧ Kept (· = q) w w'

theorem RTxt.mk {w w' : World} {q B : Nat} {A : Option Addr} {c : Nat} {bs : List Int} {err most e : Int} {v r : List Int} (h1 : rTxtE bs err most = e) (h2 : rTxtV bs err most = v) (h3 : rTxtR bs err most = r) (hr : Rd w' q B A c r e) (hk : Kept (· = q) w w') :
    RTxt w q B bs err most (.returned (.tuple #[.string (strOfNums v), .int .i64 e])) w' := by
  subst h1 h2 h3; exact ⟨A, c, rfl, hr, hk⟩
theorem row_take {k : IntKind} {w : World} {B : Nat} {A : Option Addr} {zs : List Int} (h : Row k w B A zs) (n : Nat) : Row k w B A (zs.take n) := by
  intro h0
  have h1 : 0 < zs.length := by simp at h0; omega
  obtain ⟨b, off, hA, hb, hc⟩ := h h1
  refine ⟨b, off, hA, hb, fun j hj => ?_⟩
  rw [List.length_take] at hj
  rw [hc j (by omega)]
  simp [List.getD_eq_getElem?_getD, show j < n by omega]

set_option maxRecDepth 100000 in
set_option maxHeartbeats 2000000 in
theorem rtxt_any (w : World) (q B : Nat) (A : Option Addr) (c : Nat) (bs : List Int) (err most : Int) (h : Rd w q B A c bs err) (hm0 : -9223372036854775808 ≤ most) (hm1 : most ≤ 9223372036854775807) :
    Calls Try.prog 17 #[.pointer (some ⟨q, 0, none⟩), .int .i64 most] w (RTxt w q B bs err most) := by
  have ct := rtake_any w q B A c bs err h
  have CT := Lib.hid ct; clear ct
  by_cases ht : tkE bs err = 0
  · obtain ⟨rfl, hte⟩ := tkE_zero ht
    obtain ⟨t, htl, ht1, ht2, hn0, hn1, -⟩ := enc_tk h.byte hte
    obtain ⟨n, hn⟩ := Int.eq_ofNat_of_zero_le hn0
    obtain ⟨b, off, rfl, -, -⟩ := h.row (by omega)
    have HCT : Calls Try.prog 26 #[.pointer (some ⟨q, 0, none⟩)] w (fun e w' => e = .returned (.tuple #[.int .u64 n, .int .i64 t, .int .i64 0]) ∧ Rd w' q B (some ⟨b, off, none⟩) c bs 0 ∧ Kept (· = q) w w') := by
      refine CT.out.mono ?_
      rintro e w' ⟨rfl, h1, h2⟩
      rw [ht] at h1 ⊢
      refine ⟨ret3 (by simp [tkN, hn]) (by simp [tkL, htl]) rfl, h1, h2⟩
    clear CT
    have CT := Lib.hid HCT; clear HCT
    rw [hn] at hn1
    have HL := Lib.hid htl; clear htl
    have HN := Lib.hid hn; clear hn hn0
    have HT := Lib.hid ht; clear ht hte
    have hby := h.byte; have hfew := h.few; have hcap := h.cap; have hcm := h.capm
    unfold maxLen at hcm
    clear h
    by_cases hneg : most < 0
    · go_enter Try.func17, Try.ntmps17
      go_wp2_with fail
      refine CT.out.mono ?_
      rintro e w1 ⟨rfl, hr1, hk1⟩
      go_wp2_with fail
      refine (fail_any w1 q 0 3 hr1.error hr1.fr1).mono ?_
      rintro e w2 ⟨rfl, rfl⟩
      go_wp2
      go_ret2
      have e1 : rTxtE bs 0 most = 3 := by simp [rTxtE, HT.out, hneg]
      exact RTxt.mk (v := []) e1 (by simp [rTxtV, e1]) (by simp [rTxtR, e1]) (hr1.setErr 3) (hk1.trans (kept_set _ _ _ _))
    · obtain ⟨m, rfl⟩ := Int.eq_ofNat_of_zero_le (show 0 ≤ most by omega)
      by_cases hbig : m < n
      · go_enter Try.func17, Try.ntmps17
        go_wp2_with fail
        refine CT.out.mono ?_
        rintro e w1 ⟨rfl, hr1, hk1⟩
        go_wp2_with fail
        refine (fail_any w1 q 0 3 hr1.error hr1.fr1).mono ?_
        rintro e w2 ⟨rfl, rfl⟩
        go_wp2
        go_ret2
        have e1 : rTxtE bs 0 m = 3 := by simp [rTxtE, HT.out, HN.out]; omega
        exact RTxt.mk (v := []) e1 (by simp [rTxtV, e1]) (by simp [rTxtR, e1]) (hr1.setErr 3) (hk1.trans (kept_set _ _ _ _))
      · by_cases hsh : bs.length - t < n
        · clear hn1
          by_cases hct : c = t
          · subst hct
            go_enter Try.func17, Try.ntmps17
            go_wp2_with fail
            refine CT.out.mono ?_
            rintro e w1 ⟨rfl, hr1, hk1⟩
            have h0 := hr1.rest
            go_wp2_with fail
            refine (fail_any w1 q 0 4 hr1.error hr1.fr1).mono ?_
            rintro e w2 ⟨rfl, rfl⟩
            go_wp2
            go_ret2
            have e1 : rTxtE bs 0 m = 4 := by simp [rTxtE, HT.out, HN.out, HL.out]; omega
            exact RTxt.mk (v := []) e1 (by simp [rTxtV, e1]) (by simp [rTxtR, e1]) (hr1.setErr 4) (hk1.trans (kept_set _ _ _ _))
          · go_enter Try.func17, Try.ntmps17
            go_wp2_with fail
            refine CT.out.mono ?_
            rintro e w1 ⟨rfl, hr1, hk1⟩
            have h0 := hr1.rest
            go_wp2_with fail
            refine (fail_any w1 q 0 4 hr1.error hr1.fr1).mono ?_
            rintro e w2 ⟨rfl, rfl⟩
            go_wp2
            go_ret2
            have e1 : rTxtE bs 0 m = 4 := by simp [rTxtE, HT.out, HN.out, HL.out]; omega
            exact RTxt.mk (v := []) e1 (by simp [rTxtV, e1]) (by simp [rTxtR, e1]) (hr1.setErr 4) (hk1.trans (kept_set _ _ _ _))
        · have e1 : rTxtE bs 0 m = 0 := by simp [rTxtE, HT.out, HN.out, HL.out]; omega
          have E1 := Lib.hid e1; clear e1
          clear hn1
          by_cases hct : c = t
          · subst hct
            obtain rfl : n = 0 := by omega
            clear hsh
            go_enter Try.func17, Try.ntmps17
            go_wp2_with fail
            refine CT.out.mono ?_
            rintro e w1 ⟨rfl, hr1, hk1⟩
            have h0 := hr1.rest
            have f0 := hr1.fr0
            have hcv : ∀ u cap, (convert 26 9 (.slice (some ⟨b, off, none⟩) 0 cap)).run Try.prog (w1.setCell ⟨q, 0, none⟩ u) = .ok (.string (strOfNums [])) (w1.setCell ⟨q, 0, none⟩ u) := fun u cap => conv_row (P := Try.prog) (B := 0) (zs := []) 26 5 9 Try.underlying26 Try.underlying5 Try.underlying9 (fun h => by simp at h) cap
            go_wp2
            go_ret2
            refine RTxt.mk E1.out (by simp [rTxtV, E1.out, HN.out]) (by simp [rTxtR, E1.out, HL.out, HN.out]; rfl) (A := some ⟨b, off, none⟩) (c := 0) ?_ (hk1.trans (kept_set _ _ _ _))
            have hr2 : Row .u8 w1 B (some ⟨b, off, none⟩) (bs.drop c) := fun h0 => by simp at h0; omega
            have := hr1.setRest hr2 (c' := 0) (by simp; omega) (by unfold maxLen; omega) (by intro h; cases h) (bytes_drop hby c) (by simp; omega)
            simpa [show bs.length - c = 0 by omega] using this
          · by_cases hcn : c - t = n
            · have hcn' : bs.length - t = n := by omega
              have HC := Lib.hid hcn; clear hcn
              have HC' := Lib.hid hcn'; clear hcn'
              go_enter Try.func17, Try.ntmps17
              go_wp2_with fail
              refine CT.out.mono ?_
              rintro e w1 ⟨rfl, hr1, hk1⟩
              have h0 := hr1.rest
              have f0 := hr1.fr0
              have hrow := row_cut hr1.row t hcap
              rw [if_neg hct] at hrow
              have hcv : ∀ u cap, (convert 26 9 (.slice (some ⟨b, off + t, none⟩) n cap)).run Try.prog (w1.setCell ⟨q, 0, none⟩ u) = .ok (.string (strOfNums ((bs.drop t).take n))) (w1.setCell ⟨q, 0, none⟩ u) := by
                intro u cap
                have := conv_row (P := Try.prog) 26 5 9 Try.underlying26 Try.underlying5 Try.underlying9 (row_take ((kept_setCell w1 ⟨q, 0, none⟩ u).row hrow (fun j hj => by have := hr1.low; simp; omega)) n) cap
                rwa [show ((bs.drop t).take n).length = n by simp; omega] at this
              have HR := Lib.hid hrow; clear hrow
              go_wp2
              go_ret2
              have hnil : (bs.drop t).drop n = [] := by apply List.eq_nil_of_length_eq_zero; have := HC'.out; simp; omega
              refine RTxt.mk E1.out (by simp [rTxtV, E1.out, HN.out, HL.out]) (r := []) (by simp only [rTxtR, E1.out, HL.out, HN.out]; simpa using hnil) (A := some ⟨b, off + t, none⟩) (c := 0) ?_ (hk1.trans (kept_set _ _ _ _))
              have := hr1.setRest (A' := some ⟨b, off + t, none⟩) (bs' := []) (fun h0 => by simp at h0) (c' := 0) (by simp) (by unfold maxLen; omega) (by intro h; cases h) (fun j hj => by simp at hj) (by simp)
              simpa [show bs.length - t - n = 0 by have := HC'.out; omega] using this
            · go_enter Try.func17, Try.ntmps17
              go_wp2_with fail
              refine CT.out.mono ?_
              rintro e w1 ⟨rfl, hr1, hk1⟩
              have h0 := hr1.rest
              have f0 := hr1.fr0
              have hrow := row_cut hr1.row t hcap
              rw [if_neg hct] at hrow
              have hcv : ∀ u cap, (convert 26 9 (.slice (some ⟨b, off + t, none⟩) n cap)).run Try.prog (w1.setCell ⟨q, 0, none⟩ u) = .ok (.string (strOfNums ((bs.drop t).take n))) (w1.setCell ⟨q, 0, none⟩ u) := by
                intro u cap
                have := conv_row (P := Try.prog) 26 5 9 Try.underlying26 Try.underlying5 Try.underlying9 (row_take ((kept_setCell w1 ⟨q, 0, none⟩ u).row hrow (fun j hj => by have := hr1.low; simp; omega)) n) cap
                rwa [show ((bs.drop t).take n).length = n by simp; omega] at this
              have HR := Lib.hid hrow; clear hrow
              go_wp2
              go_ret2
              have hr2 := row_cut HR.out n (cap := c - t) (by simp; omega)
              rw [if_neg hcn] at hr2
              refine RTxt.mk E1.out (by simp [rTxtV, E1.out, HN.out, HL.out]) (r := (bs.drop t).drop n) (by simp [rTxtR, E1.out, HL.out, HN.out]) (A := some ⟨b, off + t + n, none⟩) (c := c - t - n) ?_ (hk1.trans (kept_set _ _ _ _))
              have := hr1.setRest hr2 (c' := c - t - n) (by simp; omega) (by unfold maxLen; omega) (by intro h; cases h) (bytes_drop (bytes_drop hby t) n) (by simp; omega)
              rw [List.length_drop, List.length_drop] at this
              exact this
  · have hte : (tkE bs err != 0) = true := by simpa using ht
    have HT := Lib.hid ht; clear ht
    go_enter Try.func17, Try.ntmps17
    go_wp2_with fail
    refine CT.out.mono ?_
    rintro e w1 ⟨rfl, hr1, hk1⟩
    go_wp2
    go_ret2
    have e1 : rTxtE bs err most = tkE bs err := by simp [rTxtE, HT.out]
    exact RTxt.mk (v := []) e1 (by simp [rTxtV, e1, HT.out]) (by simp [rTxtR, e1, HT.out]) hr1 hk1
end Go.Proofs.Ytkdmhcllnpiakaa
