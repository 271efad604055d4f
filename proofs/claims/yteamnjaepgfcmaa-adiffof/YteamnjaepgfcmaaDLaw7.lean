/-
  tendrillaw10.AdiffOf: true, whatever the lists.
-/
import Derived.Test.YteamnjaepgfcmaaDSame
import Derived.BigQuiet
namespace Go.Proofs.Yteamnjaepgfcmaa
open Go.RowKit Go.Sort Go.Lib
set_option linter.unusedVariables false
set_option maxRecDepth 100000 in
set_option maxHeartbeats 4000000 in
theorem ofLaw_any (A B : Option Addr) (c d : Nat) (l m : List At) (w : World) (h : TRow w w.heap.size A l) (h' : TRow w w.heap.size B m) (hf : Fit l) (hf' : Fit m) (hc : l.length ≤ c) (hd : m.length ≤ d) (hm : c ≤ maxLen) (hm' : d ≤ maxLen) (hn : A = none → c = 0) (hn' : B = none → d = 0) :
    Calls Try.prog 7 #[.slice A l.length c, .slice B m.length d] w (TrueB w) := by
  have HR := Lib.hid h; have HR' := Lib.hid h'
  have C1 := Lib.hid (heavy10_any A c l w h hf (by omega))
  have HKA := Lib.hid (And.intro hc (And.intro hm hn)); have HKB := Lib.hid (And.intro hd (And.intro hm' hn'))
  have HML := Lib.hid (show m.length ≤ maxLen by omega)
  clear h h' hm hm' hc hd hn hn'
  go_enter Try.func7, Try.ntmps7
  go_wp2_with fail
  refine C1.out.mono ?_
  rintro e w1 ⟨hb, rfl, hb1, hs⟩
  have HB1 := Lib.hid hb1
  cases hb with
  | true =>
    clear hs
    go_wp2_with fail
    refine (same10_any w1).mono ?_
    rintro e w2 ⟨rfl, hb2⟩
    go_wp2_with fail
    go_ret
    exact ⟨rfl, HB1.out.trans (hb2.mono HB1.out.size)⟩
  | false =>
    obtain ⟨hl, hsz⟩ := hs rfl
    have HSH := Lib.hid (few_short (by omega) hsz)
    have HR1 := Lib.hid (HR.out.up hb1); have HR1' := Lib.hid (HR'.out.up hb1)
    have C1' := Lib.hid (heavy10_any B d m w1 HR1'.out hf' HML.out)
    clear hs hsz hb1 C1
    go_wp2_with fail
    refine C1'.out.mono ?_
    rintro e w2 ⟨hb', rfl, hb2, hs'⟩
    have HB2 := Lib.hid (HB1.out.trans (hb2.mono HB1.out.size))
    cases hb' with
    | true =>
      clear hs'
      go_wp2_with fail
      refine (same10_any w2).mono ?_
      rintro e w3 ⟨rfl, hb3⟩
      go_wp2_with fail
      go_ret
      exact ⟨rfl, HB2.out.trans (hb3.mono HB2.out.size)⟩
    | false =>
      obtain ⟨hl', hsz'⟩ := hs' rfl
      have HSH' := Lib.hid (few_short (by omega) hsz')
      have HR2 := Lib.hid (HR1.out.up hb2); have HR2' := Lib.hid (HR1'.out.up hb2)
      have C3 := Lib.hid (of_any A B c d l m w2 HR2.out HR2'.out (by omega) (by omega) HSH.out HSH'.out HKA.out.1 HKB.out.1 HKA.out.2.1 HKB.out.2.1 HKA.out.2.2 HKB.out.2.2)
      have hdl := diffD_len l m
      have hnl := norm_len l; have hnm := norm_len m
      obtain ⟨dl, hd'⟩ : ∃ dl, dl = diffD l m := ⟨_, rfl⟩
      rw [← hd'] at C3 hdl
      have HDL := Lib.hid hd'
      have hdl2 : dl.length ≤ 400 := by omega
      clear hs' hsz' hb2 C1' hd' HR HR' HR1 HR1' hdl hnl hnm
      go_wp2_with fail
      refine C3.out.mono ?_
      rintro e w3 ⟨D, cd, rfl, rd, -, -, hb3⟩
      have HB3 := Lib.hid (HB2.out.trans (hb3.mono HB2.out.size))
      have HR3 := Lib.hid (HR2.out.up hb3); have HR3' := Lib.hid (HR2'.out.up hb3); have HD3 := Lib.hid rd
      have C4 := Lib.hid (refOf_any A B c d l m w3 HR3.out HR3'.out (by omega) (by omega) HSH.out HSH'.out)
      rw [← HDL.out] at C4
      clear rd hb3 C3 HR2 HR2' HB2
      go_wp2_with fail
      refine C4.out.mono ?_
      rintro e w4 ⟨E, ce, rfl, re, -, -, hb4⟩
      have HB4 := Lib.hid (HB3.out.trans (hb4.mono HB3.out.size))
      have HD4 := Lib.hid (HD3.out.up hb4); have HE4 := Lib.hid re
      have C5 := Lib.hid (names_any A B c d l m w4 (HR3.out.up hb4) (HR3'.out.up hb4) (by omega) (by omega) HSH.out HSH'.out HKA.out.1 HKB.out.1 HKA.out.2.1 HKB.out.2.1 HKA.out.2.2 HKB.out.2.2)
      rw [← HDL.out] at C5
      clear re hb4 C4 HR3 HR3' HD3 HB3
      go_wp2_with fail
      refine C5.out.mono ?_
      rintro e w5 ⟨rfl, hb5⟩
      have HB5 := Lib.hid (HB4.out.trans (hb5.mono HB4.out.size))
      have HD5 := Lib.hid (HD4.out.up hb5); have HE5 := Lib.hid (HE4.out.up hb5)
      clear hb5 C5 HD4 HE4 HB4 HDL
      go_wp2_with fail
      go_loopg [7, 36] dl.length (fun g _ s36 wr => ∃ k : Nat, s36 = .int .i64 k ∧ k ≤ dl.length ∧ dl.length - k ≤ g ∧ Hid (Below w5.heap.size w5 wr))
      case atStart => exact ⟨0, rfl, by omega, by omega, Lib.hid (Below.refl _ _)⟩
      case round =>
        obtain ⟨k, rfl, hk, hg, HB⟩ := hrel
        by_cases hlt : k < dl.length
        · have h1 : (k : Int) < (dl.length : Int) := by omega
          have h2 : ¬ (k : Int) < 0 := by omega
          obtain ⟨b0, off, n, v, g', rfl, hbb, he, d1, d2, d3⟩ := xrow_at (HD5.out.up HB.out) hlt
          obtain ⟨b1, off1, n1, v1, g1, rfl, hbb1, he1, f1, f2, f3⟩ := xrow_at (HE5.out.up HB.out) hlt
          rw [← he] at he1
          obtain ⟨rfl, rfl, rfl⟩ : n1 = n ∧ v1 = v ∧ g1 = g' := by simpa using he1
          have d1' : ∀ q, (wr.drewN q).cell? ⟨b0, off + k * 3, none⟩ = some (.string n1) := fun q => d1
          have d2' : ∀ q, (wr.drewN q).cell? ⟨b0, off + k * 3 + 1, none⟩ = some (.string v1) := fun q => d2
          have d3' : ∀ q, (wr.drewN q).cell? ⟨b0, off + k * 3 + 2, none⟩ = some (.bool g1) := fun q => d3
          have f1' : ∀ q, (wr.drewN q).cell? ⟨b1, off1 + k * 3, none⟩ = some (.string n1) := fun q => f1
          have f2' : ∀ q, (wr.drewN q).cell? ⟨b1, off1 + k * 3 + 1, none⟩ = some (.string v1) := fun q => f2
          have f3' : ∀ q, (wr.drewN q).cell? ⟨b1, off1 + k * 3 + 2, none⟩ = some (.bool g1) := fun q => f3
          have hq1 : (n1.toList == n1.toList) = true := by rw [eqB]; exact decide_eq_true rfl
          have hq2 : (v1.toList == v1.toList) = true := by rw [eqB]; exact decide_eq_true rfl
          have hq3 : (g1 == g1) = true := by simp
          clear he he1 hbb hbb1 d1 d2 d3 f1 f2 f3
          go_wp2_with fail
          go_quiet (fail)
          go_wp2_with fail
          go_roundg (dl.length - (k + 1))
          case measure => omega
          case rel => exact ⟨k + 1, by go_num, by omega, by omega, Lib.hid (HB.out.trans (below_drewN _ _ _))⟩
        · have h1 : ¬ (k : Int) < (dl.length : Int) := by omega
          go_wp2_with fail
          refine (same10_any wr).mono ?_
          rintro e w6 ⟨rfl, hb6⟩
          go_wp2_with fail
          go_ret
          have hx := HB5.out.trans (HB.out.mono HB5.out.size)
          exact ⟨rfl, hx.trans (hb6.mono hx.size)⟩
end Go.Proofs.Yteamnjaepgfcmaa
