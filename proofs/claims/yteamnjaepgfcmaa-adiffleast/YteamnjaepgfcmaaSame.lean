/-
  slices.Equal, attrs.Same; the statements' own example.
-/
import Derived.Test.YteamnjaepgfcmaaPlain
import Derived.Test.YteamnjaepgfcmaaRWith
import Derived.Test.YteamnjaepgfcmaaHeavy
namespace Go.Proofs.Yteamnjaepgfcmaa
open Go.RowKit Go.Sort Go.Lib
set_option linter.unusedVariables false
set_option maxHeartbeats 1000000 in
theorem equal_any (A A' : Option Addr) (c c' : Nat) (l m : List At) (w : World) (h : TRow w w.heap.size A l) (h' : TRow w w.heap.size A' m) (hl : l.length ≤ 1000000) (hm : m.length ≤ 1000000) :
    Calls Try.prog 45 #[.slice A l.length c, .slice A' m.length c'] w fun e w' => e = .returned (.bool (decide (l = m))) ∧ ∃ q, w' = w.drewN q := by
  have H := Lib.hid h; have H' := Lib.hid h'
  clear h h'
  by_cases hlm : l.length = m.length
  · have hq : ((l.length : Int) != (m.length : Int)) = false := by simp [hlm]
    have hq2 : (l.length != m.length) = false := by simp [hlm]
    have HLM := Lib.hid hlm
    have hml : m.length ≤ l.length := by omega
    have hlm' : l.length ≤ m.length := by omega
    clear hlm
    go_enter Try.func45, Try.ntmps45
    go_wp2
    go_loopg [5, 13] l.length (fun g _ s13 wr => ∃ k q : Nat, s13 = .int .i64 k ∧ k ≤ l.length ∧ l.length - k ≤ g ∧ RowKit.Hid (SameTo l m k) ∧ RowKit.Hid (wr = w.drewN q))
    case atStart => exact ⟨0, 0, rfl, by omega, by omega, Lib.hid (fun j _ _ hj => by omega), Lib.hid rfl⟩
    case round =>
      obtain ⟨k, q, rfl, hk, hg, HS, HW⟩ := hrel
      by_cases hlt : k < l.length
      · have h1 : (k : Int) < (l.length : Int) := by omega
        have h2 : (k : Int) < (m.length : Int) := by omega
        have hltm : k < m.length := by omega
        obtain ⟨b, off, x, rfl, hb, hx, c1, c2⟩ := trow_at (show TRow wr wr.heap.size A l by rw [HW.out]; exact H.out) hlt
        obtain ⟨b', off', y, rfl, hb', hy, d1, d2⟩ := trow_at (show TRow wr wr.heap.size A' m by rw [HW.out]; exact H'.out) hltm
        have HX := Lib.hid hx; have HY := Lib.hid hy
        clear hx hy
        have hne : ∀ w : World, Sem.run Try.prog (binOp .neq 56 (.agg #[.string x.1, .string x.2]) (.agg #[.string y.1, .string y.2])) w = .ok (.bool (!decide (x = y))) w := fun w => neqA x y w
        by_cases hxy : x = y
        · have HXY := Lib.hid hxy
          rw [decide_eq_true hxy] at hne
          clear hxy
          go_wp2_with fail
          go_quiet (fail)
          go_wp2_with fail
          go_roundg (l.length - (k + 1))
          case measure => omega
          case rel =>
            refine ⟨k + 1, q + nq, by go_num, by omega, by omega, Lib.hid (fun j h3 h4 h5 => ?_), Lib.hid (by rw [HW.out, World.drewN_drewN])⟩
            rcases Nat.lt_or_ge j k with h6 | h6
            · exact HS.out j h3 h4 h6
            · have : j = k := by omega
              subst this
              rw [← HX.out, ← HY.out]; exact HXY.out
        · have HXY := Lib.hid hxy
          rw [decide_eq_false hxy] at hne
          clear hxy
          go_wp2_with fail
          go_quiet (fail)
          go_wp2_with fail
          go_ret
          refine ⟨ret_bool (decide_eq_false (fun e => HXY.out ?_)).symm, q + nq, by rw [HW.out, World.drewN_drewN]⟩
          have h3 := HX.out; have h4 := HY.out
          subst e
          rw [h3, h4]
      · have h1 : ¬ (k : Int) < (l.length : Int) := by omega
        go_wp2_with fail
        go_ret
        refine ⟨ret_bool (decide_eq_true ?_).symm, q, HW.out⟩
        exact List.ext_getElem HLM.out (fun i h3 h4 => HS.out i h3 h4 (by omega))
  · have hq : ((l.length : Int) != (m.length : Int)) = true := by simp; omega
    have HLM := Lib.hid hlm
    clear hlm
    go_enter Try.func45, Try.ntmps45
    go_wp2
    go_ret
    exact ⟨ret_bool (decide_eq_false (fun e => HLM.out (by rw [e]))).symm, 0, rfl⟩
theorem same_any (A A' : Option Addr) (c c' : Nat) (l m : List At) (w : World) (h : TRow w w.heap.size A l) (h' : TRow w w.heap.size A' m) (hl : l.length ≤ 1000000) (hm : m.length ≤ 1000000) :
    Calls Try.prog 23 #[.slice A l.length c, .slice A' m.length c'] w fun e w' => e = .returned (.bool (decide (l = m))) ∧ ∃ q, w' = w.drewN q := by
  have HC := Lib.hid (equal_any A A' c c' l m w h h' hl hm)
  clear h h'
  go_enter Try.func23, Try.ntmps23
  go_wp2_with fail
  refine HC.out.mono ?_
  rintro e w1 ⟨rfl, hq⟩
  go_wp2_with fail
  go_ret
  exact ⟨rfl, hq⟩
theorem lit2_row (w : World) (a b : At) : TRow (w.alloc (.cells #[.string a.1, .string a.2, .string b.1, .string b.2] 56)) (w.alloc (.cells #[.string a.1, .string a.2, .string b.1, .string b.2] 56)).heap.size (some ⟨w.heap.size, 0, none⟩) [a, b] := by
  intro _
  refine ⟨w.heap.size, 0, rfl, by simp, fun j hj => ?_⟩
  match j, hj with
  | 0, _ => simp
  | 1, _ => simp
def ba (l : List UInt8) : ByteArray := ⟨l.toArray⟩
def exL : List At := [(⟨#[97]⟩, ⟨#[49]⟩), (⟨#[99]⟩, ⟨#[51]⟩)]
def exW : List At := [(⟨#[97]⟩, ⟨#[49]⟩), (⟨#[98]⟩, ⟨#[50]⟩), (⟨#[99]⟩, ⟨#[51]⟩)]
def exC : List At := [(⟨#[98]⟩, ⟨#[]⟩), (⟨#[97]⟩, ⟨#[]⟩)]
theorem ex_with : withL exL ⟨#[98]⟩ ⟨#[50]⟩ = exW := by kernel_rfl
theorem ex_get : getL exW ⟨#[98]⟩ = some ⟨#[50]⟩ := by kernel_rfl
theorem ex_check : CheckP exC 1 9 := .inl ⟨1, by decide, rfl, by kernel_rfl, by
  have : faultL exC 1 = 9 := by kernel_rfl
  rw [this]; decide, fun j hj => by
  have : j = 0 := by omega
  subst this
  show faultL exC 0 = 0
  kernel_rfl⟩
theorem ex_short : Short exC := by
  intro x hx
  simp [exC] at hx
  rcases hx with rfl | rfl <;> exact ⟨by decide, by decide⟩
set_option maxHeartbeats 4000000 in
theorem same09_any (w : World) : Calls Try.prog 11 #[] w fun e w' => e = .returned (.bool true) ∧ Below w.heap.size w w' := by
  obtain ⟨w1, hw1⟩ : ∃ w1, w1 = w.alloc (.cells #[.string ⟨#[97]⟩, .string ⟨#[49]⟩, .string ⟨#[99]⟩, .string ⟨#[51]⟩] 56) := ⟨_, rfl⟩
  have hb1 : Below w.heap.size w w1 := by rw [hw1]; exact (Below.refl _ _).alloc (Nat.le_refl _) _
  have hr1 : TRow w1 w1.heap.size (some ⟨w.heap.size, 0, none⟩) exL := by rw [hw1]; exact lit2_row w (⟨#[97]⟩, ⟨#[49]⟩) (⟨#[99]⟩, ⟨#[51]⟩)
  have C1 := Lib.hid (with_any (some ⟨w.heap.size, 0, none⟩) 2 exL ⟨#[98]⟩ ⟨#[50]⟩ w1 hr1 (by simp [exL]) (by simp [exL]) (by simp [maxLen]) (fun h => by cases h))
  rw [ex_with] at C1
  have HW := Lib.hid hw1; have HB1 := Lib.hid hb1
  clear hw1 hb1 hr1
  go_enter Try.func11, Try.ntmps11
  go_wp2_with fail
  rw [show w.alloc (.cells #[.string ⟨#[97]⟩, .string ⟨#[49]⟩, .string ⟨#[99]⟩, .string ⟨#[51]⟩] 56) = w1 from HW.out.symm]
  refine C1.out.mono ?_
  rintro e w2 ⟨A, c, rfl, hr2, hc, hcm, hc0, hb2⟩
  have HB2 := Lib.hid (HB1.out.trans (hb2.mono HB1.out.size))
  have HR2 := Lib.hid hr2
  have C2 := Lib.hid (get_any A c exW ⟨#[98]⟩ w2 hr2 (by simp [exW]))
  have hg : GetV exW ⟨#[98]⟩ = .tuple #[.string ⟨#[50]⟩, .bool true] := by unfold GetV; rw [ex_get]; rfl
  rw [hg] at C2
  have hlen : exW.length = 3 := rfl
  rw [hlen] at C2 ⊢
  clear hr2 hb2 C1 hg hlen
  go_wp2_with fail
  refine C2.out.mono ?_
  rintro e w3 ⟨rfl, hb3⟩
  have HB3 := Lib.hid (HB2.out.trans (hb3.mono HB2.out.size))
  have HR3 := Lib.hid (HR2.out.up hb3)
  clear hb3 C2 HR2
  obtain ⟨w4, hw4⟩ : ∃ w4, w4 = w3.alloc (.cells #[.string ⟨#[98]⟩, .string ⟨#[]⟩, .string ⟨#[97]⟩, .string ⟨#[]⟩] 56) := ⟨_, rfl⟩
  have hb4 : Below w3.heap.size w3 w4 := by rw [hw4]; exact (Below.refl _ _).alloc (Nat.le_refl _) _
  have hr4 : TRow w4 w4.heap.size (some ⟨w3.heap.size, 0, none⟩) exC := by rw [hw4]; exact lit2_row w3 (⟨#[98]⟩, ⟨#[]⟩) (⟨#[97]⟩, ⟨#[]⟩)
  have C4 := Lib.hid (check_any (some ⟨w3.heap.size, 0, none⟩) 2 exC w4 hr4 (by simp [exC]) ex_short)
  have HW4 := Lib.hid hw4
  have HB4 := Lib.hid (HB3.out.trans (hb4.mono HB3.out.size))
  have HR4 := Lib.hid (HR3.out.up hb4)
  clear hw4 hb4 hr4 HR3
  go_wp2_with fail
  rw [show w3.alloc (.cells #[.string ⟨#[98]⟩, .string ⟨#[]⟩, .string ⟨#[97]⟩, .string ⟨#[]⟩] 56) = w4 from HW4.out.symm]
  refine C4.out.mono ?_
  rintro e w5 ⟨a, x, rfl, hcp, hb5⟩
  obtain ⟨rfl, rfl⟩ := checkP_unique hcp ex_check
  have HB5 := Lib.hid (HB4.out.trans (hb5.mono HB4.out.size))
  obtain ⟨b, off, p, rfl, hb, hp, c1, c2⟩ := trow_at (HR4.out.up hb5) (show 1 < exW.length by decide)
  have hp' : p = (⟨#[98]⟩, ⟨#[50]⟩) := by rw [hp]; rfl
  subst hp'
  clear hcp hb5 C4 hp HR4
  go_wp2_with fail
  go_ret
  exact ⟨rfl, HB5.out⟩
end Go.Proofs.Yteamnjaepgfcmaa
