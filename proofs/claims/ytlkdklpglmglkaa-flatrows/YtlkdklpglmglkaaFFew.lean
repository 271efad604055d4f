/-
  The statements' FewRows: where it answers true, the rows are few and small.
-/
import Derived.Test.YtlkdklpglmglkaaFRow
namespace Go.Proofs.Ytlkdklpglmglkaa
open Go.RowKit Go.Sort Go.Lib
set_option linter.unusedVariables false
set_option maxRecDepth 100000
def FewRPost (rs : List Rw) (most : Nat) (w : World) (e : Ending) (w' : World) : Prop := ∃ b, e = .returned (.bool b) ∧ (b = true → GoodRs rs ∧ rs.length ≤ most) ∧ Below w.heap.size w w'
def SeenR (l : List At) (k : Nat) (left0 left : Int) : Prop := left ≤ left0 ∧ left0 - (k : Int) * 68719476736 ≤ left ∧ ∀ j, (hj : j < l.length) → j < k → (((l[j].2.size + l[j].1.size) / 4096 : Nat) : Int) ≤ left0 - left
theorem SeenR.step {l : List At} {k : Nat} {left0 left : Int} (h : SeenR l k left0 left) (hk : k < l.length) (hf : ∀ x ∈ l, x.1.size ≤ 140737488355328 ∧ x.2.size ≤ 140737488355328) : SeenR l (k + 1) left0 (left - (((l[k].2.size + l[k].1.size) / 4096 : Nat) : Int)) := by
  obtain ⟨h1, h2, h3⟩ := h
  obtain ⟨f1, f2⟩ := hf l[k] (List.getElem_mem _)
  refine ⟨by omega, by omega, fun j hj hjk => ?_⟩
  rcases Nat.lt_or_ge j k with h4 | h4
  · have := h3 j hj h4; omega
  · have : j = k := by omega
    subst this
    omega
set_option maxHeartbeats 8000000 in
theorem fewRows_any (A : Option Addr) (c : Nat) (rs : List Rw) (most : Nat) (w : World) (h : RRow w w.heap.size A rs) (hf : FitRs rs) (hm : most ≤ 5000) (hlen : rs.length ≤ 140737488355328) :
    Calls Try.prog 18 #[.slice A rs.length c, .int .i64 most] w (FewRPost rs most w) := by
  have H := Lib.hid h; have HF := Lib.hid hf
  clear h hf
  go_enter Try.func18, Try.ntmps18
  go_wp2_with fail
  go_loopg [5, 6, 7, 11] rs.length (fun g s5 _ _ s11 wr => ∃ (k : Nat) (lf : Int), s11 = .int .i64 k ∧ s5 = .int .i64 lf ∧ k ≤ rs.length ∧ rs.length - k ≤ g ∧ -1000000000000000 ≤ lf ∧ lf + (k : Int) ≤ most ∧ RowKit.Hid (0 ≤ lf → ∀ j, (hj : j < rs.length) → j < k → GoodR rs[j]) ∧ (lf < 0 → k ≤ 5001) ∧ RowKit.Hid (Below w.heap.size w wr))
  case atStart => exact ⟨0, most, rfl, rfl, by omega, by omega, by omega, by omega, Lib.hid (fun _ j hj h => by omega), by omega, Lib.hid (Below.refl _ _)⟩
  case round =>
    obtain ⟨k, lf, rfl, rfl, hk, hg, hlo, hhi, HG, hneg, HBr⟩ := hrel
    by_cases hlt : k < rs.length
    · have h1 : (k : Int) < (rs.length : Int) := by omega
      obtain ⟨b, off, r, x, hA, hb, hr, hc, hat⟩ := rrow_at (H.out.up HBr.out) hlt
      obtain ⟨c0, c1, c2, c3, c4, c5⟩ := hc
      obtain ⟨f1, f2, f3, f4, f5⟩ := HF.out rs[k] (List.getElem_mem _)
      rw [← hr] at f1 f2 f3 f4 f5
      have HR := Lib.hid hr; have HAT := Lib.hid hat; have HF5 := Lib.hid f5
      obtain ⟨qn, hqn⟩ : ∃ q : Nat, q = (r.text.size + r.key.size + r.tag.size) / 4096 := ⟨_, rfl⟩
      have hq : ((r.text.size : Int) + (r.key.size : Int) + (r.tag.size : Int)) / 4096 = (qn : Int) := by omega
      have HQK := Lib.hid (show r.key.size < (qn + 1) * 4096 ∧ r.text.size < (qn + 1) * 4096 ∧ r.tag.size < (qn + 1) * 4096 by omega)
      have hqb : (qn : Int) ≤ 206158430208 := by omega
      have hw1 : IntKind.i64.wrap ((r.text.size : Int) + (r.key.size : Int)) = (r.text.size : Int) + (r.key.size : Int) := by rw [IntKind.wrap_i64]; omega
      have hw2 : IntKind.i64.wrap ((r.text.size : Int) + (r.key.size : Int) + (r.tag.size : Int)) = (r.text.size : Int) + (r.key.size : Int) + (r.tag.size : Int) := by rw [IntKind.wrap_i64]; omega
      have hw3 : IntKind.i64.wrap (lf - 1) = lf - 1 := by rw [IntKind.wrap_i64]; omega
      have hw4 : IntKind.i64.wrap (lf - 1 - (r.as.length : Int)) = lf - 1 - (r.as.length : Int) := by rw [IntKind.wrap_i64]; omega
      have hw5 : IntKind.i64.wrap (lf - 1 - (r.as.length : Int) - (qn : Int)) = lf - 1 - (r.as.length : Int) - (qn : Int) := by rw [IntKind.wrap_i64]; omega
      clear hr hat f5 hqn
      by_cases hn : lf - 1 - (r.as.length : Int) - (qn : Int) < 0
      · go_wp2_with fail
        go_quiet (fail)
        go_wp2_with fail
        go_ret
        exact ⟨false, rfl, (fun h => by cases h), HBr.out.trans (below_drewN _ _ _)⟩
      · obtain ⟨l1, hl1⟩ : ∃ l1, l1 = lf - 1 - (r.as.length : Int) - (qn : Int) := ⟨_, rfl⟩
        have HL1 := Lib.hid hl1
        have hl1a : 0 ≤ l1 := by omega
        have hl1b : l1 + 1 + (k : Int) ≤ most := by omega
        have hasl : r.as.length ≤ 5000 := by omega
        have hqn5 : qn ≤ 5000 := by omega
        have hlf0 : 0 ≤ lf := by omega
        have HLF := Lib.hid (show l1 + 1 ≤ lf by omega)
        go_wp2_with fail
        go_quiet (fail)
        go_wp2_with fail
        rw [← hl1]
        clear hn hw1 hw2 hw3 hw4 hw5 hq hl1
        have HBq := Lib.hid (HBr.out.trans (below_drewN _ wr nq))
        obtain ⟨w2, hw2⟩ : ∃ w2, w2 = wr.drewN nq := ⟨_, rfl⟩
        have HAT2 := Lib.hid (show AtR w2 w2.heap.size r x by rw [hw2]; exact HAT.out.below (below_drewN _ _ _))
        have HC2 := Lib.hid (show RCells w2 b (off + k * 6) r x by rw [hw2]; exact ⟨c0, c1, c2, c3, c4, c5⟩)
        have hb2 : b < w2.heap.size := by rw [hw2]; exact hb
        rw [← hw2] at HBq ⊢
        clear c0 c1 c2 c3 c4 c5 HAT hb HBr hw2
        go_loopg [5, 7, 53] r.as.length (fun g s5 _ s53 wr => ∃ (j : Nat) (lj : Int), s53 = .int .i64 j ∧ s5 = .int .i64 lj ∧ j ≤ r.as.length ∧ r.as.length - j ≤ g ∧ -1000000000000000 ≤ lj ∧ lj ≤ l1 ∧ RowKit.Hid (SeenR r.as j l1 lj) ∧ RowKit.Hid (Below w2.heap.size w2 wr))
        case atStart => exact ⟨0, l1, rfl, rfl, by omega, by omega, by omega, by omega, Lib.hid ⟨by omega, by omega, fun j hj h => by omega⟩, Lib.hid (Below.refl _ _)⟩
        case round =>
          obtain ⟨j, lj, rfl, rfl, hj, hg2, hlo2, hhi2, HS, HB3⟩ := hrel
          obtain ⟨c0, c1, c2, c3, c4, c5⟩ := HC2.out.below HB3.out hb2
          by_cases hltj : j < r.as.length
          · have h2 : (j : Int) < (r.as.length : Int) := by omega
            obtain ⟨b', off', y, hA', hb', hy, a1, a2⟩ := trow_at (HAT2.out.row.up HB3.out) hltj
            have HS2 := Lib.hid (SeenR.step HS.out hltj HF5.out)
            obtain ⟨g1, g2⟩ := HF5.out r.as[j] (List.getElem_mem _)
            rw [← hy] at g1 g2
            have hSl := HS2.out.2.1
            rw [← hy] at HS2 hSl
            have hq1 : ((y.2.size : Int) + (y.1.size : Int)) / 4096 = (((y.2.size + y.1.size) / 4096 : Nat) : Int) := by omega
            obtain ⟨m1, hm1⟩ : ∃ m : Nat, m = (y.2.size + y.1.size) / 4096 := ⟨_, rfl⟩
            rw [← hm1] at hq1 HS2 hSl
            have hw5 : IntKind.i64.wrap (lj - (m1 : Int)) = lj - (m1 : Int) := by rw [IntKind.wrap_i64]; omega
            have hw6 : IntKind.i64.wrap ((y.2.size : Int) + (y.1.size : Int)) = (y.2.size : Int) + (y.1.size : Int) := by rw [IntKind.wrap_i64]; omega
            clear hy hm1
            go_wp2_with fail
            go_quiet (fail)
            go_wp2_with fail
            try rw [← hA']
            go_roundg (r.as.length - (j + 1))
            case measure => omega
            case rel => exact ⟨j + 1, lj - (m1 : Int), by go_num, rfl, by omega, by omega, by omega, by omega, HS2, Lib.hid (HB3.out.trans (below_drewN _ _ _))⟩
          · have h2 : ¬ (j : Int) < (r.as.length : Int) := by omega
            have HGR := Lib.hid (show 0 ≤ lj → GoodR r from fun h0 => by
              have e6 := HQK.out
              refine ⟨by omega, by omega, by omega, by omega, fun y hy => ?_⟩
              obtain ⟨i, hi, rfl⟩ := List.getElem_of_mem hy
              have := HS.out.2.2 i hi (by omega)
              omega)
            have HG2 := Lib.hid (show 0 ≤ lj → ∀ i, (hi : i < rs.length) → i < k + 1 → GoodR rs[i] from fun h0 i hi hik => by
              rcases Nat.lt_or_ge i k with h5 | h5
              · exact HG.out hlf0 i hi h5
              · have : i = k := by omega
                subst this
                rw [← HR.out]; exact HGR.out h0)
            have hlow : -1000000000000000 ≤ lj := hlo2
            go_wp2_with fail
            try rw [← hA]
            go_roundg (rs.length - (k + 1))
            case measure => omega
            case rel => exact ⟨k + 1, lj, by go_num, rfl, by omega, by omega, by omega, by omega, HG2, by omega, Lib.hid (HBq.out.trans (HB3.out.mono HBq.out.size))⟩
    · have h1 : ¬ (k : Int) < (rs.length : Int) := by omega
      by_cases h0 : 0 ≤ lf
      · have hd : decide (lf ≥ 0) = true := decide_eq_true h0
        have HQ := Lib.hid (show GoodRs rs from fun r hr => by
          obtain ⟨j, hj, rfl⟩ := List.getElem_of_mem hr
          exact HG.out h0 j hj (by omega))
        go_wp2_with fail
        go_ret
        exact ⟨true, ret_bool (by simp), fun _ => ⟨HQ.out, by omega⟩, HBr.out⟩
      · have hd : decide (lf ≥ 0) = false := decide_eq_false h0
        go_wp2_with fail
        go_ret
        exact ⟨false, ret_bool (by simp), (fun h => by cases h), HBr.out⟩
end Go.Proofs.Ytlkdklpglmglkaa
