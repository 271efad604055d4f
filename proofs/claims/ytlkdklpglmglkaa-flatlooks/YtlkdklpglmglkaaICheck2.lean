/-
  The reference's Check tells the first fault of the items.
-/
import Derived.Test.YtlkdklpglmglkaaICheck
import Derived.Deep.DeepCutAuto
namespace Go.Proofs.Ytlkdklpglmglkaa
open Go.RowKit Go.Sort
set_option linter.unusedVariables false
set_option maxRecDepth 100000
set_option maxHeartbeats 8000000 in
set_option maxRecDepth 100000 in
theorem icheck_any (t : Tr) (x : NV) (w : World) (h : TreeAt w w.heap.size t x) (hg : GoodT t) : Calls Try.prog 44 #[nodeV t x] w (CPost w t) := by
  obtain ⟨w1, hw1⟩ : ∃ w1, w1 = boxW w t x := ⟨_, rfl⟩
  have hb1 : Below w.heap.size w w1 := by rw [hw1]; exact below_box w t x
  obtain ⟨c0, c1, c2, c3, c4⟩ : KidCells w1 w.heap.size 0 t x := by rw [hw1]; exact box_node w t x
  have C := Lib.hid (items_any t x w1 (h.up hb1))
  have HW := Lib.hid hw1; have HB1 := Lib.hid hb1
  have HGI := Lib.hid (items_good hg)
  have HLEN := Lib.hid (items_len t)
  have HDEP := Lib.hid (items_depth t)
  clear h hw1 hb1 hg
  go_enter Try.func44, Try.ntmps44
  go_wp2_with fail
  rw [box_out HW]
  refine C.out.mono ?_
  rintro e w2 ⟨A, cap, ps, rfl, hrow, hm, ha, hb2⟩
  have HROW := Lib.hid hrow; have HM := Lib.hid hm
  have HB2 := Lib.hid (HB1.out.trans (hb2.mono HB1.out.size))
  have HTA := Lib.hid (show ∀ p ∈ ps, TRow w2 w2.heap.size p.2.A p.1.t.as from fun p hp => ((ha p hp).att).mono hb2.size)
  have hlen : ps.length ≤ 4097 := by have := HLEN.out; rw [← hm] at this; simpa using this
  have HGP := Lib.hid (show ∀ p ∈ ps, GoodT p.1.t from fun p hp => HGI.out p.1 (by rw [← hm]; exact List.mem_map_of_mem hp))
  have HDP := Lib.hid (show ∀ p ∈ ps, p.1.d ≤ 65 from fun p hp => HDEP.out p.1 (by rw [← hm]; exact List.mem_map_of_mem hp))
  clear hrow hm ha hb2 c0 c1 c2 c3 c4 C HLEN HDEP HGI
  go_wp2_with fail
  go_loopg [12] ps.length (fun g s12 wr => ∃ i : Nat, s12 = .int .i64 i ∧ i ≤ ps.length ∧ ps.length - i ≤ g ∧ RowKit.Hid (∀ j, (hj : j < (itemsL t).length) → j < i → nodeF aloneT ((itemsL t).take j) (itemsL t)[j] = 0) ∧ RowKit.Hid (Below w2.heap.size w2 wr))
  case atStart => exact ⟨0, rfl, by omega, by omega, Lib.hid (fun j hj h => by omega), Lib.hid (Below.refl _ _)⟩
  case round =>
    obtain ⟨i, rfl, hi, hg, HF, HB⟩ := hrel
    by_cases hlt : i < ps.length
    · have h1 : (i : Int) < (ps.length : Int) := by omega
      obtain ⟨gb, p, rfl, hgb, hp, hpc⟩ := irow_at (HROW.out.up HB.out) hlt
      have hpm : p ∈ ps := by rw [hp]; exact List.getElem_mem _
      have hmi : i < (itemsL t).length := by rw [← HM.out]; simpa using hlt
      have HPI := Lib.hid (show (itemsL t)[i] = p.1 by simp only [← HM.out]; rw [List.getElem_map, hp])
      have HTL := Lib.hid (show ((itemsL t).take i).length = i from take_len hmi)
      have FAIL := Lib.hid (show ∀ (f : Int) (W : World), nodeF aloneT ((itemsL t).take i) p.1 = f → f ≠ 0 → Below w2.heap.size w2 W → CPost w t (.returned (.tuple #[.int .i64 i, .int .i64 f])) W from fun f W hf h0 hW => ⟨i, f, rfl, .inl ⟨i, hmi, rfl, by rw [HPI.out]; exact hf.symm, h0, HF.out⟩, HB2.out.trans (hW.mono HB2.out.size)⟩)
      have PASS := Lib.hid (show nodeF aloneT ((itemsL t).take i) p.1 = 0 → ∀ j, (hj : j < (itemsL t).length) → j < i + 1 → nodeF aloneT ((itemsL t).take j) (itemsL t)[j] = 0 from fun h0 j hj hji => by
        rcases Nat.lt_or_ge j i with h2 | h2
        · exact HF.out j hj h2
        · have : j = i := by omega
          subst this
          rw [HPI.out]; exact h0)
      obtain ⟨⟨q0, q1, q2, q3, q4⟩, q5, q6⟩ := hpc
      have HPP := Lib.hid hp
      clear hp
      by_cases h96 : i = 4096
      · have HR := Lib.hid (FAIL.out 12 wr (nodeF_many (by rw [HTL.out]; exact h96)) (by decide) HB.out)
        have h96' : ((i : Int) == 4096) = true := by rw [h96]; rfl
        clear h96
        go_wp2_with fail
        go_ret2
        exact HR.out
      · have h96' : ((i : Int) == 4096) = false := by rw [beq_eq_false_iff_ne]; omega
        have HN96 := Lib.hid (show ¬ ((itemsL t).take i).length = 4096 by rw [HTL.out]; exact h96)
        clear h96
        by_cases hdp : 64 < p.1.d
        · have HR := Lib.hid (FAIL.out 11 wr (nodeF_deep HN96.out hdp) (by decide) HB.out)
          have hdp' : (p.1.d : Int) > 64 := by omega
          go_wp2_with fail
          go_ret2
          exact HR.out
        · have hdp' : ¬ (p.1.d : Int) > 64 := by omega
          have CA := Lib.hid (alone_any p.1.t p.2 wr ((HTA.out p hpm).up HB.out) (HGP.out p hpm))
          have HAL := Lib.hid (show ∀ f, f = aloneT p.1.t → f ≠ 0 → nodeF aloneT ((itemsL t).take i) p.1 = f from fun f hf h0 => by rw [nodeF_al HN96.out hdp (by rw [← hf]; exact h0), hf])
          have HTW := Lib.hid (show aloneT p.1.t = 0 → (0 ≤ p.1.up ∧ p.1.t.key ≠ noB ∧ hasKey ((itemsL t).take i) p.1.up p.1.t.key) → nodeF aloneT ((itemsL t).take i) p.1 = 10 from fun h0 hk => nodeF_twice HN96.out hdp h0 hk)
          have HNO := Lib.hid (show aloneT p.1.t = 0 → ¬ (0 ≤ p.1.up ∧ p.1.t.key ≠ noB ∧ hasKey ((itemsL t).take i) p.1.up p.1.t.key) → nodeF aloneT ((itemsL t).take i) p.1 = 0 from fun h0 hk => nodeF_ok HN96.out hdp h0 hk)
          obtain ⟨al, hal⟩ : ∃ al, al = aloneT p.1.t := ⟨_, rfl⟩
          rw [← hal] at CA
          have HALE := Lib.hid hal
          clear hal hdp
          go_wp2_with fail
          refine CA.out.mono ?_
          rintro e w3 ⟨rfl, hb3⟩
          have HB3 := Lib.hid (HB.out.trans (hb3.mono HB.out.size))
          clear hb3 CA HB q0 q1 q2 q3 q4 q5 q6
          by_cases haz : al = 0
          · subst haz
            go_wp2_with fail
            go_loopg [36] i (fun g s36 wr => ∃ k : Nat, s36 = .int .i64 k ∧ k ≤ i ∧ i - k ≤ g ∧ RowKit.Hid (NoHit ps p.1 k) ∧ RowKit.Hid (Below w2.heap.size w2 wr))
            case atStart => exact ⟨0, rfl, by omega, by omega, Lib.hid (fun j hj h => by omega), HB3⟩
            case round =>
              obtain ⟨k, rfl, hk, hg2, HNH, HBk⟩ := hrel
              by_cases hki : k < i
              · have h3 : (k : Int) < (i : Int) := by omega
                have h4 : (k : Int) < (ps.length : Int) := by omega
                obtain ⟨gb', p', hgg, -, hp', hpc'⟩ := irow_at (HROW.out.up HBk.out) hlt
                obtain ⟨gb'', y, hgg', -, hy, hyc⟩ := irow_at (HROW.out.up HBk.out) (show k < ps.length by omega)
                obtain rfl : gb = gb' := by simpa using hgg
                obtain rfl : gb = gb'' := by simpa using hgg'
                obtain rfl : p = p' := by rw [hp']; exact HPP.out
                have hyl : k < ps.length := by omega
                have HYK := Lib.hid hy
                obtain ⟨⟨q0, q1, q2, q3, q4⟩, q5, q6⟩ := hpc'
                obtain ⟨⟨y0, y1, y2, y3, y4⟩, y5, y6⟩ := hyc
                clear hgg hgg' hp' hy q0 q2 q3 q4 q5 y0 y2 y3 y4 y5
                by_cases t1 : 0 ≤ p.1.up
                · have t1' : decide (0 ≤ p.1.up) = true := decide_eq_true t1
                  by_cases t2 : y.1.up = p.1.up
                  · have t2' : (y.1.up == p.1.up) = true := by simpa using t2
                    by_cases t3 : p.1.t.key = noB
                    · have t3' : p.1.t.key.toList.isEmpty = true := isEmpty_noB.2 t3
                      have T3 := Lib.hid t3
                      clear t3
                      have HMS := Lib.hid (show ¬ (0 ≤ p.1.up ∧ ps[k].1.up = p.1.up ∧ p.1.t.key ≠ noB ∧ ps[k].1.t.key = p.1.t.key) from by rw [← HYK.out]; exact fun hh => hh.2.2.1 T3.out)
                      go_wp2_with fail
                      go_quiet (fail)
                      go_wp2_with fail
                      go_roundg (i - (k + 1))
                      case measure => omega
                      case rel => exact ⟨k + 1, by go_num, by omega, by omega, Lib.hid (HNH.out.step hyl HMS.out), Lib.hid (HBk.out.trans (below_drewN _ _ _))⟩
                    · have t3' : p.1.t.key.toList.isEmpty = false := by
                        cases hb : p.1.t.key.toList.isEmpty with
                        | true => exact absurd (isEmpty_noB.1 hb) t3
                        | false => rfl
                      by_cases t4 : y.1.t.key = p.1.t.key
                      · have t4' : (y.1.t.key.toList == p.1.t.key.toList) = true := by rw [eqB]; exact decide_eq_true t4
                        have HHIT := Lib.hid (HTW.out HALE.out.symm ⟨t1, t3, by rw [← HM.out]; exact hit_has hyl hki (by rw [← HYK.out]; exact t2) (by rw [← HYK.out]; exact t4)⟩)
                        clear t2 t3 t4
                        go_wp2_with fail
                        go_quiet (fail)
                        go_wp2_with fail
                        go_ret2
                        exact FAIL.out 10 _ HHIT.out (by decide) (HBk.out.trans (below_drewN _ _ _))
                      · have t4' : (y.1.t.key.toList == p.1.t.key.toList) = false := by rw [eqB]; exact decide_eq_false t4
                        have T4 := Lib.hid t4
                        clear t2 t3 t4
                        have HMS := Lib.hid (show ¬ (0 ≤ p.1.up ∧ ps[k].1.up = p.1.up ∧ p.1.t.key ≠ noB ∧ ps[k].1.t.key = p.1.t.key) from by rw [← HYK.out]; exact fun hh => T4.out hh.2.2.2)
                        go_wp2_with fail
                        go_quiet (fail)
                        go_wp2_with fail
                        go_roundg (i - (k + 1))
                        case measure => omega
                        case rel => exact ⟨k + 1, by go_num, by omega, by omega, Lib.hid (HNH.out.step hyl HMS.out), Lib.hid (HBk.out.trans (below_drewN _ _ _))⟩
                  · have t2' : (y.1.up == p.1.up) = false := by simpa using t2
                    have T2 := Lib.hid t2
                    clear t2
                    have HMS := Lib.hid (show ¬ (0 ≤ p.1.up ∧ ps[k].1.up = p.1.up ∧ p.1.t.key ≠ noB ∧ ps[k].1.t.key = p.1.t.key) from by rw [← HYK.out]; exact fun hh => T2.out hh.2.1)
                    go_wp2_with fail
                    go_quiet (fail)
                    go_wp2_with fail
                    go_roundg (i - (k + 1))
                    case measure => omega
                    case rel => exact ⟨k + 1, by go_num, by omega, by omega, Lib.hid (HNH.out.step hyl HMS.out), Lib.hid (HBk.out.trans (below_drewN _ _ _))⟩
                · have t1' : decide (0 ≤ p.1.up) = false := decide_eq_false t1
                  have T1 := Lib.hid t1
                  clear t1
                  have HMS := Lib.hid (show ¬ (0 ≤ p.1.up ∧ ps[k].1.up = p.1.up ∧ p.1.t.key ≠ noB ∧ ps[k].1.t.key = p.1.t.key) from by rw [← HYK.out]; exact fun hh => T1.out hh.1)
                  go_wp2_with fail
                  go_quiet (fail)
                  go_wp2_with fail
                  go_roundg (i - (k + 1))
                  case measure => omega
                  case rel => exact ⟨k + 1, by go_num, by omega, by omega, Lib.hid (HNH.out.step hyl HMS.out), Lib.hid (HBk.out.trans (below_drewN _ _ _))⟩
              · have h3 : ¬ (k : Int) < (i : Int) := by omega
                have HOK := Lib.hid (HNO.out HALE.out.symm (by rw [← HM.out]; exact NoHit.none (fun j hj hji => HNH.out j hj (by omega))))
                go_wp2_with fail
                go_roundg (ps.length - (i + 1))
                case measure => omega
                case rel => exact ⟨i + 1, by go_num, by omega, by omega, Lib.hid (PASS.out HOK.out), HBk⟩
          · have hz' : (al != 0) = true := by simpa using haz
            have HZ := Lib.hid haz
            clear haz
            go_wp2_with fail
            go_ret2
            exact FAIL.out al _ (HAL.out al HALE.out HZ.out) HZ.out HB3.out
    · have h1 : ¬ (i : Int) < (ps.length : Int) := by omega
      have hml : (itemsL t).length = ps.length := by rw [← HM.out]; simp
      have HML := Lib.hid hml
      clear hml
      go_wp2_with fail
      go_ret2
      exact ⟨0, 0, rfl, .inr ⟨rfl, rfl, fun j hj => HF.out j hj (by have := HML.out; omega)⟩, HB2.out.trans (HB.out.mono HB2.out.size)⟩
end Go.Proofs.Ytlkdklpglmglkaa
