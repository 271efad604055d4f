/-
  tendrillaw06.LisPiles: it answers true.
-/
import Derived.Test.YtplkfiffgcjmdaaSame
namespace Go.Proofs.Ytplkfiffgcjmdaa
open Go.RowKit
set_option linter.unusedVariables false

theorem own_next {w : World} {base : Nat} {v : Value} {L : List Int} {x : Int} (h : w.ownsRow base 3 1 v (L.length + 1) (ints L ++ [.int .i64 x])) : OwnI w base v (L ++ [x]) := by
  unfold OwnI
  simpa using h
def PLRel (w2 : World) (l : List Int) (n met k : Value) (wr : World) : Prop :=
  ∃ j : Nat, j ≤ lenL l ∧ k = .int .i64 j ∧ n = .int .i64 (flat l j).length ∧ OwnI wr w2.heap.size met (nats (flat l j)) ∧ Below w2.heap.size w2 wr
def PLIn (w2 : World) (F S : List Nat) (n met i : Value) (wr : World) : Prop :=
  ∃ j : Nat, j ≤ S.length ∧ i = .int .i64 j ∧ n = .int .i64 (F ++ S.take j).length ∧ OwnI wr w2.heap.size met (nats (F ++ S.take j)) ∧ Below w2.heap.size w2 wr

set_option maxRecDepth 100000 in
set_option maxHeartbeats 8000000 in
theorem pilesLaw_any (A : Option Addr) (c : Nat) (l : List Int) (w : World) (h : Row w w.heap.size A l) (hm : l.length ≤ maxLen) :
    Calls Try.prog 4 #[.slice A l.length c] w fun e w' => e = .returned (.bool true) ∧ Below w.heap.size w w' := by
  unfold maxLen at hm
  by_cases hp : 300 < l.length
  · have hp' : (300 : Int) < l.length := by omega
    go_enter Try.func4, Try.ntmps4
    go_wp2_with fail
    refine (same_law _).mono ?_
    rintro e w1 ⟨rfl, hb1⟩
    go_wp2
    go_ret
    exact ⟨rfl, hb1⟩
  · have hp' : ¬ (300 : Int) < l.length := by omega
    clear hm
    obtain ⟨i0, hi, hz0, hz1, hz2⟩ := info_parts Try.info3
    have hll := lenL_le l
    go_enter Try.func4, Try.ntmps4
    go_wp2_with fail
    refine (piles_any A c l w h (by omega)).mono ?_
    rintro e w1 ⟨g, V, rfl, -, hpw1, hb1⟩
    have hl1 := h.up hb1
    go_wp2_with fail
    refine (ends_any A c l w1 hl1 (by omega)).mono ?_
    rintro e w2 ⟨Ae, ce, rfl, hre, -, -, -, hb2⟩
    have hl2 := hl1.up hb2
    have hpw2 := hpw1.below hb2
    have hb2' := below_trans hb1 hb2
    have hel := endsL_length l
    rw [hel]
    have HEL := Lib.hid hel
    clear hl1 hpw1 hb1 hb2 hel
    have HPW := Lib.hid hpw2; clear hpw2
    obtain ⟨m, hmm⟩ : ∃ m, m = lenL l := ⟨_, rfl⟩
    rw [← hmm] at hll ⊢
    have HM := Lib.hid hmm; clear hmm
    go_wp2
    go_loopw [5, 6, 20] (PLRel w2 l) (fun _ _ k _ => m - (intOf k).toNat)
    case atStart => exact ⟨0, by omega, rfl, rfl, World.ownsRow_nil _ _ _ _, Below.refl _ _⟩
    case round =>
      obtain ⟨k, hk, rfl, rfl, hown, hbel⟩ := hrel
      rw [← HM.out] at hk
      have hfl := flat_le l k
      by_cases hlt : k < m
      · obtain ⟨Ap, cp, -, hcell, hrp⟩ := HPW.out.cell (show k < lenL l by rw [← HM.out]; exact hlt)
        have hfl2 := flat_le l (k + 1)
        simp only [flat, List.length_append] at hfl2
        have hat : ∀ i, i < (pileL l k).length → (pileL l k).getD i 0 < l.length ∧ en l ((pileL l k).getD i 0) = k + 1 ∧ 0 ≤ el l ((pileL l k).getD i 0) := fun i hi => pileL_at hi
        have hnx : ∀ i, i + 1 < (pileL l k).length → (pileL l k).getD i 0 < (pileL l k).getD (i + 1) 0 ∧ el l ((pileL l k).getD (i + 1) 0) ≤ el l ((pileL l k).getD i 0) := fun i hi => pileL_next (by omega) hi
        have hnot : ∀ i, i < (pileL l k).length → ¬ (pileL l k).getD i 0 ∈ flat l k ++ (pileL l k).take i := fun i hi => met_not hi
        have hst : ∀ i, i < (pileL l k).length → flat l k ++ (pileL l k).take (i + 1) = flat l k ++ (pileL l k).take i ++ [(pileL l k).getD i 0] := fun i hi => met_step hi
        have hpos := pileL_pos (show k < lenL l by rw [← HM.out]; exact hlt)
        have hfs : flat l (k + 1) = flat l k ++ pileL l k := rfl
        rw [nats_length] at hcell
        have hna : ∀ i, i < (pileL l k).length → (nats (pileL l k)).getD i 0 = ((pileL l k).getD i 0 : Nat) := fun i hi => nats_at hi
        have hnl : (nats (pileL l k)).length = (pileL l k).length := nats_length _
        have hg : g < w2.heap.size := (HPW.out.row.lt g rfl).2
        have HFS := Lib.hid hfs; clear hfs
        generalize pileL l k = S at hcell hrp hfl2 hat hnx hnot hst hpos hna hnl HFS
        generalize flat l k = F at hfl hfl2 hnot hst hown HFS ⊢
        have hcq : ∀ wq, Below w2.heap.size w2 wq → wq.cell? ⟨g, k, none⟩ = some (.slice Ap S.length cp) := fun wq hq => (hq.cell (p := ⟨g, k, none⟩) hg).trans hcell
        have HCQ := Lib.hid hcq
        have HRP := Lib.hid hrp
        have HAT := Lib.hid hat
        have HNX := Lib.hid hnx
        have HNOT := Lib.hid hnot
        have HST := Lib.hid hst
        have HNA := Lib.hid hna
        have HNL := Lib.hid hnl
        clear hcq hrp hat hnx hnot hst hna hnl hcell
        have hck := HCQ.out wr hbel
        go_wp2
        clear hck
        go_loopw [5, 6, 28] (PLIn w2 F S) (fun _ _ i _ => S.length - (intOf i).toNat)
        case atStart => exact ⟨0, by omega, rfl, by simp, by simpa using hown, hbel⟩
        case round =>
          clear hown hbel
          obtain ⟨i, his, rfl, rfl, hown, hbel⟩ := hrel
          have hck := HCQ.out wr hbel
          have htl : (F ++ S.take i).length ≤ 300 := by rw [List.length_append, List.length_take]; omega
          by_cases hil : i < S.length
          · obtain ⟨bp, op, x, hAp, hbp, hx, hcx⟩ := row_at (HRP.out.below hbel) (show i < (nats S).length by rw [HNL.out]; exact hil)
            subst hAp
            rw [HNA.out i hil] at hx
            obtain ⟨a, ha⟩ : ∃ a, a = S.getD i 0 := ⟨_, rfl⟩
            rw [← ha] at hx
            subst hx
            obtain ⟨hal, hae, ha0⟩ := HAT.out i hil
            have hanot := HNOT.out i hil
            have hast := HST.out i hil
            rw [← ha] at hal hae ha0 hanot hast
            obtain ⟨bl, ol, y, rfl, hbl, hy, hcy⟩ := row_at (hl2.below hbel) hal
            have hy0 : 0 ≤ y := by rw [hy]; exact ha0
            obtain ⟨be, oe, z, rfl, hbe, hz, hcz⟩ := row_at (hre.below hbel) (show a < (endsL l).length by rw [HEL.out]; exact hal)
            rw [endsL_at hal, hae] at hz
            have hz' : z = (k : Int) + 1 := by rw [hz]; simp
            subst hz'
            clear hz
            have HY := Lib.hid hy
            have HA := Lib.hid ha
            have HAST := Lib.hid hast
            clear hy ha hast hae ha0
            have hnm : ¬ (a : Int) ∈ nats (F ++ S.take i) := by
              intro hm
              simp only [nats, List.mem_map] at hm
              obtain ⟨a', h1, h2⟩ := hm
              have : a' = a := by omega
              subst this
              exact hanot h1
            clear hanot
            obtain ⟨Am, cm, hvm, hrm, -⟩ := row_own hown
            have hml : (nats (F ++ S.take i)).length = (F ++ S.take i).length := nats_length _
            have chas := has_any Am cm (nats (F ++ S.take i)) (a : Int) _ wr hrm hnm (by rw [hml]; omega)
            rw [hml] at chas hvm
            unfold OwnI at hown
            rw [hml] at hown
            subst hvm
            have CH := Lib.hid chas
            clear chas hnm hrm
            have hfin : ∀ v' w', w'.ownsRow w2.heap.size 3 1 v' ((F ++ S.take i).length + 1) (ints (nats (F ++ S.take i)) ++ [.int .i64 (a : Int)]) → OwnI w' w2.heap.size v' (nats (F ++ S.take (i + 1))) := by
              intro v' w' hh
              rw [← hml] at hh
              have := own_next hh
              rw [HAST.out]
              simpa [nats] using this
            have hlen' : (F ++ S.take (i + 1)).length = (F ++ S.take i).length + 1 := by rw [HAST.out, List.length_append]; rfl
            have HFIN := Lib.hid hfin
            have HLEN := Lib.hid hlen'
            clear hfin hlen' hml
            generalize (F ++ S.take i).length = t at htl hown CH HFIN HLEN ⊢
            have hsz := hbel.size
            have hzz : ((k : Int) + 1 != (k : Int) + 1) = false := by simp
            go_wp2_with fail
            refine CH.out.mono ?_
            rintro e wr' ⟨rfl, rfl⟩
            cases i with
            | zero =>
              go_wp2_with fail
              go_quiet (fail)
              have howq : (wr.drewN nq).ownsRow w2.heap.size 3 1 (.slice Am t cm) t (ints (nats (F ++ S.take 0))) := hown
              go_wp2_with (at_builtin; refine wpList_app1 rfl (.tmp 106) (.tmp 108) 22 rfl w2.heap.size 3 i0 (.int .i64 0) 8 Try.underlying22 hi hz0 hz1 hz2 rfl _ _ _ rfl howq (.int .i64 (a : Int)) rfl rfl (by omega) (by simp [maxLen]; omega) hsz ?_; intro v' w3 hown3 hbel3)
              exact ⟨⟨1, by omega, by go_num, by rw [HLEN.out]; go_num, HFIN.out _ _ hown3, (bel_drewN hbel _).trans hbel3⟩, by simp [intOf]; omega⟩
            | succ j =>
              have hcj := Row.at2 (HRP.out.below hbel) (show j < (nats S).length by rw [HNL.out]; omega)
              rw [HNA.out j (by omega)] at hcj
              obtain ⟨hpl, -, -⟩ := HAT.out j (by omega)
              obtain ⟨hn1, hn2⟩ := HNX.out j hil
              rw [← HA.out] at hn1 hn2
              have hcp := Row.at2 (hl2.below hbel) hpl
              generalize S.getD j 0 = b' at hcj hpl hn1 hn2 hcp
              unfold el at hn2
              rw [← HY.out] at hn2
              generalize l.getD b' 0 = y' at hn2 hcp
              have hd1 : decide (a ≤ b') = false := by simp only [decide_eq_false_iff_not]; omega
              have hd2 : decide (y' < y) = false := by simp only [decide_eq_false_iff_not]; omega
              go_wp2_with fail
              go_quiet (fail)
              have howq : (wr.drewN nq).ownsRow w2.heap.size 3 1 (.slice Am t cm) t (ints (nats (F ++ S.take (j + 1)))) := hown
              go_wp2_with (at_builtin; refine wpList_app1 rfl (.tmp 106) (.tmp 108) 22 rfl w2.heap.size 3 i0 (.int .i64 0) 8 Try.underlying22 hi hz0 hz1 hz2 rfl _ _ _ rfl howq (.int .i64 (a : Int)) rfl rfl (by omega) (by simp [maxLen]; omega) hsz ?_; intro v' w3 hown3 hbel3)
              exact ⟨⟨j + 1 + 1, by omega, by go_num, by rw [HLEN.out]; go_num, HFIN.out _ _ hown3, (bel_drewN hbel _).trans hbel3⟩, by simp [intOf]; omega⟩
          · obtain rfl : i = S.length := by omega
            rw [List.take_length, ← HFS.out] at hown
            rw [List.take_length, ← HFS.out]
            have hpos' : ((S.length : Int) == 0) = false := by simp only [beq_eq_false_iff_ne, ne_eq]; omega
            go_wp2_with fail
            exact ⟨⟨k + 1, by rw [← HM.out]; omega, by go_num, rfl, hown, hbel⟩, by simp [intOf]; omega⟩
      · obtain rfl : k = m := by omega
        have hall : (flat l k).length = cntTo l l.length := by rw [HM.out]; exact flat_all l
        rw [hall]
        have hlr := hl2.up hbel
        have hb3' := below_trans hb2' hbel
        have hlo : (nats (longL l)).length = k := by rw [nats_length, longL_length, HM.out]
        have hc1 := count_any A c l _ wr hlr (by omega)
        generalize cntTo l l.length = q at hc1 ⊢
        have HC := Lib.hid hc1
        have HLO := Lib.hid hlo
        clear hall hc1 hlo hown
        go_wp2_with fail
        refine HC.out.mono ?_
        rintro e w3 ⟨rfl, rfl⟩
        go_wp2_with fail
        refine (longest_any A c l wr hlr (by omega)).mono ?_
        rintro e w4 ⟨A4, c4, rfl, -, -, -, -, hb4⟩
        rw [HLO.out]
        have hl4 := hlr.up hb4
        have hb4' := below_trans hb3' hb4
        have hlen := length_any A c l w4 hl4 (by omega)
        rw [← HM.out] at hlen
        have HLEN := Lib.hid hlen; clear hlen
        go_wp2_with fail
        refine HLEN.out.mono ?_
        rintro e w5 ⟨rfl, hb5⟩
        have hb5' := below_trans hb4' hb5
        go_wp2_with fail
        refine (same_law _).mono ?_
        rintro e w6 ⟨rfl, hb6⟩
        go_wp2
        go_ret
        exact ⟨rfl, below_trans hb5' hb6⟩
end Go.Proofs.Ytplkfiffgcjmdaa
