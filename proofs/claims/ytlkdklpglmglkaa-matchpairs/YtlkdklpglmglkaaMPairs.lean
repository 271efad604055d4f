/-
  match.Pairs.
-/
import Derived.Test.YtlkdklpglmglkaaMPair
import Derived.Test.YtlkdklpglmglkaaVLaw1
namespace Go.Proofs.Ytlkdklpglmglkaa
open Go.RowKit Go.Sort Go.Lib
open K (Lab LRow lrow_at)
set_option linter.unusedVariables false
set_option maxRecDepth 100000
/-- The pairs when the handles below h are done. -/
def PF (a b : List Rw) (h : Nat) : Nat → Int := fun j => if j = 0 then 0 else if (rwAt b (j - 1)).up < h then (mt a b (j - 1) : Int) else 0
theorem PF_self {a b : List Rw} (hf : FormTo b b.length) {h : Nat} (hh : h ≤ b.length) : PF a b h h = (pm a b h : Int) := by
  unfold PF pm
  by_cases h0 : h = 0
  · rw [if_pos h0, if_pos h0]; rfl
  · have := (okAt_up (hf (h - 1) (by omega))).2
    have h1 := (okAt_up (hf (h - 1) (by omega))).1
    rw [if_neg h0, if_neg h0, if_pos (by omega)]
theorem PF_zero {a b : List Rw} (hf : FormTo b b.length) {j : Nat} (hj : j ≤ b.length) : PF a b 0 j = 0 := by
  unfold PF
  by_cases h0 : j = 0
  · rw [if_pos h0]
  · have h1 := (okAt_up (hf (j - 1) (by omega))).1
    rw [if_neg h0, if_neg (by omega)]
theorem PF_kid {a b : List Rw} {h k : Nat} (hk : k ∈ kidsH b h) : PF a b h k = 0 := by
  obtain ⟨h1, h2, h3⟩ := mem_kidsTo.1 hk
  unfold PF
  rw [if_neg (by omega), if_neg (by omega)]
theorem PF_step {a b : List Rw} (hf : FormTo b b.length) {h j : Nat} (hj : j ≤ b.length) (hc : h = 0 ∨ pm a b h ≠ 0) : updF a b (pm a b h) (kidsH b h) (PF a b h) (kidsH b h).length j = PF a b (h + 1) j := by
  unfold updF
  rw [List.take_length]
  by_cases hk : j ∈ kidsH b h
  · obtain ⟨h1, h2, h3⟩ := mem_kidsTo.1 hk
    rw [if_pos hk, PF, if_neg (by omega), if_pos (by omega), mt_eq hf (by omega), h3]
    have e : ((h : Int)).toNat = h := rfl
    rw [e, if_pos hc]
  · rw [if_neg hk]
    unfold PF
    by_cases h0 : j = 0
    · rw [if_pos h0, if_pos h0]
    · rw [if_neg h0, if_neg h0]
      have hne : ¬ (rwAt b (j - 1)).up = h := fun e => hk (mem_kidsTo.2 ⟨by omega, hj, e⟩)
      by_cases hlt : (rwAt b (j - 1)).up < h
      · rw [if_pos hlt, if_pos (by omega)]
      · rw [if_neg hlt, if_neg (by omega)]
theorem PF_skip {a b : List Rw} (hf : FormTo b b.length) {h j : Nat} (hj : j ≤ b.length) (h0 : h ≠ 0) (hc : pm a b h = 0) : PF a b h j = PF a b (h + 1) j := by
  unfold PF
  by_cases hj0 : j = 0
  · rw [if_pos hj0, if_pos hj0]
  · rw [if_neg hj0, if_neg hj0]
    by_cases hu : (rwAt b (j - 1)).up = h
    · rw [if_neg (by omega), if_pos (by omega), mt_eq hf (by omega), hu]
      have e : ((h : Int)).toNat = h := rfl
      rw [e, if_neg (by rintro (q | q)
                        · exact h0 q
                        · exact q hc)]; rfl
    · by_cases hlt : (rwAt b (j - 1)).up < h
      · rw [if_pos hlt, if_pos (by omega)]
      · rw [if_neg hlt, if_neg (by omega)]
open Classical in
noncomputable def pairsL (a b : List Rw) : List Int := if errR a = 0 ∧ errR b = 0 then nums (mtL a b b.length) else []
theorem keepF {w1 W W' : World} {g o : Nat} {v z : Value} (hb : Below W.heap.size W W')
    (h : W.cell? ⟨g, 0, none⟩ = some v ∧ W.cell? ⟨g, 1, none⟩ = some z ∧ RowKit.Hid (Below w1.heap.size w1 W)) : True := trivial
set_option maxHeartbeats 8000000 in
theorem pairs_any (A B : Option Addr) (ca cb : Nat) (a b : List Rw) (w : World) (Ha : RRow w w.heap.size A a) (Hb : RRow w w.heap.size B b) (Ga : GoodRs a) (Gb : GoodRs b) (hla : a.length ≤ 1000) (hlb : b.length ≤ 1000) (hca : a.length ≤ ca) (hcb : b.length ≤ cb) :
    Calls Try.prog 31 #[.slice A a.length ca, .slice B b.length cb] w (I.Made w (pairsL a b)) := by
  have nf : ¬ (False : Prop) := fun h => h
  have CA := Lib.hid (families_any A ca a w Ha Ga hla hca)
  have HB := Lib.hid Hb; have HGA := Lib.hid Ga; have HGB := Lib.hid Gb; have HCB := Lib.hid hcb
  have HNIL := Lib.hid (show ∀ W, Below w.heap.size w W → ¬ (errR a = 0 ∧ errR b = 0) → I.Made w (pairsL a b) (.returned (.slice none 0 0)) W from fun W hW hn => ⟨none, 0, by rw [pairsL, if_neg hn]; rfl, by rw [pairsL, if_neg hn]; exact I.Row.nil _ _ _, by rw [pairsL, if_neg hn]; simp, by simp [maxLen], fun _ => rfl, hW⟩)
  obtain ⟨i0, hi, hz0, hz1, hz2⟩ := info_parts I.Try.info3
  clear Ha Hb Ga Gb hca hcb
  go_enter Try.func31, Try.ntmps31
  go_wp2_with fail
  refine CA.out.mono ?_
  rintro e w1 ⟨ma, A1, c1, hma, rfl, hfa, hb1⟩
  have HMA := Lib.hid hma; have HFA := Lib.hid hfa; have HB1 := Lib.hid hb1
  have CB := Lib.hid (families_any B cb b w1 (HB.out.up hb1) HGB.out hlb HCB.out)
  clear hma hfa hb1 CA
  go_wp2_with fail
  refine CB.out.mono ?_
  rintro e w2 ⟨mb, B1, d1, hmb, rfl, hfb, hb2⟩
  have HMB := Lib.hid hmb; have HFB := Lib.hid hfb; have HB2 := Lib.hid (HB1.out.trans (hb2.mono HB1.out.size)); have HFA2 := Lib.hid (HFA.out.up hb2)
  clear hmb hfb hb2 CB
  by_cases h0 : ma = 0
  · have hq : ((ma : Int) == 0) = true := by rw [beq_iff_eq]; omega
    have HN := Lib.hid (show ¬ (errR a = 0 ∧ errR b = 0) from fun q => by
      rcases HMA.out with ⟨_, h1⟩ | ⟨h1, _⟩
      · exact h1 q.1
      · omega)
    clear h0
    go_wp2_with fail
    go_ret
    exact HNIL.out w2 HB2.out HN.out
  · have hq : ((ma : Int) == 0) = false := by rw [beq_eq_false_iff_ne]; omega
    by_cases h2 : mb = 0
    · have hq2 : ((mb : Int) == 0) = true := by rw [beq_iff_eq]; omega
      have HN := Lib.hid (show ¬ (errR a = 0 ∧ errR b = 0) from fun q => by
        rcases HMB.out with ⟨_, h1⟩ | ⟨h1, _⟩
        · exact h1 q.2
        · omega)
      clear h0 h2
      go_wp2_with fail
      go_ret
      exact HNIL.out w2 HB2.out HN.out
    · have hq2 : ((mb : Int) == 0) = false := by rw [beq_eq_false_iff_ne]; omega
      obtain ⟨hma, hea⟩ : ma = a.length + 1 ∧ errR a = 0 := by
        rcases HMA.out with ⟨h1, _⟩ | h1
        · exact absurd h1 h0
        · exact h1
      obtain ⟨hmb, heb⟩ : mb = b.length + 1 ∧ errR b = 0 := by
        rcases HMB.out with ⟨h1, _⟩ | h1
        · exact absurd h1 h2
        · exact h1
      have HEA := Lib.hid hea; have HEB := Lib.hid heb
      have HFO := Lib.hid (errR_form heb)
      have HMA2 := Lib.hid hma; have HMB2 := Lib.hid hmb
      have hmal : ma ≤ 1001 := by omega
      have hmbl : mb ≤ 1001 := by omega
      have HPL := Lib.hid (show pairsL a b = nums (mtL a b b.length) by rw [pairsL, if_pos ⟨hea, heb⟩])
      have HBY := Lib.hid (show i0.bytes * mb ≤ 281474976710656 by rw [hz2]; omega)
      clear h0 h2 hma hmb hea heb
      go_wp2_with (at_make; refine wpList_make_full _ rfl (.tmp 23) (.tmp 23) 46 rfl w2.heap.size 3 i0 (.int .i64 0) 1 Try.underlying46 hi hz0 hz1 .i64 .i64 _ _ mb rfl rfl rfl rfl HBY.out (by unfold maxLen; omega) (Nat.le_refl _) ?_; intro w3 hown3 hg3; rw [I.made_ints] at hown3; have HG3 := Lib.hid hg3; clear hg3; have HO3 := Lib.hid hown3; clear hown3)
      have hb3 : Below w2.heap.size w2 w3 := (Below.refl _ _).grown HG3.out (Nat.le_refl _) (fun k hk => by cases hk)
      obtain ⟨g, hgg⟩ : ∃ g, g = w2.heap.size := ⟨_, rfl⟩
      have HGG := Lib.hid hgg
      have HB3 := Lib.hid hb3
      rw [← hgg] at HO3 ⊢
      have HZ := Lib.hid (show List.replicate mb (0 : Int) = zsOf mb (PF a b 0) by
        apply List.ext_getElem (by simp [zsOf])
        intro j h1 h2
        have hj : j < mb := by simpa using h1
        have := PF_zero (a := a) HFO.out (show j ≤ b.length by have := HMB2.out; omega)
        simp [zsOf, this])
      rw [HZ.out] at HO3
      clear hgg hb3 HG3
      go_loopg [8, 27] mb (fun q _ s27 wr => ∃ h : Nat, s27 = .int .i64 h ∧ h ≤ mb ∧ mb - h ≤ q ∧ RowKit.Hid (wr.ownsRow g 3 1 (.slice (some ⟨g, 0, none⟩) mb mb) mb (I.ints (zsOf mb (PF a b h)))) ∧ RowKit.Hid (Below g w2 wr))
      case atStart => exact ⟨0, rfl, by omega, by omega, HO3, Lib.hid (by rw [HGG.out]; exact HB3.out)⟩
      case round =>
        obtain ⟨h, rfl, hh, hq3, HO, HBr⟩ := hrel
        have HBW := Lib.hid (show Below w2.heap.size w2 wr by rw [← HGG.out]; exact HBr.out)
        by_cases hlt : h < mb
        · have h1 : (h : Int) < (mb : Int) := by omega
          obtain ⟨g2, Bk, dk, Bl, dl, hB1, hg2, f0, f1, frow, flab⟩ := (HFB.out.below HBW.out).at hlt
          have hself := PF_self (a := a) HFO.out (show h ≤ b.length by have := HMB2.out; omega)
          obtain ⟨p, hp⟩ : ∃ p, p = pm a b h := ⟨_, rfl⟩
          rw [← hp] at hself
          have hpl : p ≤ a.length := by rw [hp]; exact pm_le HFO.out (by have := HMB2.out; omega)
          have hpm : p < ma := by have := HMA2.out; omega
          obtain ⟨nb, hnb⟩ : ∃ n, n = (kidsH b h).length := ⟨_, rfl⟩
          rw [← hnb] at f0 f1
          have q0 : wr.cell? ⟨g, h, none⟩ = some (.int .i64 (p : Int)) := by rw [HO.out.cellAt h (by omega), zsOf_get _ hlt, hself]
          have HNB := Lib.hid hnb; have HP := Lib.hid hp
          have HFROW := Lib.hid frow; have HFLAB := Lib.hid flab
          -- the box of the family
          obtain ⟨wq, hwq⟩ : ∃ wq, wq = wr.alloc (.cells #[.slice Bk nb dk, .slice Bl nb dl] 83) := ⟨_, rfl⟩
          have hbq : Below wr.heap.size wr wq := by rw [hwq]; exact (Below.refl _ _).alloc (Nat.le_refl _) _
          have hq4 : ∀ j u, (#[.slice Bk nb dk, .slice Bl nb dl] : Array Value)[j]? = some u → wq.cell? ⟨wr.heap.size, j, none⟩ = some u := fun j u hu => by rw [hwq]; exact (cell_of_row _ _ _ _ _ (0, 0) (heap_alloc_new wr _)).trans hu
          have r0 := hq4 0 _ rfl
          have r1 := hq4 1 _ rfl
          have hoq := (kept_below hbq (fun _ => False)).own HO.out (fun _ _ => nf)
          have q1 : wq.cell? ⟨g, h, none⟩ = some (.int .i64 (p : Int)) := by rw [hoq.cellAt h (by omega), zsOf_get _ hlt, hself]
          have HOQ := Lib.hid hoq; have HBQ := Lib.hid hbq
          have HWQ := Lib.hid hwq
          have hgr : g < wr.heap.size := (HO.out.lt g rfl).2
          have HGR := Lib.hid hgr
          have HBGQ := Lib.hid (show Below g w2 wq from HBr.out.trans (hbq.mono (by omega)))
          have hhi : 0 ≤ (h : Int) := by omega
          have hpi : (p : Int) < (ma : Int) := by omega
          have hpi0 : 0 ≤ (p : Int) := by omega
          by_cases hc : h = 0 ∨ p ≠ 0
          · obtain ⟨g3, Ak, ck, Al, cl, hA1, hg3, e0, e1, arow, alab⟩ := (HFA2.out.below (show Below w2.heap.size w2 wq by rw [← HGG.out]; exact HBGQ.out)).at hpm
            obtain ⟨na, hna⟩ : ∃ n, n = (kidsH a p).length := ⟨_, rfl⟩
            rw [← hna] at e0 e1
            have HNX := Lib.hid (show zsOf mb (updF a b p (kidsH b h) (PF a b h) (kidsH b h).length) = zsOf mb (PF a b (h + 1)) from zsOf_congr (fun j hj => by rw [hp]; exact PF_step HFO.out (by have := HMB2.out; omega) (by rw [← hp]; exact hc)))
            have C := Lib.hid (pairUp_any a b p h g mb (PF a b h) Ak ck Al cl Bk dk Bl dl wq.drew HEA.out HGA.out HGB.out hla hlb HMB2.out ((kept_below (below_drewN _ wq 1) (fun _ => False)).own HOQ.out (fun _ _ => nf)) (show I.Row wq g Ak _ by rw [HGG.out]; exact arow) (show LRow wq g Al _ by rw [HGG.out]; exact alab) (show I.Row wq g Bk _ from by rw [HGG.out]; exact HFROW.out.below (show Below w2.heap.size wr wq from HBQ.out.mono (by rw [← HGG.out]; omega))) (show LRow wq g Bl _ from by rw [HGG.out]; exact HFLAB.out.below (show Below w2.heap.size wr wq from HBQ.out.mono (by rw [← HGG.out]; omega))) (fun k hk => PF_kid hk))
            rw [← hna, ← HNB.out] at C
            rw [← HNB.out] at HNX
            have HST := Lib.hid (show (fun W : World => W.cell? ⟨g, h, none⟩ = some (.int .i64 (p : Int)) ∧ W.cell? ⟨g3, p * 2, none⟩ = some (.slice Ak na ck) ∧ W.cell? ⟨g3, p * 2 + 1, none⟩ = some (.slice Al na cl) ∧ W.cell? ⟨wr.heap.size, 0, none⟩ = some (.slice Bk nb dk) ∧ W.cell? ⟨wr.heap.size, 1, none⟩ = some (.slice Bl nb dl)) wq.drew from ⟨q1, e0, e1, r0, r1⟩)
            have hcd : ((h : Int) == 0) = true ∨ (((h : Int) == 0) = false ∧ ((p : Int) != 0) = true) := by
              rcases hc with q | q
              · exact .inl (by rw [beq_iff_eq]; omega)
              · by_cases q2 : h = 0
                · exact .inl (by rw [beq_iff_eq]; omega)
                · exact .inr ⟨by rw [beq_eq_false_iff_ne]; omega, by simp only [bne_iff_ne, ne_eq]; omega⟩
            have HCD := Lib.hid hcd
            clear hself hp hnb frow flab hbq hoq hwq hq4 hna arow alab hc hcd hgr q0
            go_upto_region 8 with (fail)
            rw [show wr.alloc (.cells #[.slice Bk nb dk, .slice Bl nb dl] 83) = wq from HWQ.out.symm]
            clear f0 f1
            rcases HCD.out with hd | ⟨hd, hd2⟩
            all_goals
              go_upto_region 9 with (fail)
              go_region_law (go_simp; go_at_call 58; refine C.out.mono ?_; rintro e w8 ⟨rfl, ho8, hk8⟩)
              all_goals
                have HO8 := Lib.hid (show w8.ownsRow g 3 1 (.slice (some ⟨g, 0, none⟩) mb mb) mb (I.ints (zsOf mb (PF a b (h + 1)))) by rw [← HNX.out]; exact ho8)
                have HB8 := Lib.hid (show Below g w2 w8 from (HBGQ.out.trans (below_drewN _ wq 1)).trans (hk8.below (show g ≤ wq.heap.size by have := HBQ.out.size; have := HGR.out; omega) (fun k hk => by have e : k = g := hk; omega)))
                clear ho8 hk8 q1 e0 e1 r0 r1 C
                go_wp2_with fail
                try rw [← hA1]
                try rw [← hB1]
                go_roundg (mb - (h + 1))
                case measure => omega
                case rel => exact ⟨h + 1, by go_num, by omega, by omega, HO8, HB8⟩
          · have hh0 : h ≠ 0 := fun q => hc (.inl q)
            have hp0 : p = 0 := Classical.byContradiction (fun q => hc (.inr q))
            have hd : ((h : Int) == 0) = false := by rw [beq_eq_false_iff_ne]; omega
            have hd2 : ((p : Int) != 0) = false := by rw [hp0]; rfl
            have HO8 := Lib.hid (show wq.ownsRow g 3 1 (.slice (some ⟨g, 0, none⟩) mb mb) mb (I.ints (zsOf mb (PF a b (h + 1)))) by
              rw [show zsOf mb (PF a b (h + 1)) = zsOf mb (PF a b h) from (zsOf_congr (fun j hj => PF_skip HFO.out (by have := HMB2.out; omega) hh0 (by rw [← hp]; exact hp0))).symm]
              exact HOQ.out)
            clear hself hp hnb frow flab hbq hoq hwq hq4 hc hgr q0 hh0 hp0
            go_upto_region 8 with (fail)
            rw [show wr.alloc (.cells #[.slice Bk nb dk, .slice Bl nb dl] 83) = wq from HWQ.out.symm]
            clear f0 f1
            go_wp2_with fail
            try rw [← hB1]
            go_roundg (mb - (h + 1))
            case measure => omega
            case rel => exact ⟨h + 1, by go_num, by omega, by omega, HO8, HBGQ⟩
        · have h1 : ¬ (h : Int) < (mb : Int) := by omega
          obtain rfl : h = mb := by omega
          have hN := HMB2.out
          have hm1 : (1 : Int) ≤ (h : Int) := by omega
          have HFIN := Lib.hid (show I.Row wr wr.heap.size (some ⟨g, 1, none⟩) (nums (mtL a b b.length)) from fun h0 => ⟨g, 1, rfl, (HO.out.lt g rfl).2, fun j hj => by
            have hj' : j < b.length := by simpa [nums, mtL_length] using hj
            rw [HO.out.cellAt (1 + j) (by omega), zsOf_get _ (by omega)]
            have hu := (okAt_up (HFO.out j hj')).2
            have hu1 := (okAt_up (HFO.out j hj')).1
            have e : PF a b h (1 + j) = (mt a b j : Int) := by
              unfold PF
              have e2 : 1 + j - 1 = j := by omega
              rw [if_neg (by omega), e2, if_pos (by omega)]
            rw [e]
            congr 2
            have hg := mtL_get a b hj'
            simp only [nums, List.getD_eq_getElem?_getD, List.getElem?_map] at hg ⊢
            rw [List.getElem?_eq_getElem (by rw [mtL_length]; exact hj')] at hg ⊢
            simp only [Option.map_some, Option.getD_some] at hg ⊢
            rw [hg]⟩)
          have HB9 := Lib.hid (HB2.out.trans (HBW.out.mono HB2.out.size))
          obtain ⟨n, hn⟩ : ∃ n, n = b.length := ⟨_, rfl⟩
          have hhn : h = n + 1 := by omega
          subst hhn
          have HLEN := Lib.hid (show (nums (mtL a b b.length)).length = n by simp [nums, mtL_length, hn])
          clear hN hn HMB2 hm1
          by_cases hn0 : n = 0
          · subst hn0
            go_wp2_with fail
            go_ret
            rw [HPL.out]
            have hl := HLEN.out
            have hnil : nums (mtL a b b.length) = [] := List.eq_nil_of_length_eq_zero hl
            rw [hnil]
            exact ⟨_, 0, rfl, I.Row.nil _ _ _, by simp, by simp [maxLen], fun _ => rfl, HB9.out⟩
          · have hnn : ¬ n + 1 = 1 := by omega
            have hnn2 : ¬ (n : Int) + 1 = 1 := by omega
            have hn1 : (1 : Int) ≤ (n : Int) + 1 := by omega
            have hn2 : 1 < n + 1 := by omega
            go_wp2_with fail
            go_ret
            rw [HPL.out]
            exact ⟨some ⟨g, 1, none⟩, n, by rw [HLEN.out]; rfl, HFIN.out, by rw [HLEN.out]; exact Nat.le_refl _, by unfold maxLen; omega, (fun h => by cases h), HB9.out⟩
end Go.Proofs.Ytlkdklpglmglkaa
