/-
  vtree's survey visits the nodes as the plain visit does.
-/
import Derived.Test.YtlkdklpglmglkaaVBase
import Derived.Carry
namespace Go.Proofs.Ytlkdklpglmglkaa
open Go.RowKit Go.Sort
set_option linter.unusedVariables false
set_option maxRecDepth 100000
abbrev SetB (bp bd bm : Nat) : Nat → Prop := fun b => b = bp ∨ b = bd ∨ b = bm
def VisitPost (n0 bp bd bv bm : Nat) (up : Int) (w : World) (r : List It × Int) (e : Ending) (w' : World) : Prop :=
  e = .returned (.int .i64 r.2) ∧ VS w' bp bd bv r.1 ∧ (r.2 = 0 → ∃ n, n ≤ r.1.length ∧ KSet w' bm n (fun k => k ≠ noB ∧ hasKey r.1 up k)) ∧ Kept (SetB bp bd bm) w w'
theorem set_out {w2 w3 : World} {bp bd : Nat} {a b : Int} (h : RowKit.Hid (w3 = setW w2 bp bd a b)) : (w2.setCell ⟨bp, 0, none⟩ (.int .i64 a)).setCell ⟨bd, 0, none⟩ (.int .i64 b) = w3 := h.out.symm
theorem isEmpty_noB {k : ByteArray} : k.toList.isEmpty = true ↔ k = noB := by
  rw [Lib.toList_data]
  obtain ⟨⟨l⟩⟩ := k
  cases l <;> simp [noB]
set_option maxHeartbeats 4000000 in
theorem visit_any (n0 bp bd bv : Nat) : ∀ t : Tr, ∀ (x : NV) (d : Nat) (up : Int) (l : List It) (w : World) (bm nk : Nat), TreeAt w n0 t x → GoodT t → VS w bp bd bv l → KSet w bm nk (fun k => k ≠ noB ∧ hasKey l up k) → nk ≤ l.length → Apart n0 bp bd bv bm →
    (0 ≤ up ∨ l = []) → Ups l → up < l.length → Clean aloneT l → d ≤ 65 →
    Calls Try.prog 72 #[nodeV t x, .int .i64 d, .map (some bm), .pointer (some ⟨bp, 0, none⟩), .pointer (some ⟨bd, 0, none⟩), .pointer (some ⟨bv, 0, none⟩)] w (VisitPost n0 bp bd bv bm up w (visitL aloneT t d up l)) := by
  refine tr_ind (fun t ih => ?_)
  intro x d up l w bm nk htree hgood hvs hset hnk hap hup0 hups hup hclean hd
  have hll := hclean.le
  obtain ⟨w1, hw1⟩ : ∃ w1, w1 = boxW w t x := ⟨_, rfl⟩
  have hb1 : Below w.heap.size w w1 := by rw [hw1]; exact below_box w t x
  have hbox : KidCells w1 w.heap.size 0 t x := by rw [hw1]; exact box_node w t x
  have hn0 : n0 ≤ w.heap.size := Nat.le_trans hap.lp (Nat.le_of_lt hvs.lt.1)
  have hvs1 := hvs.keep (kept_below hb1 (fun _ => False)) (fun h => h) (fun h => h) (fun h => h)
  have hset1 := hset.keep (kept_below hb1 (fun _ => False)) (fun h => h)
  have ht1 := htree.keepB (hb1.mono hn0)
  have hp1 := hvs1.p
  have HW := Lib.hid hw1; have HB1 := Lib.hid hb1; have HBX := Lib.hid hbox
  have HIH := Lib.hid ih; have HT := Lib.hid htree; have HG := Lib.hid hgood; have HAP := Lib.hid hap
  have HU := Lib.hid hups; have HUP := Lib.hid hup; have HU0 := Lib.hid hup0; have HCL := Lib.hid hclean
  have HVS1 := Lib.hid hvs1; have HSET1 := Lib.hid hset1; have HT1 := Lib.hid ht1
  have HLT := Lib.hid hvs.lt
  have HMLT := Lib.hid hset.lt
  have HEQ := Lib.hid (visitL_eq aloneT t d up l)
  clear hw1 hb1 hbox ih htree hgood hap hups hup hup0 hclean hvs hset hvs1 hset1 ht1
  generalize visitL aloneT t d up l = r at HEQ ⊢
  obtain ⟨c0, c1, c2, c3, c4⟩ := HBX.out
  have hp0 : (w.alloc (.cells #[.string t.tag, .string t.key, .string t.text, .slice x.A t.as.length x.ca, .slice x.K t.kids.length x.ck] 25)).cell? ⟨bp, 0, none⟩ = some (.int .i64 l.length) := by rw [box_out HW]; exact hp1
  by_cases hpl : placeF l.length d = 0
  · have CP := Lib.hid (placeFault_any l.length d w1)
    have CN := Lib.hid (nodeFault_any t x w1 bm nk _ (HT1.out.att.mono (Nat.le_trans hn0 HB1.out.size)) HG.out HSET1.out)
    rw [hpl] at CP
    have HPL := Lib.hid hpl
    clear hpl
    go_enter Try.func72, Try.ntmps72
    go_wp2_with fail
    rw [box_out HW]
    refine CP.out.mono ?_
    rintro e w2 ⟨rfl, rfl⟩
    go_wp2_with fail
    refine CN.out.mono ?_
    rintro e w2 ⟨f, rfl, hnp, hb2⟩
    have HF := Lib.hid (nodeF_node HPL.out HU0.out hnp)
    have hk2 := kept_below hb2 (fun _ => False)
    have hvs2 := HVS1.out.keep hk2 (fun h => h) (fun h => h) (fun h => h)
    have HSET2 := Lib.hid (HSET1.out.keep hk2 (fun h => h))
    have HT2 := Lib.hid (HT1.out.keepB (hb2.mono (Nat.le_trans hn0 HB1.out.size)))
    obtain ⟨g0, g1, g2, g3, g4⟩ := HBX.out.kept hk2 (fun h => h)
    have HB2 := Lib.hid (HB1.out.trans (hb2.mono HB1.out.size))
    have HB12 := Lib.hid hb2
    obtain ⟨p2, d2, v2, fp2, fd2⟩ := hvs2
    have HVS2 := Lib.hid (show VS w2 bp bd bv l from ⟨p2, d2, v2, fp2, fd2⟩)
    clear hb2 hk2 hnp CN CP HVS1 HSET1 HT1 c0 c1 c2 c3 c4 hp1 hp0
    by_cases hf : f = 0
    · subst hf
      have npd := HAP.out.pd
      have npv := HAP.out.pv
      have ndv := HAP.out.dv
      have r1 : IntKind.i64.wrap ((l.length : Int) + 1) = (l.length : Int) + 1 := by rw [IntKind.wrap_i64]; omega
      obtain ⟨w3, hw3⟩ : ∃ w3, w3 = setW w2 bp bd ((l.length : Int) + 1) (max (maxD l : Int) (d : Int)) := ⟨_, rfl⟩
      have hk3 : Kept (fun k => k = bp ∨ k = bd) w2 w3 := by rw [hw3]; exact kept_setW _ _ _ _ _
      have hvs3 : VS w3 bp bd bv (l ++ [⟨t, d, up⟩]) := by rw [hw3]; exact HVS2.out.step npd npv ndv ⟨t, d, up⟩ rfl rfl
      have hset3 := HSET2.out.keep hk3 (fun e => e.elim HAP.out.mp HAP.out.md)
      have HW3 := Lib.hid hw3
      obtain ⟨w4, hset4, hk4, hor⟩ : ∃ w4, KSet w4 bm (l.length + 1) (fun k => k ≠ noB ∧ (hasKey l up k ∨ t.key = k)) ∧ Kept (fun k => k = bm) w3 w4 ∧ ((t.key.toList.isEmpty = true ∧ w4 = w3) ∨ (t.key.toList.isEmpty = false ∧ (Instr.mapUpdate 100 (.map (some bm)) (.string t.key) (.agg #[])).run Try.prog w3 = .ok () w4)) := by
        by_cases he : t.key = noB
        · refine ⟨w3, hset3.imp (fun k => ⟨fun h => ⟨h.1, .inl h.2⟩, fun h => ⟨h.1, h.2.elim id (fun e => absurd (e.symm.trans he) h.1)⟩⟩) (by omega), Kept.refl _ _, .inl ⟨isEmpty_noB.2 he, rfl⟩⟩
        · obtain ⟨w4, hrun, hs, hk⟩ := hset3.store t.key (by have := HG.out.sizes.2.1; unfold maxLen; omega) (by unfold maxLen; omega)
          refine ⟨w4, hs.imp (fun k => ⟨fun h => h.elim (fun h => ⟨h.1, .inl h.2⟩) (fun e => ⟨fun e' => he (e.trans e'), .inr e⟩), fun h => h.2.elim (fun h' => .inl ⟨h.1, h'⟩) .inr⟩) (by omega), hk, .inr ⟨?_, hrun⟩⟩
          cases hb : t.key.toList.isEmpty with
          | true => exact absurd (isEmpty_noB.1 hb) he
          | false => rfl
      have hvs4 := hvs3.keep hk4 (fun e => HAP.out.mp e.symm) (fun e => HAP.out.md e.symm) (fun e => HAP.out.mv e.symm)
      have hk4' : Kept (SetB bp bd bm) w w4 := ((kept_below HB2.out _).trans (hk3.mono (fun k _ h => h.elim .inl (fun h => .inr (.inl h))))).trans (hk4.mono (fun k _ h => .inr (.inr h)))
      have hbw4 : Below n0 w2 w4 := (hk3.below (Nat.le_trans hn0 HB2.out.size) (fun k h => by have h1 := HAP.out.lp; have h2 := HAP.out.ld; omega)).trans (hk4.below (Nat.le_trans hn0 (Nat.le_trans HB2.out.size hk3.size)) (fun k h => by have h1 := HAP.out.lm; omega))
      have ht4 := HT2.out.keepB hbw4
      have hne : ¬ SetB bp bd bm w.heap.size := fun e => by have h1 := HLT.out; have h2 := HMLT.out; rcases e with e | e | e <;> omega
      have hbx4 : KidCells w4 w.heap.size 0 t x := (HBX.out.kept (kept_below (show Below w1.heap.size w1 w2 from HB12.out) (fun _ => False)) (fun h => h)).kept ((hk3.mono (T := SetB bp bd bm) (fun k _ h => h.elim .inl (fun h => .inr (.inl h)))).trans (hk4.mono (fun k _ h => .inr (.inr h)))) hne
      obtain ⟨w5, hw5⟩ : ∃ w5, w5 = w4.alloc (.map #[] 0) := ⟨_, rfl⟩
      obtain ⟨b5, hb5⟩ : ∃ b, b = w4.heap.size := ⟨_, rfl⟩
      have hbl5 : Below w4.heap.size w4 w5 := by rw [hw5]; exact (Below.refl _ _).alloc (Nat.le_refl _) _
      have hvs5 := hvs4.keep (kept_below hbl5 (fun _ => False)) (fun h => h) (fun h => h) (fun h => h)
      have hset5 := hset4.keep (kept_below hbl5 (fun _ => False)) (fun h => h)
      have ht5 := ht4.keepB (hbl5.mono (Nat.le_trans hn0 hk4'.size))
      have hnew5 : KSet w5 b5 0 (fun _ => False) := by rw [hw5, hb5]; exact KSet.new w4
      have hbx5 := hbx4.kept (kept_below hbl5 (fun _ => False)) (fun h => h)
      have hk5 : Kept (SetB bp bd bm) w w5 := hk4'.trans (kept_below hbl5 _)
      have hb5lt : w.heap.size ≤ b5 := by rw [hb5]; exact hk4'.size
      have HVS5 := Lib.hid hvs5; have HSET5 := Lib.hid hset5; have HT5 := Lib.hid ht5; have HNEW5 := Lib.hid hnew5; have HK5 := Lib.hid hk5
      have HW5 := Lib.hid hw5; have HB5 := Lib.hid hb5
      have hq4 : w5.cell? ⟨w.heap.size, 0 + 4, none⟩ = some (.slice x.K t.kids.length x.ck) := hbx5.c4
      have hmm := @run_makeMap Try.prog
      have hkl : t.kids.length ≤ 1000000 := HG.out.sizes.2.2.2.2.2
      have hd64 : d ≤ 64 := by
        have := HPL.out
        unfold placeF at this
        split at this
        · cases this
        · split at this
          · cases this
          · omega
      clear hset3 hk3 hvs3 hset4 hk4 hvs4 hk4' hbw4 ht4 hbx4 hbl5 hvs5 hset5 ht5 hnew5 hk5 hbx5 hne hd hw3 hw5 hb5
      rcases hor with ⟨he, hw4⟩ | ⟨he, hrun⟩
      · subst hw4
        rw [HW5.out] at hq4
        rw [HW3.out] at hq4
        have hsz : w2.heap.size = b5 := by rw [HB5.out, HW3.out]; simp
        go_wp2_with fail
        rw [set_out HW3, show w4.alloc (.map #[] 0) = w5 from HW5.out.symm]
        clear hsz hq4
        clear g0 g1 g2 g3 g4 p2 d2 v2 fp2 fd2 hmm he npd npv ndv
        have r2 : IntKind.i64.wrap ((d : Int) + 1) = (d : Int) + 1 := by rw [IntKind.wrap_i64]; omega
        have hb5n : ¬ b5 = bp ∧ ¬ b5 = bd ∧ ¬ b5 = bv ∧ ¬ b5 = bm := by have h1 := HLT.out; have h2 := HMLT.out; omega
        have HBN := Lib.hid hb5n
        clear hb5n
        go_loopg [14, 15, 44] t.kids.length (fun g _ _ s44 wr => ∃ (k : Nat) (lk : List It) (nk : Nat), s44 = .int .i64 k ∧ k ≤ t.kids.length ∧ t.kids.length - k ≤ g ∧ RowKit.Hid (visitK aloneT (t.kids.take k) (d + 1) l.length (l ++ [⟨t, d, up⟩]) = (lk, 0)) ∧ RowKit.Hid (VS wr bp bd bv lk) ∧ RowKit.Hid (nk ≤ lk.length ∧ KSet wr b5 nk (fun q => q ≠ noB ∧ hasKey lk l.length q)) ∧ RowKit.Hid (KSet wr bm (l.length + 1) (fun q => q ≠ noB ∧ (hasKey l up q ∨ t.key = q))) ∧ RowKit.Hid (Kept (SetB bp bd bm) w wr))
        case atStart =>
          refine ⟨0, l ++ [⟨t, d, up⟩], 0, rfl, by omega, by omega, Lib.hid (by simp [visitK]), HVS5, Lib.hid ⟨by omega, ?_⟩, HSET5, HK5⟩
          exact HNEW5.out.imp (fun q => ⟨fun h => h.elim, fun h => hasKey_new HU.out HUP.out q h.2⟩) (Nat.le_refl _)
        case round =>
          obtain ⟨k, lk, nk, rfl, hk, hg, HVK, HVS, HSN, HSM, HKW⟩ := hrel
          have hbw : Below n0 w wr := HKW.out.below hn0 (fun i h => by have h1 := HAP.out.lp; have h2 := HAP.out.ld; have h3 := HAP.out.lm; rcases h with h | h | h <;> omega)
          by_cases hlt : k < t.kids.length
          · have h1 : (k : Int) < (t.kids.length : Int) := by omega
            obtain ⟨b, off, kd, y, hK, hb, hkd, hkc, hkt⟩ := (HT.out.keepB hbw).kid hlt
            obtain ⟨q0, q1, q2, q3, q4⟩ := hkc
            obtain ⟨w6, hw6⟩ : ∃ w6, w6 = boxW wr kd y := ⟨_, rfl⟩
            have hb6 : Below wr.heap.size wr w6 := by rw [hw6]; exact below_box wr kd y
            have HW6 := Lib.hid hw6
            have hvs6 := HVS.out.keep (kept_below hb6 (fun _ => False)) (fun h => h) (fun h => h) (fun h => h)
            have hsn6 := HSN.out.2.keep (kept_below hb6 (fun _ => False)) (fun h => h)
            have HSM6 := Lib.hid (HSM.out.keep (kept_below hb6 (fun _ => False)) (fun h => h))
            have HKW6 := Lib.hid (HKW.out.trans (kept_below hb6 _))
            have hnr : n0 ≤ wr.heap.size := Nat.le_trans hn0 HKW.out.size
            have hv : (wr.alloc (.cells #[.string kd.tag, .string kd.key, .string kd.text, .slice y.A kd.as.length y.ca, .slice y.K kd.kids.length y.ck] 25)).cell? ⟨bv, 0, none⟩ = some (.func (.func 72) #[] #[.pointer (some ⟨bp, 0, none⟩), .pointer (some ⟨bd, 0, none⟩), .pointer (some ⟨bv, 0, none⟩)]) := by rw [box_out HW6]; exact hvs6.v
            have hups : Ups lk ∧ (l.length : Int) < lk.length ∧ Clean aloneT lk := by
              have e1 := visitK_ext aloneT (t.kids.take k) (d + 1) l.length (l ++ [⟨t, d, up⟩]) (HU.out.snoc HUP.out) (by simp; omega)
              have e2 := visit_belowK aloneT (t.kids.take k) (d + 1) l.length (l ++ [⟨t, d, up⟩]) (HCL.out.snoc HF.out)
              rw [HVK.out] at e1 e2
              obtain ⟨ext, he, -⟩ := e1.2 rfl
              refine ⟨e1.1, ?_, e2.2.2.1⟩
              have : lk.length = l.length + 1 + ext.length := by
                have : lk = (l ++ [⟨t, d, up⟩]) ++ ext := he
                rw [this]; simp; omega
              omega
            have C := HIH.out kd (by rw [hkd]; exact List.getElem_mem _) y (d + 1) l.length lk w6 b5 nk (hkt.keepB (hb6.mono hnr)) (HG.out.kid hlt hkd) hvs6 hsn6 HSN.out.1 ⟨HAP.out.pd, HAP.out.pv, HAP.out.dv, HBN.out.1, HBN.out.2.1, HBN.out.2.2.1, HAP.out.lp, HAP.out.ld, HAP.out.lv, Nat.le_trans hn0 hb5lt⟩ (.inl (by omega)) hups.1 hups.2.1 hups.2.2 (by omega)
            rw [show ((d + 1 : Nat) : Int) = (d : Int) + 1 from rfl] at C
            have HC := Lib.hid C
            have HTK := Lib.hid (visitK_take aloneT hlt (d + 1) l.length (l ++ [⟨t, d, up⟩]) lk HVK.out)
            have HFL := Lib.hid (visitK_fail aloneT hlt (d + 1) l.length (l ++ [⟨t, d, up⟩]) lk HVK.out)
            rw [← hkd] at HTK HFL
            clear hkd hkt hbw hb6 hw6 hvs6 hsn6 hups C HVK HVS HSN HSM HKW
            go_wp2_with fail
            rw [box_out HW6]
            refine HC.out.mono ?_
            generalize visitL aloneT kd (d + 1) (↑l.length) lk = rk at HTK HFL
            rintro e w7 ⟨rfl, hvs7, hset7, hk7⟩
            have hk7' : Kept (SetB bp bd bm) w w7 := HKW6.out.trans' hk7 (fun i hi h => by rcases h with h | h | h; exact .inl h; exact .inr (.inl h); omega)
            have HK7 := Lib.hid hk7'; have HVS7 := Lib.hid hvs7; have HSET7 := Lib.hid hset7
            have HSM7 := Lib.hid (HSM6.out.keep hk7 (fun h => by have h2 := HBN.out; have h3 := HAP.out.mp; have h4 := HAP.out.md; rcases h with h | h | h <;> omega))
            clear hk7 hk7' hvs7 hset7 HC HSM6 HKW6 hv q0 q1 q2 q3 q4
            obtain ⟨lk', ek⟩ := rk
            by_cases hek : ek = 0
            · subst hek
              obtain ⟨nk', hn', hs'⟩ := HSET7.out (by first | exact rfl | exact trivial)
              have HSN7 := Lib.hid (And.intro hn' hs')
              clear hn' hs' HSET7
              go_wp2_with fail
              rw [← hK]
              go_roundg (t.kids.length - (k + 1))
              case measure => omega
              case rel => exact ⟨k + 1, lk', nk', by go_num, by omega, by omega, HTK, HVS7, HSN7, HSM7, HK7⟩
            · have hz' : (ek != 0) = true := by simpa using hek
              have HZ := Lib.hid hek
              clear hek
              go_wp2_with fail
              go_ret
              rw [HEQ.out, if_pos HF.out, HFL.out HZ.out]
              exact ⟨rfl, HVS7.out, fun h => absurd h HZ.out, HK7.out⟩
          · have h1 : ¬ (k : Int) < (t.kids.length : Int) := by omega
            have HVF := Lib.hid (show visitK aloneT t.kids (d + 1) l.length (l ++ [⟨t, d, up⟩]) = (lk, 0) by rw [← HVK.out, List.take_of_length_le (by omega)])
            clear hbw
            go_wp2_with fail
            go_ret
            rw [HEQ.out, if_pos HF.out, HVF.out]
            refine ⟨rfl, HVS.out, fun _ => ?_, HKW.out⟩
            obtain ⟨ext, he, hx⟩ := (visit_ext aloneT t d up l HU.out HUP.out).2 (by rw [visitL_eq, if_pos HF.out, HVF.out])
            rw [visitL_eq, if_pos HF.out, HVF.out] at he
            have he' : lk = l ++ ⟨t, d, up⟩ :: ext := he
            refine ⟨l.length + 1, by rw [he']; simp, HSM.out.imp (fun q => ?_) (Nat.le_refl _)⟩
            show _ ↔ q ≠ noB ∧ hasKey lk up q
            rw [he', hasKey_up HUP.out hx]
      · rw [HW5.out] at hq4
        rw [HW3.out] at hrun
        go_wp2_with fail
        rw [show w4.alloc (.map #[] 0) = w5 from HW5.out.symm, show w4.heap.size = b5 from HB5.out.symm]
        clear hrun hq4
        clear g0 g1 g2 g3 g4 p2 d2 v2 fp2 fd2 hmm he npd npv ndv
        have r2 : IntKind.i64.wrap ((d : Int) + 1) = (d : Int) + 1 := by rw [IntKind.wrap_i64]; omega
        have hb5n : ¬ b5 = bp ∧ ¬ b5 = bd ∧ ¬ b5 = bv ∧ ¬ b5 = bm := by have h1 := HLT.out; have h2 := HMLT.out; omega
        have HBN := Lib.hid hb5n
        clear hb5n
        go_loopg [14, 15, 44] t.kids.length (fun g _ _ s44 wr => ∃ (k : Nat) (lk : List It) (nk : Nat), s44 = .int .i64 k ∧ k ≤ t.kids.length ∧ t.kids.length - k ≤ g ∧ RowKit.Hid (visitK aloneT (t.kids.take k) (d + 1) l.length (l ++ [⟨t, d, up⟩]) = (lk, 0)) ∧ RowKit.Hid (VS wr bp bd bv lk) ∧ RowKit.Hid (nk ≤ lk.length ∧ KSet wr b5 nk (fun q => q ≠ noB ∧ hasKey lk l.length q)) ∧ RowKit.Hid (KSet wr bm (l.length + 1) (fun q => q ≠ noB ∧ (hasKey l up q ∨ t.key = q))) ∧ RowKit.Hid (Kept (SetB bp bd bm) w wr))
        case atStart =>
          refine ⟨0, l ++ [⟨t, d, up⟩], 0, rfl, by omega, by omega, Lib.hid (by simp [visitK]), HVS5, Lib.hid ⟨by omega, ?_⟩, HSET5, HK5⟩
          exact HNEW5.out.imp (fun q => ⟨fun h => h.elim, fun h => hasKey_new HU.out HUP.out q h.2⟩) (Nat.le_refl _)
        case round =>
          obtain ⟨k, lk, nk, rfl, hk, hg, HVK, HVS, HSN, HSM, HKW⟩ := hrel
          have hbw : Below n0 w wr := HKW.out.below hn0 (fun i h => by have h1 := HAP.out.lp; have h2 := HAP.out.ld; have h3 := HAP.out.lm; rcases h with h | h | h <;> omega)
          by_cases hlt : k < t.kids.length
          · have h1 : (k : Int) < (t.kids.length : Int) := by omega
            obtain ⟨b, off, kd, y, hK, hb, hkd, hkc, hkt⟩ := (HT.out.keepB hbw).kid hlt
            obtain ⟨q0, q1, q2, q3, q4⟩ := hkc
            obtain ⟨w6, hw6⟩ : ∃ w6, w6 = boxW wr kd y := ⟨_, rfl⟩
            have hb6 : Below wr.heap.size wr w6 := by rw [hw6]; exact below_box wr kd y
            have HW6 := Lib.hid hw6
            have hvs6 := HVS.out.keep (kept_below hb6 (fun _ => False)) (fun h => h) (fun h => h) (fun h => h)
            have hsn6 := HSN.out.2.keep (kept_below hb6 (fun _ => False)) (fun h => h)
            have HSM6 := Lib.hid (HSM.out.keep (kept_below hb6 (fun _ => False)) (fun h => h))
            have HKW6 := Lib.hid (HKW.out.trans (kept_below hb6 _))
            have hnr : n0 ≤ wr.heap.size := Nat.le_trans hn0 HKW.out.size
            have hv : (wr.alloc (.cells #[.string kd.tag, .string kd.key, .string kd.text, .slice y.A kd.as.length y.ca, .slice y.K kd.kids.length y.ck] 25)).cell? ⟨bv, 0, none⟩ = some (.func (.func 72) #[] #[.pointer (some ⟨bp, 0, none⟩), .pointer (some ⟨bd, 0, none⟩), .pointer (some ⟨bv, 0, none⟩)]) := by rw [box_out HW6]; exact hvs6.v
            have hups : Ups lk ∧ (l.length : Int) < lk.length ∧ Clean aloneT lk := by
              have e1 := visitK_ext aloneT (t.kids.take k) (d + 1) l.length (l ++ [⟨t, d, up⟩]) (HU.out.snoc HUP.out) (by simp; omega)
              have e2 := visit_belowK aloneT (t.kids.take k) (d + 1) l.length (l ++ [⟨t, d, up⟩]) (HCL.out.snoc HF.out)
              rw [HVK.out] at e1 e2
              obtain ⟨ext, he, -⟩ := e1.2 rfl
              refine ⟨e1.1, ?_, e2.2.2.1⟩
              have : lk.length = l.length + 1 + ext.length := by
                have : lk = (l ++ [⟨t, d, up⟩]) ++ ext := he
                rw [this]; simp; omega
              omega
            have C := HIH.out kd (by rw [hkd]; exact List.getElem_mem _) y (d + 1) l.length lk w6 b5 nk (hkt.keepB (hb6.mono hnr)) (HG.out.kid hlt hkd) hvs6 hsn6 HSN.out.1 ⟨HAP.out.pd, HAP.out.pv, HAP.out.dv, HBN.out.1, HBN.out.2.1, HBN.out.2.2.1, HAP.out.lp, HAP.out.ld, HAP.out.lv, Nat.le_trans hn0 hb5lt⟩ (.inl (by omega)) hups.1 hups.2.1 hups.2.2 (by omega)
            rw [show ((d + 1 : Nat) : Int) = (d : Int) + 1 from rfl] at C
            have HC := Lib.hid C
            have HTK := Lib.hid (visitK_take aloneT hlt (d + 1) l.length (l ++ [⟨t, d, up⟩]) lk HVK.out)
            have HFL := Lib.hid (visitK_fail aloneT hlt (d + 1) l.length (l ++ [⟨t, d, up⟩]) lk HVK.out)
            rw [← hkd] at HTK HFL
            clear hkd hkt hbw hb6 hw6 hvs6 hsn6 hups C HVK HVS HSN HSM HKW
            go_wp2_with fail
            rw [box_out HW6]
            refine HC.out.mono ?_
            generalize visitL aloneT kd (d + 1) (↑l.length) lk = rk at HTK HFL
            rintro e w7 ⟨rfl, hvs7, hset7, hk7⟩
            have hk7' : Kept (SetB bp bd bm) w w7 := HKW6.out.trans' hk7 (fun i hi h => by rcases h with h | h | h; exact .inl h; exact .inr (.inl h); omega)
            have HK7 := Lib.hid hk7'; have HVS7 := Lib.hid hvs7; have HSET7 := Lib.hid hset7
            have HSM7 := Lib.hid (HSM6.out.keep hk7 (fun h => by have h2 := HBN.out; have h3 := HAP.out.mp; have h4 := HAP.out.md; rcases h with h | h | h <;> omega))
            clear hk7 hk7' hvs7 hset7 HC HSM6 HKW6 hv q0 q1 q2 q3 q4
            obtain ⟨lk', ek⟩ := rk
            by_cases hek : ek = 0
            · subst hek
              obtain ⟨nk', hn', hs'⟩ := HSET7.out (by first | exact rfl | exact trivial)
              have HSN7 := Lib.hid (And.intro hn' hs')
              clear hn' hs' HSET7
              go_wp2_with fail
              rw [← hK]
              go_roundg (t.kids.length - (k + 1))
              case measure => omega
              case rel => exact ⟨k + 1, lk', nk', by go_num, by omega, by omega, HTK, HVS7, HSN7, HSM7, HK7⟩
            · have hz' : (ek != 0) = true := by simpa using hek
              have HZ := Lib.hid hek
              clear hek
              go_wp2_with fail
              go_ret
              rw [HEQ.out, if_pos HF.out, HFL.out HZ.out]
              exact ⟨rfl, HVS7.out, fun h => absurd h HZ.out, HK7.out⟩
          · have h1 : ¬ (k : Int) < (t.kids.length : Int) := by omega
            have HVF := Lib.hid (show visitK aloneT t.kids (d + 1) l.length (l ++ [⟨t, d, up⟩]) = (lk, 0) by rw [← HVK.out, List.take_of_length_le (by omega)])
            clear hbw
            go_wp2_with fail
            go_ret
            rw [HEQ.out, if_pos HF.out, HVF.out]
            refine ⟨rfl, HVS.out, fun _ => ?_, HKW.out⟩
            obtain ⟨ext, he, hx⟩ := (visit_ext aloneT t d up l HU.out HUP.out).2 (by rw [visitL_eq, if_pos HF.out, HVF.out])
            rw [visitL_eq, if_pos HF.out, HVF.out] at he
            have he' : lk = l ++ ⟨t, d, up⟩ :: ext := he
            refine ⟨l.length + 1, by rw [he']; simp, HSM.out.imp (fun q => ?_) (Nat.le_refl _)⟩
            show _ ↔ q ≠ noB ∧ hasKey lk up q
            rw [he', hasKey_up HUP.out hx]
    · have hz' : (f != 0) = true := by simpa using hf
      have HZ := Lib.hid hf
      clear hf
      go_wp2_with fail
      go_ret
      rw [HEQ.out, if_neg (by rw [HF.out]; exact HZ.out), HF.out]
      exact ⟨rfl, HVS2.out, fun h => absurd h HZ.out, kept_below HB2.out _⟩
  · have CP := Lib.hid (placeFault_any l.length d w1)
    have HPF := Lib.hid (nodeF_place (t := t) (up := up) hpl)
    have HPN := Lib.hid hpl
    generalize placeF l.length d = f at CP HPF HPN
    clear hpl
    have hz' : (f != 0) = true := by simpa using HPN.out
    go_enter Try.func72, Try.ntmps72
    go_wp2_with fail
    rw [box_out HW]
    refine CP.out.mono ?_
    rintro e w2 ⟨rfl, rfl⟩
    go_wp2_with fail
    go_ret
    rw [HEQ.out, if_neg (by rw [HPF.out]; exact HPN.out), HPF.out]
    exact ⟨rfl, HVS1.out, fun h => absurd h HPN.out, kept_below HB1.out _⟩
end Go.Proofs.Ytlkdklpglmglkaa
