/-
  match.Labels.
-/
import Derived.Test.YtlkdklpglmglkaaMRef
namespace Go.Proofs.Ytlkdklpglmglkaa
open Go.RowKit Go.Sort Go.Lib
open K (Lab LRow lrow_at)
set_option linter.unusedVariables false
set_option maxRecDepth 100000
def LFi (l : List Rw) (h : Nat) (ks : List Nat) (i : Nat) : List Lab := (List.range l.length).map (fun j => if (rwAt l j).up < h ∨ j + 1 ∈ ks.take i then labR l j else zL)
theorem LFi_length (l : List Rw) (h : Nat) (ks : List Nat) (i : Nat) : (LFi l h ks i).length = l.length := by simp [LFi]
theorem LFi_get {l : List Rw} {h : Nat} {ks : List Nat} {i j : Nat} (hj : j < (LFi l h ks i).length) : (LFi l h ks i)[j] = if (rwAt l j).up < h ∨ j + 1 ∈ ks.take i then labR l j else zL := by simp [LFi]
theorem LFi_set {l : List Rw} {h : Nat} {ks : List Nat} {i : Nat} (hi : i < ks.length) (h1 : 1 ≤ ks[i]) (h2 : ks[i] ≤ l.length) : (LFi l h ks i).set (ks[i] - 1) (labR l (ks[i] - 1)) = LFi l h ks (i + 1) := by
  apply List.ext_getElem (by simp [LFi])
  intro j hj1 hj2
  have hj : j < l.length := by rw [LFi_length] at hj2; exact hj2
  have e : ks.take (i + 1) = ks.take i ++ [ks[i]] := by simp
  rw [LFi_get hj2, e]
  by_cases hk : ks[i] - 1 = j
  · subst hk
    rw [List.getElem_set_self, if_pos (.inr (List.mem_append.2 (.inr (List.mem_singleton.2 (by omega)))))]
  · rw [List.getElem_set_ne hk, LFi_get (by rw [LFi_length]; exact hj)]
    by_cases hc : (rwAt l j).up < h ∨ j + 1 ∈ ks.take i
    · rw [if_pos hc, if_pos (hc.imp id (fun q => List.mem_append.2 (.inl q)))]
    · rw [if_neg hc, if_neg (fun q => by
        rcases q with q | q
        · exact hc (.inl q)
        · rcases List.mem_append.1 q with q | q
          · exact hc (.inr q)
          · have := List.mem_singleton.1 q; omega)]
theorem LFi_full {l : List Rw} (hf : FormTo l l.length) (h : Nat) : LFi l h (kidsH l h) (kidsH l h).length = LFi l (h + 1) (kidsH l (h + 1)) 0 := by
  unfold LFi
  apply List.map_congr_left
  intro j hj
  have hj' : j < l.length := List.mem_range.1 hj
  rw [List.take_length, List.take_zero]
  have e : j + 1 ∈ kidsH l h ↔ (rwAt l j).up = h := by
    unfold kidsH
    rw [mem_kidsTo]
    simp only [Nat.add_sub_cancel]
    exact ⟨fun q => q.2.2, fun q => ⟨by omega, by omega, q⟩⟩
  have hiff : ((rwAt l j).up < (h : Int) ∨ j + 1 ∈ kidsH l h) ↔ ((rwAt l j).up < ((h + 1 : Nat) : Int) ∨ j + 1 ∈ ([] : List Nat)) := by
    rw [e]
    constructor
    · intro q; exact .inl (by omega)
    · rintro (q | q)
      · omega
      · cases q
  by_cases q : ((rwAt l j).up < (h : Int) ∨ j + 1 ∈ kidsH l h)
  · rw [if_pos q, if_pos (hiff.1 q)]
  · rw [if_neg q, if_neg (fun x => q (hiff.2 x))]
theorem LFi_start {l : List Rw} (hf : FormTo l l.length) (ks : List Nat) : List.replicate l.length zL = LFi l 0 ks 0 := by
  apply List.ext_getElem (by simp [LFi])
  intro j h1 h2
  have hj : j < l.length := by simpa using h1
  have := (okAt_up (hf j hj)).1
  rw [LFi_get h2, if_neg (by rintro (q | q)
                             · omega
                             · simp at q)]
  simp
theorem LFi_end {l : List Rw} (hf : FormTo l l.length) (ks : List Nat) : LFi l (l.length + 1) ks 0 = labsR l l.length := by
  unfold LFi labsR
  apply List.map_congr_left
  intro j hj
  have hj' : j < l.length := List.mem_range.1 hj
  have := okAt_up (hf j hj')
  rw [if_pos (.inl (by omega))]
open Classical in
noncomputable def labelsL (l : List Rw) : List Lab := if errR l = 0 then labsR l l.length else []
set_option maxHeartbeats 8000000 in
theorem labels_any (A : Option Addr) (c : Nat) (l : List Rw) (w : World) (H : RRow w w.heap.size A l) (G : GoodRs l) (hl : l.length ≤ 1000) (hc : l.length ≤ c) :
    Calls Try.prog 38 #[.slice A l.length c] w (MadeLs w (labelsL l)) := by
  have nf : ¬ (False : Prop) := fun h => h
  have C := Lib.hid (families_any A c l w H G hl hc)
  obtain ⟨i0, hi, hz0, hz1, hz2⟩ := info_parts Try.info58L
  have HBY := Lib.hid (show i0.bytes * l.length ≤ 281474976710656 by rw [hz2]; omega)
  clear H G hc
  go_enter Try.func38, Try.ntmps38
  go_wp2_with fail
  refine C.out.mono ?_
  rintro e w1 ⟨m, A1, c1, hm, rfl, hfam, hb1⟩
  have HM := Lib.hid hm; have HFAM := Lib.hid hfam; have HB1 := Lib.hid hb1
  clear hm hfam hb1 C
  by_cases h0 : m = 0
  · have hq : ((m : Int) == 0) = true := by rw [beq_iff_eq]; omega
    have HN := Lib.hid (show labelsL l = [] by
      rcases HM.out with ⟨_, h1⟩ | ⟨h1, _⟩
      · rw [labelsL, if_neg h1]
      · omega)
    clear h0
    go_wp2_with fail
    go_ret
    rw [HN.out]
    exact ⟨none, 0, rfl, fun h => by simp at h, HB1.out⟩
  · have hq : ((m : Int) == 0) = false := by rw [beq_eq_false_iff_ne]; omega
    obtain ⟨hml, hel⟩ : m = l.length + 1 ∧ errR l = 0 := by
      rcases HM.out with ⟨h1, _⟩ | h1
      · exact absurd h1 h0
      · exact h1
    have HE := Lib.hid hel; have HFO := Lib.hid (errR_form hel); have HML := Lib.hid hml
    have hmb : m ≤ 1001 := by omega
    clear h0 hml hel
    go_wp2_with (at_make; refine wpList_make_full _ rfl (.tmp 15) (.tmp 15) 52 rfl w1.heap.size 58 i0 (.agg #[.string ⟨#[]⟩, .string ⟨#[]⟩, .int .i64 0]) 3 Try.underlying52 hi hz0 hz1 .i64 .i64 _ _ l.length rfl rfl rfl rfl HBY.out (by unfold maxLen; omega) (Nat.le_refl _) ?_; intro w2 hown2 hg2; rw [made_labs] at hown2; have HG2 := Lib.hid hg2; clear hg2; have HO2 := Lib.hid hown2; clear hown2)
    have hb2 : Below w1.heap.size w1 w2 := (Below.refl _ _).grown HG2.out (Nat.le_refl _) (fun k hk => by cases hk)
    obtain ⟨g, hgg⟩ : ∃ g, g = w1.heap.size := ⟨_, rfl⟩
    have HGG := Lib.hid hgg
    have HB2 := Lib.hid hb2
    rw [← hgg] at HO2 ⊢
    clear hgg hb2 HG2
    go_loopg [7, 8, 19] m (fun q _ _ s19 wr => ∃ h : Nat, s19 = .int .i64 h ∧ h ≤ m ∧ m - h ≤ q ∧ RowKit.Hid (wr.ownsRow g 58 3 (.slice (some ⟨g, 0, none⟩) l.length l.length) l.length (labs (LFi l h (kidsH l h) 0))) ∧ RowKit.Hid (Below g w1 wr))
    case atStart => exact ⟨0, rfl, by omega, by omega, Lib.hid (by rw [← LFi_start HFO.out]; exact HO2.out), Lib.hid (by rw [HGG.out]; exact HB2.out)⟩
    case round =>
      obtain ⟨h, rfl, hh, hq2, HO, HBr⟩ := hrel
      have HBW := Lib.hid (show Below w1.heap.size w1 wr by rw [← HGG.out]; exact HBr.out)
      by_cases hlt : h < m
      · have h1 : (h : Int) < (m : Int) := by omega
        obtain ⟨g2, Bk, dk, Bl, dl, hA1, hg2, f0, f1, frow, flab⟩ := (HFAM.out.below HBW.out).at hlt
        obtain ⟨ks, hks⟩ : ∃ ks, ks = kidsH l h := ⟨_, rfl⟩
        have hlk : (labsK l h).length = ks.length := by rw [labsK_length, hks]
        have hkl : ks.length ≤ 1000 := by rw [hks]; have := kidsTo_len l h l.length; unfold kidsH; omega
        have HKM := Lib.hid (show ∀ k ∈ ks, 1 ≤ k ∧ k ≤ l.length from fun k hk => by
          rw [hks] at hk
          obtain ⟨h1, h2, _⟩ := mem_kidsTo.1 hk
          exact ⟨h1, h2⟩)
        have HKS := Lib.hid hks
        rw [← hks] at f0 f1 frow
        have HFROW := Lib.hid frow; have HFLAB := Lib.hid flab; have HLK := Lib.hid hlk
        obtain ⟨wq, hwq⟩ : ∃ wq, wq = wr.alloc (.cells #[.slice Bk ks.length dk, .slice Bl ks.length dl] 83) := ⟨_, rfl⟩
        have hbq : Below wr.heap.size wr wq := by rw [hwq]; exact (Below.refl _ _).alloc (Nat.le_refl _) _
        have hq4 : ∀ j u, (#[.slice Bk ks.length dk, .slice Bl ks.length dl] : Array Value)[j]? = some u → wq.cell? ⟨wr.heap.size, j, none⟩ = some u := fun j u hu => by rw [hwq]; exact (cell_of_row _ _ _ _ _ (0, 0) (heap_alloc_new wr _)).trans hu
        have HR01 := Lib.hid (And.intro (hq4 0 _ rfl) (hq4 1 _ rfl))
        have HOQ := Lib.hid (show wq.ownsRow g 58 3 (.slice (some ⟨g, 0, none⟩) l.length l.length) l.length (labs (LFi l h ks 0)) by rw [hks]; exact (kept_below hbq (fun _ => False)).own HO.out (fun _ _ => nf))
        have HGR := Lib.hid (show g < wr.heap.size from (HO.out.lt g rfl).2)
        have HWQ := Lib.hid hwq
        have HBGQ := Lib.hid (show Below g w1 wq from HBr.out.trans (hbq.mono (by have := HGR.out; omega)))
        obtain ⟨bx, hbx⟩ : ∃ bx, bx = wr.heap.size := ⟨_, rfl⟩
        rw [← hbx] at HR01 HGR
        have HBX := Lib.hid hbx
        have HBRX := Lib.hid (show Below w1.heap.size wr wq from hbq.mono (by have := HBW.out.size; omega))
        clear hks hlk frow flab hwq hbq hq4 hg2
        go_upto_region 8 with (fail)
        rw [show wr.alloc (.cells #[.slice Bk ks.length dk, .slice Bl ks.length dl] 83) = wq from HWQ.out.symm, ← hbx]
        clear f0 f1 hbx
        obtain ⟨r0, r1⟩ := HR01.out
        go_wp2_with fail
        clear r0 r1
        go_loopg [7, 8, 26] ks.length (fun q _ _ s26 wx => ∃ i : Nat, s26 = .int .i64 i ∧ i ≤ ks.length ∧ ks.length - i ≤ q ∧ RowKit.Hid (wx.ownsRow g 58 3 (.slice (some ⟨g, 0, none⟩) l.length l.length) l.length (labs (LFi l h ks i))) ∧ RowKit.Hid (Kept (· = g) wq wx))
        case atStart => exact ⟨0, rfl, by omega, by omega, HOQ, Lib.hid (Kept.refl _ _)⟩
        case round =>
          obtain ⟨i, rfl, hi2, hq3, HOX, HKX⟩ := hrel
          have HBG := Lib.hid (show Below g w1 wr from HBGQ.out.trans (HKX.out.below (by have h5 := HBGQ.out.size; have h6 := HGG.out; omega) (fun k hk => by have e : k = g := hk; omega)))
          by_cases hlt2 : i < ks.length
          · have h2 : (i : Int) < (ks.length : Int) := by omega
            have hbw : Below w1.heap.size wq wr := HKX.out.below (by have h5 := HBGQ.out.size; omega) (fun k hk => by have e : k = g := hk; have := HGG.out; omega)
            obtain ⟨b2, off2, z, hBk, hb2, hz, hzc⟩ := I.row_at ((HFROW.out.below (show Below w1.heap.size _ wr from HBRX.out.trans hbw))) (j := i) (by simpa [nums] using hlt2)
            obtain ⟨k, hk⟩ : ∃ k, k = ks[i] := ⟨_, rfl⟩
            obtain ⟨k1, k2⟩ := HKM.out k (by rw [hk]; exact List.getElem_mem _)
            have hzk : z = (k : Int) := by
              rw [hz, hk]
              simp [nums, List.getD_eq_getElem?_getD, hlt2]
            subst hzk
            have hil : i < (labsK l h).length := by rw [HLK.out]; exact hlt2
            obtain ⟨b3, off3, L, hBl, hb3, hL, l0, l1, l2⟩ := lrow_at (HFLAB.out.below (show Below w1.heap.size _ wr from HBRX.out.trans hbw)) hil
            obtain ⟨k', hk'⟩ : ∃ k', k' = k - 1 := ⟨_, rfl⟩
            have hLr : L = labR l k' := by
              rw [hL, hk']
              simp only [labsK, List.getElem_map]
              simp only [← HKS.out, hk]
            have hkl2 : k' < l.length := by omega
            have hki : (k' : Int) < (l.length : Int) := by omega
            have hwk : IntKind.i64.wrap ((k : Int) - 1) = (k' : Int) := by rw [IntKind.wrap_i64]; omega
            have hll : k' < (LFi l h ks i).length := by rw [LFi_length]; exact hkl2
            obtain ⟨p0, p1, p2⟩ := labs_at (LFi l h ks i) k' hll
            obtain ⟨P, hP⟩ : ∃ P, P = (LFi l h ks i)[k'] := ⟨_, rfl⟩
            rw [← hP] at p0 p1 p2
            have g0 : wr.cell? ⟨g, k' * 3, none⟩ = some (.string P.tag) := (HOX.out.cellAt (k' * 3) (by omega)).trans p0
            have g1 : wr.cell? ⟨g, k' * 3 + 1, none⟩ = some (.string P.key) := (HOX.out.cellAt (k' * 3 + 1) (by omega)).trans p1
            have g2' : wr.cell? ⟨g, k' * 3 + 2, none⟩ = some (.int .i64 P.n) := (HOX.out.cellAt (k' * 3 + 2) (by omega)).trans p2
            have z0 : ∀ j, wr.frozen? ⟨g, j, none⟩ = false := fun j => HOX.out.frozenAt j
            obtain ⟨w5, hw5⟩ : ∃ w5, w5 = putLb wr g k' L := ⟨_, rfl⟩
            have HO5 := Lib.hid (show w5.ownsRow g 58 3 (.slice (some ⟨g, 0, none⟩) l.length l.length) l.length (labs (LFi l h ks (i + 1))) by
              have h5 := own_putLb HOX.out k' L hll
              have e5 : (LFi l h ks i).set k' L = LFi l h ks (i + 1) := by
                rw [hLr, hk', hk]
                exact LFi_set hlt2 (by rw [← hk]; exact k1) (by rw [← hk]; exact k2)
              rw [e5] at h5
              rw [hw5]; exact h5)
            have HK5 := Lib.hid (show Kept (· = g) wq w5 from HKX.out.trans (by rw [hw5]; exact kept_putLb _ _ _ _))
            have HW5 := Lib.hid hw5
            have r0 := HKX.out.cellOf HR01.out.1 (by show ¬ bx = g; have := HGR.out; omega)
            have r1 := HKX.out.cellOf HR01.out.2 (by show ¬ bx = g; have := HGR.out; omega)
            clear hz hk hk' hL hLr hil hll p0 p1 p2 hP hw5 hbw k1 k2 hb2 hb3
            go_wp2_with fail
            rw [show ((wr.setCell ⟨g, k' * 3, none⟩ (.string L.tag)).setCell ⟨g, k' * 3 + 1, none⟩ (.string L.key)).setCell ⟨g, k' * 3 + 2, none⟩ (.int .i64 L.n) = w5 from HW5.out.symm]
            try rw [← hBk]
            try rw [← hBl]
            go_roundg (ks.length - (i + 1))
            case measure => omega
            case rel => exact ⟨i + 1, by go_num, by omega, by omega, HO5, HK5⟩
          · have h2 : ¬ (i : Int) < (ks.length : Int) := by omega
            have hie : i = ks.length := by omega
            have HO6 := Lib.hid (show wr.ownsRow g 58 3 (.slice (some ⟨g, 0, none⟩) l.length l.length) l.length (labs (LFi l (h + 1) (kidsH l (h + 1)) 0)) by
              have := HOX.out
              rw [hie, HKS.out, LFi_full HFO.out] at this
              exact this)
            clear hie
            go_wp2_with fail
            try rw [← hA1]
            go_roundg (m - (h + 1))
            case measure => omega
            case rel => exact ⟨h + 1, by go_num, by omega, by omega, HO6, HBG⟩
      · have h1 : ¬ (h : Int) < (m : Int) := by omega
        obtain rfl : h = m := by omega
        have HFIN := Lib.hid (show labelsL l = LFi l h (kidsH l h) 0 by rw [labelsL, if_pos HE.out, HML.out, LFi_end HFO.out])
        go_wp2_with fail
        go_ret
        rw [HFIN.out]
        obtain ⟨A', c', he, hr, _⟩ := lrow_own (show wr.ownsRow g 58 3 (.slice (some ⟨g, 0, none⟩) l.length l.length) (LFi l h (kidsH l h) 0).length (labs (LFi l h (kidsH l h) 0)) by rw [LFi_length]; exact HO.out)
        exact ⟨A', c', congrArg Ending.returned he, hr, HB1.out.trans (HBW.out.mono HB1.out.size)⟩
end Go.Proofs.Ytlkdklpglmglkaa
