/-
  markup.write: the markup of a tree.
-/
import Derived.Test.YtjnhcoflmechmaaGreatDoorMAll
import Derived.Test.YtjnhcoflmechmaaGreatDoorMTree
namespace Go.Proofs.YtjnhcoflmechmaaGreatDoor.M
open Go.RowKit Go.Sort
set_option linter.unusedVariables false
set_option maxRecDepth 100000
theorem all_step (B b : Nat) (L : Bytes) (ps : List ByteArray) (w1 W W2 : World) (h : Wr B b L w1 W) (hb : Below W.heap.size W W2) (hB : B ≤ w1.heap.size) (hl : L.length + (catB ps).length ≤ 1000000000000) (hps : ps.length ≤ 100) :
    Calls Tryz.prog 59 #[.pointer (some ⟨b, 0, none⟩), .slice (some ⟨W2.heap.size, 0, none⟩) ps.length ps.length] (W2.alloc (.cells (ps.map Value.string).toArray 9)) fun e w' => e = .returned (.tuple #[]) ∧ Wr B b (L ++ catB ps) w1 w' := by
  have h2 := h.up hb hB
  have h3 : Wr B b L w1 (W2.alloc (.cells (ps.map Value.string).toArray 9)) := h2.up ((Below.refl _ _).alloc (Nat.le_refl _) _) hB
  have hlt := h2.1.lt
  refine (writeAll_any B b W2.heap.size L ps _ h3.1 (Nat.le_trans hB h3.2.1.size) (heap_alloc_new _ _) (by omega) hl hps).mono ?_
  rintro e w' ⟨rfl, hw⟩
  exact ⟨rfl, h3.next hw⟩
def keyB (key : ByteArray) : Bytes := if key = noB then [] else [32, 35, 61, 34] ++ E.escL key.data.toList ++ [34]
theorem prT_eq (t : Tr) : prT t = 60 :: (t.tag.data.toList ++ keyB t.key ++ t.as.flatMap attB) ++ (if t.text = noB ∧ t.kids = [] then [47, 62] else 62 :: (E.escL t.text.data.toList ++ (prL t.kids ++ ([60, 47] ++ (t.tag.data.toList ++ [62]))))) := by cases t; rw [prT]; rfl
/-- Strings that may be escaped. -/
def fineN (t : Tr) : Prop := t.key.size ≤ 900000 ∧ t.text.size ≤ 900000 ∧ ∀ a ∈ t.as, a.2.size ≤ 900000
def WriteT (t : Tr) : Prop := ∀ (x : NV) (B b : Nat) (l : Bytes) (w : World), TreeAt w B t x → BB w B b l → Vars w → 4 ≤ B → B ≤ w.heap.size → l.length + (prT t).length ≤ 100000000000 →
    Calls Tryz.prog 33 #[.pointer (some ⟨b, 0, none⟩), nodeV t x] w fun e w' => e = .returned (.tuple #[]) ∧ Wr B b (l ++ prT t) w w'
theorem flat_take {l : List At} {k : Nat} (hk : k < l.length) : (l.take (k + 1)).flatMap attB = (l.take k).flatMap attB ++ attB l[k] := by
  rw [List.take_succ_eq_append_getElem hk, List.flatMap_append]; simp
theorem flat_take_le (l : List At) (k : Nat) : ((l.take k).flatMap attB).length ≤ (l.flatMap attB).length := by
  have := congrArg (fun l => (l.flatMap attB).length) (List.take_append_drop k l)
  simp only [List.flatMap_append, List.length_append] at this
  omega
theorem prL_take {l : List Tr} {k : Nat} (hk : k < l.length) : prL (l.take (k + 1)) = prL (l.take k) ++ prT l[k] := by
  rw [List.take_succ_eq_append_getElem hk, prL_append]; simp [prL]
theorem prL_take_le (l : List Tr) (k : Nat) : (prL (l.take k)).length ≤ (prL l).length := by
  have := congrArg (fun l => (prL l).length) (List.take_append_drop k l)
  simp only [prL_append, List.length_append] at this
  omega
set_option maxHeartbeats 16000000 in
theorem write_any : ∀ t : Tr, GoodT t → AllT fineN t → WriteT t := by
  refine tr_ind fun t ih hg hf => ?_
  intro x B b l w ht hbb hv hB4 hB hlen
  obtain ⟨-, -, -, hal, -, hkl⟩ := hg.sizes
  have hfn : fineN t ∧ ∀ k ∈ t.kids, AllT fineN k := by cases hf with | mk h sub => exact ⟨h, sub⟩
  obtain ⟨⟨hf1, hf2, hf3⟩, hfk⟩ := hfn
  have hIH : ∀ k ∈ t.kids, WriteT k := fun k hk => ih k hk (by cases hg with | mk h1 h2 h3 h4 h5 h6 sub => exact sub k hk) (hfk k hk)
  obtain ⟨N, hN⟩ : ∃ N, N = w.heap.size := ⟨_, rfl⟩
  obtain ⟨w1, hw1⟩ : ∃ w1, w1 = boxW w t x := ⟨_, rfl⟩
  have hb1 : Below w.heap.size w w1 := by rw [hw1]; exact below_box w t x
  have hbh : w1.heap[N]? = some (.cells #[.string t.tag, .string t.key, .string t.text, .slice x.A t.as.length x.ca, .slice x.K t.kids.length x.ck] 25 (0, 0)) := by rw [hw1, hN]; exact heap_alloc_new w _
  have hbw := hbb.lt
  have HBX := Lib.hid (show ∀ W, E.Stands b w1 W → KidCells W N 0 t x from fun W hW => by
    have := hW _ _ _ _ (show N ≠ b by omega) (by decide) hbh
    have e : ∀ j, W.cell? ⟨N, j, none⟩ = (#[.string t.tag, .string t.key, .string t.text, .slice x.A t.as.length x.ca, .slice x.K t.kids.length x.ck] : Array Value)[j]? := fun j => cell_of_row _ _ _ _ _ (0, 0) this
    exact ⟨by rw [e]; rfl, by rw [e]; rfl, by rw [e]; rfl, by rw [e]; rfl, by rw [e]; rfl⟩)
  have hB1 : B ≤ w1.heap.size := Nat.le_trans hB hb1.size
  have H1 := Lib.hid (show Wr B b l w1 w1 from .of (hbb.up hb1) (Below.refl _ _) hB1)
  have HT := Lib.hid (ht.keepB (hb1.mono hB)); have HV := Lib.hid (hv.belowC hb1); have HIH := Lib.hid hIH
  have HLEN := Lib.hid hlen
  have HW1 := Lib.hid hw1; have HB1 := Lib.hid (show ∀ W, Wr B b (l ++ prT t) w1 W → Wr B b (l ++ prT t) w W from fun W h => ⟨h.1, (hb1.mono hB).trans h.2.1, (E.stands_below hb1).trans h.2.2⟩)
  obtain ⟨T, hT⟩ : ∃ T, T = l ++ prT t := ⟨_, rfl⟩
  have HTT := Lib.hid hT
  rw [← hT]
  rw [← hT] at HB1
  have HVW := Lib.hid (show ∀ L W, Wr B b L w1 W → Vars W from fun L W h => HV.out.below hB4 h.2.1)
  obtain ⟨L1, hL1⟩ : ∃ L1, L1 = l ++ catB [⟨#[60]⟩, t.tag] := ⟨_, rfl⟩
  have hpr := prT_eq t
  have hbig : l.length + (1 + t.tag.size + (keyB t.key).length + (t.as.flatMap attB).length) + (if t.text = noB ∧ t.kids = [] then [47, 62] else 62 :: (E.escL t.text.data.toList ++ (prL t.kids ++ ([60, 47] ++ (t.tag.data.toList ++ [62]))))).length ≤ 100000000000 := by
    have e := congrArg List.length hpr
    have e1 := size_list t.tag
    rw [List.length_append, List.length_cons, List.length_append, List.length_append] at e
    omega
  have hc1 : (catB [⟨#[60]⟩, t.tag]).length = 1 + t.tag.size := by
    have e1 := size_list t.tag
    rw [show catB [⟨#[60]⟩, t.tag] = [60] ++ (t.tag.data.toList ++ []) from rfl]
    simp only [List.length_append, List.length_cons, List.length_nil]; omega
  have C1 := all_step B b l [⟨#[60]⟩, t.tag] w1 w1 w1 H1.out (Below.refl _ _) hB1 (by rw [hc1]; omega) (by simp)
  rw [← hL1] at C1
  have HC1 := Lib.hid C1; have HBIG := Lib.hid hbig; have HL1 := Lib.hid hL1
  obtain ⟨c0, c1, c2, c3, c4⟩ := HBX.out w1 (E.Stands.refl _ _)
  clear hg hf ih hIH hw1 hb1 hbh hbb hv ht hlen hT hL1 hpr hbig C1 hfk
  go_enter Tryz.func33, Tryz.ntmps33
  go_upto_region 1 with (fail)
  rw [box_out HW1, show w.heap.size = N from hN.symm]
  clear hN HW1
  go_wp2_with fail
  refine HC1.out.mono ?_
  rintro e w2 ⟨rfl, hw2⟩
  have HW2 := Lib.hid hw2
  clear HC1 hw2 c0 c1 c2 c3 c4
  obtain ⟨c0, c1, c2, c3, c4⟩ := HBX.out w2 HW2.out.2.2
  obtain ⟨L2, hL2⟩ : ∃ L2, L2 = L1 ++ keyB t.key := ⟨_, rfl⟩
  have HL2 := Lib.hid hL2
  have hl1 : L1.length = l.length + (1 + t.tag.size) := by rw [HL1.out, List.length_append, hc1]
  have HS1 := Lib.hid hl1
  clear hL2 hc1 hl1
  go_upto_if 15 with (fail)
  obtain ⟨kb, hkb⟩ : ∃ kb, kb = t.key.toList.isEmpty := ⟨_, rfl⟩
  rw [← hkb]
  have HKB0 := Lib.hid hkb
  clear hkb
  go_cut [] from 16 (fun wc => RowKit.Hid (Wr B b L2 w1 wc))
  case first =>
    cases kb with
    | true =>
      have hk0 : t.key = noB := isEmpty_noB.1 HKB0.out.symm
      have HF := Lib.hid (show Wr B b L2 w1 w2 from by
        have := HW2.out
        rw [HL2.out, show keyB t.key = [] from if_pos hk0, List.append_nil]
        exact this)
      clear hk0
      go_wp2_with fail
      go_meet
      exact HF
    | false =>
      have hk0 : ¬ t.key = noB := fun e => by have := isEmpty_noB.2 e; rw [← HKB0.out] at this; cases this
      have HKB := Lib.hid (show keyB t.key = catB [⟨#[32, 35, 61, 34]⟩, E.str (E.escL t.key.data.toList), ⟨#[34]⟩] from by
        rw [show keyB t.key = _ from if_neg hk0]
        show _ = [32, 35, 61, 34] ++ (E.escL t.key.data.toList ++ ([34] ++ []))
        simp)
      have CE := Lib.hid (E.escape_any t.key w2 hf1 (HVW.out _ _ HW2.out))
      clear hk0
      go_wp2_with fail
      refine CE.out.mono ?_
      rintro e w3 ⟨rfl, hb3⟩
      have C2 := all_step B b L1 [⟨#[32, 35, 61, 34]⟩, E.str (E.escL t.key.data.toList), ⟨#[34]⟩] w1 w2 w3 HW2.out hb3 hB1 (by rw [← HKB.out, HS1.out]; have := HBIG.out; omega) (by simp)
      rw [← HKB.out, ← HL2.out] at C2
      have HC2 := Lib.hid C2
      clear C2 hb3 CE
      go_wp2_with fail
      refine HC2.out.mono ?_
      rintro e w4 ⟨rfl, hw4⟩
      have HW4 := Lib.hid hw4
      clear hw4 HC2
      go_wp2_with fail
      go_meet
      exact HW4
  case rest =>
    clear HW2 c0 c1 c2 c3 c4 HS1
    obtain ⟨c0, c1, c2, c3, c4⟩ := HBX.out wc hcut.out.2.2
    have hl2 : L2.length = l.length + (1 + t.tag.size + (keyB t.key).length) := by
      have e1 := size_list t.tag
      rw [HL2.out, HL1.out, show catB [⟨#[60]⟩, t.tag] = [60] ++ (t.tag.data.toList ++ []) from rfl]
      simp only [List.length_append, List.length_cons, List.length_nil]; omega
    have HS2 := Lib.hid hl2
    clear hl2
    go_wp2_with fail
    go_loopg [5, 25] t.as.length (fun m s5 s25 wr => ∃ k : Nat, s25 = .int .i64 k ∧ k ≤ t.as.length ∧ t.as.length - k ≤ m ∧ RowKit.Hid (Wr B b (L2 ++ (t.as.take k).flatMap attB) w1 wr))
    case atStart => exact ⟨0, rfl, by omega, by omega, Lib.hid (by simpa using hcut.out)⟩
    case round =>
      clear c0 c1 c2 c3 c4
      obtain ⟨k, rfl, hk, hm, HW⟩ := hrel
      by_cases hlt : k < t.as.length
      · have h1 : (k : Int) < (t.as.length : Int) := by omega
        obtain ⟨bq, off, p, hA, hbq, hp, a1, a2⟩ := trow_at (HT.out.keepB HW.out.2.1).att hlt
        obtain ⟨wB, hwB⟩ : ∃ wB, wB = wr.alloc (.cells #[.string p.1, .string p.2] 63) := ⟨_, rfl⟩
        obtain ⟨M, hM⟩ : ∃ M, M = wr.heap.size := ⟨_, rfl⟩
        have hbB : Below wr.heap.size wr wB := by rw [hwB]; exact (Below.refl _ _).alloc (Nat.le_refl _) _
        have hMe : wB.heap[M]? = some (.cells #[.string p.1, .string p.2] 63 (0, 0)) := by rw [hwB, hM]; exact heap_alloc_new wr _
        have m1 : wB.cell? ⟨M, 0, none⟩ = some (.string p.1) := by rw [cell_of_row _ _ _ _ _ (0, 0) hMe]; rfl
        have m2 : wB.cell? ⟨M, 1, none⟩ = some (.string p.2) := by rw [cell_of_row _ _ _ _ _ (0, 0) hMe]; rfl
        have hMlt : M < wB.heap.size := (Array.getElem?_eq_some_iff.1 hMe).1
        obtain ⟨L, hL⟩ : ∃ L, L = L2 ++ (t.as.take k).flatMap attB := ⟨_, rfl⟩
        have hwr := HW.out
        rw [← hL] at hwr
        have hpm : p ∈ t.as := by rw [hp]; exact List.getElem_mem _
        have HATT := Lib.hid (show attB p = catB [⟨#[32]⟩, p.1, ⟨#[61, 34]⟩, E.str (E.escL p.2.data.toList), ⟨#[34]⟩] from by
          show _ = [32] ++ (p.1.data.toList ++ ([61, 34] ++ (E.escL p.2.data.toList ++ ([34] ++ []))))
          simp [attB])
        have hlen : L.length + (attB p).length ≤ 1000000000000 := by
          have h2 := flat_take_le t.as (k + 1)
          rw [flat_take hlt, List.length_append, ← hp] at h2
          rw [hL, List.length_append, HS2.out]
          have := HBIG.out
          omega
        have CE := Lib.hid (E.escape_any p.2 wB.drew (hf3 p hpm) (vars_more ((HVW.out _ _ hwr).belowC hbB) (kept_drew wB 1 (fun _ => False)) (fun _ e => e.elim)))
        have HX := Lib.hid (show ∀ w5, Below wB.drew.heap.size wB.drew w5 → w5.cell? ⟨M, 0, none⟩ = some (.string p.1) ∧ w5.cell? ⟨M, 1, none⟩ = some (.string p.2) from fun w5 h5 => ⟨(h5.cell (p := ⟨M, 0, none⟩) hMlt).trans m1, (h5.cell (p := ⟨M, 1, none⟩) hMlt).trans m2⟩)
        have CW := Lib.hid (show ∀ w5, Below wB.drew.heap.size wB.drew w5 → Calls Tryz.prog 59 #[.pointer (some ⟨b, 0, none⟩), .slice (some ⟨w5.heap.size, 0, none⟩) 5 5] (w5.alloc (.cells #[.string ⟨#[32]⟩, .string p.1, .string ⟨#[61, 34]⟩, .string (E.str (E.escL p.2.data.toList)), .string ⟨#[34]⟩] 9)) fun e w' => e = .returned (.tuple #[]) ∧ Wr B b (L ++ attB p) w1 w' from fun w5 h5 => by
          have h6 : Below wr.heap.size wr w5 := hbB.trans ((show Below wB.heap.size wB w5 from (below_drewN _ wB 1 : Below wB.heap.size wB (wB.drewN 1)).trans h5).mono hbB.size)
          have := all_step B b L [⟨#[32]⟩, p.1, ⟨#[61, 34]⟩, E.str (E.escL p.2.data.toList), ⟨#[34]⟩] w1 wr w5 hwr h6 hB1 (by rw [← HATT.out]; exact hlen) (by simp)
          rw [← HATT.out] at this
          exact this)
        have HNX := Lib.hid (show L ++ attB p = L2 ++ (t.as.take (k + 1)).flatMap attB by rw [hL, flat_take hlt, ← hp, List.append_assoc])
        have HWB := Lib.hid (show wr.alloc (.cells #[.string p.1, .string p.2] 63) = wB from hwB.symm)
        have HM := Lib.hid hM.symm
        have hwk : IntKind.i64.wrap ((k : Int) + 1) = (k : Int) + 1 := by rw [IntKind.wrap_i64]; omega
        clear hwB hbB hMe hMlt hL hwr hpm hlen hp hM HW
        go_upto_region 7 with (fail)
        rw [HWB.out, HM.out]
        go_region_law (first | (go_simp; go_at_call 60; refine CE.out.mono ?_; rintro e w5 ⟨rfl, hb5⟩; obtain ⟨n1, n2⟩ := HX.out w5 hb5) | (go_simp; go_at_call 59; refine (CW.out _ (by assumption)).mono ?_; rintro e w6 ⟨rfl, hw6⟩))
        all_goals
          have HW6 := Lib.hid (show Wr B b (L2 ++ (t.as.take (k + 1)).flatMap attB) w1 w6 from by rw [← HNX.out]; exact hw6)
          clear hw6
          go_wp2_with fail
          try rw [← hA]
          go_roundg (t.as.length - (k + 1))
          case measure => omega
          case rel => exact ⟨k + 1, by go_num, by omega, by omega, HW6⟩
      · have h1 : ¬ (k : Int) < (t.as.length : Int) := by omega
        obtain ⟨L3, hL3⟩ : ∃ L3, L3 = L2 ++ t.as.flatMap attB := ⟨_, rfl⟩
        have HW3 := Lib.hid (show Wr B b L3 w1 wr from by
          have := HW.out
          rw [List.take_of_length_le (by omega), ← hL3] at this
          exact this)
        have hl3 : L3.length = l.length + (1 + t.tag.size + (keyB t.key).length + (t.as.flatMap attB).length) := by rw [hL3, List.length_append, HS2.out]; omega
        have hl3e : L3 = l ++ (60 :: (t.tag.data.toList ++ keyB t.key ++ t.as.flatMap attB)) := by
          rw [hL3, HL2.out, HL1.out, show catB [⟨#[60]⟩, t.tag] = [60] ++ (t.tag.data.toList ++ []) from rfl]; simp
        have HL3 := Lib.hid hl3e; have HS3 := Lib.hid hl3
        obtain ⟨e0, he0⟩ : ∃ e0 : Bool, e0 = decide (t.text = noB ∧ t.kids = []) := ⟨_, rfl⟩
        have HE0 := Lib.hid he0
        clear hL3 hl3 hl3e HW he0
        obtain ⟨c0, c1, c2, c3, c4⟩ := HBX.out wr HW3.out.2.2
        go_upto_region 9 with (fail)
        go_cut [46] from 38 (fun s46 wc => s46 = .bool e0 ∧ wc = wr)
        case first =>
          by_cases hk0 : t.text = noB
          · have hkl : t.text.toList = [] := by rw [hk0, Lib.toList_data]; rfl
            by_cases hks : t.kids = []
            · have hkz : ((t.kids.length : Int) == 0) = true := by rw [hks]; rfl
              have hee : e0 = true := by rw [HE0.out]; simp [hk0, hks]
              clear hk0 hks
              go_wp2_with fail
              go_meet
              exact ⟨by rw [hee], rfl⟩
            · have hkz : ((t.kids.length : Int) == 0) = false := by
                rw [beq_eq_false_iff_ne]
                intro e
                exact hks (List.eq_nil_of_length_eq_zero (by omega))
              have hee : e0 = false := by rw [HE0.out]; simp [hks]
              clear hk0 hks
              go_wp2_with fail
              go_meet
              exact ⟨by rw [hee], rfl⟩
          · have hkl : (t.text.toList == []) = false := by
              rw [Lib.toList_data, beq_eq_false_iff_ne]
              intro e
              apply hk0
              rw [← strB_eq t.text, e]; rfl
            have hkl2 : ¬ t.text.toList = [] := by simpa using hkl
            have hee : e0 = false := by rw [HE0.out]; simp [hk0]
            clear hk0
            go_wp2_with fail
            go_meet
            exact ⟨by rw [hee], rfl⟩
        case rest =>
          obtain ⟨rfl, rfl⟩ := hcut
          cases e0 with
          | true =>
            have hee : t.text = noB ∧ t.kids = [] := of_decide_eq_true HE0.out.symm
            have C3 := all_step B b L3 [⟨#[47, 62]⟩] w1 wc wc HW3.out (Below.refl _ _) hB1 (by
              have := HBIG.out; rw [if_pos hee] at this; rw [HS3.out, catB_one]; show _ + 2 ≤ _; simp only [List.length_cons, List.length_nil] at this; omega) (by simp)
            have HFT := Lib.hid (show L3 ++ catB [⟨#[47, 62]⟩] = T by
              rw [HTT.out, prT_eq, if_pos hee, HL3.out, List.append_assoc]; rfl)
            rw [HFT.out] at C3
            have HC3 := Lib.hid C3
            clear C3 hee
            go_wp2_with fail
            refine HC3.out.mono ?_
            rintro e w9 ⟨rfl, hw9⟩
            have HF := Lib.hid (HB1.out w9 hw9)
            clear hw9 HC3 c0 c1 c2 c3 c4
            go_wp2_with fail
            first | go_end0 | (refine bodyPost_ret (results_none rfl _ _ _) rfl ?_)
            exact ⟨rfl, HF.out⟩
          | false =>
            have hee : ¬ (t.text = noB ∧ t.kids = []) := of_decide_eq_false HE0.out.symm
            have hbig2 := HBIG.out
            rw [if_neg hee] at hbig2
            have HBG := Lib.hid (show l.length + (1 + t.tag.size + (keyB t.key).length + (t.as.flatMap attB).length) + (1 + (E.escL t.text.data.toList).length + (prL t.kids).length + 2 + t.tag.size + 1) ≤ 100000000000 by
              have e1 := size_list t.tag
              simp only [List.length_append, List.length_cons, List.length_nil] at hbig2
              omega)
            have HPR := Lib.hid (show T = L3 ++ (62 :: (E.escL t.text.data.toList ++ (prL t.kids ++ ([60, 47] ++ (t.tag.data.toList ++ [62]))))) by
              rw [HTT.out, prT_eq, if_neg hee, HL3.out]
              exact (List.append_assoc _ _ _).symm)
            have CE := Lib.hid (E.escape_any t.text wc hf2 (HVW.out _ _ HW3.out))
            clear hee hbig2 HE0 HBIG HTT
            go_wp2_with fail
            refine CE.out.mono ?_
            rintro e w5 ⟨rfl, hb5⟩
            obtain ⟨L4, hL4⟩ : ∃ L4, L4 = L3 ++ catB [⟨#[62]⟩, E.str (E.escL t.text.data.toList)] := ⟨_, rfl⟩
            have hcl : (catB [⟨#[62]⟩, E.str (E.escL t.text.data.toList)]).length = 1 + (E.escL t.text.data.toList).length := by
              rw [show catB [⟨#[62]⟩, E.str (E.escL t.text.data.toList)] = [62] ++ (E.escL t.text.data.toList ++ []) from rfl]
              simp only [List.length_append, List.length_cons, List.length_nil]; omega
            have C4 := all_step B b L3 [⟨#[62]⟩, E.str (E.escL t.text.data.toList)] w1 wc w5 HW3.out hb5 hB1 (by rw [hcl, HS3.out]; have := HBG.out; omega) (by simp)
            rw [← hL4] at C4
            have HC4 := Lib.hid C4
            have HS4 := Lib.hid (show L4.length = l.length + (1 + t.tag.size + (keyB t.key).length + (t.as.flatMap attB).length) + (1 + (E.escL t.text.data.toList).length) by rw [hL4, List.length_append, hcl, HS3.out])
            have HPR4 := Lib.hid (show T = L4 ++ (prL t.kids ++ ([60, 47] ++ (t.tag.data.toList ++ [62]))) by
              rw [HPR.out, hL4, show catB [⟨#[62]⟩, E.str (E.escL t.text.data.toList)] = [62] ++ (E.escL t.text.data.toList ++ []) from rfl]; simp)
            clear C4 hb5 hL4 hcl CE HPR c0 c1 c2 c3 c4
            go_wp2_with fail
            refine HC4.out.mono ?_
            rintro e w6 ⟨rfl, hw6⟩
            have HW6 := Lib.hid hw6
            clear hw6 HC4
            obtain ⟨c0, c1, c2, c3, c4⟩ := HBX.out w6 HW6.out.2.2
            go_wp2_with fail
            go_loopg [7, 59] t.kids.length (fun m s7 s59 wr => ∃ k : Nat, s59 = .int .i64 k ∧ k ≤ t.kids.length ∧ t.kids.length - k ≤ m ∧ RowKit.Hid (Wr B b (L4 ++ prL (t.kids.take k)) w1 wr))
            case atStart => exact ⟨0, rfl, by omega, by omega, Lib.hid (by simpa [prL] using HW6.out)⟩
            case round =>
              clear c0 c1 c2 c3 c4
              obtain ⟨j, rfl, hj, hmj, HQ⟩ := hrel
              by_cases hjt : j < t.kids.length
              · have h2 : (j : Int) < (t.kids.length : Int) := by omega
                obtain ⟨bk, off, kd, y, hK, hbk, hkd, hkc, hkt⟩ := (HT.out.keepB HQ.out.2.1).kid hjt
                obtain ⟨p0, p1, p2, p3, p4⟩ := hkc
                obtain ⟨wB, hwB⟩ : ∃ wB, wB = boxW wr kd y := ⟨_, rfl⟩
                have hbB : Below wr.heap.size wr wB := by rw [hwB]; exact below_box wr kd y
                have hbx : KidCells wB wr.heap.size 0 kd y := by rw [hwB]; exact box_node wr kd y
                obtain ⟨L, hL⟩ : ∃ L, L = L4 ++ prL (t.kids.take j) := ⟨_, rfl⟩
                have hwr := HQ.out
                rw [← hL] at hwr
                have hwb := hwr.up hbB hB1
                have hNX : L ++ prT kd = L4 ++ prL (t.kids.take (j + 1)) := by rw [hL, prL_take hjt, ← hkd, List.append_assoc]
                have hlen : L.length + (prT kd).length ≤ 100000000000 := by
                  have h3 := prL_take_le t.kids (j + 1)
                  rw [prL_take hjt, List.length_append, ← hkd] at h3
                  rw [hL, List.length_append, HS4.out]
                  have := HBG.out
                  omega
                have CK := HIH.out kd (by rw [hkd]; exact List.getElem_mem _) y B b L wB (hkt.keepB (hbB.mono (Nat.le_trans hB1 hwr.2.1.size))) hwb.1 (HVW.out _ _ hwb) hB4 (Nat.le_trans hB1 hwb.2.1.size) hlen
                rw [hNX] at CK
                have HCK := Lib.hid CK; have HWB2 := Lib.hid hwB; have HWQ := Lib.hid hwb
                have hwj : IntKind.i64.wrap ((j : Int) + 1) = (j : Int) + 1 := by rw [IntKind.wrap_i64]; omega
                obtain ⟨k0, k1, k2, k3, k4⟩ := hbx
                clear hwB hbB hL hwr hwb hNX hlen CK hkd hkt HQ
                go_upto_region 15 with (fail)
                rw [box_out HWB2]
                go_wp2_with fail
                refine HCK.out.mono ?_
                rintro e w8 ⟨rfl, hw8⟩
                have HW8 := Lib.hid (HWQ.out.next hw8)
                clear hw8 HCK k0 k1 k2 k3 k4 p0 p1 p2 p3 p4
                go_wp2_with fail
                try rw [← hK]
                go_roundg (t.kids.length - (j + 1))
                case measure => omega
                case rel => exact ⟨j + 1, by go_num, by omega, by omega, HW8⟩
              · have h2 : ¬ (j : Int) < (t.kids.length : Int) := by omega
                obtain ⟨L5, hL5⟩ : ∃ L5, L5 = L4 ++ prL t.kids := ⟨_, rfl⟩
                have hw5 : Wr B b L5 w1 wr := by
                  have := HQ.out
                  rw [List.take_of_length_le (by omega), ← hL5] at this
                  exact this
                obtain ⟨c0, c1, c2, c3, c4⟩ := HBX.out wr hw5.2.2
                have hcl : (catB [⟨#[60, 47]⟩, t.tag, ⟨#[62]⟩]).length = 2 + t.tag.size + 1 := by
                  have e1 := size_list t.tag
                  rw [show catB [⟨#[60, 47]⟩, t.tag, ⟨#[62]⟩] = [60, 47] ++ (t.tag.data.toList ++ ([62] ++ [])) from rfl]
                  simp only [List.length_append, List.length_cons, List.length_nil]; omega
                have C6 := all_step B b L5 [⟨#[60, 47]⟩, t.tag, ⟨#[62]⟩] w1 wr wr hw5 (Below.refl _ _) hB1 (by rw [hcl, hL5, List.length_append, HS4.out]; have := HBG.out; omega) (by simp)
                have HFT := Lib.hid (show L5 ++ catB [⟨#[60, 47]⟩, t.tag, ⟨#[62]⟩] = T by
                  rw [HPR4.out, hL5, show catB [⟨#[60, 47]⟩, t.tag, ⟨#[62]⟩] = [60, 47] ++ (t.tag.data.toList ++ ([62] ++ [])) from rfl]; simp)
                rw [HFT.out] at C6
                have HC6 := Lib.hid C6
                clear C6 hcl hw5 hL5 HQ
                go_wp2_with fail
                refine HC6.out.mono ?_
                rintro e w9 ⟨rfl, hw9⟩
                have HF := Lib.hid (HB1.out w9 hw9)
                clear hw9 HC6 c0 c1 c2 c3 c4
                go_wp2_with fail
                go_end0
                exact ⟨rfl, HF.out⟩
end Go.Proofs.YtjnhcoflmechmaaGreatDoor.M
