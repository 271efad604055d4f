/-
  What is read of a short text is within the reach: plain mathematics. | The law DatumReads: its walk.
-/
import Derived.Test.YtjnhcoflmechmaaGreatDoorDGroup
import Derived.Test.YtjnhcoflmechmaaGreatDoorDS16W
import Derived.Test.YtjnhcoflmechmaaGreatDoorDRefP
import Derived.Test.YtjnhcoflmechmaaGreatDoorDSame
namespace Go.Proofs.YtjnhcoflmechmaaGreatDoor
open Go.RowKit
set_option linter.unusedVariables false
theorem whN_i64 {w : Bytes} (h : (C.whN w).2 = true) : C.I64 (C.whN w).1 := by
  unfold C.whN C.wholeN at h ⊢
  split
  · rename_i h1; rw [if_pos h1] at h; cases h
  · rename_i h1
    rw [if_neg h1] at h
    split
    · rename_i v hv
      rw [hv] at h
      simp only at h
      split
      · exact Lib.atoiAll_bounds hv
      · rename_i e; rw [if_neg e] at h; cases h
    · rename_i hv
      split at h
      · rename_i v hv'; exact absurd hv' (hv v)
      · cases h
theorem form_pos_b : ((List.range 256).all fun i => decide (1 ≤ (E.form (UInt8.ofNat i)).length)) = true := by decide +kernel
theorem esc_len : ∀ t : Bytes, t.length ≤ (E.escL t).length
  | [] => Nat.zero_le _
  | c :: r => by
    have h := E.byte_all (p := fun c => decide (1 ≤ (E.form c).length)) form_pos_b c
    have h1 : 1 ≤ (E.form c).length := of_decide_eq_true h
    have e : E.escL (c :: r) = E.form c ++ E.escL r := by simp [E.escL]
    rw [e, List.length_append, List.length_cons]
    have := esc_len r
    omega
theorem nmB_size {n : ByteArray} (h : nmB n = true) : n.size ≤ 32 := by
  unfold nmB at h
  simp only [Bool.and_eq_true, decide_eq_true_eq] at h
  exact h.1.1.2
theorem i64_small {k : Int} (h0 : 0 ≤ k) (h1 : k ≤ 5) : C.I64 k := by unfold C.I64; omega
theorem good_leaf' (k n : Int) (t : ByteArray) (h1 : C.I64 k) (h2 : C.I64 n) (h3 : t.size ≤ 100000000) : GoodD (.mk k n t [] []) := .mk h1 h2 h3 (by simp [Dt.names]) (fun n h => by cases h) (by simp [Dt.list]) (fun k h => by cases h)
theorem const_good {w : Bytes} {d : Dt} (h : constD w = some d) : GoodD d := by
  have hz : noB.size ≤ 100000000 := by decide
  unfold constD at h
  split at h
  · cases h; exact good_leaf' _ _ _ (i64_small (by decide) (by decide)) (i64_small (by decide) (by decide)) hz
  · split at h
    · cases h; exact good_leaf' _ _ _ (i64_small (by decide) (by decide)) (i64_small (by decide) (by decide)) hz
    · split at h
      · cases h; exact good_leaf' _ _ _ (i64_small (by decide) (by decide)) (i64_small (by decide) (by decide)) hz
      · cases h
theorem good_read : ∀ n : Nat, n ≤ 100000 → (∀ (op : Nat) (l l' : Bytes) (d : Dt), l.length ≤ n → valP op l = .ok d l' → GoodD d) ∧ (∀ (k5 : Bool) (op : Nat) (l l' : Bytes) (p : List ByteArray × List Dt), l.length ≤ n → elemsP k5 op l = .ok p l' → (∀ x ∈ p.2, GoodD x) ∧ p.2.length ≤ l.length ∧ (∀ x ∈ p.1, x.size ≤ maxLen) ∧ p.1.length ≤ l.length) := by
  intro n
  have hz : noB.size ≤ 100000000 := by decide
  induction n with
  | zero =>
    intro _
    refine ⟨fun op l l' d hl h => ?_, fun k5 op l l' p hl h => ?_⟩
    · have : l = [] := List.length_eq_zero_iff.1 (by omega)
      subst this; rw [valP] at h; cases h
    · have := (elems_suf h).2; omega
  | succ n ih =>
    intro hn
    obtain ⟨ihv, ihe⟩ := ih (by omega)
    have hv : ∀ (op : Nat) (l l' : Bytes) (d : Dt), l.length ≤ n + 1 → valP op l = .ok d l' → GoodD d := by
      intro op l l' d hl h
      cases l with
      | nil => rw [valP] at h; cases h
      | cons c r =>
        rw [valP] at h
        split at h
        · rename_i hc
          split at h
          · rename_i d' hd; cases h; exact const_good hd
          · cases h
        · split at h
          · split at h
            · rename_i hw; cases h; exact good_leaf' _ _ _ (i64_small (by decide) (by decide)) (whN_i64 hw) hz
            · cases h
          · split at h
            · obtain ⟨h1, h2, t, rfl, h3⟩ := textP_ok h
              have h4 := esc_len t
              have h5 := congrArg List.length h3
              simp only [List.length_append, List.length_cons] at h5 hl
              exact good_leaf' _ _ _ (i64_small (by decide) (by decide)) (i64_small (by decide) (by decide)) (by rw [← size_list, strB_data]; omega)
            · split at h
              · split at h
                · cases h
                · split at h
                  · rename_i x l1 hb
                    cases h
                    refine good_leaf' _ _ _ ?_ (i64_small (by decide) (by decide)) hz
                    split <;> exact i64_small (by decide) (by decide)
                  · split at h
                    · rename_i p l1 he
                      cases h
                      simp only [List.length_cons] at hl
                      obtain ⟨g1, g2, g3, g4⟩ := ihe _ _ _ _ _ (by omega) he
                      refine .mk ?_ (show C.I64 0 from i64_small (by decide) (by decide)) hz (by simp only [Dt.names]; omega) g3 (by simp only [Dt.list]; omega) g1
                      simp only [Dt.kind]
                      split <;> exact i64_small (by decide) (by decide)
                    · cases h
              · cases h
    refine ⟨hv, fun k5 op l l' p hl h => ?_⟩
    rw [elemsP_eq] at h
    split at h
    · cases h
    · rename_i ns l1 hnm
      have hs := nameP_ok hnm
      have hns : (∀ x ∈ ns, x.size ≤ maxLen) ∧ ns.length ≤ 1 := by
        rcases hs.2 with ⟨_, rfl, _⟩ | ⟨_, m, rfl, hm, _⟩
        · exact ⟨fun x hx => (by cases hx), by simp⟩
        · exact ⟨fun x hx => (by simp at hx; subst hx; have := nmB_size hm; unfold maxLen; omega), by simp⟩
      split at h
      · cases h
      · rename_i x l2 hx
        have h2 := (val_suf hx).2
        have hle := hs.1.length_le
        have gx := hv _ _ _ _ (by omega) hx
        unfold restP at h
        split at h
        · rename_i y l3 hb
          cases h
          refine ⟨fun z hz => (by simp at hz; subst hz; exact gx), by simp; omega, hns.1, ?_⟩
          simp only; omega
        · split at h
          · cases h
          · rename_i y l3 hb
            have e := byteP_ok hb
            subst e
            simp only [List.length_cons] at h2
            split at h
            · rename_i q l4 he
              cases h
              obtain ⟨g1, g2, g3, g4⟩ := ihe _ _ _ _ _ (by omega) he
              refine ⟨fun z hz => ?_, by simp only [List.length_cons]; omega, fun z hz => ?_, by simp only [List.length_append]; omega⟩
              · rcases List.mem_cons.1 hz with rfl | hz
                · exact gx
                · exact g1 z hz
              · rcases List.mem_append.1 hz with hz | hz
                · exact hns.1 z hz
                · exact g3 z hz
            · cases h
theorem good_val {op : Nat} {l l' : Bytes} {d : Dt} (hl : l.length ≤ 100000) (h : valP op l = .ok d l') : GoodD d := (good_read l.length hl).1 op l l' d (Nat.le_refl _) h
end Go.Proofs.YtjnhcoflmechmaaGreatDoor

namespace Go.Proofs.YtjnhcoflmechmaaGreatDoor
open Go.RowKit Go.Sort
set_option linter.unusedVariables false
set_option maxRecDepth 100000
theorem size_three {s : ByteArray} (h : s.size ≤ 3000) {op : Nat} {d : Dt} {l : Bytes} (hv : valP op (restL s 0) = .ok d l) : GoodD d := good_val (by rw [restL_len]; omega) hv
theorem byteP_er {c : UInt8} {l : Bytes} {n : Nat} {e : Int} (h : byteP c l = .bad n e) : e = 2 := (byteP_bad h).2
theorem textP_er2 {r : Bytes} {n : Nat} {er : Int} (h : textP r = .bad n er) : er = 2 := (textP_er h).1
theorem nameP_er {k5 : Bool} {l : Bytes} {n : Nat} {er : Int} (h : nameP k5 l = .bad n er) : er = 2 := by
  unfold nameP at h
  cases k5 with
  | false => simp at h
  | true =>
    simp only [if_true] at h
    split at h
    · split at h
      · cases h
      · rename_i hb; cases h; exact byteP_er hb
    · cases h; rfl
theorem bad_read : ∀ n : Nat, (∀ (op : Nat) (l : Bytes) (m : Nat) (e : Int), l.length ≤ n → valP op l = .bad m e → e = 2 ∨ e = 11) ∧ (∀ (k5 : Bool) (op : Nat) (l : Bytes) (m : Nat) (e : Int), l.length ≤ n → elemsP k5 op l = .bad m e → e = 2 ∨ e = 11) := by
  intro n
  have hv : ∀ n, (∀ (k5 : Bool) (op : Nat) (l : Bytes) (m : Nat) (e : Int), l.length < n → elemsP k5 op l = .bad m e → e = 2 ∨ e = 11) → ∀ (op : Nat) (l : Bytes) (m : Nat) (e : Int), l.length ≤ n → valP op l = .bad m e → e = 2 ∨ e = 11 := by
    intro n ihe op l m e hl h
    cases l with
    | nil => rw [valP] at h; cases h; exact .inl rfl
    | cons c r =>
      simp only [List.length_cons] at hl
      rw [valP] at h
      split at h
      · split at h
        · cases h
        · cases h; exact .inl rfl
      · split at h
        · split at h
          · cases h
          · cases h; exact .inl rfl
        · split at h
          · exact .inl (textP_er2 h)
          · split at h
            · split at h
              · cases h; exact .inr rfl
              · split at h
                · cases h
                · split at h
                  · cases h
                  · rename_i he; cases h; exact ihe _ _ _ _ _ (by omega) he
            · cases h; exact .inl rfl
  have he : ∀ n, (∀ (k5 : Bool) (op : Nat) (l : Bytes) (m : Nat) (e : Int), l.length < n → elemsP k5 op l = .bad m e → e = 2 ∨ e = 11) → ∀ (k5 : Bool) (op : Nat) (l : Bytes) (m : Nat) (e : Int), l.length ≤ n → elemsP k5 op l = .bad m e → e = 2 ∨ e = 11 := by
    intro n ihe k5 op l m e hl h
    rw [elemsP_eq] at h
    split at h
    · rename_i hn; cases h; exact .inl (nameP_er hn)
    · rename_i ns l1 hnm
      have hle := (nameP_ok hnm).1.length_le
      split at h
      · rename_i hx; cases h; exact hv n ihe _ _ _ _ (by omega) hx
      · rename_i x l2 hx
        have h2 := (val_suf hx).2
        unfold restP at h
        split at h
        · cases h
        · split at h
          · rename_i hb; cases h; exact .inl (byteP_er hb)
          · rename_i y l3 hb
            have e2 := byteP_ok hb
            subst e2
            simp only [List.length_cons] at h2
            split at h
            · cases h
            · rename_i hq; cases h; exact ihe _ _ _ _ _ (by omega) hq
  induction n with
  | zero => exact ⟨hv 0 (fun _ _ _ _ _ h => by omega), he 0 (fun _ _ _ _ _ h => by omega)⟩
  | succ n ih => exact ⟨hv (n + 1) (fun k5 op l m e hl h => ih.2 k5 op l m e (by omega) h), he (n + 1) (fun k5 op l m e hl h => ih.2 k5 op l m e (by omega) h)⟩
theorem bad_er {op : Nat} {l : Bytes} {n : Nat} {e : Int} (h : valP op l = .bad n e) : e = 2 ∨ e = 11 := (bad_read l.length).1 op l n e (Nat.le_refl _) h
theorem says_text {s : ByteArray} {d : Dt} {a : Nat} (h : ParSays s d a 0) : RightP d ∧ strB (textD d) = s := by
  generalize he : (0 : Int) = er at h
  cases h with
  | good d h hr =>
    refine ⟨hr, ?_⟩
    have := val_exact h
    rw [List.append_nil] at this
    rw [← this]
    show strB (s.data.toList.drop 0) = s
    rw [List.drop_zero, strB_eq]
  | wrong d h hr => cases he
  | more d c l h => cases he
  | bad n er h =>
    exfalso
    subst he
    have := bad_er h
    omega
def TrueP (w : World) (e : Ending) (w' : World) : Prop := e = .returned (.bool true) ∧ Below w.heap.size w w'
theorem SameP.true {w W w' : World} {e : Ending} (hb : Below w.heap.size w W) (h : SameP W e w') : TrueP w e w' := ⟨h.1, hb.trans (h.2.mono hb.size)⟩
set_option maxHeartbeats 8000000 in
theorem law8_any (s : ByteArray) (w : World) (hv : Vars w) : Calls Tryz.prog 8 #[.string s] w (TrueP w) := by
  by_cases hbig : 3000 < s.size
  · have hb2 : (3000 : Int) < (s.size : Int) := by omega
    have CS := Lib.hid (same_any w hv)
    clear hv hbig
    go_enter Tryz.func8, Tryz.ntmps8
    go_wp2_with fail
    refine CS.out.mono ?_
    rintro e w1 ⟨rfl, hb⟩
    have HF := Lib.hid hb
    clear hb
    go_wp2_with fail
    go_ret
    exact ⟨rfl, HF.out⟩
  · have hs : s.size ≤ 3000 := by omega
    have hb2 : ¬ (3000 : Int) < (s.size : Int) := by omega
    have C1 := Lib.hid (parse_any s w (by omega) hv (fun d l h _ => size_three hs h))
    have C2 := Lib.hid (fun W => refParse_any s W (by omega) (fun d l h => size_three hs h))
    have HV := Lib.hid hv
    clear hv hbig
    go_enter Tryz.func8, Tryz.ntmps8
    go_wp2_with fail
    refine C1.out.mono ?_
    rintro e w1 ⟨d, x, a, er, rfl, hsy, hda, hgd, hb1⟩
    obtain ⟨w2, hw2⟩ : ∃ w2, w2 = boxD w1 d x := ⟨_, rfl⟩
    have hb12 : Below w1.heap.size w1 w2 := by rw [hw2]; exact below_boxD _ _ _
    have hx2 : DatCells w2 w1.heap.size 0 d x := by rw [hw2]; exact box_dat _ _ _
    have HL2 := hx2.block_lt
    have HB2 := Lib.hid (hb1.trans (hb12.mono hb1.size))
    have HX2 := Lib.hid hx2; have HW2 := Lib.hid hw2; have HA2 := Lib.hid (hda.up hb12); have HG := Lib.hid hgd; have HSY := Lib.hid hsy
    clear hsy hda hgd hb1 hw2 hb12 hx2 C1
    go_upto_region 4 with (fail)
    rw [boxD_out HW2]
    clear HW2
    go_wp2_with fail
    refine (C2.out _).mono ?_
    rintro e w3 ⟨d', x', a', er', rfl, hsy, hda, hgd, hb3⟩
    obtain ⟨rfl, rfl, rfl⟩ := HSY.out.uniq hsy
    obtain ⟨w4, hw4⟩ : ∃ w4, w4 = boxD w3 d x' := ⟨_, rfl⟩
    have hb34 : Below w3.heap.size w3 w4 := by rw [hw4]; exact below_boxD _ _ _
    have hx4 : DatCells w4 w3.heap.size 0 d x' := by rw [hw4]; exact box_dat _ _ _
    have hb24 : Below w2.heap.size w2 w4 := hb3.trans (hb34.mono hb3.size)
    have HB4 := Lib.hid (HB2.out.trans (hb24.mono HB2.out.size))
    have C3 := Lib.hid (same16_any d d x x' w4 (HA2.out.up hb24) (hda.up hb34) HG.out HG.out)
    have HX4 := Lib.hid (HX2.out.below hb24 HL2)
    have HW4 := Lib.hid hw4; have HA4 := Lib.hid (HA2.out.up hb24)
    have HL4 : w1.heap.size < w4.heap.size := by have := hb24.size; omega
    obtain ⟨q0, q1, q2, q3, q4⟩ := hx4
    obtain ⟨p0, p1, p2, p3, p4⟩ := HX4.out
    clear hsy hda hgd hb3 hw4 hb34 hb24 C2 HB2 HX2 HA2
    go_upto_region 5 with (fail)
    rw [boxD_out HW4]
    clear HW4
    go_wp2_with fail
    refine C3.out.mono ?_
    rintro e w5 ⟨r, rfl, hr, hb5⟩
    obtain rfl : r = true := hr.2 rfl
    have C4 := Lib.hid (print_any d x w5 (HA4.out.up hb5) HG.out (HV.out.belowC (HB4.out.trans (hb5.mono HB4.out.size))))
    have HX5 := Lib.hid (HX4.out.below hb5 HL4)
    have HB5 := Lib.hid (HB4.out.trans (hb5.mono HB4.out.size))
    clear hr hb5 C3 HX4 HB4 HA4 p0 p1 p2 p3 p4 q0 q1 q2 q3 q4
    obtain ⟨p0, p1, p2, p3, p4⟩ := HX5.out
    go_wp2_with fail
    refine C4.out.mono ?_
    rintro e w6 ⟨hp, hb6⟩
    have HB6 := Lib.hid (HB5.out.trans (hb6.mono HB5.out.size))
    have CS := Lib.hid (same_any w6 (HV.out.belowC HB6.out))
    have HP := Lib.hid hp
    clear hp hb6 C4 HX5 HB5 p0 p1 p2 p3 p4
    by_cases h0 : er = 0
    · subst h0
      obtain ⟨hr, ht⟩ := says_text HSY.out
      have he : e = .returned (.tuple #[.string s, .int .i64 0]) := by
        rcases HP.out with ⟨_, he⟩ | ⟨hn, _⟩
        · rw [he, ht]
        · exact absurd hr hn
      subst he
      clear hr ht HP HSY
      go_wp2_with fail
      refine CS.out.mono ?_
      rintro e w7 ⟨rfl, hb7⟩
      have HF := Lib.hid (HB6.out.trans (hb7.mono HB6.out.size))
      clear hb7 CS HB6
      go_wp2_with fail
      go_ret
      exact ⟨rfl, HF.out⟩
    · have hne : (er != 0) = true := by simpa using h0
      obtain ⟨t, g, rfl⟩ : ∃ t g, e = .returned (.tuple #[.string t, .int .i64 g]) := by
        rcases HP.out with ⟨_, he⟩ | ⟨_, he⟩ <;> exact ⟨_, _, he⟩
      clear h0 HP HSY
      go_wp2_with fail
      refine CS.out.mono ?_
      rintro e w7 ⟨rfl, hb7⟩
      have HF := Lib.hid (HB6.out.trans (hb7.mono HB6.out.size))
      clear hb7 CS HB6
      go_wp2_with fail
      go_ret
      exact ⟨rfl, HF.out⟩
end Go.Proofs.YtjnhcoflmechmaaGreatDoor
