/-
  Plain: when a text is no number. | tendrilref02.Whole: what it answers.
-/
import Derived.Test.YtjnhcoflmechmaaGreatDoorCNumMath
namespace Go.Proofs.YtjnhcoflmechmaaGreatDoor.C
open Go.RowKit
set_option linter.unusedVariables false

theorem byte_nat (t : ByteArray) (k : Nat) : byte t k = ((t.data.toList.getD k 0).toNat : Int) := rfl
theorem getD_mem (l : List UInt8) (k : Nat) (h : k < l.length) : l.getD k 0 ∈ l := by
  rw [List.getD_eq_getElem?_getD, List.getElem?_eq_getElem h]; exact List.getElem_mem _
theorem val_take_succ (l : List UInt8) (k : Nat) (h : k < l.length) : val10 0 (l.take (k + 1)) = val10 0 (l.take k) * 10 + ((l.getD k 0).toNat - 48) := by
  have e : l.take (k + 1) = l.take k ++ [l.getD k 0] := by
    rw [List.take_succ_eq_append_getElem h]; simp [List.getD_eq_getElem?_getD, List.getElem?_eq_getElem h]
  rw [e, val10_append, val10_cons]
  unfold val10
  rw [List.foldl_nil]
theorem val_take_le (l : List UInt8) (k : Nat) : val10 0 (l.take k) ≤ val10 0 l := by
  have e : val10 0 l = val10 (val10 0 (l.take k)) (l.drop k) := by rw [← val10_append, List.take_append_drop]
  rw [e]
  exact val10_ge _ _

section
variable {s t : ByteArray} (ht : t.data.toList = tail_ s.data.toList)
include ht
theorem no_len (h : t.size < 1 ∨ 19 < t.size) : whN s.data.toList = (0, false) := by
  refine whN_none fun v hv => ?_
  have f := isNum_facts hv
  rw [← ht, size_list] at f
  omega
theorem no_digit {k : Nat} (hk : k < t.size) (h : byte t k < 48 ∨ 57 < byte t k) : whN s.data.toList = (0, false) := by
  refine whN_none fun v hv => ?_
  have f := (isNum_facts hv).1
  rw [← ht] at f
  have := f _ (getD_mem t.data.toList k (by rw [size_list]; exact hk))
  unfold Digit at this
  rw [byte_nat] at h
  omega
theorem no_over {k : Nat} (hk : k < t.size) (h : 922337203685477580 < val10 0 (t.data.toList.take k) ∨ val10 0 (t.data.toList.take k) = 922337203685477580 ∧ 8 < byte t k - 48) : whN s.data.toList = (0, false) := by
  refine whN_none fun v hv => ?_
  obtain ⟨f1, f2, -⟩ := isNum_facts hv
  rw [← ht] at f1 f2
  have h1 := val_take_le t.data.toList (k + 1)
  rw [val_take_succ _ _ (by rw [size_list]; exact hk), f2] at h1
  obtain ⟨⟨g1, g2⟩, -⟩ := hv
  rw [byte_nat] at h
  omega
theorem end_num (hneg : neg_ s.data.toList = true) (v : Int) (hv : IsNum s.data.toList v) : v = -(val10 0 t.data.toList : Int) := by
  obtain ⟨f1, f2, f3, f4, f5, -⟩ := isNum_facts hv
  rw [← ht] at f2
  rw [hneg] at f5
  have : v < 0 := by simpa using f5.symm
  omega
theorem end_pos (hneg : neg_ s.data.toList = false) (v : Int) (hv : IsNum s.data.toList v) : v = (val10 0 t.data.toList : Int) := by
  obtain ⟨f1, f2, f3, f4, f5, -⟩ := isNum_facts hv
  rw [← ht] at f2
  rw [hneg] at f5
  have : ¬ v < 0 := by simpa using f5.symm
  omega
theorem no_min (hneg : neg_ s.data.toList = false) (h : val10 0 t.data.toList = 9223372036854775808) : whN s.data.toList = (0, false) := by
  refine whN_none fun v hv => ?_
  have := end_pos ht hneg v hv
  obtain ⟨⟨g1, g2⟩, -⟩ := hv
  omega
end
theorem no_eq {s : ByteArray} {n : Int} (hn : ∀ v, IsNum s.data.toList v → v = n) (h : Lib.itoa n ≠ s.data.toList) : whN s.data.toList = (0, false) := by
  refine whN_none fun v hv => ?_
  have := hn v hv
  subst this
  exact h hv.2.symm
theorem yes_eq {s : ByteArray} {n : Int} (hn : I64 n) (h : Lib.itoa n = s.data.toList) : whN s.data.toList = (n, true) := whN_num ⟨hn, h.symm⟩

def DigTo (l : List UInt8) (k : Nat) : Prop := val10 0 (l.take k) ≤ 9223372036854775808
/-- The number so far. -/
def WhRel (t : ByteArray) (n i : Value) : Prop := ∃ (k P : Nat), k ≤ t.size ∧ i = .int .i64 k ∧ n = .int .i64 (-(P : Int)) ∧ P = val10 0 (t.data.toList.take k) ∧ P ≤ 9223372036854775808
end Go.Proofs.YtjnhcoflmechmaaGreatDoor.C

namespace Go.Proofs.YtjnhcoflmechmaaGreatDoor.C
open Go.RowKit
set_option linter.unusedVariables false

theorem drop_list (s : ByteArray) (k : Nat) : (s.extract k s.size).data.toList = s.data.toList.drop k := by
  rw [extract_list]
  exact List.take_of_length_le (by simp)
theorem neg_true {s : ByteArray} (h1 : 1 < s.size) (h2 : byte s 0 = 45) : neg_ s.data.toList = true ∧ (s.extract 1 s.size).data.toList = tail_ s.data.toList := by
  have e' : (s.data.toList.getD 0 0).toNat = 45 := by have := byte_nat s 0; omega
  have e : s.data.toList.getD 0 0 = 45 := UInt8.toNat_inj.1 (by simpa using e')
  refine ⟨?_, ?_⟩
  · unfold neg_; rw [size_list, e]; simp [h1]
  · unfold tail_; rw [if_pos ⟨by rw [size_list]; exact h1, e⟩, drop_list]
theorem neg_false {s : ByteArray} (h : ¬ (1 < s.size ∧ byte s 0 = 45)) : neg_ s.data.toList = false ∧ s.data.toList = tail_ s.data.toList := by
  have hn : ¬ (1 < s.data.toList.length ∧ s.data.toList.getD 0 0 = 45) := by
    rintro ⟨h1, h2⟩
    rw [size_list] at h1
    exact h ⟨h1, by rw [byte_nat, h2]; rfl⟩
  refine ⟨?_, ?_⟩
  · unfold neg_
    by_cases h1 : 1 < s.data.toList.length
    · have h2 : ¬ s.data.toList.getD 0 0 = 45 := fun e => hn ⟨h1, e⟩
      simp only [h1, decide_true, Bool.true_and]
      simpa using h2
    · simp only [h1, decide_false, Bool.false_and]
  · unfold tail_; rw [if_neg hn]

set_option maxRecDepth 100000 in
set_option maxHeartbeats 4000000 in
theorem refWhole_neg (s : ByteArray) (w : World) (hs : s.size ≤ 100000) (h1 : 1 < s.size) (h2 : byte s 0 = 45) : Calls Tryz.prog 85 #[.string s] w (WholePost w s.data.toList) := by
  obtain ⟨hneg, htl⟩ := neg_true h1 h2
  have h1' : (1 : Int) < (s.size : Int) := by omega
  have e0 := byte_eq s 0 (by omega)
  have h2' : (byte s 0 == 45) = true := by simpa using h2
  have hd1 : decide (((s.size - 1 : Nat) : Int) < 1) = false := by simp; omega
  by_cases hlen : 19 < s.size - 1
  · have hf := no_len htl (Or.inr (by simp; omega))
    have HF := Lib.hid hf; clear hf htl hneg h2
    go_enter Tryz.func85, Tryz.ntmps85
    go_wp2
    go_ret2
    exact wholePost_mk HF.out (Below.refl _ _)
  · have hd2 : decide (19 < ((s.size - 1 : Nat) : Int)) = false := by simp; omega
    have HN := Lib.hid hneg
    obtain ⟨t, ht⟩ : ∃ t, t = s.extract 1 s.size := ⟨_, rfl⟩
    have hts : s.size - 1 = t.size := by rw [ht]; simp
    rw [← ht] at htl
    have HT := Lib.hid htl
    have HTS := Lib.hid hts
    have HTE := Lib.hid ht
    clear hneg htl h2 hts ht
    go_enter Tryz.func85, Tryz.ntmps85
    go_wp2
    rw [← HTE.out, HTS.out]
    have htz : t.size ≤ 500 := by have := HTS.out; omega
    clear e0 h2' hd1 hd2
    go_loop [6, 31] (WhRel t) (fun _ i => t.size - (intOf i).toNat)
    case atStart => exact ⟨0, 0, by omega, rfl, rfl, by simp [val10], by omega⟩
    case round =>
      obtain ⟨k, P, hk, rfl, rfl, hP, hPb⟩ := hrel
      have HP := Lib.hid hP; clear hP
      by_cases hlt : k < t.size
      · have ek := byte_eq t k hlt
        have hbb := byte_bounds t k
        obtain ⟨hb0, hb1⟩ := hbb
        by_cases hdig : byte t k < 48 ∨ 57 < byte t k
        · have hf := no_digit HT.out hlt hdig
          have HF := Lib.hid hf; clear hf
          have hx : byte t k < 48 ∨ ¬ byte t k < 48 ∧ 57 < byte t k := by omega
          clear hdig
          rcases hx with hx | ⟨hx, hx'⟩
          all_goals
            go_wp2_with fail
            go_ret2
            exact wholePost_mk HF.out (Below.refl _ _)
        · have hd1 : ¬ byte t k < 48 := by omega
          have hd2 : ¬ 57 < byte t k := by omega
          by_cases hov : 922337203685477580 < P ∨ P = 922337203685477580 ∧ 8 < byte t k - 48
          · have hf := no_over HT.out hlt (HP.out ▸ hov)
            have HF := Lib.hid hf; clear hf
            have hx : -(P : Int) < -922337203685477580 ∨ ¬ -(P : Int) < -922337203685477580 ∧ (-(P : Int) == -922337203685477580) = true ∧ 8 < byte t k - 48 := by
              simp; omega
            clear hov hdig
            rcases hx with hx | ⟨hx, hx', hx2⟩
            all_goals
              go_wp2_with fail
              go_ret2
              exact wholePost_mk HF.out (Below.refl _ _)
          · have hsum : 10 * (P : Int) + (byte t k - 48) ≤ 9223372036854775808 := by omega
            have hst := val_take_succ t.data.toList k (by rw [size_list]; exact hlt)
            have hbn := byte_nat t k
            have HST := Lib.hid hst
            have HBN := Lib.hid hbn
            have hx : ¬ -(P : Int) < -922337203685477580 := by omega
            have hx2 : (-(P : Int) == -922337203685477580) = false ∨ (-(P : Int) == -922337203685477580) = true ∧ ¬ 8 < byte t k - 48 := by simp; omega
            clear hov hdig hst hbn
            rcases hx2 with hx2 | ⟨hx2, hx3⟩
            all_goals
              go_wp2_with fail
              refine ⟨⟨k + 1, 10 * P + (byte t k - 48).toNat, by omega, by go_num, by go_num, ?_, by omega⟩, by simp [intOf]; omega⟩
              rw [HST.out, ← HP.out]
              have := HBN.out
              omega
      · have hPe : P = val10 0 t.data.toList := by rw [HP.out, List.take_of_length_le (by rw [size_list]; omega)]
        have HPE := Lib.hid hPe; clear hPe
        have hI : I64 (-(P : Int)) := ⟨by omega, by omega⟩
        have hn : ∀ v, IsNum s.data.toList v → v = -(P : Int) := fun v hv => by rw [HPE.out]; exact end_num HT.out HN.out v hv
        have HNN := Lib.hid hn; clear hn
        by_cases hit : Lib.itoa (-(P : Int)) = s.data.toList
        · have hf := yes_eq hI hit
          have HF := Lib.hid hf
          have HS := Lib.hid (str_of hit); clear hf hit
          have heq : (s.toList != s.toList) = false := by simp
          go_wp2_with fail
          refine (refDecimal_any (-(P : Int)) w hI).mono ?_
          rintro e w1 ⟨rfl, hb⟩
          rw [HS.out]
          go_wp2_with fail
          go_ret2
          exact wholePost_mk HF.out hb
        · have hf := no_eq HNN.out hit
          have HF := Lib.hid hf
          have hne : ((str (Lib.itoa (-(P : Int)))).toList != s.toList) = true := by rw [str_list, str_list, str_data]; simpa using hit
          have hne2 : ((str (Lib.itoa (-(P : Int)))).toList == s.toList) = false := by rw [str_list, str_list, str_data]; simpa using hit
          clear hf hit
          go_wp2_with fail
          refine (refDecimal_any (-(P : Int)) w hI).mono ?_
          rintro e w1 ⟨rfl, hb⟩
          go_wp2_with fail
          go_ret2
          exact wholePost_mk HF.out hb

set_option maxRecDepth 100000 in
set_option maxHeartbeats 4000000 in
theorem refWhole_pos (s : ByteArray) (w : World) (hs : s.size ≤ 100000) (h : ¬ (1 < s.size ∧ byte s 0 = 45)) : Calls Tryz.prog 85 #[.string s] w (WholePost w s.data.toList) := by
  obtain ⟨hneg, htl⟩ := neg_false h
  by_cases hlen0 : s.size < 1
  · have hf := no_len htl (Or.inl hlen0)
    have HF := Lib.hid hf; clear hf htl hneg
    have h1' : ¬ (1 : Int) < (s.size : Int) := by omega
    have h2' : (s.size : Int) < 1 := by omega
    go_enter Tryz.func85, Tryz.ntmps85
    go_wp2
    go_ret2
    exact wholePost_mk HF.out (Below.refl _ _)
  · have hl0 : ¬ (s.size : Int) < 1 := by omega
    have hd1 : decide ((s.size : Int) < 1) = false := by simp; omega
    by_cases hlen : 19 < s.size
    · have hf := no_len htl (Or.inr hlen)
      have HF := Lib.hid hf; clear hf htl hneg
      have h1' : (1 : Int) < (s.size : Int) := by omega
      have e0 := byte_eq s 0 (by omega)
      have h2' : (byte s 0 == 45) = false := by simp; intro e; exact h ⟨by omega, e⟩
      have h3' : (19 : Int) < (s.size : Int) := by omega
      go_enter Tryz.func85, Tryz.ntmps85
      go_wp2
      go_ret2
      exact wholePost_mk HF.out (Below.refl _ _)
    · have hd2 : decide ((19 : Int) < (s.size : Int)) = false := by simp; omega
      have hx : (decide ((1 : Int) < (s.size : Int)) = false ∧ ¬ (1 : Int) < (s.size : Int)) ∨ (1 < s.size ∧ decide ((1 : Int) < (s.size : Int)) = true ∧ (byte s 0 == 45) = false) := by
        by_cases h1 : 1 < s.size
        · refine Or.inr ⟨h1, by simp; omega, ?_⟩
          simp
          intro e
          exact h ⟨h1, e⟩
        · exact Or.inl ⟨by simp; omega, by omega⟩
      have HN := Lib.hid hneg
      obtain ⟨t, ht⟩ : ∃ t, t = s := ⟨_, rfl⟩
      have hts : t.data.toList = tail_ s.data.toList := by rw [ht]; exact htl
      have HT := Lib.hid hts
      have HTE := Lib.hid ht
      clear hneg htl hts ht h
      rcases hx with ⟨hx, hx'⟩ | ⟨h1, hx, hx2⟩
      · go_enter Tryz.func85, Tryz.ntmps85
        go_wp2
        have htz : t.size ≤ 500 := by have := HTE.out; subst this; omega
        clear hx hx' hd1 hd2 hl0
        obtain rfl := HTE.out
        go_loop [6, 31] (WhRel t) (fun _ i => t.size - (intOf i).toNat)
        case atStart => exact ⟨0, 0, by omega, rfl, rfl, by simp [val10], by omega⟩
        case round =>
          obtain ⟨k, P, hk, rfl, rfl, hP, hPb⟩ := hrel
          have HP := Lib.hid hP; clear hP
          by_cases hlt : k < t.size
          · have ek := byte_eq t k hlt
            have hbb := byte_bounds t k
            obtain ⟨hb0, hb1⟩ := hbb
            by_cases hdig : byte t k < 48 ∨ 57 < byte t k
            · have hf := no_digit HT.out hlt hdig
              have HF := Lib.hid hf; clear hf
              have hx : byte t k < 48 ∨ ¬ byte t k < 48 ∧ 57 < byte t k := by omega
              clear hdig
              rcases hx with hx | ⟨hx, hx'⟩
              all_goals
                go_wp2_with fail
                go_ret2
                exact wholePost_mk HF.out (Below.refl _ _)
            · have hd1 : ¬ byte t k < 48 := by omega
              have hd2 : ¬ 57 < byte t k := by omega
              by_cases hov : 922337203685477580 < P ∨ P = 922337203685477580 ∧ 8 < byte t k - 48
              · have hf := no_over HT.out hlt (HP.out ▸ hov)
                have HF := Lib.hid hf; clear hf
                have hx : -(P : Int) < -922337203685477580 ∨ ¬ -(P : Int) < -922337203685477580 ∧ (-(P : Int) == -922337203685477580) = true ∧ 8 < byte t k - 48 := by
                  simp; omega
                clear hov hdig
                rcases hx with hx | ⟨hx, hx', hx2⟩
                all_goals
                  go_wp2_with fail
                  go_ret2
                  exact wholePost_mk HF.out (Below.refl _ _)
              · have hsum : 10 * (P : Int) + (byte t k - 48) ≤ 9223372036854775808 := by omega
                have hst := val_take_succ t.data.toList k (by rw [size_list]; exact hlt)
                have hbn := byte_nat t k
                have HST := Lib.hid hst
                have HBN := Lib.hid hbn
                have hx : ¬ -(P : Int) < -922337203685477580 := by omega
                have hx2 : (-(P : Int) == -922337203685477580) = false ∨ (-(P : Int) == -922337203685477580) = true ∧ ¬ 8 < byte t k - 48 := by simp; omega
                clear hov hdig hst hbn
                rcases hx2 with hx2 | ⟨hx2, hx3⟩
                all_goals
                  go_wp2_with fail
                  refine ⟨⟨k + 1, 10 * P + (byte t k - 48).toNat, by omega, by go_num, by go_num, ?_, by omega⟩, by simp [intOf]; omega⟩
                  rw [HST.out, ← HP.out]
                  have := HBN.out
                  omega
          · have hPe : P = val10 0 t.data.toList := by rw [HP.out, List.take_of_length_le (by rw [size_list]; omega)]
            have HPE := Lib.hid hPe; clear hPe
            by_cases hmin : P = 9223372036854775808
            · have hf := no_min HT.out HN.out (HPE.out ▸ hmin)
              have HF := Lib.hid hf; clear hf
              have hm : (-(P : Int) == -9223372036854775808) = true := by simp; omega
              clear hmin
              go_wp2_with fail
              go_ret2
              exact wholePost_mk HF.out (Below.refl _ _)
            · have hm : (-(P : Int) == -9223372036854775808) = false := by simp; omega
              have hI : I64 (P : Int) := ⟨by omega, by omega⟩
              have hPl : (P : Int) ≤ 9223372036854775807 := by omega
              have hn : ∀ v, IsNum t.data.toList v → v = (P : Int) := fun v hv => by rw [HPE.out]; exact end_pos HT.out HN.out v hv
              have HNN := Lib.hid hn; clear hn hmin
              by_cases hit : Lib.itoa (P : Int) = t.data.toList
              · have hf := yes_eq hI hit
                have HF := Lib.hid hf
                have HS := Lib.hid (str_of hit); clear hf hit
                have heq : (t.toList != t.toList) = false := by simp
                go_wp2_with fail
                refine (refDecimal_any (P : Int) w hI).mono ?_
                rintro e w1 ⟨rfl, hb⟩
                rw [HS.out]
                go_wp2_with fail
                go_ret2
                exact wholePost_mk HF.out hb
              · have hf := no_eq HNN.out hit
                have HF := Lib.hid hf
                have hne : ((str (Lib.itoa (P : Int))).toList != t.toList) = true := by rw [str_list, str_list, str_data]; simpa using hit
                have hne2 : ((str (Lib.itoa (P : Int))).toList == t.toList) = false := by rw [str_list, str_list, str_data]; simpa using hit
                clear hf hit
                go_wp2_with fail
                refine (refDecimal_any (P : Int) w hI).mono ?_
                rintro e w1 ⟨rfl, hb⟩
                go_wp2_with fail
                go_ret2
                exact wholePost_mk HF.out hb
      · have e0 := byte_eq s 0 (by omega)
        go_enter Tryz.func85, Tryz.ntmps85
        go_wp2
        have htz : t.size ≤ 500 := by have := HTE.out; subst this; omega
        clear hx hx2 hd1 hd2 hl0 e0
        obtain rfl := HTE.out
        go_loop [6, 31] (WhRel t) (fun _ i => t.size - (intOf i).toNat)
        case atStart => exact ⟨0, 0, by omega, rfl, rfl, by simp [val10], by omega⟩
        case round =>
          obtain ⟨k, P, hk, rfl, rfl, hP, hPb⟩ := hrel
          have HP := Lib.hid hP; clear hP
          by_cases hlt : k < t.size
          · have ek := byte_eq t k hlt
            have hbb := byte_bounds t k
            obtain ⟨hb0, hb1⟩ := hbb
            by_cases hdig : byte t k < 48 ∨ 57 < byte t k
            · have hf := no_digit HT.out hlt hdig
              have HF := Lib.hid hf; clear hf
              have hx : byte t k < 48 ∨ ¬ byte t k < 48 ∧ 57 < byte t k := by omega
              clear hdig
              rcases hx with hx | ⟨hx, hx'⟩
              all_goals
                go_wp2_with fail
                go_ret2
                exact wholePost_mk HF.out (Below.refl _ _)
            · have hd1 : ¬ byte t k < 48 := by omega
              have hd2 : ¬ 57 < byte t k := by omega
              by_cases hov : 922337203685477580 < P ∨ P = 922337203685477580 ∧ 8 < byte t k - 48
              · have hf := no_over HT.out hlt (HP.out ▸ hov)
                have HF := Lib.hid hf; clear hf
                have hx : -(P : Int) < -922337203685477580 ∨ ¬ -(P : Int) < -922337203685477580 ∧ (-(P : Int) == -922337203685477580) = true ∧ 8 < byte t k - 48 := by
                  simp; omega
                clear hov hdig
                rcases hx with hx | ⟨hx, hx', hx2⟩
                all_goals
                  go_wp2_with fail
                  go_ret2
                  exact wholePost_mk HF.out (Below.refl _ _)
              · have hsum : 10 * (P : Int) + (byte t k - 48) ≤ 9223372036854775808 := by omega
                have hst := val_take_succ t.data.toList k (by rw [size_list]; exact hlt)
                have hbn := byte_nat t k
                have HST := Lib.hid hst
                have HBN := Lib.hid hbn
                have hx : ¬ -(P : Int) < -922337203685477580 := by omega
                have hx2 : (-(P : Int) == -922337203685477580) = false ∨ (-(P : Int) == -922337203685477580) = true ∧ ¬ 8 < byte t k - 48 := by simp; omega
                clear hov hdig hst hbn
                rcases hx2 with hx2 | ⟨hx2, hx3⟩
                all_goals
                  go_wp2_with fail
                  refine ⟨⟨k + 1, 10 * P + (byte t k - 48).toNat, by omega, by go_num, by go_num, ?_, by omega⟩, by simp [intOf]; omega⟩
                  rw [HST.out, ← HP.out]
                  have := HBN.out
                  omega
          · have hPe : P = val10 0 t.data.toList := by rw [HP.out, List.take_of_length_le (by rw [size_list]; omega)]
            have HPE := Lib.hid hPe; clear hPe
            by_cases hmin : P = 9223372036854775808
            · have hf := no_min HT.out HN.out (HPE.out ▸ hmin)
              have HF := Lib.hid hf; clear hf
              have hm : (-(P : Int) == -9223372036854775808) = true := by simp; omega
              clear hmin
              go_wp2_with fail
              go_ret2
              exact wholePost_mk HF.out (Below.refl _ _)
            · have hm : (-(P : Int) == -9223372036854775808) = false := by simp; omega
              have hI : I64 (P : Int) := ⟨by omega, by omega⟩
              have hPl : (P : Int) ≤ 9223372036854775807 := by omega
              have hn : ∀ v, IsNum t.data.toList v → v = (P : Int) := fun v hv => by rw [HPE.out]; exact end_pos HT.out HN.out v hv
              have HNN := Lib.hid hn; clear hn hmin
              by_cases hit : Lib.itoa (P : Int) = t.data.toList
              · have hf := yes_eq hI hit
                have HF := Lib.hid hf
                have HS := Lib.hid (str_of hit); clear hf hit
                have heq : (t.toList != t.toList) = false := by simp
                go_wp2_with fail
                refine (refDecimal_any (P : Int) w hI).mono ?_
                rintro e w1 ⟨rfl, hb⟩
                rw [HS.out]
                go_wp2_with fail
                go_ret2
                exact wholePost_mk HF.out hb
              · have hf := no_eq HNN.out hit
                have HF := Lib.hid hf
                have hne : ((str (Lib.itoa (P : Int))).toList != t.toList) = true := by rw [str_list, str_list, str_data]; simpa using hit
                have hne2 : ((str (Lib.itoa (P : Int))).toList == t.toList) = false := by rw [str_list, str_list, str_data]; simpa using hit
                clear hf hit
                go_wp2_with fail
                refine (refDecimal_any (P : Int) w hI).mono ?_
                rintro e w1 ⟨rfl, hb⟩
                go_wp2_with fail
                go_ret2
                exact wholePost_mk HF.out hb

set_option maxRecDepth 100000 in
theorem refWhole_any (s : ByteArray) (w : World) (hs : s.size ≤ 100000) : Calls Tryz.prog 85 #[.string s] w (WholePost w s.data.toList) := by
  by_cases h : 1 < s.size ∧ byte s 0 = 45
  · exact refWhole_neg s w hs h.1 h.2
  · exact refWhole_pos s w hs h
end Go.Proofs.YtjnhcoflmechmaaGreatDoor.C
