/-
  datum's parser: its small steps. | datum.run at letters, at numbers and at names. | datum.tokenOf and next: the token that a value begins with. | datum.constant and the parser's names and texts. | The parser's names.
-/
import Derived.Test.YtjnhcoflmechmaaGreatDoorB5
import Derived.Test.YtjnhcoflmechmaaGreatDoorDFields
import Derived.Test.YtjnhcoflmechmaaGreatDoorEUnescape
import Derived.Test.YtjnhcoflmechmaaGreatDoorESpan
import Derived.Laws.ResultCell
import Derived.Deep.RegionHeld3
namespace Go.Proofs.YtjnhcoflmechmaaGreatDoor
open Go.RowKit Go.Sort
set_option linter.unusedVariables false
set_option maxRecDepth 100000
/-- The parser at P: its text, where it is, how many are open, how many values have begun, its error. -/
abbrev P5 (W : World) (P : Nat) (s : ByteArray) (a o v : Nat) (er : Int) : Prop := B5 W P 91 (.string s) (.int .i64 a) (.int .i64 o) (.int .i64 v) (.int .i64 er)
abbrev zeroV : Value := .agg #[.int .i64 0, .int .i64 0, .string ⟨#[]⟩, .slice none 0 0, .slice none 0 0]
abbrev zeroW (w : World) : World := w.alloc (.cells #[.int .i64 0, .int .i64 0, .string ⟨#[]⟩, .slice none 0 0, .slice none 0 0] 46)
theorem zeroW_out {w w1 : World} (h : RowKit.Hid (w1 = zeroW w)) : w.alloc (.cells #[.int .i64 0, .int .i64 0, .string ⟨#[]⟩, .slice none 0 0, .slice none 0 0] 46) = w1 := h.out.symm
def FailP (P : Nat) (s : ByteArray) (a o v : Nat) (er : Int) (w : World) (e : Ending) (w' : World) : Prop := e = .returned (.tuple #[zeroV, .bool false]) ∧ P5 w' P s a o v er ∧ Kept (· = P) w w'
set_option maxHeartbeats 2000000 in
theorem fail_any (P : Nat) (s : ByteArray) (a o v a' : Nat) (er er' : Int) (w : World) (h : P5 w P s a o v er) : Calls Tryz.prog 49 #[.pointer (some ⟨P, 0, none⟩), .int .i64 a', .int .i64 er'] w (FailP P s a' o v er' w) := by
  have hP := h.lt
  obtain ⟨w1, hw1⟩ : ∃ w1, w1 = zeroW w := ⟨_, rfl⟩
  have hk1 : Kept (fun _ => False) w w1 := by rw [hw1]; exact kept_alloc _ _ _
  have hz1 : B5 w1 w.heap.size 46 (.int .i64 0) (.int .i64 0) (.string ⟨#[]⟩) (.slice none 0 0) (.slice none 0 0) := by rw [hw1]; exact B5.new _ _ _ _ _ _ _ _ rfl
  have hp1 := h.kept hk1 (fun h => h)
  obtain ⟨w2, hw2⟩ : ∃ w2, w2 = (w1.setCell ⟨P, 1, none⟩ (.int .i64 a')).setCell ⟨P, 4, none⟩ (.int .i64 er') := ⟨_, rfl⟩
  have hp2 : P5 w2 P s a' o v er' := by rw [hw2]; exact (hp1.set1 _).set4 _
  have hk2 : Kept (· = P) w1 w2 := by rw [hw2]; exact (kept_setCell _ ⟨P, 1, none⟩ _).trans (kept_setCell _ ⟨P, 4, none⟩ _)
  have hz2 := hz1.kept hk2 (show ¬ w.heap.size = P by omega)
  obtain ⟨w3, hw3⟩ : ∃ w3, w3 = put5 w2 w.heap.size (.int .i64 0) (.int .i64 0) (.string ⟨#[]⟩) (.slice none 0 0) (.slice none 0 0) := ⟨_, rfl⟩
  have hz3 : B5 w3 w.heap.size 46 (.int .i64 0) (.int .i64 0) (.string ⟨#[]⟩) (.slice none 0 0) (.slice none 0 0) := by rw [hw3]; exact hz2.put _ _ _ _ _
  have hk3 : Kept (· = w.heap.size) w2 w3 := by rw [hw3]; exact kept_put5 _ _ _ _ _ _ _
  have HP3 := Lib.hid (hp2.kept hk3 (show ¬ P = w.heap.size by omega)); have HZ3 := Lib.hid hz3
  have HK := Lib.hid (show Kept (· = P) w w3 from ((hk1.mono (T := (· = P)) (fun _ _ h => absurd h (fun h => h))).trans hk2).trans' hk3 (fun i hi h => by have : i = w.heap.size := h; omega))
  obtain ⟨a0, a1, a2, a3, a4⟩ := hp1.cells
  have f1 := hp1.frozen 1; have f4 := (hp1.set1 (.int .i64 a')).frozen 4
  obtain ⟨z0, z1, z2, z3, z4⟩ := hz2.cells
  have y0 := hz2.frozen 0; have y1 := hz2.frozen 1; have y2 := hz2.frozen 2; have y3 := hz2.frozen 3; have y4 := hz2.frozen 4
  have HW1 := Lib.hid hw1; have HW2 := Lib.hid hw2; have HW3 := Lib.hid hw3
  clear hw1 hw2 hw3 hk1 hz1 hp1 hp2 hk2 hz2 hz3 hk3 h
  go_enter Tryz.func49, Tryz.ntmps49
  go_upto_region 1 with (fail)
  rw [zeroW_out HW1]
  go_upto_region 2 with (fail)
  rw [show (w1.setCell ⟨P, 1, none⟩ (.int .i64 a')).setCell ⟨P, 4, none⟩ (.int .i64 er') = w2 from HW2.out.symm]
  go_wp2_with fail
  rw [show ((((w2.setCell ⟨w.heap.size, 0, none⟩ (.int .i64 0)).setCell ⟨w.heap.size, 1, none⟩ (.int .i64 0)).setCell ⟨w.heap.size, 2, none⟩ (.string ⟨#[]⟩)).setCell ⟨w.heap.size, 3, none⟩ (.slice none 0 0)).setCell ⟨w.heap.size, 4, none⟩ (.slice none 0 0) = w3 from HW3.out.symm]
  refine bodyPost_ret (res5 rfl _ _ w.heap.size _ _ _ _ _ _ rfl rfl HZ3.out) rfl ?_
  exact ⟨rfl, HP3.out, HK.out⟩
/-- What remains from an index on. -/
def restL (s : ByteArray) (a : Nat) : Bytes := s.data.toList.drop a
theorem restL_nil {s : ByteArray} {a : Nat} (h : s.size ≤ a) : restL s a = [] := List.drop_eq_nil_of_le (by rw [size_list]; exact h)
theorem restL_cons {s : ByteArray} {a : Nat} (h : a < s.size) : restL s a = s[a] :: restL s (a + 1) := by
  unfold restL
  rw [List.drop_eq_getElem_cons (by rw [size_list]; exact h)]
  congr 1
theorem restL_len (s : ByteArray) (a : Nat) : (restL s a).length = s.size - a := by unfold restL; rw [List.length_drop, size_list]
theorem restL_drop (s : ByteArray) (a n : Nat) : (restL s a).drop n = restL s (a + n) := by unfold restL; rw [List.drop_drop]
/-- Does this byte come? -/
def isC (s : ByteArray) (a : Nat) (c : UInt8) : Bool := (restL s a).head? == some c
set_option maxHeartbeats 4000000 in
theorem take_any (P : Nat) (s : ByteArray) (a o v : Nat) (er : Int) (c : UInt8) (w : World) (h : P5 w P s a o v er) (ha : a ≤ s.size) (hs : s.size ≤ 1000000000) :
    Calls Tryz.prog 120 #[.pointer (some ⟨P, 0, none⟩), .int .u8 (c.toNat : Int)] w fun e w' => e = .returned (.bool (isC s a c)) ∧ P5 w' P s (if isC s a c then a + 1 else a) o v er ∧ Kept (· = P) w w' := by
  obtain ⟨a0, a1, a2, a3, a4⟩ := h.cells
  have f1 := h.frozen 1
  have HP := Lib.hid h
  have hdp : P5 w.drew P s a o v er := h
  by_cases hend : a = s.size
  · have hic : isC s a c = false := by unfold isC; rw [restL_nil (by omega)]; rfl
    rw [hic]
    have he : ((a : Int) == (s.size : Int)) = true := by rw [hend]; simp
    clear hend hic hdp h
    go_enter Tryz.func120, Tryz.ntmps120
    go_wp2_with fail
    go_quiet (fail)
    go_wp2_with fail
    go_ret
    exact ⟨rfl, HP.out, kept_below (below_drewN _ _ _) _⟩
  · have hlt : a < s.size := by omega
    have he : ((a : Int) == (s.size : Int)) = false := by rw [beq_eq_false_iff_ne]; omega
    have hlti : (a : Int) < (s.size : Int) := by omega
    have ha0 : (0 : Int) ≤ (a : Int) := by omega
    obtain ⟨x, hx⟩ : ∃ x, s[a] = x := ⟨_, rfl⟩
    by_cases hxc : x = c
    · have hic : isC s a c = true := by unfold isC; rw [restL_cons hlt, hx, hxc]; simp
      rw [hic, if_pos rfl]
      have hxn : ((x.toNat : Int) != (c.toNat : Int)) = false := by rw [hxc]; simp
      have hwr : IntKind.i64.wrap ((a : Int) + 1) = ((a + 1 : Nat) : Int) := by rw [IntKind.wrap_i64]; omega
      clear hend hic hdp h hxc
      go_enter Tryz.func120, Tryz.ntmps120
      go_wp2_with fail
      go_quiet (fail)
      go_wp2_with fail
      go_ret
      exact ⟨rfl, (show P5 (w.drewN _) P s a o v er from HP.out).set1 _, (kept_below (below_drewN _ _ _) _).trans (kept_setCell _ ⟨P, 1, none⟩ _)⟩
    · have hic : isC s a c = false := by unfold isC; rw [restL_cons hlt, hx]; simpa using hxc
      rw [hic]
      have hxn : ((x.toNat : Int) != (c.toNat : Int)) = true := by have := E.nat_ne hxc; simp; omega
      clear hend hic hdp h hxc
      go_enter Tryz.func120, Tryz.ntmps120
      go_wp2_with fail
      go_quiet (fail)
      go_wp2_with fail
      go_ret
      exact ⟨rfl, HP.out, kept_below (below_drewN _ _ _) _⟩
theorem isC_ok {s : ByteArray} {a : Nat} {c : UInt8} (h : isC s a c = true) : byteP c (restL s a) = .ok () (restL s (a + 1)) ∧ a < s.size := by
  rcases Nat.lt_or_ge a s.size with h1 | h1
  · refine ⟨?_, h1⟩
    unfold isC at h
    rw [restL_cons h1] at h ⊢
    have : s[a] = c := by simpa using h
    rw [this, byteP_cons]
  · unfold isC at h; rw [restL_nil h1] at h; cases h
theorem isC_no {s : ByteArray} {a : Nat} {c : UInt8} (h : isC s a c = false) : byteP c (restL s a) = .bad (s.size - a) 2 := by
  rcases Nat.lt_or_ge a s.size with h1 | h1
  · unfold isC at h
    have hl := restL_len s a
    rw [restL_cons h1] at h hl ⊢
    have : s[a] ≠ c := by simpa using h
    rw [byteP_no this, ← hl]; rfl
  · rw [restL_nil h1]; simp [byteP]; omega
/-- need: the byte, or the error. -/
def NeedP (P : Nat) (s : ByteArray) (a o v : Nat) (c : UInt8) (w : World) (e : Ending) (w' : World) : Prop :=
  ((isC s a c = true ∧ e = .returned (.bool true) ∧ P5 w' P s (a + 1) o v 0) ∨ (isC s a c = false ∧ e = .returned (.bool false) ∧ P5 w' P s a o v 2)) ∧ Kept (· = P) w w'
set_option maxHeartbeats 2000000 in
theorem need_any (P : Nat) (s : ByteArray) (a o v : Nat) (c : UInt8) (w : World) (h : P5 w P s a o v 0) (ha : a ≤ s.size) (hs : s.size ≤ 1000000000) : Calls Tryz.prog 151 #[.pointer (some ⟨P, 0, none⟩), .int .u8 (c.toNat : Int)] w (NeedP P s a o v c w) := by
  have CT := take_any P s a o v 0 c w h ha hs
  obtain ⟨r, hr⟩ : ∃ r, r = isC s a c := ⟨_, rfl⟩
  rw [← hr] at CT
  have HC := Lib.hid CT; have HR := Lib.hid hr
  clear CT h hr
  go_enter Tryz.func151, Tryz.ntmps151
  go_wp2_with fail
  refine HC.out.mono ?_
  rintro e w2 ⟨rfl, hp2, hk2⟩
  have HK2 := Lib.hid hk2
  clear hk2 HC
  cases r with
  | true =>
    rw [if_pos rfl] at hp2
    have HP2 := Lib.hid hp2
    clear hp2
    go_wp2_with fail
    go_ret
    exact ⟨.inl ⟨HR.out.symm, rfl, HP2.out⟩, HK2.out⟩
  | false =>
    rw [if_neg (by decide)] at hp2
    have CF := Lib.hid (fail_any P s a o v a 0 2 w2 hp2)
    obtain ⟨a0, a1, a2, a3, a4⟩ := hp2.cells
    clear hp2
    go_wp2_with fail
    refine CF.out.mono ?_
    rintro e w3 ⟨rfl, hp3, hk3⟩
    have HP3 := Lib.hid hp3; have HK3 := Lib.hid hk3
    clear hp3 hk3 CF
    go_wp2_with fail
    go_ret
    exact ⟨.inr ⟨HR.out.symm, rfl, HP3.out⟩, HK2.out.trans HK3.out⟩
/-- run: the longest prefix of such bytes. -/
def runB (p : UInt8 → Bool) (s : ByteArray) : ByteArray := strB (s.data.toList.takeWhile p)
theorem takeWhile_len (p : UInt8 → Bool) (l : Bytes) (k : Nat) (h : ∀ j, (hj : j < l.length) → j < k → p l[j] = true) (hk : k ≤ l.length) (hs : ∀ hk : k < l.length, p l[k] = false) : l.takeWhile p = l.take k := by
  induction l generalizing k with
  | nil => simp
  | cons c r ih =>
    cases k with
    | zero => simp only [List.take_zero]; rw [List.takeWhile_cons, if_neg]; have := hs (by simp); simpa using this
    | succ k =>
      have h0 := h 0 (by simp) (by omega)
      simp only [List.getElem_cons_zero] at h0
      rw [List.takeWhile_cons, if_pos h0, List.take_succ_cons]
      congr 1
      exact ih k (fun j hj hjk => h (j + 1) (by simpa using hj) (by omega)) (by simpa using hk) (fun hk' => hs (by simpa using hk'))
end Go.Proofs.YtjnhcoflmechmaaGreatDoor

namespace Go.Proofs.YtjnhcoflmechmaaGreatDoor
open Go.RowKit Go.Sort
set_option linter.unusedVariables false
set_option maxRecDepth 100000
theorem letterI (c : Int) (w : World) (h0 : 0 ≤ c) (h1 : c ≤ 255) : Calls Tryz.prog 143 #[.int .u8 c] w fun e w' => e = .returned (.bool (lowB c)) ∧ w = w' := by
  go_enter Tryz.func143, Tryz.ntmps143
  go_wp2
  all_goals (go_ret; refine ⟨ret_bool ?_, rfl⟩; rw [Bool.eq_iff_iff]; simp [lowB]; omega)
def numB (c : Int) : Bool := (decide (48 ≤ c) && decide (c ≤ 57)) || c == 45
theorem numI (c : Int) (w : World) (h0 : 0 ≤ c) (h1 : c ≤ 255) : Calls Tryz.prog 145 #[.int .u8 c] w fun e w' => e = .returned (.bool (numB c)) ∧ w = w' := by
  go_enter Tryz.func145, Tryz.ntmps145
  go_wp2
  all_goals (try (apply_assumption -exfalso; go_wp2_with fail))
  all_goals (go_ret; refine ⟨ret_bool ?_, rfl⟩; rw [Bool.eq_iff_iff]; simp [numB] <;> omega)
theorem isLetter_any (c : UInt8) (w : World) : Calls Tryz.prog 143 #[.int .u8 (c.toNat : Int)] w fun e w' => e = .returned (.bool (lowC c)) ∧ w = w' := by
  have h := c.toNat_lt
  have := letterI (c.toNat : Int) w (by omega) (by omega)
  rwa [lowC_byte] at this
theorem numC_byte (c : UInt8) : numB (c.toNat : Int) = numC c := by
  unfold numB numC
  rw [Bool.eq_iff_iff]
  simp
  omega
theorem inNumber_any (c : UInt8) (w : World) : Calls Tryz.prog 145 #[.int .u8 (c.toNat : Int)] w fun e w' => e = .returned (.bool (numC c)) ∧ w = w' := by
  have h := c.toNat_lt
  have := numI (c.toNat : Int) w (by omega) (by omega)
  rwa [numC_byte] at this
theorem inNameD_any (c : UInt8) (w : World) : Calls Tryz.prog 193 #[.int .u8 (c.toNat : Int)] w fun e w' => e = .returned (.bool (nameC c)) ∧ w = w' := by
  have hlt := c.toNat_lt
  have CL := isLetter_any c w
  have CN := inNumber_any c w
  obtain ⟨r1, hr1⟩ : ∃ r, r = lowC c := ⟨_, rfl⟩
  obtain ⟨r2, hr2⟩ : ∃ r, r = numC c := ⟨_, rfl⟩
  rw [← hr1] at CL
  rw [← hr2] at CN
  have HE := Lib.hid (show nameC c = (r1 || r2 || c.toNat == 58 || c.toNat == 46) by rw [hr1, hr2]; rfl)
  have HL := Lib.hid CL; have HN := Lib.hid CN
  clear CL CN hr1 hr2
  cases r1 with
  | true =>
    go_enter Tryz.func193, Tryz.ntmps193
    go_wp2_with fail
    refine HL.out.mono ?_
    rintro e w' ⟨rfl, rfl⟩
    go_wp2_with fail
    all_goals (try (apply_assumption -exfalso; go_wp2_with fail))
    go_ret
    exact ⟨ret_bool (by rw [HE.out]; simp), rfl⟩
  | false =>
    cases r2 with
    | true =>
      go_enter Tryz.func193, Tryz.ntmps193
      go_wp2_with fail
      refine HL.out.mono ?_
      rintro e w' ⟨rfl, rfl⟩
      go_wp2_with fail
      refine HN.out.mono ?_
      rintro e w' ⟨rfl, rfl⟩
      go_wp2_with fail
      all_goals (try (apply_assumption -exfalso; go_wp2_with fail))
      go_ret
      exact ⟨ret_bool (by rw [HE.out]; simp), rfl⟩
    | false =>
      go_enter Tryz.func193, Tryz.ntmps193
      go_wp2_with fail
      refine HL.out.mono ?_
      rintro e w' ⟨rfl, rfl⟩
      go_wp2_with fail
      refine HN.out.mono ?_
      rintro e w' ⟨rfl, rfl⟩
      go_wp2_with fail
      all_goals (try (apply_assumption -exfalso; go_wp2_with fail))
      all_goals go_ret
      all_goals exact ⟨ret_bool (by rw [HE.out, Bool.eq_iff_iff]; simp <;> omega), rfl⟩
set_option maxHeartbeats 2000000 in
theorem runLow_any (s : ByteArray) (w : World) (hs : s.size ≤ 1000000000) :
    Calls Tryz.prog 144 #[.string s, .func (.func 143) #[] #[]] w fun e w' => e = .returned (.string (runB lowC s)) ∧ w = w' := by
  have HF := Lib.hid isLetter_any
  go_enter Tryz.func144, Tryz.ntmps144
  go_wp2_with fail
  go_loopg [8] s.size (fun g s8 wr => ∃ k : Nat, s8 = .int .i64 k ∧ k ≤ s.size ∧ s.size - k ≤ g ∧ RowKit.Hid (∀ j, (hj : j < s.data.toList.length) → j < k → lowC s.data.toList[j] = true) ∧ RowKit.Hid (w = wr))
  case atStart => exact ⟨0, rfl, by omega, by omega, Lib.hid (fun j _ h => by omega), Lib.hid rfl⟩
  case round =>
    obtain ⟨k, rfl, hk, hg, HN, HW⟩ := hrel
    obtain rfl := HW.out
    by_cases hlt : k < s.size
    · have h1 : (k : Int) < (s.size : Int) := by omega
      obtain ⟨x, hx⟩ : ∃ x, s[k] = x := ⟨_, rfl⟩
      have hxl : s.data.toList[k]'(by rw [size_list]; exact hlt) = x := by rw [← hx]; rfl
      obtain ⟨r, hr⟩ : ∃ r, r = lowC x := ⟨_, rfl⟩
      have CF := HF.out x w
      rw [← hr] at CF
      have HC := Lib.hid CF; have HR := Lib.hid hr; have HX := Lib.hid hxl
      clear CF hr hxl
      cases r with
      | true =>
        have HN2 := Lib.hid (show ∀ j, (hj : j < s.data.toList.length) → j < k + 1 → lowC s.data.toList[j] = true from fun j hj hjk => by
          rcases Nat.lt_or_ge j k with g | g
          · exact HN.out j hj g
          · have : j = k := by omega
            subst this; rw [HX.out]; exact HR.out.symm)
        go_wp2_with fail
        refine HC.out.mono ?_
        rintro e w' ⟨rfl, rfl⟩
        go_wp2_with fail
        go_roundg (s.size - (k + 1))
        case measure => omega
        case rel => exact ⟨k + 1, by go_num, by omega, by omega, HN2, Lib.hid rfl⟩
      | false =>
        have HRES := Lib.hid (show (s.extract 0 k) = runB lowC s from by
          have := takeWhile_len lowC s.data.toList k HN.out (by rw [size_list]; omega) (fun hk' => by rw [HX.out]; exact HR.out.symm)
          unfold runB
          rw [this, ← strB_eq (s.extract 0 k)]
          congr 1
          simp)
        go_wp2_with fail
        refine HC.out.mono ?_
        rintro e w' ⟨rfl, rfl⟩
        go_wp2_with fail
        go_ret
        exact ⟨by rw [← HRES.out]; rfl, rfl⟩
    · have h1 : ¬ (k : Int) < (s.size : Int) := by omega
      have HRES := Lib.hid (show s = runB lowC s from by
        have := takeWhile_len lowC s.data.toList k HN.out (by rw [size_list]; omega) (fun hk' => by rw [size_list] at hk'; omega)
        unfold runB
        rw [this, List.take_of_length_le (by rw [size_list]; omega), strB_eq])
      go_wp2_with fail
      go_ret
      exact ⟨by rw [← HRES.out]; rfl, rfl⟩
set_option maxHeartbeats 2000000 in
theorem runNum_any (s : ByteArray) (w : World) (hs : s.size ≤ 1000000000) :
    Calls Tryz.prog 144 #[.string s, .func (.func 145) #[] #[]] w fun e w' => e = .returned (.string (runB numC s)) ∧ w = w' := by
  have HF := Lib.hid inNumber_any
  go_enter Tryz.func144, Tryz.ntmps144
  go_wp2_with fail
  go_loopg [8] s.size (fun g s8 wr => ∃ k : Nat, s8 = .int .i64 k ∧ k ≤ s.size ∧ s.size - k ≤ g ∧ RowKit.Hid (∀ j, (hj : j < s.data.toList.length) → j < k → numC s.data.toList[j] = true) ∧ RowKit.Hid (w = wr))
  case atStart => exact ⟨0, rfl, by omega, by omega, Lib.hid (fun j _ h => by omega), Lib.hid rfl⟩
  case round =>
    obtain ⟨k, rfl, hk, hg, HN, HW⟩ := hrel
    obtain rfl := HW.out
    by_cases hlt : k < s.size
    · have h1 : (k : Int) < (s.size : Int) := by omega
      obtain ⟨x, hx⟩ : ∃ x, s[k] = x := ⟨_, rfl⟩
      have hxl : s.data.toList[k]'(by rw [size_list]; exact hlt) = x := by rw [← hx]; rfl
      obtain ⟨r, hr⟩ : ∃ r, r = numC x := ⟨_, rfl⟩
      have CF := HF.out x w
      rw [← hr] at CF
      have HC := Lib.hid CF; have HR := Lib.hid hr; have HX := Lib.hid hxl
      clear CF hr hxl
      cases r with
      | true =>
        have HN2 := Lib.hid (show ∀ j, (hj : j < s.data.toList.length) → j < k + 1 → numC s.data.toList[j] = true from fun j hj hjk => by
          rcases Nat.lt_or_ge j k with g | g
          · exact HN.out j hj g
          · have : j = k := by omega
            subst this; rw [HX.out]; exact HR.out.symm)
        go_wp2_with fail
        refine HC.out.mono ?_
        rintro e w' ⟨rfl, rfl⟩
        go_wp2_with fail
        go_roundg (s.size - (k + 1))
        case measure => omega
        case rel => exact ⟨k + 1, by go_num, by omega, by omega, HN2, Lib.hid rfl⟩
      | false =>
        have HRES := Lib.hid (show (s.extract 0 k) = runB numC s from by
          have := takeWhile_len numC s.data.toList k HN.out (by rw [size_list]; omega) (fun hk' => by rw [HX.out]; exact HR.out.symm)
          unfold runB
          rw [this, ← strB_eq (s.extract 0 k)]
          congr 1
          simp)
        go_wp2_with fail
        refine HC.out.mono ?_
        rintro e w' ⟨rfl, rfl⟩
        go_wp2_with fail
        go_ret
        exact ⟨by rw [← HRES.out]; rfl, rfl⟩
    · have h1 : ¬ (k : Int) < (s.size : Int) := by omega
      have HRES := Lib.hid (show s = runB numC s from by
        have := takeWhile_len numC s.data.toList k HN.out (by rw [size_list]; omega) (fun hk' => by rw [size_list] at hk'; omega)
        unfold runB
        rw [this, List.take_of_length_le (by rw [size_list]; omega), strB_eq])
      go_wp2_with fail
      go_ret
      exact ⟨by rw [← HRES.out]; rfl, rfl⟩
set_option maxHeartbeats 2000000 in
theorem runName_any (s : ByteArray) (w : World) (hs : s.size ≤ 1000000000) :
    Calls Tryz.prog 144 #[.string s, .func (.func 193) #[] #[]] w fun e w' => e = .returned (.string (runB nameC s)) ∧ w = w' := by
  have HF := Lib.hid inNameD_any
  go_enter Tryz.func144, Tryz.ntmps144
  go_wp2_with fail
  go_loopg [8] s.size (fun g s8 wr => ∃ k : Nat, s8 = .int .i64 k ∧ k ≤ s.size ∧ s.size - k ≤ g ∧ RowKit.Hid (∀ j, (hj : j < s.data.toList.length) → j < k → nameC s.data.toList[j] = true) ∧ RowKit.Hid (w = wr))
  case atStart => exact ⟨0, rfl, by omega, by omega, Lib.hid (fun j _ h => by omega), Lib.hid rfl⟩
  case round =>
    obtain ⟨k, rfl, hk, hg, HN, HW⟩ := hrel
    obtain rfl := HW.out
    by_cases hlt : k < s.size
    · have h1 : (k : Int) < (s.size : Int) := by omega
      obtain ⟨x, hx⟩ : ∃ x, s[k] = x := ⟨_, rfl⟩
      have hxl : s.data.toList[k]'(by rw [size_list]; exact hlt) = x := by rw [← hx]; rfl
      obtain ⟨r, hr⟩ : ∃ r, r = nameC x := ⟨_, rfl⟩
      have CF := HF.out x w
      rw [← hr] at CF
      have HC := Lib.hid CF; have HR := Lib.hid hr; have HX := Lib.hid hxl
      clear CF hr hxl
      cases r with
      | true =>
        have HN2 := Lib.hid (show ∀ j, (hj : j < s.data.toList.length) → j < k + 1 → nameC s.data.toList[j] = true from fun j hj hjk => by
          rcases Nat.lt_or_ge j k with g | g
          · exact HN.out j hj g
          · have : j = k := by omega
            subst this; rw [HX.out]; exact HR.out.symm)
        go_wp2_with fail
        refine HC.out.mono ?_
        rintro e w' ⟨rfl, rfl⟩
        go_wp2_with fail
        go_roundg (s.size - (k + 1))
        case measure => omega
        case rel => exact ⟨k + 1, by go_num, by omega, by omega, HN2, Lib.hid rfl⟩
      | false =>
        have HRES := Lib.hid (show (s.extract 0 k) = runB nameC s from by
          have := takeWhile_len nameC s.data.toList k HN.out (by rw [size_list]; omega) (fun hk' => by rw [HX.out]; exact HR.out.symm)
          unfold runB
          rw [this, ← strB_eq (s.extract 0 k)]
          congr 1
          simp)
        go_wp2_with fail
        refine HC.out.mono ?_
        rintro e w' ⟨rfl, rfl⟩
        go_wp2_with fail
        go_ret
        exact ⟨by rw [← HRES.out]; rfl, rfl⟩
    · have h1 : ¬ (k : Int) < (s.size : Int) := by omega
      have HRES := Lib.hid (show s = runB nameC s from by
        have := takeWhile_len nameC s.data.toList k HN.out (by rw [size_list]; omega) (fun hk' => by rw [size_list] at hk'; omega)
        unfold runB
        rw [this, List.take_of_length_le (by rw [size_list]; omega), strB_eq])
      go_wp2_with fail
      go_ret
      exact ⟨by rw [← HRES.out]; rfl, rfl⟩
end Go.Proofs.YtjnhcoflmechmaaGreatDoor

namespace Go.Proofs.YtjnhcoflmechmaaGreatDoor
open Go.RowKit Go.Sort
set_option linter.unusedVariables false
set_option maxRecDepth 100000
def tokV (l : Bytes) : Value := match l with
  | [] => .iface 175 (.agg #[])
  | c :: r => if lowC c then .iface 126 (.string (strB ((c :: r).takeWhile lowC))) else if numC c then .iface 128 (.string (strB ((c :: r).takeWhile numC))) else .iface 130 (.int .u8 (c.toNat : Int))
def tokN (l : Bytes) : Nat := match l with
  | [] => 0
  | c :: r => if lowC c then ((c :: r).takeWhile lowC).length else if numC c then ((c :: r).takeWhile numC).length else 1
theorem str_cons {t : ByteArray} {c : UInt8} {r : Bytes} (h : t.data.toList = c :: r) : ∃ h0 : 0 < t.size, t[0] = c := by
  have h0 : 0 < t.size := by rw [← size_list, h]; simp
  refine ⟨h0, ?_⟩
  have : t.data.toList[0]'(by rw [size_list]; exact h0) = c := by simp [h]
  exact this
set_option maxHeartbeats 2000000 in
theorem tokenOf_any (t : ByteArray) (w : World) (hs : t.size ≤ 1000000000) : Calls Tryz.prog 116 #[.string t] w fun e w' => e = .returned (tokV t.data.toList) ∧ w = w' := by
  obtain ⟨l, hl⟩ : ∃ l, l = t.data.toList := ⟨_, rfl⟩
  rw [← hl]
  cases l with
  | nil =>
    have hn : t = ⟨#[]⟩ := by rw [← strB_eq t, ← hl]; rfl
    subst hn
    clear hl
    go_enter Tryz.func116, Tryz.ntmps116
    go_wp2_with fail
    go_ret
    exact ⟨rfl, rfl⟩
  | cons c r =>
    obtain ⟨h0, hc⟩ := str_cons hl.symm
    have hne : (t.toList == []) = false := by
      rw [Lib.toList_data, ← hl]; rfl
    have hne2 : ¬ t.toList = [] := by simpa using hne
    have hti : (0 : Int) < (t.size : Int) := by omega
    have CL := isLetter_any c w
    have CN := inNumber_any c w
    have CRL := runLow_any t w hs
    have CRN := runNum_any t w hs
    unfold runB at CRL CRN
    rw [← hl] at CRL CRN
    obtain ⟨r1, hr1⟩ : ∃ r, r = lowC c := ⟨_, rfl⟩
    obtain ⟨r2, hr2⟩ : ∃ r, r = numC c := ⟨_, rfl⟩
    rw [← hr1] at CL
    rw [← hr2] at CN
    have HT := Lib.hid (show tokV (c :: r) = if r1 then .iface 126 (.string (strB ((c :: r).takeWhile lowC))) else if r2 then .iface 128 (.string (strB ((c :: r).takeWhile numC))) else .iface 130 (.int .u8 (c.toNat : Int)) by rw [hr1, hr2]; rfl)
    obtain ⟨sl, hsl⟩ : ∃ sl, sl = strB ((c :: r).takeWhile lowC) := ⟨_, rfl⟩
    obtain ⟨sn, hsn⟩ : ∃ sn, sn = strB ((c :: r).takeWhile numC) := ⟨_, rfl⟩
    rw [← hsl] at CRL HT
    rw [← hsn] at CRN HT
    have HCL := Lib.hid CL; have HCN := Lib.hid CN; have HRL := Lib.hid CRL; have HRN := Lib.hid CRN
    clear CL CN CRL CRN hr1 hr2 hsl hsn hl
    cases r1 with
    | true =>
      go_enter Tryz.func116, Tryz.ntmps116
      go_wp2_with fail
      refine HCL.out.mono ?_
      rintro e w' ⟨rfl, rfl⟩
      go_wp2_with fail
      refine HRL.out.mono ?_
      rintro e w' ⟨rfl, rfl⟩
      go_wp2_with fail
      go_ret
      exact ⟨by rw [HT.out]; rfl, rfl⟩
    | false =>
      cases r2 with
      | true =>
        go_enter Tryz.func116, Tryz.ntmps116
        go_wp2_with fail
        refine HCL.out.mono ?_
        rintro e w' ⟨rfl, rfl⟩
        go_wp2_with fail
        refine HCN.out.mono ?_
        rintro e w' ⟨rfl, rfl⟩
        go_wp2_with fail
        refine HRN.out.mono ?_
        rintro e w' ⟨rfl, rfl⟩
        go_wp2_with fail
        go_ret
        exact ⟨by rw [HT.out]; rfl, rfl⟩
      | false =>
        go_enter Tryz.func116, Tryz.ntmps116
        go_wp2_with fail
        refine HCL.out.mono ?_
        rintro e w' ⟨rfl, rfl⟩
        go_wp2_with fail
        refine HCN.out.mono ?_
        rintro e w' ⟨rfl, rfl⟩
        go_wp2_with fail
        go_ret
        exact ⟨by rw [HT.out]; rfl, rfl⟩
theorem size126 (t : ByteArray) (w : World) : Calls Tryz.prog 225 #[.string t] w fun e w' => e = .returned (.int .i64 t.size) ∧ w = w' := by
  go_enter Tryz.func225, Tryz.ntmps225
  go_wp2_with fail
  go_ret
  exact ⟨rfl, rfl⟩
theorem size128 (t : ByteArray) (w : World) : Calls Tryz.prog 226 #[.string t] w fun e w' => e = .returned (.int .i64 t.size) ∧ w = w' := by
  go_enter Tryz.func226, Tryz.ntmps226
  go_wp2_with fail
  go_ret
  exact ⟨rfl, rfl⟩
theorem size130 (c : Int) (w : World) : Calls Tryz.prog 227 #[.int .u8 c] w fun e w' => e = .returned (.int .i64 1) ∧ w = w' := by
  go_enter Tryz.func227, Tryz.ntmps227
  go_wp2_with fail
  go_ret
  exact ⟨rfl, rfl⟩
theorem size175 (P : Nat) (s : ByteArray) (a o v : Nat) (er : Int) (w : World) (h : P5 w P s a o v er) : Calls Tryz.prog 228 #[.agg #[]] w fun e w' => e = .returned (.int .i64 0) ∧ P5 w' P s a o v er ∧ Kept (· = P) w w' := by
  have HP := Lib.hid h
  have hlt := h.lt
  clear h
  go_enter Tryz.func228, Tryz.ntmps228
  go_wp2_with fail
  go_ret
  have hk : Kept (fun _ => False) w (w.alloc (.cells #[] 175)) := kept_alloc _ _ _
  exact ⟨rfl, HP.out.kept hk (fun h => h), hk.mono (fun _ _ h => absurd h (fun h => h))⟩
def NextP (P : Nat) (s : ByteArray) (a o v : Nat) (er : Int) (w : World) (e : Ending) (w' : World) : Prop := e = .returned (tokV (restL s a)) ∧ P5 w' P s (a + tokN (restL s a)) o v er ∧ Kept (· = P) w w'
theorem tokN_le (l : Bytes) : tokN l ≤ l.length := by
  cases l with
  | nil => exact Nat.le_refl _
  | cons c r =>
    unfold tokN
    have h1 := (List.takeWhile_prefix lowC (l := c :: r)).length_le
    have h2 := (List.takeWhile_prefix numC (l := c :: r)).length_le
    simp only
    split
    · exact h1
    · split
      · exact h2
      · simp
theorem tok_cases (l : Bytes) : (tokV l = .iface 175 (.agg #[]) ∧ tokN l = 0) ∨ (∃ t : ByteArray, tokV l = .iface 126 (.string t) ∧ tokN l = t.size) ∨ (∃ t : ByteArray, tokV l = .iface 128 (.string t) ∧ tokN l = t.size) ∨ (∃ c : Int, tokV l = .iface 130 (.int .u8 c) ∧ tokN l = 1) := by
  cases l with
  | nil => exact .inl ⟨rfl, rfl⟩
  | cons c r =>
    unfold tokV tokN
    simp only
    split
    · exact .inr (.inl ⟨_, rfl, by rw [← size_list, strB_data]⟩)
    · split
      · exact .inr (.inr (.inl ⟨_, rfl, by rw [← size_list, strB_data]⟩))
      · exact .inr (.inr (.inr ⟨_, rfl, rfl⟩))
theorem ext_rest (s : ByteArray) (a : Nat) : (s.extract a s.size).data.toList = restL s a := by
  unfold restL
  rw [Lib.extract_data]
  exact List.take_of_length_le (by rw [List.length_drop, size_list]; omega)
set_option maxHeartbeats 4000000 in
theorem next_any (P : Nat) (s : ByteArray) (a o v : Nat) (er : Int) (w : World) (h : P5 w P s a o v er) (ha : a ≤ s.size) (hs : s.size ≤ 1000000000) : Calls Tryz.prog 78 #[.pointer (some ⟨P, 0, none⟩)] w (NextP P s a o v er w) := by
  obtain ⟨t, ht⟩ : ∃ t, t = s.extract a s.size := ⟨_, rfl⟩
  have htl : t.data.toList = restL s a := by rw [ht]; exact ext_rest s a
  have hts : t.size ≤ 1000000000 := by rw [← size_list, htl, restL_len]; omega
  have CT := Lib.hid (show ∀ n, Calls Tryz.prog 116 #[.string t] (w.drewN n) fun e w' => e = .returned (tokV (restL s a)) ∧ w' = w.drewN n from fun n => by
    rw [← htl]; exact (tokenOf_any t _ hts).mono (fun e w' h => ⟨h.1, h.2.symm⟩))
  obtain ⟨a0, a1, a2, a3, a4⟩ := h.cells
  have HP := Lib.hid h
  have hai : (a : Int) ≤ (s.size : Int) := by omega
  have ha0 : (0 : Int) ≤ (a : Int) := by omega
  have HT := Lib.hid ht
  have hts' : s.extract a s.size = t := ht.symm
  obtain ⟨tv, htv⟩ : ∃ tv, tv = tokV (restL s a) := ⟨_, rfl⟩
  have HTV := Lib.hid htv
  rw [← htv] at CT
  have htn := tokN_le (restL s a)
  rw [restL_len] at htn
  clear htv ht htl hts h
  go_enter Tryz.func78, Tryz.ntmps78
  go_wp2_with fail
  go_quiet ((go_at_call 116; exact Calls.quiet_of_same (CT.out _)))
  generalize hw2 : w.drewN _ = w2
  have hk2 : Kept (· = P) w w2 := by rw [← hw2]; exact kept_below (below_drewN _ _ _) _
  have hp2 : P5 w2 P s a o v er := by rw [← hw2]; exact HP.out
  obtain ⟨n, hn⟩ : ∃ n, n = tokN (restL s a) := ⟨_, rfl⟩
  have htc := tok_cases (restL s a)
  rw [← HTV.out, ← hn] at htc
  rw [← hn] at htn
  have HR := Lib.hid (show ∀ (w5 : World) (x : Int), P5 w5 P s a o v er → Kept (· = P) w w5 → x = ((a + n : Nat) : Int) → NextP P s a o v er w (.returned tv) (w5.setCell ⟨P, 1, none⟩ (.int .i64 x)) from fun w5 x h5 hk5 hx => by
    subst hx
    refine ⟨by rw [HTV.out], ?_, hk5.trans (kept_setCell _ ⟨P, 1, none⟩ _)⟩
    rw [← hn]; exact h5.set1 _)
  have HKD := Lib.hid (show Kept (· = P) w (w2.drewN 1) from hk2.trans (kept_below (below_drewN _ _ _) _))
  have HK2 := Lib.hid hk2
  have HP2 := Lib.hid hp2
  clear hw2 a0 a1 a2 a3 a4 HP hn hk2 HTV CT HT hts'
  obtain ⟨a0, a1, a2, a3, a4⟩ := hp2.cells
  have f1 := hp2.frozen 1
  have hlt := hp2.lt
  clear hp2
  rcases htc with ⟨rfl, rfl⟩ | ⟨t2, rfl, rfl⟩ | ⟨t2, rfl, rfl⟩ | ⟨c2, rfl, rfl⟩
  · have hwr : IntKind.i64.wrap (a : Int) = (a : Int) := by rw [IntKind.wrap_i64]; omega
    have hm : ∀ w : World, (method 339 175 (.agg #[]) "tendril/datum.size").run Tryz.prog w = .ok (228, .agg #[]) w := fun _ => by kernel_rfl
    go_wp2_with fail
    go_region_law (go_simp; go_at_call 228; refine (size175 P s a o v er _ (by exact HP2.out)).mono ?_; rintro e w8 ⟨rfl, h8, hk8⟩; obtain ⟨b0, b1, b2, b3, b4⟩ := h8.cells; have g1 := h8.frozen 1)
    all_goals
      go_wp2_with fail
      go_ret
      exact HR.out _ _ h8 (Kept.trans HKD.out hk8) (by first | omega | (rw [IntKind.wrap_i64]; omega))
  · have hm : ∀ w : World, (method 339 126 (.string t2) "tendril/datum.size").run Tryz.prog w = .ok (225, .string t2) w := fun _ => by kernel_rfl
    go_wp2_with fail
    go_region_law (go_simp; go_at_call 225; refine (size126 _ _).mono ?_; rintro e w8 ⟨rfl, rfl⟩)
    all_goals
      go_wp2_with fail
      go_ret
      exact HR.out w2.drew _ HP2.out HKD.out (by first | omega | (rw [IntKind.wrap_i64]; omega))
  · have hm : ∀ w : World, (method 339 128 (.string t2) "tendril/datum.size").run Tryz.prog w = .ok (226, .string t2) w := fun _ => by kernel_rfl
    go_wp2_with fail
    go_region_law (go_simp; go_at_call 226; refine (size128 _ _).mono ?_; rintro e w8 ⟨rfl, rfl⟩)
    all_goals
      go_wp2_with fail
      go_ret
      exact HR.out w2.drew _ HP2.out HKD.out (by first | omega | (rw [IntKind.wrap_i64]; omega))
  · have hm : ∀ w : World, (method 339 130 (.int .u8 c2) "tendril/datum.size").run Tryz.prog w = .ok (227, .int .u8 c2) w := fun _ => by kernel_rfl
    go_wp2_with fail
    go_region_law (go_simp; go_at_call 227; refine (size130 _ _).mono ?_; rintro e w8 ⟨rfl, rfl⟩)
    all_goals
      go_wp2_with fail
      go_ret
      exact HR.out w2.drew _ HP2.out HKD.out (by first | omega | (rw [IntKind.wrap_i64]; omega))
end Go.Proofs.YtjnhcoflmechmaaGreatDoor

namespace Go.Proofs.YtjnhcoflmechmaaGreatDoor
open Go.RowKit Go.Sort
set_option linter.unusedVariables false
set_option maxRecDepth 100000
theorem res5z {w w1 : World} {k n : Int} (h : B5 w1 w.heap.size 46 (.int .i64 0) (.int .i64 0) (.string ⟨#[]⟩) (.slice none 0 0) (.slice none 0 0)) (hb : Below w.heap.size w w1) :
    B5 (put5 w1 w.heap.size (.int .i64 k) (.int .i64 n) (.string ⟨#[]⟩) (.slice none 0 0) (.slice none 0 0)) w.heap.size 46 (.int .i64 k) (.int .i64 n) (.string ⟨#[]⟩) (.slice none 0 0) (.slice none 0 0) ∧ Below w.heap.size w (put5 w1 w.heap.size (.int .i64 k) (.int .i64 n) (.string ⟨#[]⟩) (.slice none 0 0) (.slice none 0 0)) := by
  refine ⟨h.put _ _ _ _ _, ?_⟩
  unfold put5
  exact ((((hb.setCell (Nat.le_refl _) _).setCell (Nat.le_refl _) _).setCell (Nat.le_refl _) _).setCell (Nat.le_refl _) _).setCell (Nat.le_refl _) _
abbrev smallV (k n : Int) : Value := .agg #[.int .i64 k, .int .i64 n, .string ⟨#[]⟩, .slice none 0 0, .slice none 0 0]
/-- The word's value, or none. -/
def ConstP (l : Bytes) (w : World) (e : Ending) (w' : World) : Prop :=
  ((∃ k n : Int, constD l = some (.mk k n noB [] []) ∧ e = .returned (.tuple #[smallV k n, .bool true])) ∨ (constD l = none ∧ e = .returned (.tuple #[zeroV, .bool false]))) ∧ Below w.heap.size w w'
theorem constP_some {l : Bytes} {k n : Int} {w w' : World} (h : constD l = some (.mk k n noB [] [])) (hb : Below w.heap.size w w') : ConstP l w (.returned (.tuple #[smallV k n, .bool true])) w' := ⟨.inl ⟨k, n, h, rfl⟩, hb⟩
theorem constP_none {l : Bytes} {w w' : World} (h : constD l = none) (hb : Below w.heap.size w w') : ConstP l w (.returned (.tuple #[zeroV, .bool false])) w' := ⟨.inr ⟨h, rfl⟩, hb⟩
set_option maxHeartbeats 2000000 in
theorem const_a (s : ByteArray) (w : World) (h1 : (s.toList == [110, 111, 110, 101]) = true) (hc : constD s.data.toList = some (.mk 0 0 noB [] [])) : Calls Tryz.prog 79 #[.string s] w (ConstP s.data.toList w) := by
  obtain ⟨w1, hw1⟩ : ∃ w1, w1 = zeroW w := ⟨_, rfl⟩
  have hz1 : B5 w1 w.heap.size 46 (.int .i64 0) (.int .i64 0) (.string ⟨#[]⟩) (.slice none 0 0) (.slice none 0 0) := by rw [hw1]; exact B5.new _ _ _ _ _ _ _ _ rfl
  have hb1 : Below w.heap.size w w1 := by rw [hw1]; exact (Below.refl _ _).alloc (Nat.le_refl _) _
  obtain ⟨hE1, hE2⟩ := res5z (k := 0) (n := 0) hz1 hb1
  have HE1 := Lib.hid hE1
  have HF := Lib.hid (constP_some hc hE2)
  obtain ⟨z0, z1, z2, z3, z4⟩ := hz1.cells
  have y0 := hz1.frozen 0; have y1 := hz1.frozen 1; have y2 := hz1.frozen 2; have y3 := hz1.frozen 3; have y4 := hz1.frozen 4
  have HW1 := Lib.hid hw1
  clear hw1 hz1 hb1 hE1 hE2 hc
  go_enter Tryz.func79, Tryz.ntmps79
  go_upto_region 1 with (fail)
  rw [zeroW_out HW1]
  go_wp2_with fail
  refine bodyPost_ret (res5 rfl _ _ w.heap.size _ _ _ _ _ _ rfl rfl HE1.out) rfl ?_
  exact HF.out
set_option maxHeartbeats 2000000 in
theorem const_b (s : ByteArray) (w : World) (h1 : (s.toList == [110, 111, 110, 101]) = false) (h2 : (s.toList == [110, 111]) = true) (hc : constD s.data.toList = some (.mk 1 0 noB [] [])) : Calls Tryz.prog 79 #[.string s] w (ConstP s.data.toList w) := by
  obtain ⟨w1, hw1⟩ : ∃ w1, w1 = zeroW w := ⟨_, rfl⟩
  have hz1 : B5 w1 w.heap.size 46 (.int .i64 0) (.int .i64 0) (.string ⟨#[]⟩) (.slice none 0 0) (.slice none 0 0) := by rw [hw1]; exact B5.new _ _ _ _ _ _ _ _ rfl
  have hb1 : Below w.heap.size w w1 := by rw [hw1]; exact (Below.refl _ _).alloc (Nat.le_refl _) _
  obtain ⟨hE1, hE2⟩ := res5z (k := 1) (n := 0) hz1 hb1
  have HE1 := Lib.hid hE1
  have HF := Lib.hid (constP_some hc hE2)
  obtain ⟨z0, z1, z2, z3, z4⟩ := hz1.cells
  have y0 := hz1.frozen 0; have y1 := hz1.frozen 1; have y2 := hz1.frozen 2; have y3 := hz1.frozen 3; have y4 := hz1.frozen 4
  have HW1 := Lib.hid hw1
  clear hw1 hz1 hb1 hE1 hE2 hc
  go_enter Tryz.func79, Tryz.ntmps79
  go_upto_region 1 with (fail)
  rw [zeroW_out HW1]
  go_wp2_with fail
  refine bodyPost_ret (res5 rfl _ _ w.heap.size _ _ _ _ _ _ rfl rfl HE1.out) rfl ?_
  exact HF.out
set_option maxHeartbeats 2000000 in
theorem const_c (s : ByteArray) (w : World) (h1 : (s.toList == [110, 111, 110, 101]) = false) (h2 : (s.toList == [110, 111]) = false) (h3 : (s.toList == [121, 101, 115]) = true) (hc : constD s.data.toList = some (.mk 1 1 noB [] [])) : Calls Tryz.prog 79 #[.string s] w (ConstP s.data.toList w) := by
  obtain ⟨w1, hw1⟩ : ∃ w1, w1 = zeroW w := ⟨_, rfl⟩
  have hz1 : B5 w1 w.heap.size 46 (.int .i64 0) (.int .i64 0) (.string ⟨#[]⟩) (.slice none 0 0) (.slice none 0 0) := by rw [hw1]; exact B5.new _ _ _ _ _ _ _ _ rfl
  have hb1 : Below w.heap.size w w1 := by rw [hw1]; exact (Below.refl _ _).alloc (Nat.le_refl _) _
  obtain ⟨hE1, hE2⟩ := res5z (k := 1) (n := 1) hz1 hb1
  have HE1 := Lib.hid hE1
  have HF := Lib.hid (constP_some hc hE2)
  obtain ⟨z0, z1, z2, z3, z4⟩ := hz1.cells
  have y0 := hz1.frozen 0; have y1 := hz1.frozen 1; have y2 := hz1.frozen 2; have y3 := hz1.frozen 3; have y4 := hz1.frozen 4
  have HW1 := Lib.hid hw1
  clear hw1 hz1 hb1 hE1 hE2 hc
  go_enter Tryz.func79, Tryz.ntmps79
  go_upto_region 1 with (fail)
  rw [zeroW_out HW1]
  go_wp2_with fail
  refine bodyPost_ret (res5 rfl _ _ w.heap.size _ _ _ _ _ _ rfl rfl HE1.out) rfl ?_
  exact HF.out
set_option maxHeartbeats 2000000 in
theorem const_d (s : ByteArray) (w : World) (h1 : (s.toList == [110, 111, 110, 101]) = false) (h2 : (s.toList == [110, 111]) = false) (h3 : (s.toList == [121, 101, 115]) = false) (hc : constD s.data.toList = none) : Calls Tryz.prog 79 #[.string s] w (ConstP s.data.toList w) := by
  obtain ⟨w1, hw1⟩ : ∃ w1, w1 = zeroW w := ⟨_, rfl⟩
  have hz1 : B5 w1 w.heap.size 46 (.int .i64 0) (.int .i64 0) (.string ⟨#[]⟩) (.slice none 0 0) (.slice none 0 0) := by rw [hw1]; exact B5.new _ _ _ _ _ _ _ _ rfl
  have hb1 : Below w.heap.size w w1 := by rw [hw1]; exact (Below.refl _ _).alloc (Nat.le_refl _) _
  obtain ⟨hE1, hE2⟩ := res5z (k := 0) (n := 0) hz1 hb1
  have HE1 := Lib.hid hE1
  have HF := Lib.hid (constP_none hc hE2)
  obtain ⟨z0, z1, z2, z3, z4⟩ := hz1.cells
  have y0 := hz1.frozen 0; have y1 := hz1.frozen 1; have y2 := hz1.frozen 2; have y3 := hz1.frozen 3; have y4 := hz1.frozen 4
  have HW1 := Lib.hid hw1
  clear hw1 hz1 hb1 hE1 hE2 hc
  go_enter Tryz.func79, Tryz.ntmps79
  go_upto_region 1 with (fail)
  rw [zeroW_out HW1]
  go_wp2_with fail
  refine bodyPost_ret (res5 rfl _ _ w.heap.size _ _ _ _ _ _ rfl rfl HE1.out) rfl ?_
  exact HF.out
theorem constant_any (s : ByteArray) (w : World) : Calls Tryz.prog 79 #[.string s] w (ConstP s.data.toList w) := by
  have e : s.toList = s.data.toList := Lib.toList_data s
  by_cases h1 : s.data.toList = [110, 111, 110, 101]
  · exact const_a s w (by rw [e, h1]; rfl) (by unfold constD; rw [if_pos h1])
  · by_cases h2 : s.data.toList = [110, 111]
    · exact const_b s w (by rw [e]; exact beq_eq_false_iff_ne.2 h1) (by rw [e, h2]; rfl) (by unfold constD; rw [if_neg h1, if_pos h2])
    · by_cases h3 : s.data.toList = [121, 101, 115]
      · exact const_c s w (by rw [e]; exact beq_eq_false_iff_ne.2 h1) (by rw [e]; exact beq_eq_false_iff_ne.2 h2) (by rw [e, h3]; rfl) (by unfold constD; rw [if_neg h1, if_neg h2, if_pos h3])
      · exact const_d s w (by rw [e]; exact beq_eq_false_iff_ne.2 h1) (by rw [e]; exact beq_eq_false_iff_ne.2 h2) (by rw [e]; exact beq_eq_false_iff_ne.2 h3) (by unfold constD; rw [if_neg h1, if_neg h2, if_neg h3])
end Go.Proofs.YtjnhcoflmechmaaGreatDoor

namespace Go.Proofs.YtjnhcoflmechmaaGreatDoor
open Go.RowKit Go.Sort
set_option linter.unusedVariables false
set_option maxRecDepth 100000
/-- The name that comes, or the error. -/
def NameC (P : Nat) (s : ByteArray) (a o v : Nat) (w : World) (e : Ending) (w' : World) : Prop :=
  ((nmB (runB nameC (strB (restL s a))) = true ∧ e = .returned (.tuple #[.string (runB nameC (strB (restL s a))), .bool true]) ∧ P5 w' P s (a + (runB nameC (strB (restL s a))).size) o v 0) ∨
   (nmB (runB nameC (strB (restL s a))) = false ∧ e = .returned (.tuple #[.string ⟨#[]⟩, .bool false]) ∧ P5 w' P s a o v 2)) ∧ Kept (· = P) w w'
theorem nameC_ok {P : Nat} {s n : ByteArray} {a o v : Nat} {w w' : World} (hn : n = runB nameC (strB (restL s a))) (hr : nmB (runB nameC (strB (restL s a))) = true) (hp : P5 w' P s (a + n.size) o v 0) (hk : Kept (· = P) w w') : NameC P s a o v w (.returned (.tuple #[.string n, .bool true])) w' := by
  subst hn; exact ⟨.inl ⟨hr, rfl, hp⟩, hk⟩
theorem runB_len (p : UInt8 → Bool) (l : Bytes) : (runB p (strB l)).size ≤ l.length := by
  unfold runB
  rw [← size_list, strB_data, strB_data]
  exact (List.takeWhile_prefix p).length_le
theorem clone_any (n : ByteArray) (w : World) (h : n.size ≤ 281474976710656) : Calls Tryz.prog 158 #[.string n] w fun e w' => e = .returned (.string n) ∧ Below w.heap.size w w' := by
  have CL := Lib.hid (Tryz.stringslite_Clone n w h)
  go_enter Tryz.func158, Tryz.ntmps158
  go_wp2_with fail
  refine CL.out.mono ?_
  rintro e w1 ⟨rfl, hb⟩
  go_wp2_with fail
  go_ret
  exact ⟨rfl, hb⟩
set_option maxHeartbeats 4000000 in
theorem parseName_any (P : Nat) (s : ByteArray) (a o v : Nat) (w : World) (h : P5 w P s a o v 0) (ha : a ≤ s.size) (hs : s.size ≤ 1000000000) : Calls Tryz.prog 174 #[.pointer (some ⟨P, 0, none⟩)] w (NameC P s a o v w) := by
  obtain ⟨t, ht⟩ : ∃ t, t = s.extract a s.size := ⟨_, rfl⟩
  have htl : t.data.toList = restL s a := by rw [ht]; exact ext_rest s a
  have hts : t.size ≤ 1000000000 := by rw [← size_list, htl, restL_len]; omega
  obtain ⟨n, hn⟩ : ∃ n, n = runB nameC (strB (restL s a)) := ⟨_, rfl⟩
  have hns : n.size ≤ s.size - a := by rw [hn]; exact Nat.le_trans (runB_len _ _) (Nat.le_of_eq (restL_len _ _))
  have CT := Lib.hid (show ∀ k, Calls Tryz.prog 144 #[.string t, .func (.func 193) #[] #[]] (w.drewN k) fun e w' => e = .returned (.string n) ∧ w' = w.drewN k from fun k => by
    have e1 : t = strB (restL s a) := by rw [← htl]; exact (strB_eq t).symm
    rw [hn, ← e1]; exact (runName_any t _ hts).mono (fun e w' h => ⟨h.1, h.2.symm⟩))
  obtain ⟨a0, a1, a2, a3, a4⟩ := h.cells
  have HP := Lib.hid h
  have hai : (a : Int) ≤ (s.size : Int) := by omega
  have ha0 : (0 : Int) ≤ (a : Int) := by omega
  have hts' : s.extract a s.size = t := ht.symm
  obtain ⟨r, hr⟩ : ∃ r, r = nmB n := ⟨_, rfl⟩
  have HR := Lib.hid (hn ▸ hr : r = nmB (runB nameC (strB (restL s a))))
  have HN := Lib.hid hn
  have CN := Lib.hid (fun W => name_any n W (by simp only [maxLen]; omega))
  have hwn : wfB nameB n = r := by rw [hr, wfB_nm]
  clear hn htl ht h hr hts
  go_enter Tryz.func174, Tryz.ntmps174
  go_wp2_with fail
  go_quiet ((go_at_call 144; exact Calls.quiet_of_same (CT.out _)))
  generalize hw2 : w.drewN _ = w2
  have hk2 : Kept (· = P) w w2 := by rw [← hw2]; exact kept_below (below_drewN _ _ _) _
  have hp2 : P5 w2 P s a o v 0 := by rw [← hw2]; exact HP.out
  have CN2 := CN.out w2
  rw [hwn] at CN2
  have HK2 := Lib.hid hk2
  have HP2 := Lib.hid hp2
  have HC := Lib.hid CN2
  clear hw2 a0 a1 a2 a3 a4 HP hk2 CT hts' CN CN2 hwn
  obtain ⟨a0, a1, a2, a3, a4⟩ := hp2.cells
  have f1 := hp2.frozen 1
  have hlt := hp2.lt
  go_wp2_with fail
  refine HC.out.mono ?_
  rintro e w8 ⟨rfl, rfl⟩
  clear HC
  cases r with
  | true =>
    clear hp2
    have hwr : IntKind.i64.wrap ((a : Int) + (n.size : Int)) = ((a + n.size : Nat) : Int) := by rw [IntKind.wrap_i64]; omega
    go_wp2_with fail
    refine (clone_any n _ (by omega)).mono ?_
    rintro e w3 ⟨rfl, hb3⟩
    have hk2' : Kept (· = P) w2 (w2.setCell ⟨P, 1, none⟩ (.int .i64 ((a : Int) + n.size))) := kept_setCell w2 ⟨P, 1, none⟩ _
    have hk3 := (HK2.out.trans hk2').trans (kept_below hb3 _)
    have hp3 := B5.kept (HP2.out.set1 (.int .i64 ((a : Int) + n.size))) (kept_below hb3 (fun _ => False)) (fun h => h)
    have HK3 := Lib.hid hk3; have HP3 := Lib.hid hp3
    clear hk3 hp3 hk2' hb3
    go_wp2_with fail
    go_ret2
    exact nameC_ok HN.out HR.out.symm HP3.out HK3.out
  | false =>
    have CF := Lib.hid (fail_any P s a o v a 0 2 w2 hp2)
    clear hp2
    go_wp2_with fail
    refine CF.out.mono ?_
    rintro e w3 ⟨rfl, hp3, hk3⟩
    have HP3 := Lib.hid hp3; have HK3 := Lib.hid hk3
    clear hp3 hk3 CF
    go_wp2_with fail
    go_ret2
    exact ⟨.inr ⟨HR.out.symm, rfl, HP3.out⟩, HK2.out.trans HK3.out⟩
end Go.Proofs.YtjnhcoflmechmaaGreatDoor
