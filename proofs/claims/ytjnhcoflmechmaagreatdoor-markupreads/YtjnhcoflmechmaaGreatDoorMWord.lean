/-
  markup's parser: its words.
-/
import Derived.Test.YtjnhcoflmechmaaGreatDoorMPars
import Derived.Test.YtjnhcoflmechmaaGreatDoorDRef3
namespace Go.Proofs.YtjnhcoflmechmaaGreatDoor.M
open Go.RowKit Go.Sort
set_option linter.unusedVariables false
set_option maxRecDepth 100000
theorem inWI (c k : Int) (w : World) (h0 : 0 ≤ c) (h1 : c ≤ 255) (hk : 0 < k) : Calls Tryz.prog 157 #[.int .u8 c, .int .i64 k] w fun e w' => e = .returned (.bool (lowB c || numB c || c == 58 || c == 46)) ∧ w' = w := by
  have hd : decide (0 < k) = true := by simpa using hk
  go_enter Tryz.func157, Tryz.ntmps157
  go_wp2
  all_goals (try (apply_assumption -exfalso; go_wp2_with fail))
  all_goals (try (apply_assumption -exfalso; go_wp2_with fail))
  all_goals (try (apply_assumption -exfalso; go_wp2_with fail))
  all_goals (try (apply_assumption -exfalso; go_wp2_with fail))
  all_goals (try (apply_assumption -exfalso; go_wp2_with fail))
  all_goals (go_ret; refine ⟨ret_bool ?_, rfl⟩; first | (rw [Bool.eq_iff_iff]; simp [lowB, numB]; omega) | (rw [Bool.eq_iff_iff]; simp [lowB, numB]; done) | rfl)
theorem inW0 (c : Int) (w : World) (h0 : 0 ≤ c) (h1 : c ≤ 255) : Calls Tryz.prog 157 #[.int .u8 c, .int .i64 0] w fun e w' => e = .returned (.bool (lowB c)) ∧ w' = w := by
  go_enter Tryz.func157, Tryz.ntmps157
  go_wp2
  all_goals (try (apply_assumption -exfalso; go_wp2_with fail))
  all_goals (try (apply_assumption -exfalso; go_wp2_with fail))
  all_goals (go_ret; refine ⟨ret_bool ?_, rfl⟩; first | (rw [Bool.eq_iff_iff]; simp [lowB]; omega) | (rw [Bool.eq_iff_iff]; simp [lowB]; done) | rfl)
def inWB (k : Nat) (c : UInt8) : Bool := if k = 0 then lowC c else nameC c
theorem inWord_any (c : UInt8) (k : Nat) (w : World) : Calls Tryz.prog 157 #[.int .u8 (c.toNat : Int), .int .i64 k] w fun e w' => e = .returned (.bool (inWB k c)) ∧ w' = w := by
  have h := c.toNat_lt
  unfold inWB
  by_cases hk : k = 0
  · subst hk
    have := inW0 (c.toNat : Int) w (by omega) (by omega)
    rw [lowC_byte] at this
    simpa using this
  · rw [if_neg hk]
    have := inWI (c.toNat : Int) k w (by omega) (by omega) (by omega)
    rw [lowC_byte, numC_byte] at this
    have e : (lowC c || numC c || ((c.toNat : Int) == 58) || ((c.toNat : Int) == 46)) = nameC c := by
      unfold nameC
      rw [show ((c.toNat : Int) == 58) = (c.toNat == 58) by rw [Bool.eq_iff_iff]; simp; omega, show ((c.toNat : Int) == 46) = (c.toNat == 46) by rw [Bool.eq_iff_iff]; simp; omega]
    rwa [e] at this
theorem dropWhile_dropM (p : UInt8 → Bool) (l : Bytes) : l.dropWhile p = l.drop (l.takeWhile p).length := by
  induction l with
  | nil => rfl
  | cons c r ih =>
    by_cases h : p c = true
    · simp [h, ih]
    · simp [h]
theorem low_name {c : UInt8} (h : lowC c = true) : nameC c = true := by unfold nameC; rw [h]; rfl
theorem word_no {s : ByteArray} {a : Nat} (ha : a ≤ s.size) (h : ∀ h : a < s.size, lowC s[a] = false) : wordP (restL s a) = .bad (s.size - a) 2 := by
  rcases Nat.lt_or_ge a s.size with h1 | h1
  · have hl := restL_len s a
    rw [restL_cons h1] at hl ⊢
    unfold wordP
    simp only
    rw [if_neg (by rw [h h1]; decide), ← hl]
    rfl
  · rw [restL_nil h1, show s.size - a = 0 by omega]; rfl
theorem word_yes {s : ByteArray} {a b : Nat} (hab : a < b) (hb : b ≤ s.size) (h : ∀ j, (hj : j < s.size) → a ≤ j → j < b → nameC s[j] = true) (h0 : lowC (s[a]'(by omega)) = true) (hs : ∀ hk : b < s.size, nameC s[b] = false) : wordP (restL s a) = .ok (s.extract a b) (restL s b) := by
  have hlt : a < s.size := by omega
  obtain ⟨e1, e2⟩ := run_ext (Nat.le_of_lt hab) hb h hs
  have hd : (restL s a).dropWhile nameC = restL s b := by
    rw [dropWhile_dropM, restL_drop]
    have : ((restL s a).takeWhile nameC).length = b - a := by
      rw [← e2]; unfold runB; rw [← size_list, strB_data, strB_data]
    rw [this, show a + (b - a) = b by omega]
  rw [e1, ← hd]
  rw [restL_cons hlt]
  unfold wordP runB
  simp only [strB_data]
  rw [if_pos h0]
set_option maxHeartbeats 8000000 in
theorem mword_any (P : Nat) (s : ByteArray) (a b : Nat) (w : World) (h : P3 w P s a b) (ha : a ≤ s.size) (hs : s.size ≤ 1000000000) : Calls Tryz.prog 132 #[.pointer (some ⟨P, 0, none⟩)] w (MStep P s b Value.string (wordP (restL s a)) w) := by
  have HF := Lib.hid inWord_any
  have HP := Lib.hid h
  have HNO := Lib.hid (@word_no s a ha); have HYES := Lib.hid (fun (c : Nat) => @word_yes s a c)
  obtain ⟨R, hR⟩ : ∃ R, R = wordP (restL s a) := ⟨_, rfl⟩
  rw [← hR] at HNO HYES ⊢
  clear h hR
  go_enter Tryz.func132, Tryz.ntmps132
  go_wp2_with fail
  go_loopg [3] (s.size - a) (fun m s3 wr => ∃ k : Nat, s3 = .int .i64 k ∧ a + k ≤ s.size ∧ s.size - (a + k) ≤ m ∧ RowKit.Hid (P3 wr P s a b) ∧ RowKit.Hid (Kept (· = P) w wr) ∧ RowKit.Hid (∀ j, (hj : j < s.size) → a ≤ j → j < a + k → nameC s[j] = true ∧ (j = a → lowC s[j] = true)))
  case atStart => exact ⟨0, by go_num, by omega, by omega, HP, Lib.hid (Kept.refl _ _), Lib.hid (fun j _ h1 h2 => by omega)⟩
  case round =>
    obtain ⟨k, rfl, hk, hm, HR, HK, HN⟩ := hrel
    obtain ⟨a0, a1, a2⟩ := HR.out.cells
    have hsum : IntKind.i64.wrap ((a : Int) + (k : Int)) = (a : Int) + (k : Int) := by rw [IntKind.wrap_i64]; omega
    by_cases hlt : a + k < s.size
    · have hd : decide ((a : Int) + (k : Int) < (s.size : Int)) = true := by simp; omega
      have hd2 : (a : Int) + (k : Int) < (s.size : Int) := by omega
      have hd0 : (0 : Int) ≤ (a : Int) + (k : Int) := by omega
      have htn : ((a : Int) + (k : Int)).toNat = a + k := by omega
      obtain ⟨x, hx⟩ : ∃ x, s[a + k] = x := ⟨_, rfl⟩
      obtain ⟨r, hr⟩ : ∃ r, r = inWB k x := ⟨_, rfl⟩
      have CF := Lib.hid (show ∀ q, Calls Tryz.prog 157 #[.int .u8 (x.toNat : Int), .int .i64 k] (wr.drewN q) fun e w' => e = .returned (.bool r) ∧ w' = wr.drewN q from fun q => by rw [hr]; exact HF.out x k _)
      have HX := Lib.hid hx; have HRR := Lib.hid hr
      have hwr : IntKind.i64.wrap ((k : Int) + 1) = (k : Int) + 1 := by rw [IntKind.wrap_i64]; omega
      clear hr
      go_wp2_with fail
      go_quiet ((go_at_call 157; exact Calls.quiet_of_same (CF.out _)))
      generalize hw2 : wr.drewN _ = w2
      have hp2 : P3 w2 P s a b := by rw [← hw2]; exact HR.out
      have hk2 : Kept (· = P) w w2 := by rw [← hw2]; exact HK.out.trans (kept_drew _ _ _)
      have HK2 := Lib.hid hk2; have HP2 := Lib.hid hp2
      clear hw2 a0 a1 a2 hk2 CF HR HK
      cases r with
      | true =>
        have HN2 := Lib.hid (show ∀ j, (hj : j < s.size) → a ≤ j → j < a + (k + 1) → nameC s[j] = true ∧ (j = a → lowC s[j] = true) from fun j hj h1 h2 => by
          rcases Nat.lt_or_ge j (a + k) with g | g
          · exact HN.out j hj h1 g
          · have e : j = a + k := by omega
            subst e
            have hb : inWB k s[a + k] = true := by rw [HX.out]; exact HRR.out.symm
            unfold inWB at hb
            split at hb
            · exact ⟨low_name hb, fun _ => hb⟩
            · exact ⟨hb, fun h => by omega⟩)
        clear hp2
        go_wp2_with fail
        go_roundg (s.size - (a + (k + 1)))
        case measure => omega
        case rel => exact ⟨k + 1, by go_num, by omega, Nat.le_refl _, HP2, HK2, HN2⟩
      | false =>
        by_cases hk0 : k = 0
        · subst hk0
          have HF1 := Lib.hid (show MStep P s b Value.string R w (PanE a) w2 from mbad (HNO.out (fun h => by
                  have hb : inWB 0 s[a] = false := by
                    have e := HX.out
                    simp only [Nat.add_zero] at e
                    rw [e]; exact HRR.out.symm
                  exact hb)) (by omega) (by omega) HK2.out)
          have CX := Lib.hid (mfail_any P s a b w2 HP2.out)
          clear hp2
          go_wp2_with fail
          refine CX.out.mono ?_
          rintro e w9 ⟨rfl, rfl⟩
          exact ⟨rfl, HF1.out⟩
        · have hk1 : ((k : Int) == 0) = false := by simp; omega
          have hk2 : ¬ (k : Int) = 0 := by omega
          have hy := HYES.out (a + k) (by omega) hk (fun j hj h1 h2 => (HN.out j hj h1 h2).1) ((HN.out a (by omega) (Nat.le_refl _) (by omega)).2 rfl) (fun h => by
              have hb : inWB k s[a + k] = false := by rw [HX.out]; exact HRR.out.symm
              unfold inWB at hb
              rw [if_neg hk0] at hb
              exact hb)
          have HY := Lib.hid hy
          obtain ⟨w3, hw3⟩ : ∃ w3, w3 = w2.setCell ⟨P, 1, none⟩ (.int .i64 ((a : Int) + (k : Int))) := ⟨_, rfl⟩
          have hk3 : Kept (· = P) w2 w3 := by rw [hw3]; exact kept_setCell w2 ⟨P, 1, none⟩ _
          have hp3 : P3 w3 P s (a + k) b := by
            have := HP2.out.set1 (a + k)
            rw [show ((a + k : Nat) : Int) = (a : Int) + (k : Int) by omega, ← hw3] at this
            exact this
          obtain ⟨b0, b1, b2⟩ := hp2.cells
          have f1 := hp2.frozen 1
          have hab2 : (a : Int) ≤ (a : Int) + (k : Int) := by omega
          have hbs2 : (a : Int) + (k : Int) ≤ (s.size : Int) := by omega
          have ha0 : (0 : Int) ≤ (a : Int) := by omega
          have htn2 : ((a : Int) + (k : Int)).toNat = a + k := by omega
          have HP3 := Lib.hid hp3; have HK3 := Lib.hid (HK2.out.trans hk3); have HW3 := Lib.hid hw3.symm
          have hsz : (s.extract a (a + k)).size ≤ 281474976710656 := by rw [← size_list, ext_mid, List.length_take, restL_len]; omega
          have CC := Lib.hid (clone_any (s.extract a (a + k)) w3.drew hsz)
          obtain ⟨c0, c1, c2⟩ := hp3.cells
          rw [show ((a + k : Nat) : Int) = (a : Int) + (k : Int) by omega] at c1
          clear hy hw3 hk3 hp3 hp2 hsz
          go_upto_region 8 with (fail)
          rw [HW3.out]
          clear b0 b1 b2 f1
          go_region_law (go_simp; go_at_call 158; refine CC.out.mono ?_; rintro e w4 ⟨rfl, hb4⟩)
          all_goals
            have HK4 := Lib.hid (HK3.out.trans (kept_below ((below_drewN _ w3 1).trans hb4) _))
            have HP4 := Lib.hid (HP3.out.below ((below_drewN _ w3 1).trans hb4) HP3.out.lt)
            go_wp2_with fail
            go_ret
            exact mok HY.out hk HP4.out HK4.out
    · have hd : decide ((a : Int) + (k : Int) < (s.size : Int)) = false := by simp; omega
      have hd2 : ¬ (a : Int) + (k : Int) < (s.size : Int) := by omega
      go_wp2_with fail
      go_quiet (fail)
      generalize hw2 : wr.drewN _ = w2
      have hp2 : P3 w2 P s a b := by rw [← hw2]; exact HR.out
      have hk2 : Kept (· = P) w w2 := by rw [← hw2]; exact HK.out.trans (kept_drew _ _ _)
      have HK2 := Lib.hid hk2; have HP2 := Lib.hid hp2
      clear hw2 a0 a1 a2 hk2 HR HK
      by_cases hk0 : k = 0
      · subst hk0
        have HF1 := Lib.hid (show MStep P s b Value.string R w (PanE a) w2 from mbad (HNO.out (fun h => by omega)) (by omega) (by omega) HK2.out)
        have CX := Lib.hid (mfail_any P s a b w2 HP2.out)
        clear hp2
        go_wp2_with fail
        refine CX.out.mono ?_
        rintro e w9 ⟨rfl, rfl⟩
        exact ⟨rfl, HF1.out⟩
      · have hk1 : ((k : Int) == 0) = false := by simp; omega
        have hk2 : ¬ (k : Int) = 0 := by omega
        have hy := HYES.out (a + k) (by omega) hk (fun j hj h1 h2 => (HN.out j hj h1 h2).1) ((HN.out a (by omega) (Nat.le_refl _) (by omega)).2 rfl) (fun h => by omega)
        have HY := Lib.hid hy
        obtain ⟨w3, hw3⟩ : ∃ w3, w3 = w2.setCell ⟨P, 1, none⟩ (.int .i64 ((a : Int) + (k : Int))) := ⟨_, rfl⟩
        have hk3 : Kept (· = P) w2 w3 := by rw [hw3]; exact kept_setCell w2 ⟨P, 1, none⟩ _
        have hp3 : P3 w3 P s (a + k) b := by
          have := HP2.out.set1 (a + k)
          rw [show ((a + k : Nat) : Int) = (a : Int) + (k : Int) by omega, ← hw3] at this
          exact this
        obtain ⟨b0, b1, b2⟩ := hp2.cells
        have f1 := hp2.frozen 1
        have hab2 : (a : Int) ≤ (a : Int) + (k : Int) := by omega
        have hbs2 : (a : Int) + (k : Int) ≤ (s.size : Int) := by omega
        have ha0 : (0 : Int) ≤ (a : Int) := by omega
        have htn2 : ((a : Int) + (k : Int)).toNat = a + k := by omega
        have HP3 := Lib.hid hp3; have HK3 := Lib.hid (HK2.out.trans hk3); have HW3 := Lib.hid hw3.symm
        have hsz : (s.extract a (a + k)).size ≤ 281474976710656 := by rw [← size_list, ext_mid, List.length_take, restL_len]; omega
        have CC := Lib.hid (clone_any (s.extract a (a + k)) w3.drew hsz)
        obtain ⟨c0, c1, c2⟩ := hp3.cells
        rw [show ((a + k : Nat) : Int) = (a : Int) + (k : Int) by omega] at c1
        clear hy hw3 hk3 hp3 hp2 hsz
        go_upto_region 8 with (fail)
        rw [HW3.out]
        clear b0 b1 b2 f1
        go_region_law (go_simp; go_at_call 158; refine CC.out.mono ?_; rintro e w4 ⟨rfl, hb4⟩)
        all_goals
          have HK4 := Lib.hid (HK3.out.trans (kept_below ((below_drewN _ w3 1).trans hb4) _))
          have HP4 := Lib.hid (HP3.out.below ((below_drewN _ w3 1).trans hb4) HP3.out.lt)
          go_wp2_with fail
          go_ret
          exact mok HY.out hk HP4.out HK4.out
end Go.Proofs.YtjnhcoflmechmaaGreatDoor.M
