/-
  One step, executed on the line-up.
-/
import Derived.Test.YtlpjjnpafmakhaaLuOf
namespace Go.Proofs.Ytlpjjnpafmakhaa
open Go.RowKit
set_option linter.unusedVariables false

def DoPost (w : World) (base U bp bn n : Nat) (s : List Nat) (p : Int × Int) (e : Ending) (w' : World) : Prop :=
  ∃ (r : Bool) (N' P' : List Int) (s' : List Nat), e = .returned (.bool r) ∧ LU w' base U bp bn n N' P' ∧ Ring n N' P' s' ∧ Kept (two bp bn) w w' ∧ stepL n s p = (if r then some s' else none)
theorem step_not1 {n : Nat} {s : List Nat} {a b : Int} (h : ¬ (0 ≤ a ∧ a < n)) : stepL n s (a, b) = none := by
  unfold stepL; rw [if_neg (fun h1 => h ⟨h1.1, h1.2.1⟩)]
theorem step_not2 {n : Nat} {s : List Nat} {a : Int} : stepL n s (a, a) = none := by
  unfold stepL; rw [if_neg (fun h1 => h1.2.2 rfl)]
theorem step_not3 {n : Nat} {s : List Nat} {a b : Int} (hf : Fine n s) (h1 : b ≠ -1) (h : ¬ (0 ≤ b ∧ b < n)) : stepL n s (a, b) = none := by
  unfold stepL
  by_cases h0 : 0 ≤ a ∧ a < n ∧ b ≠ a
  · rw [if_pos h0, if_neg h1, if_neg]
    rintro ⟨h2, h3⟩
    have := hf.low _ (List.mem_filter.1 h3).1
    simp only at h2 this
    exact h ⟨h2, by omega⟩
  · rw [if_neg h0]
theorem step_not4 {n : Nat} {s : List Nat} {a : Int} {b : Nat} (h : b ∉ s) : stepL n s (a, (b : Int)) = none := by
  unfold stepL
  by_cases h0 : 0 ≤ a ∧ a < n ∧ (b : Int) ≠ a
  · rw [if_pos h0, if_neg (show ¬ (b : Int) = -1 by omega), if_neg]
    rintro ⟨h2, h3⟩
    exact h (by simpa using (List.mem_filter.1 h3).1)
  · rw [if_neg h0]
theorem step_end {n : Nat} {s : List Nat} {a : Nat} (ha : a < n) : stepL n s ((a : Int), -1) = some (less s a ++ [a]) := by
  unfold stepL
  rw [if_pos (show 0 ≤ (a : Int) ∧ (a : Int) < n ∧ (-1 : Int) ≠ a by omega), if_pos rfl]; simp
theorem step_mid {n : Nat} {s : List Nat} {a b : Nat} (ha : a < n) (hne : ¬ b = a) (hb : b ∈ s) : stepL n s ((a : Int), (b : Int)) = some (ahead (less s a) b a) := by
  unfold stepL
  rw [if_pos (show 0 ≤ (a : Int) ∧ (a : Int) < n ∧ (b : Int) ≠ a by omega), if_neg (show ¬ (b : Int) = -1 by omega), if_pos]
  · simp
  · refine ⟨by simp, ?_⟩
    simp only [Int.toNat_natCast]
    exact List.mem_filter.2 ⟨hb, by simpa using hne⟩
/-- Directly ahead of another one. -/
theorem Ring.ahead {n : Nat} {N P : List Int} {s : List Nat} {a b : Nat} (h : Ring n N P s) (ha : a < n) (hn : a ∉ s) (hb : b ∈ s) : ∃ q, q ≤ n ∧ el P b = (q : Nat) ∧ b ≤ n ∧ Ring n ((N.set a b).set q a) ((P.set a q).set b a) (ahead s b a) := by
  obtain ⟨u, v, rfl, hu, e1, e2⟩ := split_at hb
  have hm := lastOf_mem n u
  refine ⟨lastOf n u, ?_, ?_, Nat.le_of_lt (h.fine.low b hb), ?_⟩
  · rcases List.mem_cons.1 hm with h1 | h1
    · omega
    · exact Nat.le_of_lt (h.fine.low _ (by simp [h1]))
  · have := h.prev (u := u) (v := b :: v); simpa using this
  · have := h.insert (u := u) (v := b :: v) (t := a) (q := lastOf n u) (b := b) ha hn rfl rfl
    unfold Go.Proofs.Ytlpjjnpafmakhaa.ahead
    rw [e1, e2]
    exact this
theorem Ring.out_of {n : Nat} {N P : List Int} {s : List Nat} {a : Nat} (h : Ring n N P s) (ha : a ∈ s) : ∃ q b, q ≤ n ∧ b ≤ n ∧ el P a = (q : Nat) ∧ el N a = (b : Nat) ∧ Ring n ((N.set q b).set a (-1)) ((P.set b q).set a (-1)) (less s a) := by
  obtain ⟨u, v, rfl⟩ := List.append_of_mem ha
  obtain ⟨h1, h2, h3⟩ := h.remove (q := lastOf n u) (b := v.headD n) rfl rfl
  have hm := lastOf_mem n u
  refine ⟨lastOf n u, v.headD n, ?_, ?_, h1, h2, ?_⟩
  · rcases List.mem_cons.1 hm with h1 | h1
    · omega
    · exact Nat.le_of_lt (h.fine.low _ (by simp [h1]))
  · cases v with
    | nil => exact Nat.le_refl _
    | cons c v => exact Nat.le_of_lt (h.fine.low c (by simp))
  · rw [less_split h.fine.nodup]; exact h3
theorem standsB {n : Nat} {N P : List Int} {s : List Nat} (h : Ring n N P s) {x : Nat} (hx : x < n) : decide (el N x ≠ -1) = decide (x ∈ s) := by
  have := h.stands hx
  by_cases h1 : x ∈ s
  · simp [h1, this.2 h1]
  · have h2 : ¬ (el N x ≠ -1) := fun h => h1 (this.1 h)
    simp [h1, h2]

theorem isThing_yes (base U bp bn n : Nat) (N P : List Int) (x : Nat) (w : World) (h : LU w base U bp bn n N P) (hn : n ≤ 1000000) (hx : x < n) :
    Calls Try.prog 33 #[.pointer (some ⟨U, 0, none⟩), .int .i64 x] w fun e w' => e = .returned (.bool true) ∧ w = w' :=
  (isThing_any base U bp bn n N P x w h hn).mono fun e w' hh => ⟨by rw [hh.1]; simp [hx], hh.2⟩
theorem isThing_no (base U bp bn n : Nat) (N P : List Int) (x : Int) (w : World) (h : LU w base U bp bn n N P) (hn : n ≤ 1000000) (hx : ¬ (0 ≤ x ∧ x < n)) :
    Calls Try.prog 33 #[.pointer (some ⟨U, 0, none⟩), .int .i64 x] w fun e w' => e = .returned (.bool false) ∧ w = w' :=
  (isThing_any base U bp bn n N P x w h hn).mono fun e w' hh => ⟨by rw [hh.1, ← Bool.decide_and, decide_eq_false hx], hh.2⟩
theorem stands_if (base U bp bn n : Nat) (N P : List Int) (s : List Nat) (x : Nat) (w : World) (h : LU w base U bp bn n N P) (hn : n ≤ 1000000) (hr : Ring n N P s) (hx : x < n) (r : Bool) (hs : decide (x ∈ s) = r) :
    Calls Try.prog 34 #[.pointer (some ⟨U, 0, none⟩), .int .i64 x] w fun e w' => e = .returned (.bool r) ∧ w = w' :=
  (stands_any base U bp bn n N P x w h hn (by omega)).mono fun e w' hh => ⟨by rw [hh.1, standsB hr hx, hs], hh.2⟩

set_option maxRecDepth 100000 in
set_option maxHeartbeats 8000000 in
theorem do_no (base U bp bn n : Nat) (N P : List Int) (s : List Nat) (a b : Int) (w : World) (h : LU w base U bp bn n N P) (hr : Ring n N P s) (hn : n ≤ 1000000) (hs : stepL n s (a, b) = none) :
    Calls Try.prog 23 #[.pointer (some ⟨U, 0, none⟩), .agg #[.int .i64 a, .int .i64 b]] w fun e w' => e = .returned (.bool false) ∧ LU w' base U bp bn n N P ∧ Kept (two bp bn) w w' := by
  obtain ⟨w1, hw1⟩ : ∃ w1, w1 = w.alloc (.cells #[.int .i64 a, .int .i64 b] 36) := ⟨_, rfl⟩
  have k1 : Kept (two bp bn) w w1 := by rw [hw1]; exact kept_alloc _ _ _
  have h1 : LU w1 base U bp bn n N P := by rw [hw1]; exact h.keep (kept_alloc w _ (fun _ => False)) (fun h => h) (fun h => h) (fun h => h)
  have ca : w1.cell? ⟨w.heap.size, 0, none⟩ = some (.int .i64 a) := by rw [hw1]; simp
  have cb : w1.cell? ⟨w.heap.size, 1, none⟩ = some (.int .i64 b) := by rw [hw1]; simp
  have HW := Lib.hid hw1; have H := Lib.hid h1; have HK := Lib.hid k1; have HR := Lib.hid hr; have HS := Lib.hid hs
  have c0 := h1.c0
  clear hw1 h h1 k1 hr hs
  by_cases hA : 0 ≤ a ∧ a < n
  · obtain ⟨a', rfl⟩ : ∃ a' : Nat, a = a' := ⟨a.toNat, by omega⟩
    have ha : a' < n := by omega
    by_cases hb1 : b = -1
    · exfalso
      rw [hb1, step_end ha] at HS
      exact absurd HS.out (by simp)
    · have hbq : (b != -1) = true := by simpa using hb1
      by_cases hba : b = a'
      · subst hba
        go_enter Try.func23, Try.ntmps23
        go_wp2_with fail
        rw [← HW.out]
        refine (isThing_yes base U bp bn n N P a' w1 H.out hn ha).mono ?_
        rintro e w2 ⟨rfl, rfl⟩
        go_wp2_with fail
        go_ret
        exact ⟨rfl, H.out, HK.out⟩
      · have hbq2 : (b == (a' : Int)) = false := by simpa using hba
        by_cases hB : 0 ≤ b ∧ b < n
        · obtain ⟨b', rfl⟩ : ∃ b' : Nat, b = b' := ⟨b.toNat, by omega⟩
          have hb : b' < n := by omega
          have hmem : decide (b' ∈ s) = false := by
            by_cases hm : b' ∈ s
            · exfalso
              rw [step_mid ha (by omega) hm] at HS
              exact absurd HS.out (by simp)
            · simpa using hm
          have HM := Lib.hid hmem; clear hmem
          go_enter Try.func23, Try.ntmps23
          go_wp2_with fail
          rw [← HW.out]
          refine (isThing_yes base U bp bn n N P a' w1 H.out hn ha).mono ?_
          rintro e w2 ⟨rfl, rfl⟩
          go_wp2_with fail
          refine (isThing_yes base U bp bn n N P b' w1 H.out hn hb).mono ?_
          rintro e w2 ⟨rfl, rfl⟩
          go_wp2_with fail
          refine (stands_if base U bp bn n N P s b' w1 H.out hn HR.out hb false HM.out).mono ?_
          rintro e w2 ⟨rfl, rfl⟩
          go_wp2_with fail
          go_ret
          exact ⟨rfl, H.out, HK.out⟩
        · go_enter Try.func23, Try.ntmps23
          go_wp2_with fail
          rw [← HW.out]
          refine (isThing_yes base U bp bn n N P a' w1 H.out hn ha).mono ?_
          rintro e w2 ⟨rfl, rfl⟩
          go_wp2_with fail
          refine (isThing_no base U bp bn n N P b w1 H.out hn hB).mono ?_
          rintro e w2 ⟨rfl, rfl⟩
          go_wp2_with fail
          go_ret
          exact ⟨rfl, H.out, HK.out⟩
  · go_enter Try.func23, Try.ntmps23
    go_wp2_with fail
    rw [← HW.out]
    refine (isThing_no base U bp bn n N P a w1 H.out hn hA).mono ?_
    rintro e w2 ⟨rfl, rfl⟩
    go_wp2_with fail
    go_ret
    exact ⟨rfl, H.out, HK.out⟩

def DoYes (w : World) (base U bp bn n : Nat) (t : List Nat) (e : Ending) (w' : World) : Prop :=
  ∃ N' P', e = .returned (.bool true) ∧ LU w' base U bp bn n N' P' ∧ Ring n N' P' t ∧ Kept (two bp bn) w w'

set_option maxRecDepth 100000 in
set_option maxHeartbeats 8000000 in
theorem do_yes (base U bp bn n : Nat) (N P : List Int) (s t : List Nat) (a b : Int) (w : World) (h : LU w base U bp bn n N P) (hr : Ring n N P s) (hn : n ≤ 1000000) (hs : stepL n s (a, b) = some t) :
    Calls Try.prog 23 #[.pointer (some ⟨U, 0, none⟩), .agg #[.int .i64 a, .int .i64 b]] w (DoYes w base U bp bn n t) := by
  obtain ⟨w1, hw1⟩ : ∃ w1, w1 = w.alloc (.cells #[.int .i64 a, .int .i64 b] 36) := ⟨_, rfl⟩
  have k1 : Kept (two bp bn) w w1 := by rw [hw1]; exact kept_alloc _ _ _
  have h1 : LU w1 base U bp bn n N P := by rw [hw1]; exact h.keep (kept_alloc w _ (fun _ => False)) (fun h => h) (fun h => h) (fun h => h)
  have ca : w1.cell? ⟨w.heap.size, 0, none⟩ = some (.int .i64 a) := by rw [hw1]; simp
  have cb : w1.cell? ⟨w.heap.size, 1, none⟩ = some (.int .i64 b) := by rw [hw1]; simp
  have hS : ¬ two bp bn w.heap.size := by
    rintro (e | e)
    · have := h.ltP; omega
    · have := h.ltN; omega
  have HW := Lib.hid hw1; have H := Lib.hid h1; have HK := Lib.hid k1; have HR := Lib.hid hr; have HS := Lib.hid hs; have HN := Lib.hid hS
  have c0 := h1.c0
  clear hw1 h h1 k1 hr hs hS
  by_cases hA : 0 ≤ a ∧ a < n
  · obtain ⟨a', rfl⟩ : ∃ a' : Nat, a = a' := ⟨a.toNat, by omega⟩
    have ha : a' < n := by omega
    obtain ⟨r, hr⟩ : ∃ r, decide (a' ∈ s) = r := ⟨_, rfl⟩
    have HRR := Lib.hid hr
    clear hr
    by_cases hb1 : b = -1
    · subst hb1
      have HT := Lib.hid (show less s a' ++ [a'] = t by have := HS.out; rw [step_end ha] at this; simpa using this)
      clear HS
      go_enter Try.func23, Try.ntmps23
      go_wp2_with fail
      rw [← HW.out]
      refine (isThing_yes base U bp bn n N P a' w1 H.out hn ha).mono ?_
      rintro e w2 ⟨rfl, rfl⟩
      go_wp2_with fail
      refine (stands_if base U bp bn n N P s a' w1 H.out hn HR.out ha r HRR.out).mono ?_
      rintro e w2 ⟨rfl, rfl⟩
      cases r with
      | true =>
        obtain ⟨q, z, hq, hz, eq, ez, hr2⟩ := HR.out.out_of (a := a') (by have := HRR.out; simpa using this)
        have EQ := Lib.hid eq; have EZ := Lib.hid ez; clear eq ez
        go_wp2_with fail
        refine (remove_any base U bp bn n N P a' z q w1 H.out hn (by omega) hz hq EQ.out EZ.out).mono ?_
        rintro e w2 ⟨rfl, h2, k2⟩
        obtain ⟨q2, hq2, eq2, hr3⟩ := hr2.push ha (not_mem_less s a')
        have ca2 := k2.cellOf ca HN.out
        have EQ2 := Lib.hid eq2; have K2 := Lib.hid k2; have H2 := Lib.hid h2
        clear eq2 k2 h2 ca cb c0
        go_wp2_with fail
        refine (insert_any base U bp bn n _ _ a' n q2 w2 H2.out hn (by omega) (by omega) hq2 EQ2.out).mono ?_
        rintro e w3 ⟨rfl, h3, k3⟩
        rw [HT.out] at hr3
        go_wp2_with fail
        go_ret
        exact ⟨_, _, rfl, h3, hr3, (HK.out.trans K2.out).trans k3⟩
      | false =>
        have hnm : a' ∉ s := by have := HRR.out; simpa using this
        obtain ⟨q2, hq2, eq2, hr3⟩ := HR.out.push ha hnm
        have EQ2 := Lib.hid eq2
        clear eq2
        go_wp2_with fail
        refine (insert_any base U bp bn n N P a' n q2 w1 H.out hn (by omega) (by omega) hq2 EQ2.out).mono ?_
        rintro e w3 ⟨rfl, h3, k3⟩
        have hT := HT.out
        rw [less_none hnm] at hT
        rw [hT] at hr3
        clear hT
        go_wp2_with fail
        go_ret
        exact ⟨_, _, rfl, h3, hr3, HK.out.trans k3⟩
    · have hbq : (b != -1) = true := by simpa using hb1
      by_cases hba : b = a'
      · exfalso
        subst hba
        have := HS.out
        rw [step_not2] at this
        exact absurd this (by simp)
      · have hbq2 : (b == (a' : Int)) = false := by simpa using hba
        by_cases hB : 0 ≤ b ∧ b < n
        · obtain ⟨b', rfl⟩ : ∃ b' : Nat, b = b' := ⟨b.toNat, by omega⟩
          have hb : b' < n := by omega
          have hne : ¬ b' = a' := by omega
          by_cases hm : b' ∈ s
          · have HM := Lib.hid (show decide (b' ∈ s) = true by simpa using hm)
            have HT := Lib.hid (show ahead (less s a') b' a' = t by have := HS.out; rw [step_mid ha hne hm] at this; simpa using this)
            have hml : b' ∈ less s a' := List.mem_filter.2 ⟨hm, by simpa using hne⟩
            clear HS
            go_enter Try.func23, Try.ntmps23
            go_wp2_with fail
            rw [← HW.out]
            refine (isThing_yes base U bp bn n N P a' w1 H.out hn ha).mono ?_
            rintro e w2 ⟨rfl, rfl⟩
            go_wp2_with fail
            refine (isThing_yes base U bp bn n N P b' w1 H.out hn hb).mono ?_
            rintro e w2 ⟨rfl, rfl⟩
            go_wp2_with fail
            refine (stands_if base U bp bn n N P s b' w1 H.out hn HR.out hb true HM.out).mono ?_
            rintro e w2 ⟨rfl, rfl⟩
            go_wp2_with fail
            refine (stands_if base U bp bn n N P s a' w1 H.out hn HR.out ha r HRR.out).mono ?_
            rintro e w2 ⟨rfl, rfl⟩
            cases r with
            | true =>
              obtain ⟨q, z, hq, hz, eq, ez, hr2⟩ := HR.out.out_of (a := a') (by have := HRR.out; simpa using this)
              have EQ := Lib.hid eq; have EZ := Lib.hid ez; clear eq ez
              go_wp2_with fail
              refine (remove_any base U bp bn n N P a' z q w1 H.out hn (by omega) hz hq EQ.out EZ.out).mono ?_
              rintro e w2 ⟨rfl, h2, k2⟩
              obtain ⟨q2, hq2, eq2, hbn, hr3⟩ := hr2.ahead ha (not_mem_less s a') hml
              have ca2 := k2.cellOf ca HN.out
              have cb2 := k2.cellOf cb HN.out
              have EQ2 := Lib.hid eq2; have K2 := Lib.hid k2; have H2 := Lib.hid h2
              clear eq2 k2 h2 ca cb c0
              go_wp2_with fail
              refine (insert_any base U bp bn n _ _ a' b' q2 w2 H2.out hn (by omega) (by omega) hq2 EQ2.out).mono ?_
              rintro e w3 ⟨rfl, h3, k3⟩
              rw [HT.out] at hr3
              go_wp2_with fail
              go_ret
              exact ⟨_, _, rfl, h3, hr3, (HK.out.trans K2.out).trans k3⟩
            | false =>
              have hnm : a' ∉ s := by have := HRR.out; simpa using this
              have hT := HT.out
              rw [less_none hnm] at hT
              obtain ⟨q2, hq2, eq2, hbn, hr3⟩ := HR.out.ahead ha hnm hm
              rw [hT] at hr3
              have EQ2 := Lib.hid eq2
              clear eq2 hT
              go_wp2_with fail
              refine (insert_any base U bp bn n N P a' b' q2 w1 H.out hn (by omega) (by omega) hq2 EQ2.out).mono ?_
              rintro e w3 ⟨rfl, h3, k3⟩
              go_wp2_with fail
              go_ret
              exact ⟨_, _, rfl, h3, hr3, HK.out.trans k3⟩
          · exfalso
            have := HS.out
            rw [step_not4 hm] at this
            exact absurd this (by simp)
        · exfalso
          have := HS.out
          rw [step_not3 HR.out.fine hb1 hB] at this
          exact absurd this (by simp)
  · exfalso
    have := HS.out
    rw [step_not1 hA] at this
    exact absurd this (by simp)
end Go.Proofs.Ytlpjjnpafmakhaa
