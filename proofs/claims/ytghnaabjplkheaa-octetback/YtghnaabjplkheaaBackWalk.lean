/-
  tendrillaw01.OctetBack: it answers true, whatever the numbers and the bytes.
-/
import Derived.Test.YtghnaabjplkheaaBackMath
import Derived.Test.YtghnaabjplkheaaAid2
import Derived.Deep.RegionHeld3
namespace Go.Proofs.Ytghnaabjplkheaa
open Go.RowKit
set_option linter.unusedVariables false
set_option linter.unusedSimpArgs false

theorem allPost_encs {w w' : World} {ns : List Int} {e : Ending} (hw : Words ns) (h : AllPost w (encs ns) e w') :
    ∃ v, e = .returned (.tuple #[v, .int .i64 0]) ∧ w'.ownsRow w.heap.size 24 1 v ns.length (ns.map (Value.int .u64)) ∧ Below w.heap.size w w' := by
  unfold AllPost at h
  rw [all_encs ns hw] at h
  exact h

def BackRel (ns ms : List Int) (w : World) (B : Nat) (b i : Value) : Prop :=
  ∃ (k : Nat) (A : Option Addr) (cap : Nat) (rest : List Int), k ≤ ns.length ∧ i = .int .i64 k ∧ rest = encs (ns.drop k) ++ ms ∧ b = .slice A rest.length cap ∧ Row .u8 w B A rest ∧ Bytes rest ∧ rest.length ≤ cap ∧ rest.length ≤ 3000

set_option maxHeartbeats 2000000 in
theorem back_any (A : Option Addr) (cap : Nat) (ns : List Int) (C : Option Addr) (capC : Nat) (ms : List Int) (w : World)
    (hrow : Row .u64 w w.heap.size A ns) (hw : Words ns) (hrm : Row .u8 w w.heap.size C ms) (hbm : Bytes ms) (hc0 : C = none → capC = 0) :
    Calls Try.prog 4 #[.slice A ns.length cap, .slice C ms.length capC] w fun e w' => e = .returned (.bool true) ∧ Below w.heap.size w w' := by
  by_cases hl : 200 < ns.length
  · have hl' : (200 : Int) < (ns.length : Int) := by omega
    go_enter Try.func4, Try.ntmps4
    go_wp2_with fail
    refine (same_law _).mono ?_
    rintro e w1 ⟨rfl, hb⟩
    go_wp2_with fail
    go_ret
    exact ⟨rfl, hb⟩
  · by_cases hm : 200 < ms.length
    · have hl' : ¬ (200 : Int) < (ns.length : Int) := by omega
      have hm' : (200 : Int) < (ms.length : Int) := by omega
      go_enter Try.func4, Try.ntmps4
      go_wp2_with fail
      refine (same_law _).mono ?_
      rintro e w1 ⟨rfl, hb⟩
      go_wp2_with fail
      go_ret
      exact ⟨rfl, hb⟩
    · have hl' : ¬ (200 : Int) < (ns.length : Int) := by omega
      have hm' : ¬ (200 : Int) < (ms.length : Int) := by omega
      obtain ⟨i0, hi, hz0, hz1, hz2⟩ := info_parts Try.info5
      have hel := encs_all_length ns hw
      have hsl := sizes_le ns hw ns.length (Nat.le_refl _)
      rw [List.take_length] at hsl
      have hbe := bytes_encs ns hw
      have helb : (encs ns).length ≤ 2000 := by omega
      have hsz : ((sizes ns : Nat) : Int) = ((encs ns).length : Int) := by omega
      have HSZ := Lib.hid hsz; clear hsz hel
      go_enter Try.func4, Try.ntmps4
      go_wp2_with fail
      refine (put_any A cap ns w.heap.size w (Nat.le_refl _) hrow hw (by omega)).mono ?_
      rintro e w1 ⟨v1, rfl, hown1, hb1⟩
      obtain ⟨A1, cap1, hv1, hr1, hlc1, hcm1⟩ := row_own hown1
      rw [hv1] at hown1 ⊢
      clear hv1
      have hrow1 := row_below hrow hb1
      have hrm1 := row_below hrm hb1
      have hcv : ∀ w' : World, Below w1.heap.size w1 w' → (convert 22 9 (.slice A1 (encs ns).length cap1)).run Try.prog w' = .ok (.string (strOfNums (encs ns))) w' := fun w' hb =>
        conv_row (P := Try.prog) 22 5 9 Try.underlying22 Try.underlying5 Try.underlying9 (row_below hr1 hb) cap1
      go_wp2_with fail
      refine wp_region_held_drew (S := fun w' => Below w1.heap.size w1 w') (by kernel_rfl) (Below.refl _ _).drew (fun hHeld => ?_)
      refine wpAnyH_take (i := 0) (oi := ⟨some 23, _, _, _, _, _⟩) (v := ?_) rfl (by kernel_rfl) (by kernel_rfl) (by kernel_rfl) (fun _ _ _ h => h) (Or.inl ⟨by rfl, ?_⟩) hHeld ?_
      rotate_left
      · (intro w hSw; go_simp; try with_reducible rfl)
      try simp only [Act.put, List.setIfInBounds_toArray, List.set_cons_zero, List.set_cons_succ]
      refine wpAnyH_take (i := 1) (oi := ⟨some 24, _, _, _, _, _⟩) (v := ?_) rfl (by kernel_rfl) (by kernel_rfl) (by kernel_rfl) (fun _ _ _ h => h) (Or.inl ⟨by rfl, ?_⟩) hHeld ?_
      rotate_left
      · (intro w hSw; go_simp; try with_reducible rfl)
      try simp only [Act.put, List.setIfInBounds_toArray, List.set_cons_zero, List.set_cons_succ]
      refine wpAnyH_take (i := 2) (oi := ⟨some 25, _, _, _, _, _⟩) (v := ?_) rfl (by kernel_rfl) (by kernel_rfl) (by kernel_rfl) (fun _ _ _ h => h) (Or.inl ⟨by rfl, ?_⟩) hHeld ?_
      rotate_left
      · (intro w hSw; go_simp; try with_reducible rfl)
      try simp only [Act.put, List.setIfInBounds_toArray, List.set_cons_zero, List.set_cons_succ]
      refine wpAnyH_ready (rs := [3]) (by kernel_rfl) (by simp) ?_
      refine AllReadyH.cons (o := ⟨some 26, _, _, _, _, _⟩) rfl (fun K hK => ?_) AllReadyH.nil
      go_simp
      refine (refPut_any A cap ns w.heap.size _ (by exact hb1.size) (by exact hrow1) hw (by omega)).mono ?_
      rintro e w2 ⟨v2, rfl, hown2, hb2⟩
      obtain ⟨A2, cap2, hv2, hr2, -, -⟩ := row_own hown2
      rw [hv2]
      have hb12 : Below w1.heap.size w1 w2 := (Below.refl _ _).drew.trans hb2
      have hcv2 := conv_row (P := Try.prog) 22 5 9 Try.underlying22 Try.underlying5 Try.underlying9 hr2 cap2
      clear hv2 hown2
      go_wp2_with fail
      refine hK.out _ _ hb12 (fun hHeld2 => ?_)
      clear hK K hHeld
      have hHeld := hHeld2
      clear hHeld2
      try simp only [Act.put, List.setIfInBounds_toArray, List.set_cons_zero, List.set_cons_succ]
      refine wpAnyH_ready (rs := [4]) (by kernel_rfl) (by simp) ?_
      refine AllReadyH.cons (o := ⟨some 27, _, _, _, _, _⟩) rfl (fun K hK => ?_) AllReadyH.nil
      go_simp
      skip
      refine hK.out _ _ hb12 (fun hHeld2 => ?_)
      clear hK K hHeld
      have hHeld := hHeld2
      clear hHeld2
      try simp only [Act.put, List.setIfInBounds_toArray, List.set_cons_zero, List.set_cons_succ]
      refine wpAnyH_take (i := 5) (oi := ⟨some 28, _, _, _, _, _⟩) (v := ?_) rfl (by kernel_rfl) (by kernel_rfl) (by kernel_rfl) (fun _ _ _ h => h) (Or.inl ⟨by rfl, ?_⟩) hHeld ?_
      rotate_left
      · (intro w hSw; go_simp; try with_reducible rfl)
      try simp only [Act.put, List.setIfInBounds_toArray, List.set_cons_zero, List.set_cons_succ]
      refine wpAnyH_take (i := 6) (oi := ⟨some 29, _, _, _, _, _⟩) (v := ?_) rfl (by kernel_rfl) (by kernel_rfl) (by kernel_rfl) (fun _ _ _ h => h) (Or.inl ⟨by rfl, ?_⟩) hHeld ?_
      rotate_left
      · (intro w hSw; go_simp; try with_reducible rfl)
      try simp only [Act.put, List.setIfInBounds_toArray, List.set_cons_zero, List.set_cons_succ]
      refine wpAnyH_take (i := 7) (oi := ⟨some 30, _, _, _, _, _⟩) (v := ?_) rfl (by kernel_rfl) (by kernel_rfl) (by kernel_rfl) (fun _ _ _ h => h) (Or.inl ⟨by rfl, ?_⟩) hHeld ?_
      rotate_left
      · (intro w hSw; go_simp; try with_reducible rfl)
      try simp only [Act.put, List.setIfInBounds_toArray, List.set_cons_zero, List.set_cons_succ]
      refine wpAnyH_take (i := 9) (oi := ⟨some 32, _, _, _, _, _⟩) (v := ?_) rfl (by kernel_rfl) (by kernel_rfl) (by kernel_rfl) (fun _ _ _ h => h) (Or.inl ⟨by rfl, ?_⟩) hHeld ?_
      rotate_left
      · (intro w hSw; go_simp; try with_reducible rfl)
      try simp only [Act.put, List.setIfInBounds_toArray, List.set_cons_zero, List.set_cons_succ]
      refine wpAnyH_take (i := 10) (oi := ⟨some 33, _, _, _, _, _⟩) (v := ?_) rfl (by kernel_rfl) (by kernel_rfl) (by kernel_rfl) (fun _ _ _ h => h) (Or.inl ⟨by rfl, ?_⟩) hHeld ?_
      rotate_left
      · (intro w hSw; go_simp; try with_reducible rfl)
      try simp only [Act.put, List.setIfInBounds_toArray, List.set_cons_zero, List.set_cons_succ]
      refine wpAnyH_ready (rs := [8]) (by kernel_rfl) (by simp) ?_
      refine AllReadyH.cons (o := ⟨some 31, _, _, _, _, _⟩) rfl (fun K hK => ?_) AllReadyH.nil
      go_simp
      have cs := size_any A cap ns w.heap.size w2 (row_below hrow1 (hb12.mono hb1.size)) hw (by omega)
      rw [HSZ.out] at cs
      refine cs.mono ?_
      rintro e w3 ⟨rfl, rfl⟩
      clear cs
      go_wp2_with fail
      refine hK.out _ _ hb12 (fun hHeld2 => ?_)
      clear hK K hHeld
      have hHeld := hHeld2
      clear hHeld2
      try simp only [Act.put, List.setIfInBounds_toArray, List.set_cons_zero, List.set_cons_succ]
      refine wpAnyH_take (i := 11) (oi := ⟨some 34, _, _, _, _, _⟩) (v := ?_) rfl (by kernel_rfl) (by kernel_rfl) (by kernel_rfl) (fun _ _ _ h => h) (Or.inl ⟨by rfl, ?_⟩) hHeld ?_
      rotate_left
      · (intro w hSw; go_simp; try with_reducible rfl)
      try simp only [Act.put, List.setIfInBounds_toArray, List.set_cons_zero, List.set_cons_succ]
      refine wpAnyH_take (i := 12) (oi := ⟨some 35, _, _, _, _, _⟩) (v := ?_) rfl (by kernel_rfl) (by kernel_rfl) (by kernel_rfl) (fun _ _ _ h => h) (Or.inl ⟨by rfl, ?_⟩) hHeld ?_
      rotate_left
      · (intro w hSw; go_simp; try with_reducible rfl)
      try simp only [Act.put, List.setIfInBounds_toArray, List.set_cons_zero, List.set_cons_succ]
      refine wpAnyH_done (by kernel_rfl) ?_ _
      clear hcv2 hcv hr2 hHeld hb2
      go_wp2_with fail
      refine ((all_any A1 cap1 (encs ns) w1.heap.size w2 hb12.size (row_below hr1 hb12) hbe hlc1 hcm1 (by omega)).mono (fun e w' h => allPost_encs hw h)).mono ?_
      rintro e w3 ⟨v3, rfl, hown3, hb3⟩
      obtain ⟨A3, cap3, hv3, hr3, -, -⟩ := row_own hown3
      rw [hv3]
      have hb02 : Below w.heap.size w w2 := hb1.trans (hb12.mono hb1.size)
      have hb03 : Below w.heap.size w w3 := hb02.trans (hb3.mono hb02.size)
      have hown13 := own_below (own_below hown1 hb12) hb3
      have hrow3 := row_below hrow hb03
      have hrm3 := row_below hrm hb03
      clear hv3 hown3 hown1 hr1 hrow1 hrm1
      go_wp2_with fail
      refine (same_any A3 A cap3 cap ns w3.heap.size w3 hr3 (row_more hrow3 hb03.size) (by omega)).mono ?_
      rintro e w4 ⟨rfl, n, rfl⟩
      have hown4 : (w3.drewN n).ownsRow w.heap.size 5 1 (.slice A1 (encs ns).length cap1) (encs ns).length ((encs ns).map (Value.int .u8)) := hown13
      have hrm4 : Row .u8 (w3.drewN n) w.heap.size C ms := hrm3
      have hsz3 := hb03.size
      clear hr3 hown13
      go_wp2_with (at_builtin; refine wpList_appRow rfl _ _ 22 rfl w.heap.size 5 i0 (.int .u8 0) 1 Try.underlying22 hi hz0 hz1 hz2 rfl _ _ _ rfl hown4 .u8 w.heap.size C capC ms rfl hrm4 hc0 (by omega) (by simp only [maxLen]; omega) (by exact hsz3) ?_; intro v5 w5 hown5 hb5)
      have hb05 : Below w.heap.size w w5 := (below_drewN hb03 n).trans hb5
      have hown5' : w5.ownsRow w.heap.size 5 1 v5 (encs ns ++ ms).length ((encs ns ++ ms).map (Value.int .u8)) := by simpa using hown5
      obtain ⟨A5, cap5, hv5, hr5, hlc5, hcm5⟩ := row_own hown5'
      rw [hv5]
      have hrow5 := row_below hrow hb05
      have hrm5 := row_below hrm hb05
      clear hown5 hown5' hv5 hown4 hrm4 hrm3 hrow3 hb3 hb5 hsz3
      go_wp2_with fail
      go_loop [5, 54] (BackRel ns ms w5 w5.heap.size) (fun _ i => ns.length - (intOf i).toNat)
      case atStart => exact ⟨0, A5, cap5, encs ns ++ ms, by omega, rfl, by simp, rfl, hr5, bytes_append hbe hbm, hlc5, by simp; omega⟩
      case round =>
        obtain ⟨k, A6, cap6, rest, hk, rfl, hrest, rfl, hr6, hb6, hlc6, hl6⟩ := hrel
        have HR := Lib.hid hrest; clear hrest
        by_cases hlt : k < ns.length
        · obtain ⟨b', off', x, rfl, hbx, hx, hcx⟩ := row_at hrow5 hlt
          have hxb := hw k hlt
          have hrest := HR.out.trans (by rw [encs_drop_cons ns k hlt, ← hx, List.append_assoc])
          rw [← hx] at hxb
          obtain ⟨y, rfl⟩ := Int.eq_ofNat_of_zero_le hxb.1
          have hy : y < 18446744073709551616 := by omega
          rw [Int.toNat_natCast] at hrest
          obtain ⟨t1, t2, t3⟩ := tk_enc (x := y) (encs (ns.drop (k + 1)) ++ ms) hy
          rw [← hrest] at t1 t2 t3
          have hel6 := enc_length hy
          have hnp := nlen_pos y
          have htl : nlen y ≤ rest.length := by rw [hrest, List.length_append, hel6]; omega
          have hdrop : rest.drop (nlen y) = encs (ns.drop (k + 1)) ++ ms := by rw [hrest, ← hel6]; simp
          have ct := take_any A6 cap6 rest w5.heap.size w5 hr6 hb6 (by omega)
          rw [t1, t2, t3] at ct
          generalize nlen y = t at *
          obtain ⟨b6, off6, rfl, hb6B, -⟩ := hr6 (by omega)
          have CT := Lib.hid ct
          have HD := Lib.hid hdrop
          clear ct hdrop t1 t2 t3 hrest hx hel6
          have hnt : decide ((t : Int) < 1) = false := by simp; omega
          have hnt' : ¬ (t : Int) < 1 := by omega
          have hnl : decide (rest.length < t) = false := by simp; omega
          go_wp2_with (go_at_call 7; refine CT.out.mono ?_; rintro e w6 ⟨rfl, rfl⟩)
          all_goals refine ⟨⟨_, _, _, _, _, _, _, ⟨k + 1, _, _, rest.drop t, by omega, by go_num, HD.out, by rw [List.length_drop], ?_, bytes_drop hb6 t, by simp; omega, by simp; omega⟩, rfl, rfl, rfl, rfl, rfl, rfl, rfl⟩, by simp [intOf]; omega⟩
          · have hrc := row_cut hr6 t hlc6
            rwa [if_pos (by assumption)] at hrc
          · have hrc := row_cut hr6 t hlc6
            rwa [if_neg (by assumption)] at hrc
        · have hrm6 : rest = ms := by rw [HR.out, List.drop_eq_nil_of_le (by omega)]; rfl
          subst hrm6
          have hcv6 := conv_row (P := Try.prog) 22 5 9 Try.underlying22 Try.underlying5 Try.underlying9 hr6 cap6
          have hcv7 := conv_row (P := Try.prog) 22 5 9 Try.underlying22 Try.underlying5 Try.underlying9 hrm5 capC
          go_wp2_with fail
          refine (same_law _).mono ?_
          rintro e w7 ⟨rfl, hb7⟩
          go_wp2_with fail
          go_ret
          exact ⟨rfl, hb05.trans (hb7.mono hb05.size)⟩
end Go.Proofs.Ytghnaabjplkheaa
