/-
  tendrillaw12.LabelKept: true, whatever the labels.
-/
import Derived.Test.YtlebcebihieiiaaDoorLRKept
namespace Go.Proofs.YtlebcebihieiiaaDoor
open Go.RowKit Go.Sort Go.Maps
set_option linter.unusedVariables false
theorem light_kwf {x : Lab} (h : Light x) (hf : LFit x) : LWf x := ⟨by unfold Light at h; omega, by unfold Light at h; omega, hf.n⟩
theorem idx_le {x : Lab} : ∀ {a : List Lab} {i : Nat}, (hi : i < a.length) → a[i] = x → a.idxOf x ≤ i
  | y :: a, 0, _, h => by
    have h' : y = x := h
    subst h'
    simp
  | y :: a, i + 1, hi, h => by
    have ih := idx_le (a := a) (i := i) (by simpa using hi) (by simpa using h)
    rw [List.idxOf_cons]
    cases (y == x) <;> simp
    omega
theorem findL_self {a : List Lab} {i : Nat} (hi : i < a.length) : ∃ q : Nat, ∃ hq : q < a.length, findL a a[i] = q ∧ q ≤ i ∧ a[q] = a[i] := by
  have hm : a[i] ∈ a := List.getElem_mem _
  exact ⟨a.idxOf a[i], List.idxOf_lt_length_of_mem hm, by unfold findL; rw [if_pos hm], idx_le hi rfl, List.getElem_idxOf _⟩
theorem keptL_length (a b : List Lab) : (keptL a b).length = b.length := by unfold keptL; rw [List.length_map]
theorem keptL_getD {a b : List Lab} {i : Nat} (hi : i < b.length) : (keptL a b).getD i 0 = findL a b[i] := by
  unfold keptL
  rw [List.getD_eq_getElem?_getD, List.getElem?_map, List.getElem?_eq_getElem hi]; rfl
theorem I.Row.up {w w' : World} {A : Option Addr} {zs : List Int} (h : I.Row w w.heap.size A zs) (hb : Below w.heap.size w w') : I.Row w' w'.heap.size A zs := (h.below hb).mono hb.size
set_option maxRecDepth 100000 in
set_option maxHeartbeats 8000000 in
theorem keptLaw_any (A A' : Option Addr) (c c' : Nat) (a b : List Lab) (w : World) (hr : LRow w w.heap.size A a) (hr' : LRow w w.heap.size A' b) (hf : ∀ L ∈ a, LFit L) (hf' : ∀ L ∈ b, LFit L) (hl : a.length ≤ maxLen) (hl' : b.length ≤ maxLen) (hv : Vars w) :
    Calls Tryd.prog 4 #[.slice A a.length c, .slice A' b.length c'] w (TrueB w) := by
  have HR := Lib.hid hr; have HR' := Lib.hid hr'; have HF := Lib.hid hf; have HF' := Lib.hid hf'; have HV := Lib.hid hv
  have C1 := Lib.hid (heavy_any A c a w hr hf hl)
  have HL' := Lib.hid hl'
  obtain ⟨n, hn⟩ : ∃ n, n = a.length := ⟨_, rfl⟩
  obtain ⟨m, hm⟩ : ∃ m, m = b.length := ⟨_, rfl⟩
  have HN := Lib.hid hn; have HM := Lib.hid hm
  rw [← hn, ← hm]
  rw [← hn] at C1
  clear hr hr' hf hf' hv hl hl' hn hm
  go_enter Tryd.func4, Tryd.ntmps4
  go_wp2_with fail
  refine C1.out.mono ?_
  rintro e w1 ⟨x1, rfl, hx1, hb1⟩
  have HB1 := Lib.hid hb1
  clear hb1 C1
  cases x1 with
  | true =>
    clear hx1
    go_wp2_with fail
    refine (same_any w1 (HV.out.belowC HB1.out)).mono ?_
    rintro e w9 ⟨rfl, hb9⟩
    have HB9 := Lib.hid (HB1.out.trans (hb9.mono HB1.out.size))
    clear hb9
    go_wp2_with fail
    go_ret
    exact ⟨rfl, HB9.out⟩
  | false =>
    have HX1 := Lib.hid (hx1 rfl)
    clear hx1
    have C2 := Lib.hid (heavy_any A' c' b w1 (HR'.out.up HB1.out) HF'.out HL'.out)
    rw [← HM.out] at C2
    go_wp2_with fail
    refine C2.out.mono ?_
    rintro e w2 ⟨x2, rfl, hx2, hb2⟩
    have HB2 := Lib.hid (HB1.out.trans (hb2.mono HB1.out.size))
    clear hb2 C2
    cases x2 with
    | true =>
      clear hx2
      go_wp2_with fail
      refine (same_any w2 (HV.out.belowC HB2.out)).mono ?_
      rintro e w9 ⟨rfl, hb9⟩
      have HB9 := Lib.hid (HB2.out.trans (hb9.mono HB2.out.size))
      clear hb9
      go_wp2_with fail
      go_ret
      exact ⟨rfl, HB9.out⟩
    | false =>
      have HX2 := Lib.hid (hx2 rfl)
      clear hx2
      have hn2 : n ≤ 200 := by rw [HN.out]; exact HX1.out.2
      have hm2 : m ≤ 200 := by rw [HM.out]; exact HX2.out.2
      have HKA := Lib.hid (fun L (hL : L ∈ a) => kwf_of (light_kwf (HX1.out.1 L hL) (HF.out L hL)))
      have HKB := Lib.hid (fun L (hL : L ∈ b) => kwf_of (light_kwf (HX2.out.1 L hL) (HF'.out L hL)))
      have C3 := Lib.hid (kept_any A A c c a a w2 (HR.out.up HB2.out) (HR.out.up HB2.out) (by rw [← HN.out]; omega) (by rw [← HN.out]; omega) HKA.out HKA.out)
      rw [← HN.out] at C3
      go_wp2_with fail
      refine C3.out.mono ?_
      rintro e w3 ⟨X, cx, rfl, hrow, -, -, -, hb3⟩
      have HB3 := Lib.hid (HB2.out.trans (hb3.mono HB2.out.size))
      have HX := Lib.hid hrow
      rw [keptL_length, ← HN.out]
      clear hrow hb3 C3
      go_wp2_with fail
      go_loopg [19] n (fun g s19 wr => ∃ i : Nat, s19 = .int .i64 i ∧ i ≤ n ∧ n - i ≤ g ∧ RowKit.Hid (Below w3.heap.size w3 wr))
      case atStart => exact ⟨0, rfl, by omega, by omega, Lib.hid (Below.refl _ _)⟩
      case round =>
        obtain ⟨i, rfl, hi, hg, HB⟩ := hrel
        have HBW := Lib.hid (HB3.out.trans (HB.out.mono HB3.out.size))
        by_cases hlt : i < n
        · have h1 : (i : Int) < (n : Int) := by omega
          have hil : i < a.length := by rw [← HN.out]; exact hlt
          obtain ⟨q, hq, hfq, hqi, heq⟩ := findL_self hil
          obtain ⟨bx, ox, x, hXA, hbx, hx, cx0⟩ := I.row_at (HX.out.up HB.out) (j := i) (by rw [keptL_length]; exact hil)
          rw [keptL_getD hil, hfq] at hx
          subst hx
          obtain ⟨ba, oa, hA, hba, hcs⟩ := (HR.out.up HBW.out) (by omega)
          obtain ⟨c0, c1, c2⟩ := hcs i hil
          obtain ⟨d0, d1, d2⟩ := hcs q hq
          rw [heq] at d0 d1 d2
          obtain ⟨L, hL⟩ : ∃ L, L = a[i] := ⟨_, rfl⟩
          rw [← hL] at c0 c1 c2 d0 d1 d2
          have hq2 : ∀ W : World, (Op.equalIn 10000 33 (.agg #[.string L.tag, .string L.key, .int .i64 L.n]) (.agg #[.string L.tag, .string L.key, .int .i64 L.n])).run Tryd.prog W = .ok true W := fun W => (eqL L L W).trans (by rw [decide_eq_true rfl])
          have hqn : q < n := by omega
          clear hL heq hfq hcs hq
          have h2 : ¬ (n : Int) ≤ (i : Int) := by omega
          have h3 : ¬ (i : Int) < (q : Int) := by omega
          have h4 : ¬ (q : Int) < 0 := by omega
          have h5 : 0 ≤ (q : Int) ∧ (q : Int) < (n : Int) := by omega
          go_wp2_with fail
          go_quiet (fail)
          go_wp2_with fail
          try rw [← hA]
          try rw [← hXA]
          go_roundg (n - (i + 1))
          case measure => omega
          case rel => exact ⟨i + 1, by go_num, by omega, by omega, Lib.hid (HB.out.trans (below_drewN _ _ _))⟩
        · have h1 : ¬ (i : Int) < (n : Int) := by omega
          have C5 := Lib.hid (kept_any A A' c c' a b wr (HR.out.up HBW.out) (HR'.out.up HBW.out) (by rw [← HN.out]; omega) (by rw [← HM.out]; omega) HKA.out HKB.out)
          rw [← HN.out, ← HM.out] at C5
          go_wp2_with fail
          refine C5.out.mono ?_
          rintro e w5 ⟨X5, cx5, rfl, hrow5, -, -, -, hb5⟩
          have HB5 := Lib.hid (HBW.out.trans (hb5.mono HBW.out.size))
          have HX5 := Lib.hid hrow5
          clear hrow5 hb5 C5
          have C6 := Lib.hid (refKept_any A A' c c' a b w5 (HR.out.up HB5.out) (HR'.out.up HB5.out) (by rw [← HN.out]; omega) (by rw [← HM.out]; omega))
          rw [← HN.out, ← HM.out] at C6
          rw [keptL_length, ← HM.out]
          go_wp2_with fail
          refine C6.out.mono ?_
          rintro e w6 ⟨X6, cx6, rfl, hrow6, -, -, -, hb6⟩
          have HB6 := Lib.hid (HB5.out.trans (hb6.mono HB5.out.size))
          have C7 := Lib.hid (I.ints_any X5 X6 cx5 cx6 (keptL a b) w6 (HX5.out.up hb6) hrow6 (by rw [keptL_length, ← HM.out]; omega))
          rw [keptL_length, ← HM.out] at C7
          rw [keptL_length, ← HM.out]
          clear hrow6 hb6 C6
          go_wp2_with fail
          refine C7.out.mono ?_
          rintro e w7 ⟨rfl, hb7⟩
          have HB7 := Lib.hid (HB6.out.trans (hb7.mono HB6.out.size))
          clear hb7 C7
          go_wp2_with fail
          refine (same_any w7 (HV.out.belowC HB7.out)).mono ?_
          rintro e w9 ⟨rfl, hb9⟩
          have HB9 := Lib.hid (HB7.out.trans (hb9.mono HB7.out.size))
          clear hb9
          go_wp2_with fail
          go_ret
          exact ⟨rfl, HB9.out⟩
end Go.Proofs.YtlebcebihieiiaaDoor
