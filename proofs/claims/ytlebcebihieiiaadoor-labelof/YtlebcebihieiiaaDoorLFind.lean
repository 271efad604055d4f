/-
  The reference's Find; two slices of labels compared.
-/
import Derived.Test.YtlebcebihieiiaaDoorLHeavy
namespace Go.Proofs.YtlebcebihieiiaaDoor
open Go.RowKit Go.Sort
set_option linter.unusedVariables false
/-- The first place of a label; -1: there is none. -/
def findL (a : List Lab) (x : Lab) : Int := if x ∈ a then (a.idxOf x : Int) else -1
theorem idx_first {x : Lab} : ∀ {a : List Lab} {i : Nat}, (hi : i < a.length) → a[i] = x → (∀ j, (hj : j < a.length) → j < i → a[j] ≠ x) → a.idxOf x = i
  | y :: a, 0, _, h, _ => by
    have h' : y = x := h
    subst h'
    simp
  | y :: a, i + 1, hi, h, hn => by
    have h0 : y ≠ x := hn 0 (by simp) (by omega)
    have ih := idx_first (a := a) (i := i) (by simpa using hi) (by simpa using h) (fun j hj hji => by
      have := hn (j + 1) (by simpa using hj) (by omega)
      simpa using this)
    rw [List.idxOf_cons, ih]
    have : (y == x) = false := by simpa using h0
    rw [this]; rfl
theorem findL_hit {a : List Lab} {x : Lab} {i : Nat} (hi : i < a.length) (h : a[i] = x) (hn : ∀ j, (hj : j < a.length) → j < i → a[j] ≠ x) : findL a x = i := by
  unfold findL
  rw [if_pos (by rw [← h]; exact List.getElem_mem _), idx_first hi h hn]
theorem findL_miss {a : List Lab} {x : Lab} (hn : ∀ j, (hj : j < a.length) → a[j] ≠ x) : findL a x = -1 := by
  unfold findL
  rw [if_neg]
  intro hm
  obtain ⟨j, hj, he⟩ := List.getElem_of_mem hm
  exact hn j hj he
def FindPost (w : World) (a : List Lab) (x : Lab) (e : Ending) (w' : World) : Prop := e = .returned (.int .i64 (findL a x)) ∧ Below w.heap.size w w'
set_option maxRecDepth 100000 in
set_option maxHeartbeats 4000000 in
theorem find_any (A : Option Addr) (c : Nat) (a : List Lab) (x : Lab) (w : World) (hr : LRow w w.heap.size A a) (hl : a.length ≤ 1000000) : Calls Tryd.prog 14 #[.slice A a.length c, labV x] w (FindPost w a x) := by
  obtain ⟨w1, hw1⟩ : ∃ w1, w1 = lboxW w x := ⟨_, rfl⟩
  have HX1 := Lib.hid (show BoxL w1 w.heap.size x by rw [hw1]; exact BoxL.new w x)
  have HB1 := Lib.hid (show Below w.heap.size w w1 by rw [hw1]; exact below_lbox w x)
  have HR := Lib.hid hr
  obtain ⟨n, hn⟩ : ∃ n, n = a.length := ⟨_, rfl⟩
  have HN := Lib.hid hn
  have HW := Lib.hid hw1
  rw [← hn] at hl ⊢
  clear hr hn hw1
  go_enter Tryd.func14, Tryd.ntmps14
  go_wp2_with fail
  rw [lbox_out HW]
  go_loopg [8] n (fun g s8 wr => ∃ i : Nat, s8 = .int .i64 i ∧ i ≤ n ∧ n - i ≤ g ∧ RowKit.Hid (∀ j, (hj : j < a.length) → j < i → a[j] ≠ x) ∧ RowKit.Hid (Below w1.heap.size w1 wr))
  case atStart => exact ⟨0, rfl, by omega, by omega, Lib.hid (fun j hj h => by omega), Lib.hid (Below.refl _ _)⟩
  case round =>
    obtain ⟨i, rfl, hi, hg, HL, HB⟩ := hrel
    have HBW := Lib.hid (HB1.out.trans (HB.out.mono HB1.out.size))
    obtain ⟨d0, d1, d2⟩ := (HX1.out.below HB.out HX1.out.lt).cells
    by_cases hlt : i < n
    · have h1 : (i : Int) < (n : Int) := by omega
      have hil : i < a.length := by rw [← HN.out]; exact hlt
      obtain ⟨b, off, L, hA, hb, hL, c0, c1, c2⟩ := lrow_at (HR.out.up HBW.out) hil
      have HLE := Lib.hid hL
      clear hL
      by_cases he : L = x
      · have hq : ∀ W : World, (Op.equalIn 10000 33 (.agg #[.string L.tag, .string L.key, .int .i64 L.n]) (.agg #[.string x.tag, .string x.key, .int .i64 x.n])).run Tryd.prog W = .ok true W := fun W => (eqL L x W).trans (by rw [decide_eq_true he])
        have HE := Lib.hid he
        clear he
        go_wp2_with fail
        go_quiet (fail)
        go_wp2_with fail
        go_ret
        exact ⟨by rw [findL_hit hil (HLE.out.symm.trans HE.out) HL.out]; rfl, HBW.out.trans (below_drewN _ _ _)⟩
      · have hq : ∀ W : World, (Op.equalIn 10000 33 (.agg #[.string L.tag, .string L.key, .int .i64 L.n]) (.agg #[.string x.tag, .string x.key, .int .i64 x.n])).run Tryd.prog W = .ok false W := fun W => (eqL L x W).trans (by rw [decide_eq_false he])
        have HE := Lib.hid he
        clear he
        go_wp2_with fail
        go_quiet (fail)
        go_wp2_with fail
        try rw [← hA]
        go_roundg (n - (i + 1))
        case measure => omega
        case rel => exact ⟨i + 1, by go_num, by omega, by omega, Lib.hid (fun j hj h => by
          rcases Nat.lt_or_ge j i with h2 | h2
          · exact HL.out j hj h2
          · have : j = i := by omega
            subst this
            rw [← HLE.out]; exact HE.out), Lib.hid (HB.out.trans (below_drewN _ _ _))⟩
    · have h1 : ¬ (i : Int) < (n : Int) := by omega
      go_wp2_with fail
      go_ret
      exact ⟨by rw [findL_miss (fun j hj => HL.out j hj (by have := HN.out; omega))]; rfl, HBW.out⟩
set_option maxRecDepth 100000 in
set_option maxHeartbeats 4000000 in
theorem labels_any (A A' : Option Addr) (c c' : Nat) (a : List Lab) (w : World) (hr : LRow w w.heap.size A a) (hr' : LRow w w.heap.size A' a) (hl : a.length ≤ 1000000) : Calls Tryd.prog 9 #[.slice A a.length c, .slice A' a.length c'] w (TrueB w) := by
  have HR := Lib.hid hr; have HR' := Lib.hid hr'
  obtain ⟨n, hn⟩ : ∃ n, n = a.length := ⟨_, rfl⟩
  have HN := Lib.hid hn
  rw [← hn] at hl ⊢
  clear hr hr' hn
  go_enter Tryd.func9, Tryd.ntmps9
  go_wp2_with fail
  go_loopg [13] n (fun g s13 wr => ∃ i : Nat, s13 = .int .i64 i ∧ i ≤ n ∧ n - i ≤ g ∧ RowKit.Hid (Below w.heap.size w wr))
  case atStart => exact ⟨0, rfl, by omega, by omega, Lib.hid (Below.refl _ _)⟩
  case round =>
    obtain ⟨i, rfl, hi, hg, HB⟩ := hrel
    by_cases hlt : i < n
    · have h1 : (i : Int) < (n : Int) := by omega
      have hil : i < a.length := by rw [← HN.out]; exact hlt
      obtain ⟨b, off, L, hA, hb, hL, c0, c1, c2⟩ := lrow_at (HR.out.up HB.out) hil
      obtain ⟨b', off', L', hA', hb', hL', d0, d1, d2⟩ := lrow_at (HR'.out.up HB.out) hil
      obtain rfl : L = L' := hL.trans hL'.symm
      have hq : ∀ W : World, (Op.equalIn 10000 33 (.agg #[.string L.tag, .string L.key, .int .i64 L.n]) (.agg #[.string L.tag, .string L.key, .int .i64 L.n])).run Tryd.prog W = .ok true W := fun W => (eqL L L W).trans (by rw [decide_eq_true rfl])
      clear hL hL'
      go_wp2_with fail
      go_quiet (fail)
      go_wp2_with fail
      try rw [← hA]
      try rw [← hA']
      go_roundg (n - (i + 1))
      case measure => omega
      case rel => exact ⟨i + 1, by go_num, by omega, by omega, Lib.hid (HB.out.trans (below_drewN _ _ _))⟩
    · have h1 : ¬ (i : Int) < (n : Int) := by omega
      go_wp2_with fail
      go_ret
      exact ⟨rfl, HB.out⟩
end Go.Proofs.YtlebcebihieiiaaDoor
