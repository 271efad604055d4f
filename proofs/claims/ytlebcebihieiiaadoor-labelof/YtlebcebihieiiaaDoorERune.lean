/-
  strings.IndexRune of a rune beyond ASCII in the text of the three signs: it finds none.
-/
import Derived.Test.YtlebcebihieiiaaDoorEBase
import Derived.Laws.RangeAny
import Derived.Laws.RangeString
import Derived.Laws.Runes
import Derived.LoopN
namespace Go.Proofs.YtlebcebihieiiaaDoor.E
open Go.RowKit
set_option linter.unusedVariables false

def MinusPost (w : World) (e : Ending) (w' : World) : Prop := e = .returned (.int .i64 (-1)) ∧ Below w.heap.size w w'

set_option maxRecDepth 100000 in
set_option maxHeartbeats 1000000 in
theorem rune_bad (r : Int) (w : World) (h : 128 ≤ r) (hv : Lib.validRune r = false) (hne : r ≠ 65533) : Calls Tryd.prog 36 #[.string { data := #[35, 58] }, .int .i32 r] w (MinusPost w) := by
  have c41 := Tryd.utf8_ValidRune r w
  rw [hv] at c41
  have C41 := Lib.hid c41; clear c41
  have h1 : decide (r < 128) = false := by simp; omega
  have h0 : decide (0 ≤ r) = true := by simp; omega
  have h2 : (r == 65533) = false := by simpa using hne
  clear hne hv
  go_enter Tryd.func36, Tryd.ntmps36
  go_wp2_with (go_at_call 57; refine C41.out.mono ?_; rintro e w' ⟨rfl, hw⟩; subst hw)
  go_ret
  exact ⟨rfl, Below.refl _ _⟩

def k3 : ByteArray := { data := #[35, 58] }
set_option maxRecDepth 100000 in
set_option maxHeartbeats 1000000 in
theorem rune_err (w : World) : Calls Tryd.prog 36 #[.string { data := #[35, 58] }, .int .i32 65533] w (MinusPost w) := by
  have n0 := fun ty => run_next_ascii (P := Tryd.prog) w { data := #[35, 58] } 0 ty (by decide) (by decide)
  have n1 := fun ty => run_next_ascii (P := Tryd.prog) w { data := #[35, 58] } 1 ty (by decide) (by decide)
  have n2 := fun ty => run_next_end (P := Tryd.prog) w { data := #[35, 58] } 2 ty (by decide)
  go_enter Tryd.func36, Tryd.ntmps36
  go_wp2
  refine wp_loop_rounds 3 ?_
  rw [rounds_succ]
  go_wp2
  rw [rounds_succ]
  go_wp2
  rw [rounds_succ]
  go_wp2
  go_ret
  exact ⟨rfl, (Below.refl _ _).alloc (Nat.le_refl _) _⟩

set_option maxRecDepth 100000 in
set_option maxHeartbeats 1000000 in
theorem rune_ok (r : Int) (w : World) (h : 128 ≤ r) (hv : Lib.validRune r = true) (hne : r ≠ 65533) : Calls Tryd.prog 36 #[.string { data := #[35, 58] }, .int .i32 r] w (MinusPost w) := by
  have c41 := Tryd.utf8_ValidRune r w
  have hv2 : Utf8.valid r = true := by
    unfold Lib.validRune at hv
    simp [Utf8.valid] at hv ⊢
    omega
  rw [hv] at c41
  have d41 : Calls Tryd.prog 57 #[.int .i32 r] w fun e w' => e = .returned (.bool true) ∧ w = w' := c41.mono (fun e w' h => ⟨h.1, h.2.symm⟩)
  have C41 := Lib.hid d41; clear c41 d41
  have h1 : decide (r < 128) = false := by simp; omega
  have h0 : decide (0 ≤ r) = true := by simp; omega
  have h2 : (r == 65533) = false := by simpa using hne
  obtain ⟨e1, e2, e3⟩ := encode_facts r hv2 h
  obtain ⟨t, ht⟩ : ∃ t, Utf8.encode r = t := ⟨_, rfl⟩
  rw [ht] at e1 e2
  have e4 : ∀ h : t.size - 1 < t.size, 128 ≤ (t[t.size - 1]'h).toNat := by subst ht; exact e3
  clear hne hv e3
  rcases (show t.size = 2 ∨ t.size = 3 ∨ t.size = 4 by omega) with hz | hz | hz
  · obtain ⟨b, hb⟩ : ∃ b, t[1]'(by omega) = b := ⟨_, rfl⟩
    have hb128 : 128 ≤ b.toNat := by
      have := e4 (by omega)
      have e : t[t.size - 1]'(by omega) = t[1]'(by omega) := by simp [hz]
      rw [e, hb] at this
      exact this
    have hbl := b.toNat_lt
    have q1 : ((58 : Int) != (b.toNat : Int)) = true := by simp; omega
    have q2 : ((58 : Int) == (b.toNat : Int)) = false := by simp; omega
    have k1 : ({ data := #[35, 58] } : ByteArray)[1]'(by decide) = 58 := by decide
    clear e1 e2 e4
    go_enter Tryd.func36, Tryd.ntmps36
    go_wp2_with (go_at_call 57; refine C41.out.mono ?_; rintro e w' ⟨rfl, rfl⟩)
    go_step3
    go_wp2
    refine wp_loop_rounds 1 ?_
    rw [rounds_succ]
    go_wp2
    go_step3
    go_wp2
    go_quiet (fail)
    obtain ⟨w1, hw1⟩ : ∃ w1, w1 = w.drewN nq := ⟨_, rfl⟩
    rw [← hw1]
    have hbw : Below w.heap.size w w1 := by rw [hw1]; exact ⟨rfl, rfl, rfl, Nat.le_refl _, fun _ _ => rfl⟩
    clear hw1
    have C25 : ∀ n, Calls Tryd.prog 56 #[.string (({ data := #[35, 58] } : ByteArray).extract 2 2), .int .u8 (b.toNat : Int)] (w1.drewN n) fun e w' => e = .returned (.int .i64 (-1)) ∧ w' = w1.drewN n := fun n =>
      (Tryd.strings_IndexByte _ _ _).mono (fun e w' h => ⟨h.1.trans (by
        have e1 : (({ data := #[35, 58] } : ByteArray).extract 2 2).data.toList = [] := by decide
        have e2 : ((b.toNat : Int)).toNat.toUInt8 = b := by simp
        rw [e1, e2]
        simp [Lib.indexByte]), h.2⟩)
    have HC25 := Lib.hid C25; clear C25
    go_wp2
    go_quiet ((go_at_call 56; exact Calls.quiet_of_same (HC25.out _)))
    go_wp2
    try rw [Exit.noGoto_ret]
    go_ret
    exact ⟨rfl, hbw.trans ⟨rfl, rfl, rfl, Nat.le_refl _, fun _ _ => rfl⟩⟩
  · go_enter Tryd.func36, Tryd.ntmps36
    go_wp2_with (go_at_call 57; refine C41.out.mono ?_; rintro e w' ⟨rfl, rfl⟩)
    go_step3
    go_wp2
    refine wp_loop_rounds 1 ?_
    rw [rounds_succ]
    go_wp2
    try rw [Exit.noGoto_ret]
    go_ret
    exact ⟨rfl, Below.refl _ _⟩
  · go_enter Tryd.func36, Tryd.ntmps36
    go_wp2_with (go_at_call 57; refine C41.out.mono ?_; rintro e w' ⟨rfl, rfl⟩)
    go_step3
    go_wp2
    refine wp_loop_rounds 1 ?_
    rw [rounds_succ]
    go_wp2
    try rw [Exit.noGoto_ret]
    go_ret
    exact ⟨rfl, Below.refl _ _⟩

set_option maxRecDepth 100000 in
theorem rune_high (r : Int) (w : World) (h : 128 ≤ r) : Calls Tryd.prog 36 #[.string { data := #[35, 58] }, .int .i32 r] w (MinusPost w) := by
  by_cases he : r = 65533
  · subst he; exact rune_err w
  · cases hv : Lib.validRune r
    · exact rune_bad r w h hv he
    · exact rune_ok r w h hv he
end Go.Proofs.YtlebcebihieiiaaDoor.E
