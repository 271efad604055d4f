/-
  tendrillaw05.same: it answers true.
-/
import Derived.Test.YtdfalejldjbaiaaArrange
namespace Go.Proofs.Ytdfalejldjbaiaa
open Go.RowKit
set_option linter.unusedVariables false

theorem r3 : ranksL [30, 10, 20] = [2, 0, 1] := by decide +kernel
theorem s3 : sortedL [30, 10, 20] = [1, 2, 0] := by decide +kernel
theorem t3 : turned [30, 10, 20] = 2 := by decide +kernel
theorem p1 : isP [1, 0] = true := by decide +kernel
theorem p2 : isP [1, 1] = false := by decide +kernel

theorem lit_row (w : World) (zs : List Int) (cs : Array Value) (hcs : (zs.map (Value.int .i64)).toArray = cs) : Row (w.alloc (.cells cs 3)) (w.alloc (.cells cs 3)).heap.size (some ⟨w.heap.size, 0, none⟩) zs := by
  subst hcs
  simpa using row_lit (w := w) 3 zs
theorem lit_below (w : World) (o : Obj) : Below w.heap.size w (w.alloc o) := (Below.refl _ _).alloc (Nat.le_refl _) _
theorem below_trans {a b c : World} (h : Below a.heap.size a b) (k : Below b.heap.size b c) : Below a.heap.size a c := h.trans (k.mono h.size)
theorem Row.up {w w' : World} {A : Option Addr} {zs : List Int} (h : Row w w.heap.size A zs) (hb : Below w.heap.size w w') : Row w' w'.heap.size A zs := (h.below hb).mono hb.size
theorem ints_lit (A1 : Option Addr) (c1 c2 : Nat) (zs : List Int) (cs : Array Value) (w : World) (h1 : Row w w.heap.size A1 zs) (hcs : (zs.map (Value.int .i64)).toArray = cs) (hl : zs.length ≤ 1000000000) :
    Calls Try.prog 10 #[.slice A1 zs.length c1, .slice (some ⟨w.heap.size, 0, none⟩) zs.length c2] (w.alloc (.cells cs 3)) fun e w' => e = .returned (.bool true) ∧ Below w.heap.size w w' :=
  (ints_any A1 _ c1 c2 zs _ (h1.up (lit_below w _)) (lit_row w zs cs hcs) hl).mono fun e w' h => ⟨h.1, below_trans (lit_below w _) h.2⟩

set_option maxHeartbeats 1000000 in
theorem same_law (w : World) : Calls Try.prog 6 #[] w fun e w' => e = .returned (.bool true) ∧ Below w.heap.size w w' := by
  go_enter Try.func6, Try.ntmps6
  go_wp2_with fail
  have hrl := lit_row w [30, 10, 20] #[.int .i64 30, .int .i64 10, .int .i64 20] rfl
  have hb0 := lit_below w (.cells #[.int .i64 30, .int .i64 10, .int .i64 20] 3)
  generalize w.alloc (.cells #[.int .i64 30, .int .i64 10, .int .i64 20] 3) = w0 at hrl hb0 ⊢
  have c1 := ranks_any (some ⟨w.heap.size, 0, none⟩) 3 [30, 10, 20] w0 hrl (by simp)
  rw [r3] at c1
  refine c1.mono ?_
  clear c1
  rintro e w1 ⟨A1, c1, rfl, hr1, -, -, -, hb1⟩
  have hrl1 := hrl.up hb1
  have hbw1 := below_trans hb0 hb1
  clear hrl hb0 hb1
  go_wp2_with fail
  refine (ints_lit A1 c1 3 [2, 0, 1] _ w1 hr1 rfl (by simp)).mono ?_
  rintro e w2 ⟨rfl, hb2⟩
  have hrl2 := hrl1.up hb2
  have hbw2 := below_trans hbw1 hb2
  clear hrl1 hr1 hbw1 hb2
  go_wp2_with fail
  have c3 := turned_any (some ⟨w.heap.size, 0, none⟩) 3 [30, 10, 20] w2 hrl2 (by simp)
  rw [t3] at c3
  refine c3.mono ?_
  clear c3
  rintro e w3 ⟨rfl, hb3⟩
  have hrl3 := hrl2.up hb3
  have hbw3 := below_trans hbw2 hb3
  clear hrl2 hbw2 hb3
  go_wp2_with fail
  have c4 := sorted_any (some ⟨w.heap.size, 0, none⟩) 3 [30, 10, 20] w3 hrl3 (by simp)
  rw [s3] at c4
  refine c4.mono ?_
  clear c4
  rintro e w4 ⟨A4, c4, rfl, hr4, -, -, -, hb4⟩
  have hbw4 := below_trans hbw3 hb4
  clear hbw3 hb4 hrl3
  go_wp2_with fail
  refine (ints_lit A4 c4 3 [1, 2, 0] _ w4 hr4 rfl (by simp)).mono ?_
  rintro e w5 ⟨rfl, hb5⟩
  have hbw5 := below_trans hbw4 hb5
  clear hbw4 hb5 hr4
  go_wp2_with fail
  have c6 := is_any (some ⟨w5.heap.size, 0, none⟩) 2 [1, 0] _ (lit_row w5 [1, 0] #[.int .i64 1, .int .i64 0] rfl) (by simp)
  rw [p1] at c6
  refine c6.mono ?_
  clear c6
  rintro e w6 ⟨rfl, hb6⟩
  have hbw6 := below_trans (below_trans hbw5 (lit_below w5 _)) hb6
  clear hbw5 hb6
  go_wp2_with fail
  have c7 := is_any (some ⟨w6.heap.size, 0, none⟩) 2 [1, 1] _ (lit_row w6 [1, 1] #[.int .i64 1, .int .i64 1] rfl) (by simp)
  rw [p2] at c7
  refine c7.mono ?_
  clear c7
  rintro e w7 ⟨rfl, hb7⟩
  have hbw7 := below_trans (below_trans hbw6 (lit_below w6 _)) hb7
  clear hbw6 hb7
  go_wp2
  go_ret
  exact ⟨rfl, hbw7⟩
end Go.Proofs.Ytdfalejldjbaiaa
