/-
  tendrillaw06.same: it answers true.
-/
import Derived.Test.YtplkfiffgcjmdaaLong
import Derived.Test.YtplkfiffgcjmdaaPilesW
namespace Go.Proofs.Ytplkfiffgcjmdaa
open Go.RowKit
set_option linter.unusedVariables false

theorem l5 : nats (longL [2, 0, -1, 1, 3]) = [1, 3, 4] := by decide +kernel
theorem n3 : lenL [3, 2, 1] = 1 := by decide +kernel
theorem n2 : lenL [2, 0, 1] = 2 := by decide +kernel

theorem lit_row (w : World) (zs : List Int) (cs : Array Value) (hcs : (zs.map (Value.int .i64)).toArray = cs) : Row (w.alloc (.cells cs 3)) (w.alloc (.cells cs 3)).heap.size (some ⟨w.heap.size, 0, none⟩) zs := by
  subst hcs
  simpa using row_lit (w := w) 3 zs
theorem lit_below (w : World) (o : Obj) : Below w.heap.size w (w.alloc o) := (Below.refl _ _).alloc (Nat.le_refl _) _
theorem below_trans {a b c : World} (h : Below a.heap.size a b) (k : Below b.heap.size b c) : Below a.heap.size a c := h.trans (k.mono h.size)
theorem Row.up {w w' : World} {A : Option Addr} {zs : List Int} (h : Row w w.heap.size A zs) (hb : Below w.heap.size w w') : Row w' w'.heap.size A zs := (h.below hb).mono hb.size
theorem ints_lit (A1 : Option Addr) (c1 c2 : Nat) (zs : List Int) (cs : Array Value) (w : World) (h1 : Row w w.heap.size A1 zs) (hcs : (zs.map (Value.int .i64)).toArray = cs) (hl : zs.length ≤ 1000000000) :
    Calls Try.prog 9 #[.slice A1 zs.length c1, .slice (some ⟨w.heap.size, 0, none⟩) zs.length c2] (w.alloc (.cells cs 3)) fun e w' => e = .returned (.bool true) ∧ Below w.heap.size w w' :=
  (ints_any A1 _ c1 c2 zs _ (h1.up (lit_below w _)) (lit_row w zs cs hcs) hl).mono fun e w' h => ⟨h.1, below_trans (lit_below w _) h.2⟩

set_option maxHeartbeats 1000000 in
theorem same_law (w : World) : Calls Try.prog 7 #[] w fun e w' => e = .returned (.bool true) ∧ Below w.heap.size w w' := by
  go_enter Try.func7, Try.ntmps7
  go_wp2_with fail
  have c1 := longest_any (some ⟨w.heap.size, 0, none⟩) 5 [2, 0, -1, 1, 3] _ (lit_row w [2, 0, -1, 1, 3] #[.int .i64 2, .int .i64 0, .int .i64 (-1), .int .i64 1, .int .i64 3] rfl) (by simp)
  rw [l5] at c1
  refine c1.mono ?_
  clear c1
  rintro e w1 ⟨A1, c1, rfl, hr1, -, -, -, hb1⟩
  have hbw1 := below_trans (lit_below w _) hb1
  clear hb1
  go_wp2_with fail
  refine (ints_lit A1 c1 3 [1, 3, 4] _ w1 hr1 rfl (by simp)).mono ?_
  rintro e w2 ⟨rfl, hb2⟩
  have hbw2 := below_trans hbw1 hb2
  clear hr1 hbw1 hb2
  go_wp2_with fail
  have c3 := length_any (some ⟨w2.heap.size, 0, none⟩) 3 [3, 2, 1] _ (lit_row w2 [3, 2, 1] #[.int .i64 3, .int .i64 2, .int .i64 1] rfl) (by simp)
  rw [n3] at c3
  refine c3.mono ?_
  clear c3
  rintro e w3 ⟨rfl, hb3⟩
  have hbw3 := below_trans (below_trans hbw2 (lit_below w2 _)) hb3
  clear hbw2 hb3
  go_wp2_with fail
  have c4 := piles_any (some ⟨w3.heap.size, 0, none⟩) 3 [2, 0, 1] _ (lit_row w3 [2, 0, 1] #[.int .i64 2, .int .i64 0, .int .i64 1] rfl) (by simp)
  refine c4.mono ?_
  clear c4
  rintro e w4 ⟨g, V, rfl, -, -, hb4⟩
  rw [n2]
  have hbw4 := below_trans (below_trans hbw3 (lit_below w3 _)) hb4
  clear hbw3 hb4
  go_wp2
  go_ret
  exact ⟨rfl, hbw4⟩
end Go.Proofs.Ytplkfiffgcjmdaa
