/-
  tendrillaw08.same: it answers true.
-/
import Derived.Test.YtlpjjnpafmakhaaRRun
import Derived.Test.YtlpjjnpafmakhaaRPlan
namespace Go.Proofs.Ytlpjjnpafmakhaa
open Go.RowKit
set_option linter.unusedVariables false

theorem st3 : startL [1, 2, 0] = [2, 0, 1] := isStart_only (start_is (by decide +kernel)) ⟨by decide +kernel, by decide +kernel⟩
theorem pl3 : planB [1, 2, 0] = [(2, -1)] := by decide +kernel
theorem er3 : errOf [1, 2, 0] = 0 := by decide +kernel
theorem rn3 : runB [1, 2, 0] [(2, -1)] = some [0, 1, 2] := by
  rw [runB_no (by decide +kernel), st3]; decide +kernel
theorem ls3 : leastB [2, 1, 0] = 2 := by decide +kernel
theorem wf3 : Wf [1, 2, 0] := by
  intro j hj
  match j, hj with
  | 0, _ => decide
  | 1, _ => decide
  | 2, _ => decide
theorem wf3' : Wf [2, 1, 0] := by
  intro j hj
  match j, hj with
  | 0, _ => decide
  | 1, _ => decide
  | 2, _ => decide

theorem lit_row (w : World) (zs : List Int) (cs : Array Value) (hcs : (zs.map (Value.int .i64)).toArray = cs) : Row (w.alloc (.cells cs 3)) (w.alloc (.cells cs 3)).heap.size (some ⟨w.heap.size, 0, none⟩) zs := by
  subst hcs
  simpa using row_lit (w := w) 3 zs
theorem lit_below (w : World) (o : Obj) : Below w.heap.size w (w.alloc o) := (Below.refl _ _).alloc (Nat.le_refl _) _
theorem below_trans {a b c : World} (h : Below a.heap.size a b) (k : Below b.heap.size b c) : Below a.heap.size a c := h.trans (k.mono h.size)
theorem Row.up {w w' : World} {A : Option Addr} {zs : List Int} (h : Row w w.heap.size A zs) (hb : Below w.heap.size w w') : Row w' w'.heap.size A zs := (h.below hb).mono hb.size
theorem PRow.up {w w' : World} {A : Option Addr} {ps : List (Int × Int)} (h : PRow w w.heap.size A ps) (hb : Below w.heap.size w w') : PRow w' w'.heap.size A ps := (h.below hb).mono hb.size
theorem BRow.up {w w' : World} {A : Option Addr} {bs : List Bool} (h : BRow w w.heap.size A bs) (hb : Below w.heap.size w w') : BRow w' w'.heap.size A bs := (h.below hb).mono hb.size
theorem ints_lit (A1 : Option Addr) (c1 c2 : Nat) (zs : List Int) (cs : Array Value) (w : World) (h1 : Row w w.heap.size A1 zs) (hcs : (zs.map (Value.int .i64)).toArray = cs) (hl : zs.length ≤ 1000000000) :
    Calls Try.prog 17 #[.slice A1 zs.length c1, .slice (some ⟨w.heap.size, 0, none⟩) zs.length c2] (w.alloc (.cells cs 3)) fun e w' => e = .returned (.bool true) ∧ Below w.heap.size w w' :=
  (ints_any A1 _ c1 c2 zs _ (h1.up (lit_below w _)) (lit_row w zs cs hcs) hl).mono fun e w' h => ⟨h.1, below_trans (lit_below w _) h.2⟩
/-- Plan, with the shape of its slice. -/
def PlanAns (w : World) (ps : List (Int × Int)) (en : Int) (e : Ending) (w' : World) : Prop := ∃ A c, e = .returned (.tuple #[.slice A ps.length c, .int .i64 en]) ∧ PRow w' w'.heap.size A ps ∧ c ≤ maxLen ∧ Below w.heap.size w w'
theorem plan_ans (A : Option Addr) (c : Nat) (l : List Int) (w : World) (hr : Row w w.heap.size A l) (hl : l.length ≤ 1000000) (hwf : Wf l) :
    Calls Try.prog 7 #[.slice A l.length c] w (PlanAns w (planB l) (errOf l)) :=
  (plan_any A c l w hr hl hwf).mono fun e w' ⟨v, he, hown, hb⟩ => by
    obtain ⟨A2, c2, rfl, hp, _, hcm, _⟩ := prow_own hown
    exact ⟨A2, c2, he, hp, hcm, hb⟩

set_option maxRecDepth 100000 in
set_option maxHeartbeats 2000000 in
theorem same_law (w : World) : Calls Try.prog 6 #[] w fun e w' => e = .returned (.bool true) ∧ Below w.heap.size w w' := by
  go_enter Try.func6, Try.ntmps6
  go_wp2_with fail
  have c1 := plan_ans (some ⟨w.heap.size, 0, none⟩) 3 [1, 2, 0] _ (lit_row w [1, 2, 0] #[.int .i64 1, .int .i64 2, .int .i64 0] rfl) (by simp) wf3
  rw [pl3, er3] at c1
  refine c1.mono ?_
  clear c1
  rintro e w1 ⟨A1, c1, rfl, hp1, hcm1, hb1⟩
  have hbw1 := below_trans (lit_below w _) hb1
  clear hb1
  go_wp2_with fail
  have c2 := doAll_any (some ⟨w1.heap.size, 0, none⟩) 3 [1, 2, 0] A1 c1 [(2, -1)] _ (lit_row w1 [1, 2, 0] #[.int .i64 1, .int .i64 2, .int .i64 0] rfl) (by simp) wf3 (hp1.up (lit_below w1 _)) (by simp)
  rw [rn3] at c2
  refine c2.mono ?_
  clear c2
  rintro e w2 ⟨A2, c2, rfl, hr2, hcm2, hb2⟩
  have hp2 := hp1.up (below_trans (lit_below w1 _) hb2)
  have hbw2 := below_trans (below_trans hbw1 (lit_below w1 _)) hb2
  obtain ⟨b, off, x, y, rfl, hb, hxy, cx, cy⟩ := prow_at hp2 (j := 0) (by simp)
  have hx : x = 2 := by have := congrArg Prod.fst hxy; simpa using this.symm
  have hy : y = -1 := by have := congrArg Prod.snd hxy; simpa using this.symm
  subst hx hy
  rw [Nat.zero_mul, Nat.add_zero] at cx cy
  clear hb2 hp1 hp2 hbw1 hxy
  have e1 : outL (some [0, 1, 2]) = [0, 1, 2] := rfl
  rw [e1] at hr2
  rw [e1]
  clear e1
  simp only [Option.isSome_some, List.length_cons, List.length_nil]
  go_wp2_with fail
  refine (ints_lit A2 c2 3 [0, 1, 2] _ w2 hr2 rfl (by simp)).mono ?_
  rintro e w3 ⟨rfl, hb3⟩
  have hbw3 := below_trans hbw2 hb3
  clear hr2 hbw2 hb3 cx cy
  go_wp2_with fail
  have c4 := least_any (some ⟨w3.heap.size, 0, none⟩) 3 [2, 1, 0] _ (lit_row w3 [2, 1, 0] #[.int .i64 2, .int .i64 1, .int .i64 0] rfl) (by simp) wf3'
  rw [ls3] at c4
  refine c4.mono ?_
  clear c4
  rintro e w4 ⟨rfl, hb4⟩
  have hbw4 := below_trans (below_trans hbw3 (lit_below w3 _)) hb4
  clear hbw3 hb4
  go_wp2
  go_ret
  exact ⟨rfl, hbw4⟩
end Go.Proofs.Ytlpjjnpafmakhaa
