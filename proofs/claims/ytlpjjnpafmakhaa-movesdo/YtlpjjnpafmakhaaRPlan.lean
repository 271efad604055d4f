/-
  tendrilref08.Plan: what it answers.
-/
import Derived.Test.YtlpjjnpafmakhaaRTwice
import Derived.Test.YtlpjjnpafmakhaaDoAll
namespace Go.Proofs.Ytlpjjnpafmakhaa
open Go.RowKit
set_option linter.unusedVariables false

theorem wpList_app2 {P : Program} {w : World} {ops : Array Oper} {rest : List Oper} {o : Oper} {a : Act} {Q : Exit → Act → World → Prop} (hgd : o.guard = none) (s x : Operand) (t : TypeId)
    (ho : o.op = .call { callee := .builtin .append, args := #[s, x], argTypes := #[t, t] })
    (base : Nat) (e : TypeId) (i : TypeInfo) (z : Value) (bytes : Nat) (ht : P.underlying t = some (.slice e)) (hi : P.info? e = some i) (hz : i.zero = some z)
    (hsize : i.size = 2) (hby : i.bytes = bytes) (hzs : z.cells.size = 2)
    (v : Value) (n : Nat) (xs : List Value) (hs : a.eval s = v) (hown : w.ownsRow base e 2 v n xs)
    (u1 u2 : Value) (B : Nat) (hB : B = w.heap.size) (hx : a.eval x = .slice (some ⟨B, 0, none⟩) 1 1) (h1 : u1.oneCell' = true) (h2 : u2.oneCell' = true)
    (hbytes : (n + 1) * bytes ≤ 140737488355328) (h63 : n + 1 ≤ maxLen) (hbase : base ≤ w.heap.size)
    (h : ∀ v' w', w'.ownsRow base e 2 v' (n + 1) (xs ++ [u1, u2]) → Below base w w' → wpList P ops Q rest (a.put o.dst v') w') : wpList P ops Q (o :: rest) a (w.alloc (.cells #[u1, u2] e)) := by
  subst hB
  refine wpList_append_own (w.alloc (.cells #[u1, u2] e)) hgd s x t ho base e i z 2 bytes ht hi hz hsize hby hzs (by omega) v n xs hs (hown.alloc _) ⟨w.heap.size, 0, none⟩ 1 1 [u1, u2] hx rfl (two_new _ _ _ _) ?_ h63 hbytes (by simp; omega) ?_
  · intro y hy; simp at hy; rcases hy with rfl | rfl
    · exact h1
    · exact h2
  · intro v' w' hown' hgrow _
    exact h v' w' hown' (((Below.refl base w).alloc hbase _).grown hgrow (by simp; omega) (fun k hk => (hown.lt k hk).1))

theorem Try.info37 : (Try.prog.info? 37).map (fun i => (i.zero, i.size, i.bytes)) = some (some (.agg #[.int .i64 0, .int .i64 0]), 2, 16) := by kernel_rfl
def RPRel (w : World) (l : List Int) (v i : Value) (wr : World) : Prop := ∃ r : Nat, r ≤ l.length ∧ i = .int .i64 ((r : Int) - 1) ∧ wr.ownsRow w.heap.size 37 2 v (planR l (l.length - r)).length (pairs (planR l (l.length - r))) ∧ Below w.heap.size w wr
/-- A slice of the reference's steps that the call made. -/
def MadeR (w : World) (ps : List (Int × Int)) (e : Ending) (w' : World) : Prop := ∃ A c, e = .returned (.slice A ps.length c) ∧ PRow w' w'.heap.size A ps ∧ Below w.heap.size w w'

set_option maxRecDepth 100000 in
set_option maxHeartbeats 4000000 in
theorem refPlan_any (A : Option Addr) (c : Nat) (l : List Int) (w : World) (hr : Row w w.heap.size A l) (hl : l.length ≤ 1000000) :
    Calls Try.prog 12 #[.slice A l.length c] w (MadeR w (planL l)) := by
  obtain ⟨i0, hi, hz0, hz1, hz2⟩ := info_parts Try.info37
  go_enter Try.func12, Try.ntmps12
  go_wp2_with fail
  refine (refStay_any A c l w hr hl).mono ?_
  rintro e w1 ⟨A1, c1, rfl, hrow, -, -, -, hb1⟩
  rw [stayL_length]
  go_wp2_with fail
  go_loopw [3, 5] (RPRel w1 l) (fun _ i _ => (intOf i + 1).toNat)
  case atStart => exact ⟨l.length, Nat.le_refl _, by go_num, by rw [Nat.sub_self]; exact World.ownsRow_nil _ _ _ _, Below.refl _ _⟩
  case round =>
    obtain ⟨r, hrl, rfl, hown, hbel⟩ := hrel
    have hsz := hbel.size
    cases r with
    | zero =>
      have hd : decide (0 ≤ ((0 : Nat) : Int) - 1) = false := rfl
      have HO := Lib.hid hown; clear hown
      go_wp2_with fail
      go_ret
      obtain ⟨A2, c2, rfl, hp, -⟩ := prow_own HO.out
      exact ⟨A2, c2, rfl, hp, hb1.trans (hbel.mono hb1.size)⟩
    | succ k =>
      have e0 : ((k + 1 : Nat) : Int) - 1 = (k : Int) := by omega
      rw [e0]
      obtain ⟨b, off, y, rfl, hb, hy, hc⟩ := brow_at (hrow.below hbel) (j := k) (by rw [stayL_length]; omega)
      rw [stayL_at (by omega)] at hy
      have hm : l.length - k = l.length - (k + 1) + 1 := by omega
      have hm2 : l.length - 1 - (l.length - (k + 1)) = k := by omega
      have hpl := planR_length l (l.length - (k + 1))
      have hpr : planR l (l.length - k) = planR l (l.length - (k + 1)) ++ (if y then [] else [planAt l (l.length - (k + 1))]) := by rw [hm]; simp only [planR]; rw [hm2, hy]
      have HPR := Lib.hid hpr
      clear hm hm2 hpr hy e0
      cases y with
      | true =>
        have HO := Lib.hid hown; clear hown
        go_wp2_with fail
        refine ⟨⟨k, by omega, by go_num, ?_, hbel⟩, by simp [intOf]⟩
        rw [HPR.out]
        simpa using HO.out
      | false =>
        by_cases hk : k + 1 = l.length
        · have hq : ((k : Int) == (l.length : Int) - 1) = true := by simp; omega
          have hpa : planAt l (l.length - (k + 1)) = ((k : Int), -1) := by unfold planAt; rw [if_pos (by omega)]; congr 1; omega
          have HPA := Lib.hid hpa
          clear hpa hk
          go_wp2_with (at_builtin; refine wpList_app2 (w := wr.alloc (.cells #[.int .i64 (k : Int), .int .i64 (-1)] 37)) rfl _ _ 33 rfl w1.heap.size 37 i0 (.agg #[.int .i64 0, .int .i64 0]) 16 Try.underlying33 hi hz0 hz1 hz2 rfl _ _ _ rfl (hown.alloc _) (.int .i64 (k : Int)) (.int .i64 (-1)) (wr.heap.size + 1) (by simp) rfl rfl rfl (by omega) (by simp [maxLen]; omega) (by simp; omega) ?_; intro v' w2 hown2 hbel2)
          refine ⟨⟨k, by omega, by go_num, ?_, (hbel.alloc hsz _).trans hbel2⟩, by simp [intOf]⟩
          rw [HPR.out, HPA.out]
          simp only [Bool.false_eq_true, if_false]
          rw [pairs_snoc, List.length_append]
          exact hown2
        · have hq : ((k : Int) == (l.length : Int) - 1) = false := by simp; omega
          have hpa : planAt l (l.length - (k + 1)) = ((k : Int), (k : Int) + 1) := by unfold planAt; rw [if_neg (by omega)]; congr 1 <;> omega
          have HPA := Lib.hid hpa
          clear hpa
          go_wp2_with (at_builtin; refine wpList_app2 (w := wr.alloc (.cells #[.int .i64 (k : Int), .int .i64 ((k : Int) + 1)] 37)) rfl _ _ 33 rfl w1.heap.size 37 i0 (.agg #[.int .i64 0, .int .i64 0]) 16 Try.underlying33 hi hz0 hz1 hz2 rfl _ _ _ rfl (hown.alloc _) (.int .i64 (k : Int)) (.int .i64 ((k : Int) + 1)) (wr.heap.size + 1) (by simp) rfl rfl rfl (by omega) (by simp [maxLen]; omega) (by simp; omega) ?_; intro v' w2 hown2 hbel2)
          refine ⟨⟨k, by omega, by go_num, ?_, (hbel.alloc hsz _).trans hbel2⟩, by simp [intOf]⟩
          rw [HPR.out, HPA.out]
          simp only [Bool.false_eq_true, if_false]
          rw [pairs_snoc, List.length_append]
          exact hown2
end Go.Proofs.Ytlpjjnpafmakhaa
