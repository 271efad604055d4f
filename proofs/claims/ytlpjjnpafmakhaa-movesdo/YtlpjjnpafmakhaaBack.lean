/-
  slices.Backward over a slice of bools: what its function value hands out.
-/
import Derived.Test.YtlpjjnpafmakhaaStay
import Derived.RangeFuncBox
import Derived.RangeFuncNested
import Derived.RangeFuncLeaves
import Derived.Shelf.Abstract
import Derived.OwnWalkIn
import Derived.TacticsInMore
import Derived.LoopNIn
import Derived.LoopIn
namespace Go.Proofs.Ytlpjjnpafmakhaa
open Go.RowKit Go.Shelf
set_option linter.unusedVariables false
attribute [local go_sem] Oper.semAt_some

/-- What has come after k rounds. -/
def backL (bs : List Bool) (k : Nat) : List (Nat × Bool) := (List.range k).map fun j => (bs.length - 1 - j, bs.getD (bs.length - 1 - j) false)
theorem backL_succ (bs : List Bool) (k : Nat) : backL bs (k + 1) = backL bs k ++ [(bs.length - 1 - k, bs.getD (bs.length - 1 - k) false)] := by simp [backL, List.range_succ]
theorem backL_length (bs : List Bool) (k : Nat) : (backL bs k).length = k := by simp [backL]
def KeepTwo (p q : Nat) (W W' : World) : Prop := W'.heap[p]? = W.heap[p]? ∧ W'.heap[q]? = W.heap[q]?
theorem keepTwo_t {p q : Nat} {A B C : World} (h : KeepTwo p q A B) (k : KeepTwo p q B C) : KeepTwo p q A C := ⟨k.1.trans h.1, k.2.trans h.2⟩
theorem keepTwo_r (p q : Nat) (A : World) : KeepTwo p q A A := ⟨rfl, rfl⟩

set_option maxRecDepth 100000 in
set_option maxHeartbeats 2000000 in
theorem back1_in (F : Fence) (n : Nat) (h27 : F.fn 27) (hro : F.round = none) (hn : 1 ≤ n) (l Bs b off cap : Nat) (A : Option Addr) (bs : List Bool) (hl : bs.length ≤ 1000000) (hA : 0 < bs.length → A = some ⟨b, off, none⟩) (J Jx : List (Nat × Bool) → World → Prop)
    (hY : ∀ pre x W, J pre W → pre.length < bs.length → YieldAt F (n - 1) Try.prog l #[.int .i64 (x.1 : Int), .bool x.2] W fun e W' =>
      (e = .returned (.bool true) ∧ J (pre ++ [x]) W' ∧ KeepTwo Bs b W W') ∨ (e = .returned (.bool false) ∧ Jx (pre ++ [x]) W'))
    (W : World) (hBs : W.cell? ⟨Bs, 0, none⟩ = some (.slice A bs.length cap)) (hc : ∀ j, j < bs.length → W.cell? ⟨b, off + j, none⟩ = some (.bool (bs.getD j false))) (h0 : J [] W) :
    CallsIn F n Try.prog 27 #[.func (.yield l) #[] #[], .pointer (some ⟨Bs, 0, none⟩)] W fun e W' => (∃ v, e = .returned v) ∧
      ((∃ ys, ys = backL bs bs.length ∧ J ys W') ∨ (∃ pre, True ∧ Jx pre W')) := by
  refine callsIn_of_wp Try.func27 rfl h27 ?_ hro
  simp only [Try.ntmps27, List.size_toArray, List.length_cons, List.length_nil, Nat.reduceAdd, Nat.reduceSub, Array.replicate_succ, Array.replicate_zero, List.push_toArray, List.append_toArray, List.nil_append, List.cons_append]
  have HBS := Lib.hid hBs; have HC := Lib.hid hc
  gi_wp2
  clear hBs hc
  gi_loopw [3] (fun i wr => ∃ m : Nat, m ≤ bs.length ∧ i = .int .i64 ((m : Int) - 1) ∧ J (backL bs (bs.length - m)) wr ∧ KeepTwo Bs b W wr)
    (fun i _ => (intOf i + 1).toNat)
  case atStart => exact ⟨bs.length, Nat.le_refl _, rfl, by rw [Nat.sub_self]; exact h0, keepTwo_r _ _ _⟩
  case round =>
    obtain ⟨m, hm, rfl, hJs, hnx⟩ := hrel
    cases m with
    | zero =>
      have hd : decide (0 ≤ ((0 : Nat) : Int) - 1) = false := rfl
      rw [Nat.sub_zero] at hJs
      gi_wp2
      go_end0
      exact ⟨⟨_, rfl⟩, .inl ⟨_, rfl, hJs⟩⟩
    | succ m =>
      have e0 : ((m + 1 : Nat) : Int) - 1 = (m : Int) := by omega
      rw [e0]
      have hA' := hA (by omega)
      have e1 : bs.length - 1 - (bs.length - (m + 1)) = m := by omega
      have e2 : bs.length - m = bs.length - (m + 1) + 1 := by omega
      have hbs : wr.cell? ⟨Bs, 0, none⟩ = some (.slice (some ⟨b, off, none⟩) bs.length cap) := by rw [← hA']; exact (World.cell?_of_block (a := ⟨Bs, 0, none⟩) hnx.1).trans HBS.out
      have hcx : wr.cell? ⟨b, off + m, none⟩ = some (.bool (bs.getD m false)) := (World.cell?_of_block (a := ⟨b, off + m, none⟩) hnx.2).trans (HC.out m (by omega))
      have hst := backL_succ bs (bs.length - (m + 1))
      rw [e1, ← e2] at hst
      obtain ⟨y, hy⟩ : ∃ y, y = bs.getD m false := ⟨_, rfl⟩
      rw [← hy] at hst hcx
      have hlt : (backL bs (bs.length - (m + 1))).length < bs.length := by rw [backL_length]; omega
      obtain ⟨fn, tmps, assign, body, hyy, hR⟩ := hY _ (m, y) wr hJs hlt
      dsimp only at hyy
      have HST := Lib.hid hst
      clear hst e0 e1 e2 hA' hy
      gi_wp2
      refine hR.mono ?_
      rintro e W3 (⟨rfl, hJ3, hk3⟩ | ⟨rfl, hJx3⟩)
      · gi_wp2
        go_roundw
        case rel => exact ⟨m, by omega, rfl, by rw [HST.out]; exact hJ3, keepTwo_t hnx hk3⟩
        case measure => simp [intOf]
      · gi_wp2
        refine bodyPost_ret (results_none rfl _ _ _) rfl ?_
        exact ⟨⟨_, rfl⟩, .inr ⟨_, trivial, hJx3⟩⟩

set_option maxHeartbeats 1000000 in
theorem back_in (F : Fence) (n : Nat) (h19 : F.fn 19) (hro : F.round = none) (a : Option Addr) (len cap : Nat) (w : World) :
    CallsIn F n Try.prog 19 #[.slice a len cap] w fun e w' => e = .returned (.func (.func 27) #[] #[.pointer (some ⟨w.heap.size, 0, none⟩)]) ∧ w' = w.alloc (.cells #[.slice a len cap] 28) := by
  refine callsIn_of_wp Try.func19 rfl h19 ?_ hro
  simp only [Try.ntmps19, List.size_toArray, List.length_cons, List.length_nil, Nat.reduceAdd, Nat.reduceSub, Array.replicate_succ, Array.replicate_zero, List.push_toArray, List.append_toArray, List.nil_append, List.cons_append]
  gi_wp2
  go_ret
  exact ⟨rfl, rfl⟩

theorem back_stops (F : Fence) (n : Nat) (h27 : F.fn 27) (hro : F.round = none) (hn : 1 ≤ n) (Bs b off cap : Nat) (A : Option Addr) (bs : List Bool) (hl : bs.length ≤ 1000000) (w : World) (hBs : Bs < w.heap.size)
    (hc : w.cell? ⟨Bs, 0, none⟩ = some (.slice A bs.length cap)) (hA : 0 < bs.length → A = some ⟨b, off, none⟩) (hb : 0 < bs.length → b < w.heap.size) (hcs : ∀ j, j < bs.length → w.cell? ⟨b, off + j, none⟩ = some (.bool (bs.getD j false))) :
    SeqStopsK F n Try.prog 27 #[.pointer (some ⟨Bs, 0, none⟩)] (fun x : Nat × Bool => #[Value.int .i64 (x.1 : Int), Value.bool x.2]) (KeepTwo Bs b) (fun ys => ys = backL bs bs.length) (fun _ => True) bs.length w := fun l J Jx W hW _ _ hY h0 =>
  back1_in F n h27 hro hn l Bs b off cap A bs hl hA J Jx hY W ((hW.cell (p := ⟨Bs, 0, none⟩) hBs).trans hc) (fun j hj => (hW.cell (p := ⟨b, off + j, none⟩) (hb (by omega))).trans (hcs j hj)) h0
end Go.Proofs.Ytlpjjnpafmakhaa
