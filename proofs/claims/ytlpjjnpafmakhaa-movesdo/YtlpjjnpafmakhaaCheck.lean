/-
  Check: two things at one index, by a set of the indices.
-/
import Derived.Test.YtlpjjnpafmakhaaFrame
import Derived.Test.YtlpjjnpafmakhaaMvMath
import Derived.Maps.OwnSet
namespace Go.Proofs.Ytlpjjnpafmakhaa
open Go.RowKit Go.Maps
set_option linter.unusedVariables false

def Wf (l : List Int) : Prop := ∀ j, j < l.length → (Lit.int .i64 (l.getD j 0)).wf = true
def seenB (l : List Int) (k : Nat) (x : Int) : Bool := (List.range k).any fun i => decide (0 ≤ el l i ∧ el l i = x)
theorem seen_neg {l : List Int} {k : Nat} (h : el l k < 0) (x : Int) : seenB l (k + 1) x = seenB l k x := by
  have : ¬ (0 ≤ el l k ∧ el l k = x) := by omega
  simp [seenB, List.range_succ, this]
theorem seen_pos {l : List Int} {k : Nat} (h : 0 ≤ el l k) (x : Int) : seenB l (k + 1) x = (seenB l k x || decide (el l k = x)) := by
  simp [seenB, List.range_succ, h]
theorem seen_twice {l : List Int} {k : Nat} (h : 0 ≤ el l k) : twiceAt l k k = seenB l k (el l k) := by
  unfold twiceAt seenB
  congr 1
  funext i
  apply decide_eq_decide.2
  omega
theorem twiceAt_neg {l : List Int} {k n : Nat} (h : el l k < 0) : twiceAt l k n = false := by
  simp [twiceAt]; intros; omega

def errOf (l : List Int) : Int := if twice l then 10 else 0
theorem errOf_yes {l : List Int} (h : twice l = true) : errOf l = 10 := by unfold errOf; rw [h]; rfl
theorem errOf_no {l : List Int} (h : twice l = false) : errOf l = 0 := by unfold errOf; rw [h]; rfl
theorem law3 : Keyed Try.prog 3 := int_keyed Try.underlying3
theorem zero48 (w : World) : (zeroValue 48).run Try.prog w = .ok (.agg #[]) w := by kernel_rfl
theorem key3 {x : Int} (h : (Lit.int .i64 x).wf = true) : keyOf Try.prog 3 (.int .i64 x) = some (.int .i64 x) := keyOf_int_mk Try.underlying3 h

def CRel (w : World) (l : List Int) (i : Value) (wr : World) : Prop := ∃ k : Nat, k ≤ l.length ∧ i = .int .i64 k ∧ (∃ D : DataW Unit, wr.ownsMap Try.prog 3 unitElem w.heap.size k D ∧ ∀ x, Maps.has D (.int .i64 x) = seenB l k x) ∧ twiceTo l k = false ∧ Below w.heap.size w wr

set_option maxRecDepth 100000 in
set_option maxHeartbeats 4000000 in
theorem check_any (A : Option Addr) (c : Nat) (l : List Int) (w : World) (hr : Row w w.heap.size A l) (hl : l.length ≤ 1000000) (hwf : Wf l) :
    Calls Try.prog 10 #[.slice A l.length c] w fun e w' => e = .returned (.int .i64 (errOf l)) ∧ Below w.heap.size w w' := by
  have hmm := @run_makeMap Try.prog
  go_enter Try.func10, Try.ntmps10
  go_wp2_with fail
  go_loopw [11] (CRel w l) (fun i _ => l.length - (intOf i).toNat)
  case atStart => exact ⟨0, by omega, rfl, ⟨_, World.ownsMap_made _ _ _ _, fun x => rfl⟩, rfl, (Below.refl _ _).alloc (Nat.le_refl _) _⟩
  case round =>
    clear hmm
    obtain ⟨k, hk, rfl, ⟨D, hown, hhas⟩, htw, hbel⟩ := hrel
    have HT := Lib.hid htw; have HH := Lib.hid hhas; have HF := Lib.hid hwf
    clear htw hhas hwf
    by_cases hlt : k < l.length
    · obtain ⟨b, off, x, rfl, hb, hx, hc⟩ := row_at (hr.below hbel) hlt
      have hxe : el l k = x := hx.symm
      have hwx : (Lit.int .i64 x).wf = true := by rw [hx]; exact HF.out k hlt
      have hts := twiceTo_succ l k
      rw [HT.out, Bool.false_or] at hts
      have HX := Lib.hid hxe; have HS := Lib.hid hts
      clear hx hxe hts
      by_cases h0 : x < 0
      · have hd : decide (x < 0) = true := by simpa using h0
        clear hwx
        have HO := Lib.hid hown; clear hown
        go_wp2_with fail
        refine ⟨⟨k + 1, by omega, by go_num, ⟨D, HO.out.mono (Nat.le_succ _), fun y => by rw [HH.out, seen_neg (by rw [HX.out]; exact h0)]⟩, by rw [HS.out, twiceAt_neg (by rw [HX.out]; exact h0)], hbel⟩, by simp [intOf]; omega⟩
      · have hd : decide (x < 0) = false := by simpa using h0
        have hx0 : 0 ≤ el l k := by rw [HX.out]; omega
        have HK := Lib.hid (key3 hwx)
        have HX0 := Lib.hid hx0
        obtain ⟨r, hr1⟩ : ∃ r, Maps.has D (.int .i64 x) = r := ⟨_, rfl⟩
        have HR1 := Lib.hid hr1
        have hseen : seenB l k x = r := by rw [← HH.out, hr1]
        have HSN := Lib.hid hseen
        clear hwx hr1 hx0 hseen
        cases r with
        | true =>
          go_wp2_with (at_lookup; refine wpList_lookup_own_unit _ rfl _ _ 47 rfl 3 48 law3 Try.underlying47 (zero48 _) w.heap.size k D rfl hown _ _ rfl HK.out ?_; rw [HR1.out])
          go_ret
          have : twice l = true := by
            refine twiceTo_mono (n := k + 1) ?_ (by omega)
            rw [HS.out, seen_twice HX0.out, HX.out, HSN.out]
          rw [errOf_yes this]
          exact ⟨rfl, hbel.alloc hbel.size _⟩
        | false =>
          go_wp2_with (first
            | (at_lookup; refine wpList_lookup_own_unit _ rfl _ _ 47 rfl 3 48 law3 Try.underlying47 (zero48 _) w.heap.size k D rfl hown _ _ rfl HK.out ?_; rw [HR1.out])
            | (at_mapUpdate; refine wpList_mapUpdate_own _ rfl _ _ _ 47 rfl 3 48 law3 Try.underlying47 (unitElem (H := Unit)) w.heap.size k _ rfl (hown.alloc _) (by unfold maxLen; omega) _ _ _ rfl rfl HK.out _ [] unitElem_mk ?_; intro w1 hown1 hgrow1))
          refine ⟨⟨k + 1, by omega, by go_num, ⟨_, hown1, fun y => ?_⟩, by rw [HS.out, seen_twice HX0.out, HX.out, HSN.out], ?_⟩, by simp [intOf]; omega⟩
          · rw [seen_pos HX0.out, HX.out]
            by_cases hy : y = x
            · subst hy
              rw [has_put_same (hown.tidy law3).isMap (show WideAt.IsKeyLit (Lit.int .i64 y) by simp [WideAt.IsKeyLit])]
              simp
            · rw [has_put_other (by simpa using hy), HH.out]
              simp [show ¬ x = y from fun e => hy e.symm]
          · exact (hbel.alloc hbel.size _).grown hgrow1 (by simp; have := hbel.size; omega) (fun j hj => by cases hj; exact Nat.le_refl _)
    · obtain rfl : k = l.length := by omega
      have hf : twice l = false := HT.out
      have HF' := Lib.hid hf
      clear hf hown
      go_wp2_with fail
      go_ret
      rw [errOf_no HF'.out]
      exact ⟨rfl, hbel⟩
end Go.Proofs.Ytlpjjnpafmakhaa
