/-
  tendrillaw01.OctetTakes: it answers true, whatever the bytes.
-/
import Derived.Test.YtghnaabjplkheaaSame
namespace Go.Proofs.Ytghnaabjplkheaa
open Go.RowKit
set_option linter.unusedVariables false

theorem row_more {k : IntKind} {w : World} {B B' : Nat} {A : Option Addr} {zs : List Int} (h : Row k w B A zs) (hB : B ≤ B') : Row k w B' A zs := by
  intro h0
  obtain ⟨b, off, hA, hlt, hc⟩ := h h0
  exact ⟨b, off, hA, by omega, hc⟩
theorem allGo_length (f : Nat) : ∀ ns bs, (allGo f ns bs).1.length ≤ ns.length + bs.length := by
  induction f with
  | zero => intro ns bs; simp [allGo]
  | succ f ih =>
    intro ns bs
    simp only [allGo]
    split
    · simp
    · split
      · rename_i h0 he
        obtain ⟨t, ht, h1, h2⟩ := tkLen_ok he
        have := ih (ns ++ [tkNum bs]) (bs.drop (tkLen bs).toNat)
        rw [ht] at this ⊢
        simp at this ⊢
        omega
      · simp
theorem all_length (bs : List Int) : (all bs).1.length ≤ bs.length := by have := allGo_length bs.length [] bs; simp at this; exact this

set_option maxHeartbeats 1000000 in
theorem takes_any (A : Option Addr) (cap : Nat) (bs : List Int) (B : Nat) (w : World) (hB : B ≤ w.heap.size) (hrow : Row .u8 w B A bs) (hby : Bytes bs) (hcap : bs.length ≤ cap) (hcm : cap ≤ maxLen) :
    Calls Try.prog 3 #[.slice A bs.length cap] w fun e w' => e = .returned (.bool true) ∧ Below w.heap.size w w' := by
  by_cases hl : 2000 < bs.length
  · have hl' : (2000 : Int) < (bs.length : Int) := by omega
    go_enter Try.func3, Try.ntmps3
    go_wp2_with fail
    refine (same_law _).mono ?_
    rintro e w1 ⟨rfl, hb⟩
    go_wp2_with fail
    go_ret
    exact ⟨rfl, hb⟩
  · have hl' : ¬ (2000 : Int) < (bs.length : Int) := by omega
    go_enter Try.func3, Try.ntmps3
    go_wp2_with fail
    refine (take_any A cap bs B w hrow hby (by omega)).mono ?_
    rintro e w1 ⟨rfl, rfl⟩
    go_wp2_with fail
    refine (refTake_any A cap bs B w hrow hby (by omega)).mono ?_
    rintro e w1 ⟨rfl, rfl⟩
    go_wp2_with fail
    refine (all_any A cap bs B w hB hrow hby hcap hcm (by omega)).mono ?_
    rintro e w1 ⟨v1, rfl, hown1, hb1⟩
    go_wp2_with fail
    refine (refAll_any A cap bs B w1 (Nat.le_trans hB hb1.size) (row_below hrow (hb1.mono hB)) hby hcap hcm (by omega)).mono ?_
    rintro e w2 ⟨v2, rfl, hown2, hb2⟩
    go_wp2_with fail
    obtain ⟨A1, cap1, e1, hr1, -, -⟩ := row_own hown1
    obtain ⟨A2, cap2, e2, hr2, -, -⟩ := row_own hown2
    rw [e1, e2]
    refine (same_any A1 A2 cap1 cap2 (all bs).1 w2.heap.size w2 (row_more (row_below hr1 hb2) hb2.size) hr2 (by have := all_length bs; omega)).mono ?_
    rintro e w3 ⟨rfl, n, rfl⟩
    clear hown1 hown2 e1 e2 hr1 hr2
    go_wp2_with fail
    refine (same_law _).mono ?_
    rintro e w4 ⟨rfl, hb4⟩
    go_wp2_with fail
    go_ret
    refine ⟨rfl, ?_⟩
    have h12 := hb1.trans (hb2.mono hb1.size)
    exact (below_drewN h12 n).trans (hb4.mono h12.size)
end Go.Proofs.Ytghnaabjplkheaa
