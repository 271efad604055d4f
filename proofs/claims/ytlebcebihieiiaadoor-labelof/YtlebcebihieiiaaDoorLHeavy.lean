/-
  tendrillaw12.heavy: are labels longer than are gone through?
-/
import Derived.Test.YtlebcebihieiiaaDoorLSame
namespace Go.Proofs.YtlebcebihieiiaaDoor
open Go.RowKit Go.Sort
set_option linter.unusedVariables false
/-- What is known of a label that came in. -/
structure LFit (x : Lab) : Prop where
  tag : x.tag.size ≤ 140737488355328
  key : x.key.size ≤ 140737488355328
  n : C.I64 x.n
def Light (x : Lab) : Prop := x.tag.size + x.key.size ≤ 1000
def HeavyPost (w : World) (ls : List Lab) (e : Ending) (w' : World) : Prop := ∃ b, e = .returned (.bool b) ∧ (b = false → (∀ L ∈ ls, Light L) ∧ ls.length ≤ 200) ∧ Below w.heap.size w w'
set_option maxRecDepth 100000 in
set_option maxHeartbeats 4000000 in
theorem heavy_any (A : Option Addr) (c : Nat) (ls : List Lab) (w : World) (hr : LRow w w.heap.size A ls) (hf : ∀ L ∈ ls, LFit L) (hl : ls.length ≤ maxLen) : Calls Tryd.prog 15 #[.slice A ls.length c] w (HeavyPost w ls) := by
  have HR := Lib.hid hr; have HF := Lib.hid hf
  unfold maxLen at hl
  obtain ⟨n, hn⟩ : ∃ n, n = ls.length := ⟨_, rfl⟩
  have HN := Lib.hid hn
  rw [← hn] at hl ⊢
  clear hr hf hn
  go_enter Tryd.func15, Tryd.ntmps15
  go_wp2_with fail
  go_loopg [6] n (fun g s6 wr => ∃ i : Nat, s6 = .int .i64 i ∧ i ≤ n ∧ n - i ≤ g ∧ RowKit.Hid (∀ j, (hj : j < ls.length) → j < i → Light ls[j]) ∧ RowKit.Hid (Below w.heap.size w wr))
  case atStart => exact ⟨0, rfl, by omega, by omega, Lib.hid (fun j hj h => by omega), Lib.hid (Below.refl _ _)⟩
  case round =>
    obtain ⟨i, rfl, hi, hg, HL, HB⟩ := hrel
    by_cases hlt : i < n
    · have h1 : (i : Int) < (n : Int) := by omega
      have hil : i < ls.length := by rw [← HN.out]; exact hlt
      obtain ⟨b, off, L, hA, hb, hL, c0, c1, c2⟩ := lrow_at (HR.out.up HB.out) hil
      have hLf := HF.out ls[i] (List.getElem_mem _)
      rw [← hL] at hLf
      have t1 := hLf.tag
      have t2 := hLf.key
      have hw : IntKind.i64.wrap ((L.tag.size : Int) + (L.key.size : Int)) = (L.tag.size : Int) + (L.key.size : Int) := IntWalk.i64_in _ (by omega)
      have HLE := Lib.hid hL
      clear hL hLf t1 t2
      by_cases hbig : (1000 : Int) < (L.tag.size : Int) + (L.key.size : Int)
      · go_wp2_with fail
        go_quiet (fail)
        go_wp2_with fail
        go_ret
        exact ⟨true, rfl, by simp, HB.out.trans (below_drewN _ _ _)⟩
      · have HBI := Lib.hid hbig
        go_wp2_with fail
        go_quiet (fail)
        go_wp2_with fail
        try rw [← hA]
        go_roundg (n - (i + 1))
        case measure => omega
        case rel => exact ⟨i + 1, by go_num, by omega, by omega, Lib.hid (fun j hj h => by
          rcases Nat.lt_or_ge j i with h2 | h2
          · exact HL.out j hj h2
          · have : j = i := by omega
            subst this
            have h3 := HBI.out
            rw [HLE.out] at h3
            unfold Light; omega), Lib.hid (HB.out.trans (below_drewN _ _ _))⟩
    · have h1 : ¬ (i : Int) < (n : Int) := by omega
      have HAL := Lib.hid (show ∀ L ∈ ls, Light L from fun L hL => by
        obtain ⟨j, hj, rfl⟩ := List.getElem_of_mem hL
        exact HL.out j hj (by have := HN.out; omega))
      by_cases h200 : (200 : Int) < (n : Int)
      · go_wp2_with fail
        go_ret
        exact ⟨true, by first | rfl | simp [h200], by simp, HB.out⟩
      · have H200 := Lib.hid h200
        go_wp2_with fail
        go_ret
        exact ⟨false, by first | rfl | simp [h200], fun _ => ⟨HAL.out, by have := H200.out; have := HN.out; omega⟩, HB.out⟩
end Go.Proofs.YtlebcebihieiiaaDoor
