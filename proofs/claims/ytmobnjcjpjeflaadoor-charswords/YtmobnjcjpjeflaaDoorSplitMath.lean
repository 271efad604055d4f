/-
  Plain: a text cut at its blanks, byte by byte, and put together again.
-/
import Derived.Test.YtmobnjcjpjeflaaDoorWordsMath
namespace Go.Proofs.YtmobnjcjpjeflaaDoor
open Go.RowKit
set_option linter.unusedVariables false

/-- One byte more behind the pieces. -/
def pushB (ps : List (List UInt8)) (c : UInt8) : List (List UInt8) := if c = 32 then ps ++ [[]] else ps.dropLast ++ [ps.getLastD [] ++ [c]]
theorem push_cons (p : List UInt8) (ps : List (List UInt8)) (h : ps ≠ []) (c : UInt8) : pushB (p :: ps) c = p :: pushB ps c := by
  unfold pushB
  split
  · rfl
  · cases ps with
    | nil => exact absurd rfl h
    | cons q ps => simp
theorem split_push (l : List UInt8) (c : UInt8) : splitSp (l ++ [c]) = pushB (splitSp l) c := by
  induction l with
  | nil =>
    simp only [List.nil_append, splitSp, pushB]
    split <;> simp
  | cons d l ih =>
    have hne := splitSp_ne l
    simp only [List.cons_append, splitSp, ih]
    by_cases hd : d = 32
    · simp only [hd, if_true]
      rw [push_cons _ _ hne]
    · simp only [hd, if_false]
      cases hs : splitSp l with
      | nil => exact absurd hs hne
      | cons p ps =>
        cases ps with
        | nil =>
          unfold pushB
          by_cases hc : c = 32 <;> simp [hc]
        | cons q ps =>
          have e1 := push_cons p (q :: ps) (by simp) c
          have e2 := push_cons (d :: p) (q :: ps) (by simp) c
          simp only [e1, List.headD_cons, List.tail_cons]
          exact e2.symm
theorem take_push (l : List UInt8) (k : Nat) (h : k < l.length) : splitSp (l.take (k + 1)) = pushB (splitSp (l.take k)) (l.getD k 0) := by
  have : l.take (k + 1) = l.take k ++ [l.getD k 0] := by
    rw [List.take_succ_eq_append_getElem h]; simp [List.getD_eq_getElem?_getD, List.getElem?_eq_getElem h]
  rw [this, split_push]

def joinW : List (List UInt8) → List UInt8
  | [] => []
  | [p] => p
  | p :: q :: r => p ++ 32 :: joinW (q :: r)
theorem joinW_cons (p : List UInt8) (ps : List (List UInt8)) (h : ps ≠ []) : joinW (p :: ps) = p ++ 32 :: joinW ps := by
  cases ps with
  | nil => exact absurd rfl h
  | cons q r => rfl
theorem join_split (l : List UInt8) : joinW (splitSp l) = l := by
  induction l with
  | nil => rfl
  | cons c l ih =>
    have hne := splitSp_ne l
    simp only [splitSp]
    split
    · rename_i hc
      rw [joinW_cons _ _ hne, ih, hc]; rfl
    · cases hs : splitSp l with
      | nil => exact absurd hs hne
      | cons p ps =>
        rw [hs] at ih
        cases ps with
        | nil => simpa [joinW] using ih
        | cons q r => simpa [joinW] using ih
theorem joinW_snoc : ∀ (ps : List (List UInt8)) (p : List UInt8), ps ≠ [] → joinW (ps ++ [p]) = joinW ps ++ 32 :: p := by
  intro ps
  induction ps with
  | nil => intro p h; exact absurd rfl h
  | cons q r ih =>
    intro p _
    cases r with
    | nil => rfl
    | cons a r =>
      have := ih p (by simp)
      have e1 := joinW_cons q (a :: r ++ [p]) (by simp)
      have e2 := joinW_cons q (a :: r) (by simp)
      rw [List.cons_append, e1, this, e2]
      simp
theorem okW_join (l : List UInt8) (h : (okW l).2 = true) : joinW (okW l).1 = l := by
  unfold okW at h ⊢
  split
  · rename_i he; rw [he]; rfl
  · split
    · rename_i h1 h2; simp [h1, h2] at h
    · exact join_split l
end Go.Proofs.YtmobnjcjpjeflaaDoor
