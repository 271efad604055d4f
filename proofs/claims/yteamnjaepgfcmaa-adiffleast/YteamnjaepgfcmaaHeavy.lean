/-
  The statements' heavy: where it answers false, the list is short and its texts are.
-/
import Derived.Test.YteamnjaepgfcmaaCheck2
namespace Go.Proofs.Yteamnjaepgfcmaa
open Go.RowKit Go.Sort
set_option linter.unusedVariables false
def Fit (l : List At) : Prop := ∀ x ∈ l, x.1.size ≤ 140737488355328 ∧ x.2.size ≤ 140737488355328
def rowCells (A : Option Addr) (n c : Nat) : Array Value := #[.int .i64 0, .int .i64 0, .string ⟨#[]⟩, .string ⟨#[]⟩, .string ⟨#[]⟩, .slice A n c]
def Seen (l : List At) (k : Nat) (left0 left : Int) : Prop := left ≤ left0 ∧ left0 - (k : Int) * 1099511627776 ≤ left ∧ ∀ j, (hj : j < l.length) → j < k → (((l[j].2.size + l[j].1.size) / 4096 : Nat) : Int) ≤ left0 - left
theorem Seen.step {l : List At} {k : Nat} {left0 left : Int} (h : Seen l k left0 left) (hk : k < l.length) (hf : Fit l) : Seen l (k + 1) left0 (left - (((l[k].2.size + l[k].1.size) / 4096 : Nat) : Int)) := by
  obtain ⟨h1, h2, h3⟩ := h
  obtain ⟨f1, f2⟩ := hf l[k] (List.getElem_mem _)
  refine ⟨by omega, by omega, fun j hj hjk => ?_⟩
  rcases Nat.lt_or_ge j k with h4 | h4
  · have := h3 j hj h4; omega
  · have : j = k := by omega
    subst this
    omega
def FewPost (w : World) (l : List At) (most : Nat) (e : Ending) (w' : World) : Prop := ∃ b n, e = .returned (.bool b) ∧ w' = w.drewN n ∧ (b = true → l.length < most ∧ ∀ x ∈ l, (x.2.size + x.1.size) / 4096 ≤ most)
set_option maxHeartbeats 4000000 in
set_option maxRecDepth 100000 in
theorem few_any (R : Nat) (A : Option Addr) (c most : Nat) (l : List At) (w : World) (h : TRow w w.heap.size A l) (hf : Fit l) (hm : most ≤ 1000) (hl : l.length ≤ maxLen)
    (g2 : w.cell? ⟨R, 2, none⟩ = some (.string ⟨#[]⟩)) (g3 : w.cell? ⟨R, 3, none⟩ = some (.string ⟨#[]⟩)) (g4 : w.cell? ⟨R, 4, none⟩ = some (.string ⟨#[]⟩)) (g5 : w.cell? ⟨R, 5, none⟩ = some (.slice A l.length c)) :
    Calls Try.prog 32 #[.slice (some ⟨R, 0, none⟩) 1 1, .int .i64 most] w (FewPost w l most) := by
  have H := Lib.hid h; have HF := Lib.hid hf
  clear h hf
  unfold maxLen at hl
  go_enter Try.func32, Try.ntmps32
  go_wp2
  go_loopg [5, 6, 7, 11] 1 (fun g s5 _ _ s11 wr => ∃ k n : Nat, s11 = .int .i64 k ∧ k ≤ 1 ∧ 1 - k ≤ g ∧ RowKit.Hid (wr = w.drewN n) ∧ ((k = 0 ∧ s5 = .int .i64 most) ∨ (k = 1 ∧ ∃ left : Int, s5 = .int .i64 left ∧ -9000000000000000000 ≤ left ∧ left ≤ 1000 ∧ RowKit.Hid (0 ≤ left → l.length < most ∧ ∀ x ∈ l, (x.2.size + x.1.size) / 4096 ≤ most))))
  case atStart => exact ⟨0, 0, rfl, by omega, by omega, Lib.hid rfl, .inl ⟨rfl, rfl⟩⟩
  case round =>
    obtain ⟨k, n, rfl, hk, hg, HW, hs⟩ := hrel
    rcases hs with ⟨rfl, rfl⟩ | ⟨rfl, left, rfl, hlo, hhi, HP⟩
    · have e2 : wr.cell? ⟨R, 2, none⟩ = some (.string ⟨#[]⟩) := by rw [HW.out]; exact g2
      have e3 : wr.cell? ⟨R, 3, none⟩ = some (.string ⟨#[]⟩) := by rw [HW.out]; exact g3
      have e4 : wr.cell? ⟨R, 4, none⟩ = some (.string ⟨#[]⟩) := by rw [HW.out]; exact g4
      have e5 : wr.cell? ⟨R, 5, none⟩ = some (.slice A l.length c) := by rw [HW.out]; exact g5
      have HG5 := Lib.hid g5
      clear g2 g3 g4 g5
      go_wp2_with fail
      go_quiet (fail)
      have HW2 := Lib.hid (show wr.drewN nq = w.drewN (n + nq) by rw [HW.out, World.drewN_drewN])
      have k5 : (wr.drewN nq).cell? ⟨R, 5, none⟩ = some (.slice A l.length c) := e5
      have HT := Lib.hid (show TRow (wr.drewN nq) (wr.drewN nq).heap.size A l by rw [HW2.out]; exact H.out)
      clear e2 e3 e4 e5 HW
      generalize wr.drewN nq = w2 at HW2 HT k5 ⊢
      by_cases hneg : (most : Int) - 1 - (l.length : Int) < 0
      · go_wp2_with fail
        go_ret
        exact ⟨false, _, rfl, HW2.out, fun h => by cases h⟩
      · obtain ⟨left0, hl0⟩ : ∃ x : Int, x = (most : Int) - 1 - (l.length : Int) := ⟨_, rfl⟩
        have hlen : l.length < most := by omega
        have hlow : 0 ≤ left0 := by omega
        have hlow' : ¬ left0 < 0 := by omega
        have hhigh : left0 ≤ 1000 := by omega
        have hlm : left0 ≤ (most : Int) := by omega
        rw [← hl0]
        clear hl0 hneg
        go_wp2_with fail
        go_loopg [5, 7, 53] l.length (fun g s5 _ s53 wr2 => ∃ (j n2 : Nat) (left : Int), s53 = .int .i64 j ∧ s5 = .int .i64 left ∧ j ≤ l.length ∧ l.length - j ≤ g ∧ -1099511627776000 ≤ left ∧ left ≤ 1000 ∧ RowKit.Hid (Seen l j left0 left) ∧ RowKit.Hid (wr2 = w.drewN n2))
        case atStart => exact ⟨0, n + nq, left0, rfl, rfl, by omega, by omega, by omega, by omega, Lib.hid ⟨by omega, by omega, fun j hj h => by omega⟩, HW2⟩
        case round =>
          clear HW2 HT k5
          obtain ⟨j, n2, left, rfl, rfl, hj, hg2, hlo, hhi, HS, HW3⟩ := hrel
          have k5 : wr.cell? ⟨R, 5, none⟩ = some (.slice A l.length c) := by rw [HW3.out]; exact HG5.out
          by_cases hlt : j < l.length
          · have h1 : (j : Int) < (l.length : Int) := by omega
            obtain ⟨b, off, x, rfl, hb, hx, c1, c2⟩ := trow_at (show TRow wr wr.heap.size A l by rw [HW3.out]; exact H.out) hlt
            have HS2 := Lib.hid (Seen.step HS.out hlt HF.out)
            obtain ⟨f1, f2⟩ := HF.out l[j] (List.getElem_mem _)
            rw [← hx] at f1 f2
            have hSl := HS2.out.2.1
            rw [← hx] at HS2 hSl
            have hq : ((x.2.size : Int) + (x.1.size : Int)) / 4096 = (((x.2.size + x.1.size) / 4096 : Nat) : Int) := by omega
            have HQ := Lib.hid hq
            have hq1 : IntKind.i64.wrap ((x.2.size : Int) + (x.1.size : Int)) = (x.2.size : Int) + (x.1.size : Int) := by rw [IntKind.wrap_i64]; omega
            clear hx hq
            go_wp2_with fail
            go_quiet (fail)
            have HW4 := Lib.hid (show wr.drewN nq = w.drewN (n2 + nq) by rw [HW3.out, World.drewN_drewN])
            clear c1 c2 k5 HW3
            generalize wr.drewN nq = w3 at HW4 ⊢
            go_wp2_with fail
            go_roundg (l.length - (j + 1))
            case measure => omega
            case rel => exact ⟨j + 1, n2 + nq, left - (((x.2.size + x.1.size) / 4096 : Nat) : Int), by go_num, by rw [HQ.out], by omega, by omega, by omega, by omega, HS2, HW4⟩
          · have h1 : ¬ (j : Int) < (l.length : Int) := by omega
            have e : j = l.length := by omega
            have HP := Lib.hid (show 0 ≤ left → l.length < most ∧ ∀ x ∈ l, (x.2.size + x.1.size) / 4096 ≤ most from fun h0 => ⟨hlen, fun x hx => by
              obtain ⟨i, hi, rfl⟩ := List.getElem_of_mem hx
              have := HS.out.2.2 i hi (by omega)
              omega⟩)
            clear e HS
            go_wp2_with fail
            go_roundg 0
            case measure => omega
            case rel => exact ⟨1, n2, by go_num, by omega, by omega, HW3, .inr ⟨rfl, left, rfl, by omega, by omega, HP⟩⟩
    · by_cases h0 : 0 ≤ left
      · go_wp2_with fail
        go_ret
        exact ⟨true, n, ret_bool (by simp), HW.out, fun _ => HP.out h0⟩
      · go_wp2_with fail
        go_ret
        exact ⟨false, n, ret_bool (by simp), HW.out, fun h => by cases h⟩
def HeavyPost (w : World) (l : List At) (most : Nat) (e : Ending) (w' : World) : Prop := ∃ b, e = .returned (.bool b) ∧ Below w.heap.size w w' ∧ (b = false → l.length < most ∧ ∀ x ∈ l, (x.2.size + x.1.size) / 4096 ≤ most)
theorem row_cells (w : World) (A : Option Addr) (n c : Nat) : ((w.alloc (.cells (rowCells A n c) 53)).cell? ⟨w.heap.size, 2, none⟩ = some (.string ⟨#[]⟩) ∧ (w.alloc (.cells (rowCells A n c) 53)).cell? ⟨w.heap.size, 3, none⟩ = some (.string ⟨#[]⟩)) ∧ (w.alloc (.cells (rowCells A n c) 53)).cell? ⟨w.heap.size, 4, none⟩ = some (.string ⟨#[]⟩) ∧ (w.alloc (.cells (rowCells A n c) 53)).cell? ⟨w.heap.size, 5, none⟩ = some (.slice A n c) := by
  refine ⟨⟨?_, ?_⟩, ?_, ?_⟩ <;> simp [rowCells]
set_option maxHeartbeats 1000000 in
theorem heavy09_any (A : Option Addr) (c : Nat) (l : List At) (w : World) (h : TRow w w.heap.size A l) (hf : Fit l) (hl : l.length ≤ maxLen) : Calls Try.prog 10 #[.slice A l.length c] w (HeavyPost w l 300) := by
  obtain ⟨w1, hw1⟩ : ∃ w1, w1 = w.alloc (.cells (rowCells A l.length c) 53) := ⟨_, rfl⟩
  have hb1 : Below w.heap.size w w1 := by rw [hw1]; exact (Below.refl _ _).alloc (Nat.le_refl _) _
  obtain ⟨⟨g2, g3⟩, g4, g5⟩ := row_cells w A l.length c
  rw [← hw1] at g2 g3 g4 g5
  have HC := Lib.hid (few_any w.heap.size A c 300 l w1 (h.up hb1) hf (by omega) hl g2 g3 g4 g5)
  have HW := Lib.hid hw1; have HB := Lib.hid hb1
  clear hw1 g2 g3 g4 g5 h hb1
  go_enter Try.func10, Try.ntmps10
  go_wp2_with fail
  rw [show w.alloc (.cells #[.int .i64 0, .int .i64 0, .string ⟨#[]⟩, .string ⟨#[]⟩, .string ⟨#[]⟩, .slice A l.length c] 53) = w1 from HW.out.symm]
  refine HC.out.mono ?_
  rintro e w2 ⟨b, n, rfl, rfl, hp⟩
  have HP := Lib.hid hp
  clear hp
  go_wp2_with fail
  go_ret
  exact ⟨!b, rfl, HB.out.trans (below_drewN _ _ _), fun hb => HP.out (by simpa using hb)⟩
set_option maxHeartbeats 1000000 in
theorem heavy10_any (A : Option Addr) (c : Nat) (l : List At) (w : World) (h : TRow w w.heap.size A l) (hf : Fit l) (hl : l.length ≤ maxLen) : Calls Try.prog 25 #[.slice A l.length c] w (HeavyPost w l 200) := by
  obtain ⟨w1, hw1⟩ : ∃ w1, w1 = w.alloc (.cells (rowCells A l.length c) 53) := ⟨_, rfl⟩
  have hb1 : Below w.heap.size w w1 := by rw [hw1]; exact (Below.refl _ _).alloc (Nat.le_refl _) _
  obtain ⟨⟨g2, g3⟩, g4, g5⟩ := row_cells w A l.length c
  rw [← hw1] at g2 g3 g4 g5
  have HC := Lib.hid (few_any w.heap.size A c 200 l w1 (h.up hb1) hf (by omega) hl g2 g3 g4 g5)
  have HW := Lib.hid hw1; have HB := Lib.hid hb1
  clear hw1 g2 g3 g4 g5 h hb1
  go_enter Try.func25, Try.ntmps25
  go_wp2_with fail
  rw [show w.alloc (.cells #[.int .i64 0, .int .i64 0, .string ⟨#[]⟩, .string ⟨#[]⟩, .string ⟨#[]⟩, .slice A l.length c] 53) = w1 from HW.out.symm]
  refine HC.out.mono ?_
  rintro e w2 ⟨b, n, rfl, rfl, hp⟩
  have HP := Lib.hid hp
  clear hp
  go_wp2_with fail
  go_ret
  exact ⟨!b, rfl, HB.out.trans (below_drewN _ _ _), fun hb => HP.out (by simpa using hb)⟩
theorem few_short {l : List At} {most : Nat} (hm : most ≤ 1000) (h : ∀ x ∈ l, (x.2.size + x.1.size) / 4096 ≤ most) : Short l := fun x hx => by have := h x hx; omega
end Go.Proofs.Yteamnjaepgfcmaa
