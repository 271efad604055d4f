/-
  The law KeysLess, walked.
-/
import Derived.Test.YtlhhfcnagkhllaaKEq
namespace Go.Proofs.Ytlhhfcnagkhllaa
open Go.RowKit
set_option linter.unusedVariables false

structure Box (w : World) (B : Nat) (L : Lab) : Prop where
  t : w.cell? ⟨B, 0, none⟩ = some (.string L.tag)
  k : w.cell? ⟨B, 1, none⟩ = some (.string L.key)
  n : w.cell? ⟨B, 2, none⟩ = some (.int .i64 L.n)
theorem Box.up {w w' : World} {B : Nat} {L : Lab} (h : Box w B L) (hb : Below w.heap.size w w') : Box w' B L :=
  ⟨(kept_below hb (fun _ => False)).cellOf h.t (fun h => h), (kept_below hb (fun _ => False)).cellOf h.k (fun h => h), (kept_below hb (fun _ => False)).cellOf h.n (fun h => h)⟩
theorem box_new (w : World) (L : Lab) : Box (w.alloc (.cells (labCells L) 30)) w.heap.size L := ⟨(box_cells w L).1, (box_cells w L).2.1, (box_cells w L).2.2⟩
def W3 (w : World) (a b c : Lab) : World := ((w.alloc (.cells (labCells a) 30)).alloc (.cells (labCells b) 30)).alloc (.cells (labCells c) 30)
theorem w3_boxes (w : World) (a b c : Lab) : Box (W3 w a b c) w.heap.size a ∧ Box (W3 w a b c) (w.heap.size + 1) b ∧ Box (W3 w a b c) (w.heap.size + 1 + 1) c ∧ Below w.heap.size w (W3 w a b c) := by
  have h1 := box_new w a
  have h2 := box_new (w.alloc (.cells (labCells a) 30)) b
  have h3 := box_new ((w.alloc (.cells (labCells a) 30)).alloc (.cells (labCells b) 30)) c
  have s1 : (w.alloc (.cells (labCells a) 30)).heap.size = w.heap.size + 1 := by simp
  have s2 : ((w.alloc (.cells (labCells a) 30)).alloc (.cells (labCells b) 30)).heap.size = w.heap.size + 1 + 1 := by simp
  rw [s1] at h2
  rw [s2] at h3
  exact ⟨(h1.up (lit_below _ _)).up (lit_below _ _), h2.up (lit_below _ _), h3, below_trans (below_trans (lit_below _ _) (lit_below _ _)) (lit_below _ _)⟩
theorem less_not {a b : Lab} (h : lessB a b = true) : lessB b a = false ∧ a ≠ b := by
  unfold lessB at *
  have h1 : cmpLab a b < 0 := by simpa using h
  have h2 := cmpLab_neg a b
  refine ⟨by simp; omega, ?_⟩
  rintro rfl
  rw [cmpLab_self] at h1
  omega
theorem less_tri (a b : Lab) : (lessB a b = true ∧ lessB b a = false ∧ a ≠ b) ∨ (lessB a b = false ∧ lessB b a = true ∧ a ≠ b) ∨ (lessB a b = false ∧ lessB b a = false ∧ a = b) := by
  have h2 := cmpLab_neg a b
  unfold lessB
  rcases (show cmpLab a b < 0 ∨ 0 < cmpLab a b ∨ cmpLab a b = 0 by omega) with h | h | h
  · have := less_not (a := a) (b := b) (by unfold lessB; simpa using h)
    exact .inl ⟨by simpa using h, by simp; omega, this.2⟩
  · have := less_not (a := b) (b := a) (by unfold lessB; simp; omega)
    exact .inr (.inl ⟨by simp; omega, by simp; omega, fun e => this.2 e.symm⟩)
  · exact .inr (.inr ⟨by simp; omega, by simp; omega, cmpLab_zero h⟩)
theorem less_trans {a b c : Lab} (h1 : lessB a b = true) (h2 : lessB b c = true) : lessB a c = true := by
  unfold lessB at *
  have := cmpLab_trans (by simpa using h1) (by simpa using h2)
  simpa using this
theorem less_is (a b : Lab) (w : World) (r : Bool) (h : lessB a b = r) : Calls Try.prog 20 #[labV a, labV b] w fun e w' => e = .returned (.bool r) ∧ Below w.heap.size w w' := by rw [← h]; exact less_any a b w
theorem refLess_is (a b : Lab) (w : World) (ha : a.tag.size ≤ 100000 ∧ a.key.size ≤ 100000) (hb : b.tag.size ≤ 100000 ∧ b.key.size ≤ 100000) (r : Bool) (h : lessB a b = r) : Calls Try.prog 22 #[labV a, labV b] w fun e w' => e = .returned (.bool r) ∧ Below w.heap.size w w' := by rw [← h]; exact refLess_any a b w ha hb
theorem neq_is {a b : Lab} (ha : LWf a) (hb : LWf b) (r : Bool) (h : (!sameL a b) = r) (w : World) : (binOp .neq 30 (.agg #[.string a.tag, .string a.key, .int .i64 a.n]) (.agg #[.string b.tag, .string b.key, .int .i64 b.n])).run Try.prog w = .ok (.bool r) w := by rw [← h]; exact neq_lab ha hb w

set_option maxRecDepth 100000 in
set_option maxHeartbeats 8000000 in
theorem law6_lt (a b c : Lab) (w : World) (ha : LWf a) (hb : LWf b) (hc : LWf c) (hx : lessB a b = true) (hy : lessB b a = false) (hn : (!sameL a b) = true)
    (sz : a.tag.size + a.key.size + b.tag.size + b.key.size + c.tag.size + c.key.size ≤ 2000) :
    Calls Try.prog 6 #[labV a, labV b, labV c] w fun e w' => e = .returned (.bool true) ∧ Below w.heap.size w w' := by
  obtain ⟨p1, p2, p3, hb1⟩ := w3_boxes w a b c
  obtain ⟨w1, hw1⟩ : ∃ w1, w1 = W3 w a b c := ⟨_, rfl⟩
  rw [← hw1] at p1 p2 p3 hb1
  have a1 := p1.t
  have a2 := p1.k
  have a3 := p1.n
  have b1 := p2.t
  have b2 := p2.k
  have b3 := p2.n
  have c1 := p3.t
  have c2 := p3.k
  have c3 := p3.n
  have hd : decide ((2000 : Int) < (a.tag.size : Int) + a.key.size + b.tag.size + b.key.size + c.tag.size + c.key.size) = false := by simp; omega
  have hd' : decide (2000 < a.tag.size + a.key.size + b.tag.size + b.key.size + c.tag.size + c.key.size) = false := by simp; omega
  have HX := Lib.hid hx; have HY := Lib.hid hy
  have hneq := neq_is ha hb true hn
  have HW := Lib.hid hw1
  clear hx hy hn hw1
  go_enter Try.func6, Try.ntmps6
  go_wp2_with fail
  rw [show ((w.alloc (.cells #[.string a.tag, .string a.key, .int .i64 a.n] 30)).alloc (.cells #[.string b.tag, .string b.key, .int .i64 b.n] 30)).alloc (.cells #[.string c.tag, .string c.key, .int .i64 c.n] 30) = w1 from HW.out.symm]
  refine (less_is a b w1 true HX.out).mono ?_
  rintro e w2 ⟨rfl, hb2⟩
  replace p1 := p1.up hb2
  replace p2 := p2.up hb2
  replace p3 := p3.up hb2
  replace hb1 := below_trans hb1 hb2
  clear a1 a2 a3 b1 b2 b3 c1 c2 c3 hb2
  clear HW
  try clear w1
  generalize w2 = w1 at p1 p2 p3 hb1 ⊢
  have a1 := p1.t
  have a2 := p1.k
  have a3 := p1.n
  have b1 := p2.t
  have b2 := p2.k
  have b3 := p2.n
  have c1 := p3.t
  have c2 := p3.k
  have c3 := p3.n
  go_wp2_with fail
  refine (less_is b a w1 false HY.out).mono ?_
  rintro e w2 ⟨rfl, hb2⟩
  replace p1 := p1.up hb2
  replace p2 := p2.up hb2
  replace p3 := p3.up hb2
  replace hb1 := below_trans hb1 hb2
  clear a1 a2 a3 b1 b2 b3 c1 c2 c3 hb2
  try clear w1
  generalize w2 = w1 at p1 p2 p3 hb1 ⊢
  have a1 := p1.t
  have a2 := p1.k
  have a3 := p1.n
  have b1 := p2.t
  have b2 := p2.k
  have b3 := p2.n
  have c1 := p3.t
  have c2 := p3.k
  have c3 := p3.n
  go_wp2_with fail
  refine (get_nil a w1).mono ?_
  rintro e w2 ⟨rfl, hb2⟩
  replace p1 := p1.up hb2
  replace p2 := p2.up hb2
  replace p3 := p3.up hb2
  replace hb1 := below_trans hb1 hb2
  clear a1 a2 a3 b1 b2 b3 c1 c2 c3 hb2
  try clear w1
  generalize w2 = w1 at p1 p2 p3 hb1 ⊢
  have a1 := p1.t
  have a2 := p1.k
  have a3 := p1.n
  have b1 := p2.t
  have b2 := p2.k
  have b3 := p2.n
  have c1 := p3.t
  have c2 := p3.k
  have c3 := p3.n
  go_wp2_with fail
  refine (put_nil a 1 w1).mono ?_
  rintro e w2 ⟨rfl, hb2⟩
  replace p1 := p1.up hb2
  replace p2 := p2.up hb2
  replace p3 := p3.up hb2
  replace hb1 := below_trans hb1 hb2
  clear a1 a2 a3 b1 b2 b3 c1 c2 c3 hb2
  try clear w1
  generalize w2 = w1 at p1 p2 p3 hb1 ⊢
  have a1 := p1.t
  have a2 := p1.k
  have a3 := p1.n
  have b1 := p2.t
  have b2 := p2.k
  have b3 := p2.n
  have c1 := p3.t
  have c2 := p3.k
  have c3 := p3.n
  go_wp2_with fail
  refine (drop_nil a w1).mono ?_
  rintro e w2 ⟨rfl, hb2⟩
  replace p1 := p1.up hb2
  replace p2 := p2.up hb2
  replace p3 := p3.up hb2
  replace hb1 := below_trans hb1 hb2
  clear a1 a2 a3 b1 b2 b3 c1 c2 c3 hb2
  try clear w1
  generalize w2 = w1 at p1 p2 p3 hb1 ⊢
  have a1 := p1.t
  have a2 := p1.k
  have a3 := p1.n
  have b1 := p2.t
  have b2 := p2.k
  have b3 := p2.n
  have c1 := p3.t
  have c2 := p3.k
  have c3 := p3.n
  go_wp2_with fail
  refine (len_nil w1).mono ?_
  rintro e w2 ⟨rfl, rfl⟩
  go_wp2_with fail
  refine (all_nil w1).mono ?_
  rintro e w2 ⟨rfl, rfl⟩
  go_wp2_with fail
  refine (refLess_is a b w1 (by omega) (by omega) true HX.out).mono ?_
  rintro e w2 ⟨rfl, hb2⟩
  replace p1 := p1.up hb2
  replace p2 := p2.up hb2
  replace p3 := p3.up hb2
  replace hb1 := below_trans hb1 hb2
  clear a1 a2 a3 b1 b2 b3 c1 c2 c3 hb2
  try clear w1
  generalize w2 = w1 at p1 p2 p3 hb1 ⊢
  have a1 := p1.t
  have a2 := p1.k
  have a3 := p1.n
  have b1 := p2.t
  have b2 := p2.k
  have b3 := p2.n
  have c1 := p3.t
  have c2 := p3.k
  have c3 := p3.n
  cases hz : lessB b c with
  | false =>
    have HZ := Lib.hid hz
    clear hz
    go_wp2_with fail
    refine (less_is b c w1 false HZ.out).mono ?_
    rintro e w2 ⟨rfl, hb2⟩
    replace p1 := p1.up hb2
    replace p2 := p2.up hb2
    replace p3 := p3.up hb2
    replace hb1 := below_trans hb1 hb2
    clear a1 a2 a3 b1 b2 b3 c1 c2 c3 hb2
    try clear w1
    generalize w2 = w1 at p1 p2 p3 hb1 ⊢
    have a1 := p1.t
    have a2 := p1.k
    have a3 := p1.n
    have b1 := p2.t
    have b2 := p2.k
    have b3 := p2.n
    have c1 := p3.t
    have c2 := p3.k
    have c3 := p3.n
    go_wp2_with fail
    refine (same_law w1).mono ?_
    rintro e w2 ⟨rfl, hb2⟩
    go_wp2_with fail
    go_ret
    exact ⟨rfl, below_trans hb1 hb2⟩
  | true =>
    have HZ := Lib.hid hz
    have HT := Lib.hid (less_trans HX.out hz)
    clear hz
    go_wp2_with fail
    refine (less_is b c w1 true HZ.out).mono ?_
    rintro e w2 ⟨rfl, hb2⟩
    replace p1 := p1.up hb2
    replace p2 := p2.up hb2
    replace p3 := p3.up hb2
    replace hb1 := below_trans hb1 hb2
    clear a1 a2 a3 b1 b2 b3 c1 c2 c3 hb2
    try clear w1
    generalize w2 = w1 at p1 p2 p3 hb1 ⊢
    have a1 := p1.t
    have a2 := p1.k
    have a3 := p1.n
    have b1 := p2.t
    have b2 := p2.k
    have b3 := p2.n
    have c1 := p3.t
    have c2 := p3.k
    have c3 := p3.n
    go_wp2_with fail
    refine (less_is a c w1 true HT.out).mono ?_
    rintro e w2 ⟨rfl, hb2⟩
    replace p1 := p1.up hb2
    replace p2 := p2.up hb2
    replace p3 := p3.up hb2
    replace hb1 := below_trans hb1 hb2
    clear a1 a2 a3 b1 b2 b3 c1 c2 c3 hb2
    try clear w1
    generalize w2 = w1 at p1 p2 p3 hb1 ⊢
    have a1 := p1.t
    have a2 := p1.k
    have a3 := p1.n
    have b1 := p2.t
    have b2 := p2.k
    have b3 := p2.n
    have c1 := p3.t
    have c2 := p3.k
    have c3 := p3.n
    go_wp2_with fail
    refine (same_law w1).mono ?_
    rintro e w2 ⟨rfl, hb2⟩
    go_wp2_with fail
    go_ret
    exact ⟨rfl, below_trans hb1 hb2⟩

set_option maxRecDepth 100000 in
set_option maxHeartbeats 8000000 in
theorem law6_gt (a b c : Lab) (w : World) (ha : LWf a) (hb : LWf b) (hc : LWf c) (hx : lessB a b = false) (hy : lessB b a = true) (hn : (!sameL a b) = true)
    (sz : a.tag.size + a.key.size + b.tag.size + b.key.size + c.tag.size + c.key.size ≤ 2000) :
    Calls Try.prog 6 #[labV a, labV b, labV c] w fun e w' => e = .returned (.bool true) ∧ Below w.heap.size w w' := by
  obtain ⟨p1, p2, p3, hb1⟩ := w3_boxes w a b c
  obtain ⟨w1, hw1⟩ : ∃ w1, w1 = W3 w a b c := ⟨_, rfl⟩
  rw [← hw1] at p1 p2 p3 hb1
  have a1 := p1.t
  have a2 := p1.k
  have a3 := p1.n
  have b1 := p2.t
  have b2 := p2.k
  have b3 := p2.n
  have c1 := p3.t
  have c2 := p3.k
  have c3 := p3.n
  have hd : decide ((2000 : Int) < (a.tag.size : Int) + a.key.size + b.tag.size + b.key.size + c.tag.size + c.key.size) = false := by simp; omega
  have hd' : decide (2000 < a.tag.size + a.key.size + b.tag.size + b.key.size + c.tag.size + c.key.size) = false := by simp; omega
  have HX := Lib.hid hx; have HY := Lib.hid hy
  have hneq := neq_is ha hb true hn
  have HW := Lib.hid hw1
  clear hx hy hn hw1
  go_enter Try.func6, Try.ntmps6
  go_wp2_with fail
  rw [show ((w.alloc (.cells #[.string a.tag, .string a.key, .int .i64 a.n] 30)).alloc (.cells #[.string b.tag, .string b.key, .int .i64 b.n] 30)).alloc (.cells #[.string c.tag, .string c.key, .int .i64 c.n] 30) = w1 from HW.out.symm]
  refine (less_is a b w1 false HX.out).mono ?_
  rintro e w2 ⟨rfl, hb2⟩
  replace p1 := p1.up hb2
  replace p2 := p2.up hb2
  replace p3 := p3.up hb2
  replace hb1 := below_trans hb1 hb2
  clear a1 a2 a3 b1 b2 b3 c1 c2 c3 hb2
  clear HW
  try clear w1
  generalize w2 = w1 at p1 p2 p3 hb1 ⊢
  have a1 := p1.t
  have a2 := p1.k
  have a3 := p1.n
  have b1 := p2.t
  have b2 := p2.k
  have b3 := p2.n
  have c1 := p3.t
  have c2 := p3.k
  have c3 := p3.n
  go_wp2_with fail
  refine (less_is b a w1 true HY.out).mono ?_
  rintro e w2 ⟨rfl, hb2⟩
  replace p1 := p1.up hb2
  replace p2 := p2.up hb2
  replace p3 := p3.up hb2
  replace hb1 := below_trans hb1 hb2
  clear a1 a2 a3 b1 b2 b3 c1 c2 c3 hb2
  try clear w1
  generalize w2 = w1 at p1 p2 p3 hb1 ⊢
  have a1 := p1.t
  have a2 := p1.k
  have a3 := p1.n
  have b1 := p2.t
  have b2 := p2.k
  have b3 := p2.n
  have c1 := p3.t
  have c2 := p3.k
  have c3 := p3.n
  go_wp2_with fail
  refine (get_nil a w1).mono ?_
  rintro e w2 ⟨rfl, hb2⟩
  replace p1 := p1.up hb2
  replace p2 := p2.up hb2
  replace p3 := p3.up hb2
  replace hb1 := below_trans hb1 hb2
  clear a1 a2 a3 b1 b2 b3 c1 c2 c3 hb2
  try clear w1
  generalize w2 = w1 at p1 p2 p3 hb1 ⊢
  have a1 := p1.t
  have a2 := p1.k
  have a3 := p1.n
  have b1 := p2.t
  have b2 := p2.k
  have b3 := p2.n
  have c1 := p3.t
  have c2 := p3.k
  have c3 := p3.n
  go_wp2_with fail
  refine (put_nil a 1 w1).mono ?_
  rintro e w2 ⟨rfl, hb2⟩
  replace p1 := p1.up hb2
  replace p2 := p2.up hb2
  replace p3 := p3.up hb2
  replace hb1 := below_trans hb1 hb2
  clear a1 a2 a3 b1 b2 b3 c1 c2 c3 hb2
  try clear w1
  generalize w2 = w1 at p1 p2 p3 hb1 ⊢
  have a1 := p1.t
  have a2 := p1.k
  have a3 := p1.n
  have b1 := p2.t
  have b2 := p2.k
  have b3 := p2.n
  have c1 := p3.t
  have c2 := p3.k
  have c3 := p3.n
  go_wp2_with fail
  refine (drop_nil a w1).mono ?_
  rintro e w2 ⟨rfl, hb2⟩
  replace p1 := p1.up hb2
  replace p2 := p2.up hb2
  replace p3 := p3.up hb2
  replace hb1 := below_trans hb1 hb2
  clear a1 a2 a3 b1 b2 b3 c1 c2 c3 hb2
  try clear w1
  generalize w2 = w1 at p1 p2 p3 hb1 ⊢
  have a1 := p1.t
  have a2 := p1.k
  have a3 := p1.n
  have b1 := p2.t
  have b2 := p2.k
  have b3 := p2.n
  have c1 := p3.t
  have c2 := p3.k
  have c3 := p3.n
  go_wp2_with fail
  refine (len_nil w1).mono ?_
  rintro e w2 ⟨rfl, rfl⟩
  go_wp2_with fail
  refine (all_nil w1).mono ?_
  rintro e w2 ⟨rfl, rfl⟩
  go_wp2_with fail
  refine (refLess_is a b w1 (by omega) (by omega) false HX.out).mono ?_
  rintro e w2 ⟨rfl, hb2⟩
  replace p1 := p1.up hb2
  replace p2 := p2.up hb2
  replace p3 := p3.up hb2
  replace hb1 := below_trans hb1 hb2
  clear a1 a2 a3 b1 b2 b3 c1 c2 c3 hb2
  try clear w1
  generalize w2 = w1 at p1 p2 p3 hb1 ⊢
  have a1 := p1.t
  have a2 := p1.k
  have a3 := p1.n
  have b1 := p2.t
  have b2 := p2.k
  have b3 := p2.n
  have c1 := p3.t
  have c2 := p3.k
  have c3 := p3.n
  go_wp2_with fail
  refine (same_law w1).mono ?_
  rintro e w2 ⟨rfl, hb2⟩
  go_wp2_with fail
  go_ret
  exact ⟨rfl, below_trans hb1 hb2⟩

set_option maxRecDepth 100000 in
set_option maxHeartbeats 8000000 in
theorem law6_eq (a b c : Lab) (w : World) (ha : LWf a) (hb : LWf b) (hc : LWf c) (hx : lessB a b = false) (hy : lessB b a = false) (hn : (!sameL a b) = false)
    (sz : a.tag.size + a.key.size + b.tag.size + b.key.size + c.tag.size + c.key.size ≤ 2000) :
    Calls Try.prog 6 #[labV a, labV b, labV c] w fun e w' => e = .returned (.bool true) ∧ Below w.heap.size w w' := by
  obtain ⟨p1, p2, p3, hb1⟩ := w3_boxes w a b c
  obtain ⟨w1, hw1⟩ : ∃ w1, w1 = W3 w a b c := ⟨_, rfl⟩
  rw [← hw1] at p1 p2 p3 hb1
  have a1 := p1.t
  have a2 := p1.k
  have a3 := p1.n
  have b1 := p2.t
  have b2 := p2.k
  have b3 := p2.n
  have c1 := p3.t
  have c2 := p3.k
  have c3 := p3.n
  have hd : decide ((2000 : Int) < (a.tag.size : Int) + a.key.size + b.tag.size + b.key.size + c.tag.size + c.key.size) = false := by simp; omega
  have hd' : decide (2000 < a.tag.size + a.key.size + b.tag.size + b.key.size + c.tag.size + c.key.size) = false := by simp; omega
  have HX := Lib.hid hx; have HY := Lib.hid hy
  have hneq := neq_is ha hb false hn
  have HW := Lib.hid hw1
  clear hx hy hn hw1
  go_enter Try.func6, Try.ntmps6
  go_wp2_with fail
  rw [show ((w.alloc (.cells #[.string a.tag, .string a.key, .int .i64 a.n] 30)).alloc (.cells #[.string b.tag, .string b.key, .int .i64 b.n] 30)).alloc (.cells #[.string c.tag, .string c.key, .int .i64 c.n] 30) = w1 from HW.out.symm]
  refine (less_is a b w1 false HX.out).mono ?_
  rintro e w2 ⟨rfl, hb2⟩
  replace p1 := p1.up hb2
  replace p2 := p2.up hb2
  replace p3 := p3.up hb2
  replace hb1 := below_trans hb1 hb2
  clear a1 a2 a3 b1 b2 b3 c1 c2 c3 hb2
  clear HW
  try clear w1
  generalize w2 = w1 at p1 p2 p3 hb1 ⊢
  have a1 := p1.t
  have a2 := p1.k
  have a3 := p1.n
  have b1 := p2.t
  have b2 := p2.k
  have b3 := p2.n
  have c1 := p3.t
  have c2 := p3.k
  have c3 := p3.n
  go_wp2_with fail
  refine (less_is b a w1 false HY.out).mono ?_
  rintro e w2 ⟨rfl, hb2⟩
  replace p1 := p1.up hb2
  replace p2 := p2.up hb2
  replace p3 := p3.up hb2
  replace hb1 := below_trans hb1 hb2
  clear a1 a2 a3 b1 b2 b3 c1 c2 c3 hb2
  try clear w1
  generalize w2 = w1 at p1 p2 p3 hb1 ⊢
  have a1 := p1.t
  have a2 := p1.k
  have a3 := p1.n
  have b1 := p2.t
  have b2 := p2.k
  have b3 := p2.n
  have c1 := p3.t
  have c2 := p3.k
  have c3 := p3.n
  go_wp2_with fail
  refine (get_nil a w1).mono ?_
  rintro e w2 ⟨rfl, hb2⟩
  replace p1 := p1.up hb2
  replace p2 := p2.up hb2
  replace p3 := p3.up hb2
  replace hb1 := below_trans hb1 hb2
  clear a1 a2 a3 b1 b2 b3 c1 c2 c3 hb2
  try clear w1
  generalize w2 = w1 at p1 p2 p3 hb1 ⊢
  have a1 := p1.t
  have a2 := p1.k
  have a3 := p1.n
  have b1 := p2.t
  have b2 := p2.k
  have b3 := p2.n
  have c1 := p3.t
  have c2 := p3.k
  have c3 := p3.n
  go_wp2_with fail
  refine (put_nil a 1 w1).mono ?_
  rintro e w2 ⟨rfl, hb2⟩
  replace p1 := p1.up hb2
  replace p2 := p2.up hb2
  replace p3 := p3.up hb2
  replace hb1 := below_trans hb1 hb2
  clear a1 a2 a3 b1 b2 b3 c1 c2 c3 hb2
  try clear w1
  generalize w2 = w1 at p1 p2 p3 hb1 ⊢
  have a1 := p1.t
  have a2 := p1.k
  have a3 := p1.n
  have b1 := p2.t
  have b2 := p2.k
  have b3 := p2.n
  have c1 := p3.t
  have c2 := p3.k
  have c3 := p3.n
  go_wp2_with fail
  refine (drop_nil a w1).mono ?_
  rintro e w2 ⟨rfl, hb2⟩
  replace p1 := p1.up hb2
  replace p2 := p2.up hb2
  replace p3 := p3.up hb2
  replace hb1 := below_trans hb1 hb2
  clear a1 a2 a3 b1 b2 b3 c1 c2 c3 hb2
  try clear w1
  generalize w2 = w1 at p1 p2 p3 hb1 ⊢
  have a1 := p1.t
  have a2 := p1.k
  have a3 := p1.n
  have b1 := p2.t
  have b2 := p2.k
  have b3 := p2.n
  have c1 := p3.t
  have c2 := p3.k
  have c3 := p3.n
  go_wp2_with fail
  refine (len_nil w1).mono ?_
  rintro e w2 ⟨rfl, rfl⟩
  go_wp2_with fail
  refine (all_nil w1).mono ?_
  rintro e w2 ⟨rfl, rfl⟩
  go_wp2_with fail
  refine (refLess_is a b w1 (by omega) (by omega) false HX.out).mono ?_
  rintro e w2 ⟨rfl, hb2⟩
  replace p1 := p1.up hb2
  replace p2 := p2.up hb2
  replace p3 := p3.up hb2
  replace hb1 := below_trans hb1 hb2
  clear a1 a2 a3 b1 b2 b3 c1 c2 c3 hb2
  try clear w1
  generalize w2 = w1 at p1 p2 p3 hb1 ⊢
  have a1 := p1.t
  have a2 := p1.k
  have a3 := p1.n
  have b1 := p2.t
  have b2 := p2.k
  have b3 := p2.n
  have c1 := p3.t
  have c2 := p3.k
  have c3 := p3.n
  go_wp2_with fail
  refine (same_law w1).mono ?_
  rintro e w2 ⟨rfl, hb2⟩
  go_wp2_with fail
  go_ret
  exact ⟨rfl, below_trans hb1 hb2⟩

set_option maxRecDepth 100000 in
set_option maxHeartbeats 8000000 in
theorem law6_any (a b c : Lab) (w : World) (ha : LWf a) (hb : LWf b) (hc : LWf c) (sa : a.tag.size ≤ 140737488351232 ∧ a.key.size ≤ 140737488351232) (sb : b.tag.size ≤ 140737488351232 ∧ b.key.size ≤ 140737488351232) (sc : c.tag.size ≤ 140737488351232 ∧ c.key.size ≤ 140737488351232) :
    Calls Try.prog 6 #[labV a, labV b, labV c] w fun e w' => e = .returned (.bool true) ∧ Below w.heap.size w w' := by
  by_cases sz : a.tag.size + a.key.size + b.tag.size + b.key.size + c.tag.size + c.key.size ≤ 2000
  · rcases less_tri a b with ⟨h1, h2, h3⟩ | ⟨h1, h2, h3⟩ | ⟨h1, h2, h3⟩
    · exact law6_lt a b c w ha hb hc h1 h2 (by simp [sameL, h3]) sz
    · exact law6_gt a b c w ha hb hc h1 h2 (by simp [sameL, h3]) sz
    · exact law6_eq a b c w ha hb hc h1 h2 (by simp [sameL, h3]) sz
  · obtain ⟨p1, p2, p3, hb1⟩ := w3_boxes w a b c
    obtain ⟨w1, hw1⟩ : ∃ w1, w1 = W3 w a b c := ⟨_, rfl⟩
    rw [← hw1] at p1 p2 p3 hb1
    have a1 := p1.t
    have a2 := p1.k
    have a3 := p1.n
    have b1 := p2.t
    have b2 := p2.k
    have b3 := p2.n
    have c1 := p3.t
    have c2 := p3.k
    have c3 := p3.n
    have hd : decide ((2000 : Int) < (a.tag.size : Int) + a.key.size + b.tag.size + b.key.size + c.tag.size + c.key.size) = true := by simp; omega
    have hd' : decide (2000 < a.tag.size + a.key.size + b.tag.size + b.key.size + c.tag.size + c.key.size) = true := by simp; omega
    obtain ⟨sa1, sa2⟩ := sa
    obtain ⟨sb1, sb2⟩ := sb
    obtain ⟨sc1, sc2⟩ := sc
    have HW := Lib.hid hw1
    clear hw1
    go_enter Try.func6, Try.ntmps6
    go_wp2_with fail
    rw [show ((w.alloc (.cells #[.string a.tag, .string a.key, .int .i64 a.n] 30)).alloc (.cells #[.string b.tag, .string b.key, .int .i64 b.n] 30)).alloc (.cells #[.string c.tag, .string c.key, .int .i64 c.n] 30) = w1 from HW.out.symm]
    refine (same_law w1).mono ?_
    rintro e w2 ⟨rfl, hb2⟩
    go_wp2_with fail
    go_ret
    exact ⟨rfl, below_trans hb1 hb2⟩
end Go.Proofs.Ytlhhfcnagkhllaa
