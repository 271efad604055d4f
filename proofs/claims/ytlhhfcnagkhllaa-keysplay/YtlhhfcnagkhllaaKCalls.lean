/-
  Put, Get, Drop, Len of an index, and of a nil one.
-/
import Derived.Test.YtlhhfcnagkhllaaKOps
namespace Go.Proofs.Ytlhhfcnagkhllaa
open Go.RowKit Go.Maps
set_option linter.unusedVariables false
set_option maxHeartbeats 4000000 in
theorem put_new (base X bm : Nat) (es es' : List (Lab × Int)) (L : Lab) (n : Int) (w : World) (h : Ix w base X bm es) (hL : LWf L) (hn : wf64 n) (hl : L ∉ es.map Prod.fst) (hlen : es.length ≤ 1000000) (hp : es'.Perm ((L, n) :: es)) :
    Calls Try.prog 11 #[.pointer (some ⟨X, 0, none⟩), labV L, .int .i64 n] w (PutYes w base X bm es') := by
  obtain ⟨w1, hw1⟩ : ∃ w1, w1 = w.alloc (.cells (labCells L) 30) := ⟨_, rfl⟩
  have hb1 : Below w.heap.size w w1 := by rw [hw1]; exact lit_below _ _
  have h1 : Ix w1 base X bm es := h.below hb1
  obtain ⟨k1, k2, k3⟩ := box_cells w L
  have hnb : ¬ w.heap.size = bm := by have := h.ltM; omega
  rw [← hw1] at k1 k2 k3
  have h1d := h1.keep (kept_drew w1 (fun _ => False)) (fun h => h) (fun h => h)
  have hc := tput_new base X bm es es' L n w1.drew h1d hL hn hl hlen hp
  have HC := Lib.hid hc
  have HW := Lib.hid hw1
  clear hw1 h h1 h1d hc
  go_enter Try.func11, Try.ntmps11
  go_wp2_with fail
  rw [← HW.out]
  go_wp2_with fail
  go_region_held3 (fun w' => w'.cell? ⟨w.heap.size, 0, none⟩ = some (.string L.tag) ∧ w'.cell? ⟨w.heap.size, 1, none⟩ = some (.string L.key) ∧ w'.cell? ⟨w.heap.size, 2, none⟩ = some (.int .i64 L.n))
    (first
      | go_keep
      | (go_split_ands
         exact box_kept (L := L) ((kept_drew w1 _).trans hk2) hnb ⟨k1, k2, k3⟩))
    ((go_at_call 23; refine HC.out.mono ?_; rintro e w2 ⟨rfl, h2, hk2⟩))
  go_wp2
  go_ret
  exact ⟨rfl, h2, (kept_below hb1 _).trans ((kept_drew w1 _).trans hk2)⟩
set_option maxHeartbeats 4000000 in
theorem drop_yes (base X bm : Nat) (es es' : List (Lab × Int)) (L : Lab) (n : Int) (w : World) (h : Ix w base X bm es) (hL : LWf L) (hlen : es.length ≤ 1000000) (hp : es.Perm ((L, n) :: es')) :
    Calls Try.prog 14 #[.pointer (some ⟨X, 0, none⟩), labV L] w (PutYes w base X bm es') := by
  obtain ⟨w1, hw1⟩ : ∃ w1, w1 = w.alloc (.cells (labCells L) 30) := ⟨_, rfl⟩
  have hb1 : Below w.heap.size w w1 := by rw [hw1]; exact lit_below _ _
  have h1 : Ix w1 base X bm es := h.below hb1
  obtain ⟨k1, k2, k3⟩ := box_cells w L
  have hnb : ¬ w.heap.size = bm := by have := h.ltM; omega
  rw [← hw1] at k1 k2 k3
  have h1d := h1.keep (kept_drew w1 (fun _ => False)) (fun h => h) (fun h => h)
  have hc := tdrop_yes base X bm es es' L n w1.drew h1d hL hlen hp
  have HC := Lib.hid hc
  have HW := Lib.hid hw1
  clear hw1 h h1 h1d hc
  go_enter Try.func14, Try.ntmps14
  go_wp2_with fail
  rw [← HW.out]
  go_wp2_with fail
  go_region_held3 (fun w' => w'.cell? ⟨w.heap.size, 0, none⟩ = some (.string L.tag) ∧ w'.cell? ⟨w.heap.size, 1, none⟩ = some (.string L.key) ∧ w'.cell? ⟨w.heap.size, 2, none⟩ = some (.int .i64 L.n))
    (first
      | go_keep
      | (go_split_ands
         exact box_kept (L := L) ((kept_drew w1 _).trans hk2) hnb ⟨k1, k2, k3⟩))
    ((go_at_call 25; refine HC.out.mono ?_; rintro e w2 ⟨rfl, h2, hk2⟩))
  go_wp2
  go_ret
  exact ⟨rfl, h2, (kept_below hb1 _).trans ((kept_drew w1 _).trans hk2)⟩
set_option maxHeartbeats 4000000 in
theorem drop_no (base X bm : Nat) (es : List (Lab × Int)) (L : Lab) (w : World) (h : Ix w base X bm es) (hL : LWf L) (hl : L ∉ es.map Prod.fst) :
    Calls Try.prog 14 #[.pointer (some ⟨X, 0, none⟩), labV L] w fun e w' => e = .returned (.bool false) ∧ Below w.heap.size w w' := by
  obtain ⟨w1, hw1⟩ : ∃ w1, w1 = w.alloc (.cells (labCells L) 30) := ⟨_, rfl⟩
  have hb1 : Below w.heap.size w w1 := by rw [hw1]; exact lit_below _ _
  have h1 : Ix w1 base X bm es := h.below hb1
  obtain ⟨k1, k2, k3⟩ := box_cells w L
  have hnb : ¬ w.heap.size = bm := by have := h.ltM; omega
  rw [← hw1] at k1 k2 k3
  have h1d := h1.keep (kept_drew w1 (fun _ => False)) (fun h => h) (fun h => h)
  have hc := tdrop_no base X bm es L w1.drew h1d hL hl
  have HC := Lib.hid hc
  have HW := Lib.hid hw1
  clear hw1 h h1 h1d hc
  go_enter Try.func14, Try.ntmps14
  go_wp2_with fail
  rw [← HW.out]
  go_wp2_with fail
  go_region_held3 (fun w' => w'.cell? ⟨w.heap.size, 0, none⟩ = some (.string L.tag) ∧ w'.cell? ⟨w.heap.size, 1, none⟩ = some (.string L.key) ∧ w'.cell? ⟨w.heap.size, 2, none⟩ = some (.int .i64 L.n))
    (first
      | go_keep
      | (go_split_ands
         exact box_kept (L := L) (S := fun _ => False) ((kept_drew w1 _).trans (kept_below hb2 _)) (fun h => h) ⟨k1, k2, k3⟩))
    ((go_at_call 25; refine HC.out.mono ?_; rintro e w2 ⟨rfl, hb2⟩))
  go_wp2
  go_ret
  exact ⟨rfl, hb1.trans ((below_drewN _ w1 1).trans (hb2.mono hb1.size))⟩
set_option maxHeartbeats 4000000 in
theorem get_any (base X bm : Nat) (es : List (Lab × Int)) (L : Lab) (n : Int) (b : Bool) (w : World) (h : Ix w base X bm es) (hL : LWf L) (hl : Look es L n b) :
    Calls Try.prog 13 #[.pointer (some ⟨X, 0, none⟩), labV L] w fun e w' => e = .returned (.tuple #[.int .i64 n, .bool b]) ∧ Below w.heap.size w w' := by
  obtain ⟨w1, hw1⟩ : ∃ w1, w1 = w.alloc (.cells (labCells L) 30) := ⟨_, rfl⟩
  have hb1 : Below w.heap.size w w1 := by rw [hw1]; exact lit_below _ _
  have h1 : Ix w1 base X bm es := h.below hb1
  obtain ⟨k1, k2, k3⟩ := box_cells w L
  have hnb : ¬ w.heap.size = bm := by have := h.ltM; omega
  rw [← hw1] at k1 k2 k3
  have h1d := h1.keep (kept_drew w1 (fun _ => False)) (fun h => h) (fun h => h)
  have hc := tget_any base X bm es L n b w1.drew h1d hL hl
  have HC := Lib.hid hc
  have HW := Lib.hid hw1
  clear hw1 h h1 h1d hc
  go_enter Try.func13, Try.ntmps13
  go_wp2_with fail
  rw [← HW.out]
  go_wp2_with fail
  go_region_held3 (fun w' => w'.cell? ⟨w.heap.size, 0, none⟩ = some (.string L.tag) ∧ w'.cell? ⟨w.heap.size, 1, none⟩ = some (.string L.key) ∧ w'.cell? ⟨w.heap.size, 2, none⟩ = some (.int .i64 L.n))
    (first
      | go_keep
      | (go_split_ands
         exact box_kept (L := L) (S := fun _ => False) ((kept_drew w1 _).trans (kept_below hb2 _)) (fun h => h) ⟨k1, k2, k3⟩))
    ((go_at_call 24; refine HC.out.mono ?_; rintro e w2 ⟨rfl, hb2⟩))
  go_wp2
  go_ret2
  exact ⟨rfl, hb1.trans ((below_drewN _ w1 1).trans (hb2.mono hb1.size))⟩
set_option maxHeartbeats 1000000 in
theorem len_any (base X bm : Nat) (es : List (Lab × Int)) (w : World) (h : Ix w base X bm es) :
    Calls Try.prog 19 #[.pointer (some ⟨X, 0, none⟩)] w fun e w' => e = .returned (.int .i64 es.length) ∧ w = w' := by
  have HC := Lib.hid (tsize_any base X bm es w h)
  clear h
  go_enter Try.func19, Try.ntmps19
  go_wp2_with fail
  refine HC.out.mono ?_
  rintro e w1 ⟨rfl, rfl⟩
  go_wp2
  go_ret
  exact ⟨rfl, rfl⟩

/-! A nil index. -/
set_option maxHeartbeats 1000000 in
theorem get_nil (L : Lab) (w : World) : Calls Try.prog 13 #[.pointer none, labV L] w fun e w' => e = .returned (.tuple #[.int .i64 0, .bool false]) ∧ Below w.heap.size w w' := by
  have hb := lit_below w (.cells (labCells L) 30)
  go_enter Try.func13, Try.ntmps13
  go_wp2
  go_ret2
  exact ⟨rfl, hb⟩
set_option maxHeartbeats 1000000 in
theorem put_nil (L : Lab) (n : Int) (w : World) : Calls Try.prog 11 #[.pointer none, labV L, .int .i64 n] w fun e w' => e = .returned (.bool false) ∧ Below w.heap.size w w' := by
  have hb := lit_below w (.cells (labCells L) 30)
  go_enter Try.func11, Try.ntmps11
  go_wp2_with fail
  go_quiet (fail)
  go_wp2
  go_ret
  exact ⟨rfl, hb.trans (below_drewN _ _ _)⟩
set_option maxHeartbeats 1000000 in
theorem drop_nil (L : Lab) (w : World) : Calls Try.prog 14 #[.pointer none, labV L] w fun e w' => e = .returned (.bool false) ∧ Below w.heap.size w w' := by
  have hb := lit_below w (.cells (labCells L) 30)
  go_enter Try.func14, Try.ntmps14
  go_wp2_with fail
  go_quiet (fail)
  go_wp2
  go_ret
  exact ⟨rfl, hb.trans (below_drewN _ _ _)⟩
theorem len_nil (w : World) : Calls Try.prog 19 #[.pointer none] w fun e w' => e = .returned (.int .i64 0) ∧ w = w' := by
  go_enter Try.func19, Try.ntmps19
  go_wp2
  go_ret
  exact ⟨rfl, rfl⟩
theorem all_nil (w : World) : Calls Try.prog 21 #[.pointer none] w fun e w' => e = .returned (.slice none 0 0) ∧ w = w' := by
  go_enter Try.func21, Try.ntmps21
  go_wp2
  go_ret
  exact ⟨rfl, rfl⟩
end Go.Proofs.Ytlhhfcnagkhllaa
