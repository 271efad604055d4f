/-
  The index: put, drop, size of its table; New, Put, Get, Drop, Len.
-/
import Derived.Test.YtlhhfcnagkhllaaKIx
import Derived.Deep.RegionHeld3
namespace Go.Proofs.Ytlhhfcnagkhllaa
open Go.RowKit Go.Maps
set_option linter.unusedVariables false

theorem look_of {es : List (Lab × Int)} (hn : (es.map Prod.fst).Nodup) (L : Lab) : ∃ n b, Look es L n b := by
  by_cases h : L ∈ es.map Prod.fst
  · obtain ⟨p, hp, rfl⟩ := List.mem_map.1 h
    exact ⟨p.2, true, ⟨fun _ => hp, (fun h => by cases h)⟩⟩
  · exact ⟨0, false, ⟨(fun h => by cases h), fun _ => ⟨h, rfl⟩⟩⟩

set_option maxHeartbeats 4000000 in
theorem tput_old (base X bm : Nat) (es : List (Lab × Int)) (L : Lab) (n m : Int) (w : World) (h : Ix w base X bm es) (hL : LWf L) (hl : (L, m) ∈ es) :
    Calls Try.prog 23 #[.pointer (some ⟨X, 0, none⟩), labV L, .int .i64 n] w fun e w' => e = .returned (.bool false) ∧ Below w.heap.size w w' := by
  obtain ⟨w1, hw1⟩ : ∃ w1, w1 = w.alloc (.cells (labCells L) 30) := ⟨_, rfl⟩
  have hb1 : Below w.heap.size w w1 := by rw [hw1]; exact lit_below _ _
  have h1 : Ix w1 base X bm es := h.below hb1
  have c0 := h1.c0
  obtain ⟨k1, k2, k3⟩ := box_cells w L
  rw [← hw1] at k1 k2 k3
  have hlk : ∀ q, (Instr.lookup 52 (.map (some bm)) (.agg #[.string L.tag, .string L.key, .int .i64 L.n]) true).run Try.prog (w1.drewN q) = .ok (.tuple #[.int .i64 m, .bool true]) (w1.drewN q) :=
    fun q => (h1.keep (kept_drewN w1 q (fun _ => False)) (fun h => h) (fun h => h)).look_yes hl
  have HW := Lib.hid hw1
  clear hw1 h h1 hl
  go_enter Try.func23, Try.ntmps23
  go_wp2_with fail
  rw [← HW.out]
  go_wp2_with fail
  go_quiet (fail)
  go_wp2
  go_ret
  exact ⟨rfl, hb1.trans (below_drewN _ _ _)⟩

def PutYes (w : World) (base X bm : Nat) (es' : List (Lab × Int)) (e : Ending) (w' : World) : Prop := e = .returned (.bool true) ∧ Ix w' base X bm es' ∧ Kept (· = bm) w w'
set_option maxHeartbeats 4000000 in
theorem tput_new (base X bm : Nat) (es es' : List (Lab × Int)) (L : Lab) (n : Int) (w : World) (h : Ix w base X bm es) (hL : LWf L) (hn : wf64 n) (hl : L ∉ es.map Prod.fst) (hlen : es.length ≤ 1000000) (hp : es'.Perm ((L, n) :: es)) :
    Calls Try.prog 23 #[.pointer (some ⟨X, 0, none⟩), labV L, .int .i64 n] w (PutYes w base X bm es') := by
  obtain ⟨w1, hw1⟩ : ∃ w1, w1 = w.alloc (.cells (labCells L) 30) := ⟨_, rfl⟩
  have hb1 : Below w.heap.size w w1 := by rw [hw1]; exact lit_below _ _
  have h1 : Ix w1 base X bm es := h.below hb1
  have c0 := h1.c0
  obtain ⟨k1, k2, k3⟩ := box_cells w L
  rw [← hw1] at k1 k2 k3
  have hlk : ∀ q, (Instr.lookup 52 (.map (some bm)) (.agg #[.string L.tag, .string L.key, .int .i64 L.n]) true).run Try.prog (w1.drewN q) = .ok (.tuple #[.int .i64 0, .bool false]) (w1.drewN q) :=
    fun q => (h1.keep (kept_drewN w1 q (fun _ => False)) (fun h => h) (fun h => h)).look_no hL hl
  have q52 : ∀ (w : World) (r : Option Nat), (binOp .eql 52 (.map r) (.map none)).run Try.prog w = .ok (.bool r.isNone) w := fun w r => run_eql_map_nil w 52 30 3 r Try.underlying52
  have hnb : ¬ w.heap.size = bm := by have := h.ltM; omega
  have HW := Lib.hid hw1; have H1 := Lib.hid h1; have HNB := Lib.hid hnb
  clear hw1 h h1 hnb
  go_enter Try.func23, Try.ntmps23
  go_wp2_with fail
  rw [← HW.out]
  go_wp2_with fail
  go_quiet (fail)
  have h2 : Ix (w1.drewN nq) base X bm es := H1.out.keep (kept_drewN w1 nq (fun _ => False)) (fun h => h) (fun h => h)
  have c2 := h2.c0
  have j1 : (w1.drewN nq).cell? ⟨w.heap.size, 0, none⟩ = some (.string L.tag) := k1
  have j2 : (w1.drewN nq).cell? ⟨w.heap.size, 1, none⟩ = some (.string L.key) := k2
  have j3 : (w1.drewN nq).cell? ⟨w.heap.size, 2, none⟩ = some (.int .i64 L.n) := k3
  have hk2 : Kept (· = bm) w (w1.drewN nq) := (kept_below hb1 _).trans (kept_drewN _ _ _)
  generalize w1.drewN nq = w2 at h2 c2 j1 j2 j3 hk2 ⊢
  clear hlk c0 k1 k2 k3 hb1
  obtain ⟨w3, hst, h3, hk3⟩ := (h2.keep (kept_drew w2 (fun _ => False)) (fun h => h) (fun h => h)).store hL hn hl hlen hp
  have HK := Lib.hid (hk2.trans ((kept_drew w2 _).trans hk3)); have H3 := Lib.hid h3
  clear h2 h3 hk2 hk3
  go_wp2_with fail
  go_region
  go_wp2
  go_ret
  exact ⟨rfl, H3.out, HK.out⟩

set_option maxHeartbeats 4000000 in
theorem tdrop_no (base X bm : Nat) (es : List (Lab × Int)) (L : Lab) (w : World) (h : Ix w base X bm es) (hL : LWf L) (hl : L ∉ es.map Prod.fst) :
    Calls Try.prog 25 #[.pointer (some ⟨X, 0, none⟩), labV L] w fun e w' => e = .returned (.bool false) ∧ Below w.heap.size w w' := by
  obtain ⟨w1, hw1⟩ : ∃ w1, w1 = w.alloc (.cells (labCells L) 30) := ⟨_, rfl⟩
  have hb1 : Below w.heap.size w w1 := by rw [hw1]; exact lit_below _ _
  have h1 : Ix w1 base X bm es := h.below hb1
  have c0 := h1.c0
  obtain ⟨k1, k2, k3⟩ := box_cells w L
  rw [← hw1] at k1 k2 k3
  have hlk : ∀ q, (Instr.lookup 52 (.map (some bm)) (.agg #[.string L.tag, .string L.key, .int .i64 L.n]) true).run Try.prog (w1.drewN q) = .ok (.tuple #[.int .i64 0, .bool false]) (w1.drewN q) :=
    fun q => (h1.keep (kept_drewN w1 q (fun _ => False)) (fun h => h) (fun h => h)).look_no hL hl
  have HW := Lib.hid hw1
  clear hw1 h h1 hl
  go_enter Try.func25, Try.ntmps25
  go_wp2_with fail
  rw [← HW.out]
  go_wp2_with fail
  go_quiet (fail)
  go_wp2
  go_ret
  exact ⟨rfl, hb1.trans (below_drewN _ _ _)⟩

set_option maxHeartbeats 4000000 in
theorem tdrop_yes (base X bm : Nat) (es es' : List (Lab × Int)) (L : Lab) (n : Int) (w : World) (h : Ix w base X bm es) (hL : LWf L) (hlen : es.length ≤ 1000000) (hp : es.Perm ((L, n) :: es')) :
    Calls Try.prog 25 #[.pointer (some ⟨X, 0, none⟩), labV L] w (PutYes w base X bm es') := by
  obtain ⟨w1, hw1⟩ : ∃ w1, w1 = w.alloc (.cells (labCells L) 30) := ⟨_, rfl⟩
  have hb1 : Below w.heap.size w w1 := by rw [hw1]; exact lit_below _ _
  have h1 : Ix w1 base X bm es := h.below hb1
  have c0 := h1.c0
  obtain ⟨k1, k2, k3⟩ := box_cells w L
  rw [← hw1] at k1 k2 k3
  have hlk : ∀ q, (Instr.lookup 52 (.map (some bm)) (.agg #[.string L.tag, .string L.key, .int .i64 L.n]) true).run Try.prog (w1.drewN q) = .ok (.tuple #[.int .i64 n, .bool true]) (w1.drewN q) :=
    fun q => (h1.keep (kept_drewN w1 q (fun _ => False)) (fun h => h) (fun h => h)).look_yes (hp.mem_iff.2 (by simp))
  have hle : es'.length + 1 = es.length := by have := hp.length_eq; simp at this; omega
  have HLE := Lib.hid hle
  have HW := Lib.hid hw1; have H1 := Lib.hid h1
  clear hw1 h h1 hle
  go_enter Try.func25, Try.ntmps25
  go_wp2_with fail
  rw [← HW.out]
  go_wp2_with fail
  go_quiet (fail)
  have h2 : Ix (w1.drewN nq) base X bm es := H1.out.keep (kept_drewN w1 nq (fun _ => False)) (fun h => h) (fun h => h)
  have c2 := h2.c0
  have j1 : (w1.drewN nq).cell? ⟨w.heap.size, 0, none⟩ = some (.string L.tag) := k1
  have j2 : (w1.drewN nq).cell? ⟨w.heap.size, 1, none⟩ = some (.string L.key) := k2
  have j3 : (w1.drewN nq).cell? ⟨w.heap.size, 2, none⟩ = some (.int .i64 L.n) := k3
  have hk2 : Kept (· = bm) w (w1.drewN nq) := (kept_below hb1 _).trans (kept_drewN _ _ _)
  generalize w1.drewN nq = w2 at h2 c2 j1 j2 j3 hk2 ⊢
  clear hlk c0 k1 k2 k3 hb1
  obtain ⟨w3, hst, h3, hk3⟩ := (h2.keep (kept_drew w2 (fun _ => False)) (fun h => h) (fun h => h)).remove hL hp
  have hk03 := hk2.trans ((kept_drew w2 _).trans hk3)
  have c3 := h3.c0
  have hln := fun ty => h3.len ty
  have HK := Lib.hid hk03; have H3 := Lib.hid h3
  clear h2 h3 hk2 hk3 hk03
  cases es' with
  | nil =>
    have hln' : ∀ ty, (Builtin.len_ #[52] ty #[.map (some bm)]).run Try.prog w3 = .ok (.int .i64 0) w3 := hln
    clear hln
    obtain ⟨w4, hcl, h4, hk4⟩ := H3.out.clear 0
    have H4 := Lib.hid h4; have HK4 := Lib.hid hk4
    clear h4 hk4
    go_wp2_with fail
    go_region
    go_wp2
    go_ret
    exact ⟨rfl, H4.out, HK.out.trans HK4.out⟩
  | cons p es' =>
    have hq : (((p :: es').length : Int) == 0) = false := by simp; omega
    generalize (p :: es').length = m at hln hq HLE
    have hq2 : (m == 0) = false := by
      have : ¬ (m : Int) = 0 := by simpa using hq
      simp; omega
    go_wp2_with fail
    go_region
    go_wp2
    go_ret
    exact ⟨rfl, H3.out, HK.out⟩

set_option maxHeartbeats 1000000 in
theorem tsize_any (base X bm : Nat) (es : List (Lab × Int)) (w : World) (h : Ix w base X bm es) :
    Calls Try.prog 26 #[.pointer (some ⟨X, 0, none⟩)] w fun e w' => e = .returned (.int .i64 es.length) ∧ w = w' := by
  have c0 := h.c0
  have hln := fun ty => h.len ty
  generalize es.length = m at hln ⊢
  clear h
  go_enter Try.func26, Try.ntmps26
  go_wp2
  go_ret
  exact ⟨rfl, rfl⟩

/-! New, and the calls that lead to the table. -/
def NewPost (w : World) (e : Ending) (w' : World) : Prop := ∃ X bm, e = .returned (.pointer (some ⟨X, 0, none⟩)) ∧ Ix w' w.heap.size X bm [] ∧ Below w.heap.size w w'
theorem new_ix (w : World) : Ix ((w.alloc (.map #[] 0)).alloc (.cells #[.map (some w.heap.size)] 56)) w.heap.size (w.heap.size + 1) w.heap.size [] := by
  have ho := (World.ownsMap_made (H := Unit) w Try.prog 30 (plainElem Try.prog 3)).alloc (.cells #[.map (some w.heap.size)] 56)
  have hs : (w.alloc (.map #[] 0)).heap.size = w.heap.size + 1 := by simp
  have hb := heap_alloc_new (w.alloc (.map #[] 0)) (.cells #[.map (some w.heap.size)] 56)
  rw [hs] at hb
  exact ⟨by omega, by omega, by omega, cell_of_row _ _ _ _ _ (0, 0) hb, _, ho, agree_nil⟩
set_option maxHeartbeats 1000000 in
theorem new_any (n : Int) (w : World) : Calls Try.prog 9 #[.int .i64 n] w (NewPost w) := by
  have hb : Below w.heap.size w ((w.alloc (.map #[] 0)).alloc (.cells #[.map (some w.heap.size)] 56)) := ((Below.refl _ _).alloc (Nat.le_refl _) _).alloc (by simp) _
  have hix := new_ix w
  have H := Lib.hid hix; have HB := Lib.hid hb
  clear hix hb
  have hmk : ∀ (W : World) (x : Int), (Instr.makeMap 52 (some (.int .i64 x))).run Try.prog W = .ok (.map (some W.heap.size)) (W.alloc (.map #[] 0)) := by
    intro W x
    simp [Instr.makeMap, asInt, asIntOf, Result.andThen]
  go_enter Try.func9, Try.ntmps9
  go_wp2
  all_goals
    go_ret
    exact ⟨_, _, rfl, H.out, HB.out⟩

theorem box_kept {w w' : World} {L : Lab} {B : Nat} {S : Nat → Prop} (hk : Kept S w w') (hs : ¬ S B) (h : w.cell? ⟨B, 0, none⟩ = some (.string L.tag) ∧ w.cell? ⟨B, 1, none⟩ = some (.string L.key) ∧ w.cell? ⟨B, 2, none⟩ = some (.int .i64 L.n)) :
    w'.cell? ⟨B, 0, none⟩ = some (.string L.tag) ∧ w'.cell? ⟨B, 1, none⟩ = some (.string L.key) ∧ w'.cell? ⟨B, 2, none⟩ = some (.int .i64 L.n) := ⟨hk.cellOf h.1 hs, hk.cellOf h.2.1 hs, hk.cellOf h.2.2 hs⟩

set_option maxHeartbeats 4000000 in
theorem put_old (base X bm : Nat) (es : List (Lab × Int)) (L : Lab) (n m : Int) (w : World) (h : Ix w base X bm es) (hL : LWf L) (hl : (L, m) ∈ es) :
    Calls Try.prog 11 #[.pointer (some ⟨X, 0, none⟩), labV L, .int .i64 n] w fun e w' => e = .returned (.bool false) ∧ Below w.heap.size w w' := by
  obtain ⟨w1, hw1⟩ : ∃ w1, w1 = w.alloc (.cells (labCells L) 30) := ⟨_, rfl⟩
  have hb1 : Below w.heap.size w w1 := by rw [hw1]; exact lit_below _ _
  have h1 : Ix w1 base X bm es := h.below hb1
  obtain ⟨k1, k2, k3⟩ := box_cells w L
  have hsz : w.heap.size < w1.heap.size := by rw [hw1]; simp
  rw [← hw1] at k1 k2 k3
  have hc := tput_old base X bm es L n m w1.drew (h1.keep (kept_drew w1 (fun _ => False)) (fun h => h) (fun h => h)) hL hl
  have HC := Lib.hid hc
  have HW := Lib.hid hw1
  clear hw1 h h1 hl hc
  go_enter Try.func11, Try.ntmps11
  go_wp2_with fail
  rw [← HW.out]
  go_wp2_with fail
  go_region_held3 (fun w' => w'.cell? ⟨w.heap.size, 0, none⟩ = some (.string L.tag) ∧ w'.cell? ⟨w.heap.size, 1, none⟩ = some (.string L.key) ∧ w'.cell? ⟨w.heap.size, 2, none⟩ = some (.int .i64 L.n))
    (first
      | go_keep
      | (go_split_ands
         exact box_kept (L := L) (S := fun _ => False) ((kept_drew w1 _).trans (kept_below hb2 _)) (fun h => h) ⟨k1, k2, k3⟩))
    ((go_at_call 23; refine HC.out.mono ?_; rintro e w2 ⟨rfl, hb2⟩))
  go_wp2
  go_ret
  exact ⟨rfl, hb1.trans ((below_drewN _ w1 1).trans (hb2.mono hb1.size))⟩
end Go.Proofs.Ytlhhfcnagkhllaa
