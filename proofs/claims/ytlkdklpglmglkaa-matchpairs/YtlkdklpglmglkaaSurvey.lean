/-
  vtree: survey, Check, Size, Depth, isValid.
-/
import Derived.Test.YtlkdklpglmglkaaVisit
import Derived.Laws.EntriesVeiled
import Derived.OwnWalk
namespace Go.Proofs.Ytlkdklpglmglkaa
open Go.RowKit Go.Sort
set_option linter.unusedVariables false
set_option maxRecDepth 100000
def svF (B : Nat) : Value := .func (.func 72) #[] #[.pointer (some ⟨B + 1, 0, none⟩), .pointer (some ⟨B + 1 + 1, 0, none⟩), .pointer (some ⟨B + 1 + 1 + 1, 0, none⟩)]
def svW (w : World) (t : Tr) (x : NV) : World := ((((w.alloc (.cells #[.string t.tag, .string t.key, .string t.text, .slice x.A t.as.length x.ca, .slice x.K t.kids.length x.ck] 25)).alloc (.cells #[.int .i64 0] 3)).alloc (.cells #[.int .i64 0] 3)).alloc (.cells #[svF w.heap.size] 98)).alloc (.map #[] 0)
theorem cell_push {w : World} {o : Obj} {a : Addr} {v : Value} (h : w.cell? a = some v) : (w.alloc o).cell? a = some v := (kept_alloc w o (fun _ => False)).cellOf h (fun h => h)
theorem froz_push {w : World} {o : Obj} {a : Addr} (ha : a.block < w.heap.size) (h : w.frozen? a = false) : (w.alloc o).frozen? a = false := ((kept_alloc w o (fun _ => False)).frozen ha (fun h => h)).trans h
theorem cell_fresh (w : World) (v : Value) (t : TypeId) (n : Nat) (hn : n = w.heap.size) : (w.alloc (.cells #[v] t)).cell? ⟨n, 0, none⟩ = some v := by subst hn; simp
theorem froz_fresh (w : World) (v : Value) (t : TypeId) (n : Nat) (hn : n = w.heap.size) : (w.alloc (.cells #[v] t)).frozen? ⟨n, 0, none⟩ = false := by subst hn; simp
theorem svW_vs (w : World) (t : Tr) (x : NV) : VS (svW w t x) (w.heap.size + 1) (w.heap.size + 1 + 1) (w.heap.size + 1 + 1 + 1) [] := by
  unfold svW
  refine ⟨?_, ?_, ?_, ?_, ?_⟩
  · exact cell_push (cell_push (cell_push (cell_fresh _ _ _ _ (by simp))))
  · exact cell_push (cell_push (cell_fresh _ _ _ _ (by simp)))
  · exact cell_push (cell_fresh _ _ _ _ (by simp))
  · exact froz_push (by simp) (froz_push (by simp) (froz_push (by simp) (froz_fresh _ _ _ _ (by simp))))
  · exact froz_push (by simp) (froz_push (by simp) (froz_fresh _ _ _ _ (by simp)))
theorem svW_below (w : World) (t : Tr) (x : NV) : Below w.heap.size w (svW w t x) := by
  unfold svW
  exact (((((Below.refl _ w).alloc (Nat.le_refl _) _).alloc (by simp) _).alloc (by simp; omega) _).alloc (by simp; omega) _).alloc (by simp; omega) _
theorem svW_set (w : World) (t : Tr) (x : NV) : KSet (svW w t x) (w.heap.size + 1 + 1 + 1 + 1) 0 (fun _ => False) := by
  have := KSet.new ((((w.alloc (.cells #[.string t.tag, .string t.key, .string t.text, .slice x.A t.as.length x.ca, .slice x.K t.kids.length x.ck] 25)).alloc (.cells #[.int .i64 0] 3)).alloc (.cells #[.int .i64 0] 3)).alloc (.cells #[svF w.heap.size] 98))
  unfold svW
  simpa using this
theorem sv_out {w w1 : World} {t : Tr} {x : NV} (h : RowKit.Hid (w1 = svW w t x)) : ((((w.alloc (.cells #[.string t.tag, .string t.key, .string t.text, .slice x.A t.as.length x.ca, .slice x.K t.kids.length x.ck] 25)).alloc (.cells #[.int .i64 0] 3)).alloc (.cells #[.int .i64 0] 3)).alloc (.cells #[.func (.func 72) #[] #[.pointer (some ⟨w.heap.size + 1, 0, none⟩), .pointer (some ⟨w.heap.size + 1 + 1, 0, none⟩), .pointer (some ⟨w.heap.size + 1 + 1 + 1, 0, none⟩)]] 98)).alloc (.map #[] 0) = w1 := h.out.symm
set_option maxHeartbeats 4000000 in
theorem survey_any (t : Tr) (x : NV) (w : World) (h : TreeAt w w.heap.size t x) (hg : GoodT t) :
    Calls Try.prog 59 #[nodeV t x] w fun e w' => e = .returned (.tuple #[.int .i64 (seenL aloneT t).1.length, .int .i64 (maxD (seenL aloneT t).1), .int .i64 (seenL aloneT t).2]) ∧ Below w.heap.size w w' := by
  have hmm := @run_makeMap Try.prog
  obtain ⟨w1, hw1⟩ : ∃ w1, w1 = svW w t x := ⟨_, rfl⟩
  have hb1 : Below w.heap.size w w1 := by rw [hw1]; exact svW_below w t x
  have hvs : VS w1 (w.heap.size + 1) (w.heap.size + 1 + 1) (w.heap.size + 1 + 1 + 1) [] := by rw [hw1]; exact svW_vs w t x
  have hset : KSet w1 (w.heap.size + 1 + 1 + 1 + 1) 0 (fun k => k ≠ noB ∧ hasKey [] (-1) k) := by
    rw [hw1]
    exact (svW_set w t x).imp (fun k => ⟨fun h => h.elim, fun h => by obtain ⟨y, hy, _⟩ := h.2; simp at hy⟩) (Nat.le_refl _)
  have C := Lib.hid (visit_any w.heap.size (w.heap.size + 1) (w.heap.size + 1 + 1) (w.heap.size + 1 + 1 + 1) t x 1 (-1) [] w1 (w.heap.size + 1 + 1 + 1 + 1) 0 (h.keepB hb1) hg hvs hset (Nat.le_refl _) ⟨by omega, by omega, by omega, by omega, by omega, by omega, by omega, by omega, by omega, by omega⟩ (.inr rfl) (fun y hy => by simp at hy) (by simp) (Clean.nil _) (by omega))
  change RowKit.Hid (Calls _ _ _ _ (VisitPost _ _ _ _ _ _ _ (seenL aloneT t))) at C
  have HW := Lib.hid hw1; have HB1 := Lib.hid hb1
  clear h hg hw1 hb1 hvs hset
  generalize seenL aloneT t = r at C ⊢
  go_enter Try.func59, Try.ntmps59
  go_wp2_with fail
  rw [sv_out HW]
  refine C.out.mono ?_
  rintro e w2 ⟨rfl, hvs, -, hk⟩
  obtain ⟨p2, d2, v2, fp2, fd2⟩ := hvs
  have HB2 := Lib.hid (HB1.out.trans (hk.below HB1.out.size (fun i h => by rcases h with h | h | h <;> omega)))
  clear hk C v2 fp2 fd2 hmm
  go_wp2_with fail
  go_quiet (fail)
  go_wp2_with fail
  go_ret3
  exact ⟨rfl, HB2.out.trans (below_drewN _ _ _)⟩
noncomputable def checkV (r : List It × Int) : Value := .tuple #[.int .i64 (if r.2 = 0 then 0 else r.1.length), .int .i64 r.2]
def okT (t : Tr) : Prop := (seenL aloneT t).2 = 0
set_option maxHeartbeats 2000000 in
theorem vcheck_any (t : Tr) (x : NV) (w : World) (h : TreeAt w w.heap.size t x) (hg : GoodT t) :
    Calls Try.prog 42 #[nodeV t x] w fun e w' => e = .returned (.tuple #[.int .i64 (if (seenL aloneT t).2 = 0 then 0 else ((seenL aloneT t).1.length : Int)), .int .i64 (seenL aloneT t).2]) ∧ Below w.heap.size w w' := by
  obtain ⟨w1, hw1⟩ : ∃ w1, w1 = boxW w t x := ⟨_, rfl⟩
  have hb1 : Below w.heap.size w w1 := by rw [hw1]; exact below_box w t x
  obtain ⟨c0, c1, c2, c3, c4⟩ : KidCells w1 w.heap.size 0 t x := by rw [hw1]; exact box_node w t x
  have C := Lib.hid (survey_any t x w1 (h.up hb1) hg)
  have HW := Lib.hid hw1; have HB1 := Lib.hid hb1
  clear h hg hw1 hb1
  generalize seenL aloneT t = r at C ⊢
  obtain ⟨l, e⟩ := r
  by_cases he : e = 0
  · subst he
    go_enter Try.func42, Try.ntmps42
    go_wp2_with fail
    rw [box_out HW]
    refine C.out.mono ?_
    rintro e w2 ⟨rfl, hb2⟩
    have HB2 := Lib.hid (HB1.out.trans (hb2.mono HB1.out.size))
    clear hb2 c0 c1 c2 c3 c4 C
    go_wp2_with fail
    go_ret2
    exact ⟨rfl, HB2.out⟩
  · have he' : (e == 0) = false := by simpa using he
    have HE := Lib.hid he
    clear he
    go_enter Try.func42, Try.ntmps42
    go_wp2_with fail
    rw [box_out HW]
    refine C.out.mono ?_
    rintro e w2 ⟨rfl, hb2⟩
    have HB2 := Lib.hid (HB1.out.trans (hb2.mono HB1.out.size))
    clear hb2 c0 c1 c2 c3 c4 C
    go_wp2_with fail
    go_ret2
    exact ⟨rfl, HB2.out⟩
end Go.Proofs.Ytlkdklpglmglkaa
