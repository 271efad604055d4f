/-
  adiff: leastName, take.
-/
import Derived.Test.YteamnjaepgfcmaaDRow
import Derived.Test.YteamnjaepgfcmaaFind
import Derived.BigQuiet
namespace Go.Proofs.Yteamnjaepgfcmaa
open Go.RowKit Go.Sort Go.Lib
set_option linter.unusedVariables false
theorem run_min_cmp {P : Program} (w : World) (ts : Array TypeId) (t : TypeId) (x y : ByteArray) : (Builtin.min_ ts t #[.string x, .string y]).run P w = .ok (.string (if cmpN y x < 0 then y else x)) w := by
  have hl : Op.bytesLess x.toList y.toList = decide (cmpN x y < 0) := by rw [less_cmp, Lib.toList_data, Lib.toList_data]; rfl
  have he : (x.toList == y.toList) = decide (x = y) := eqB x y
  rcases cmpN_total x y with h | h | h
  · rw [decide_eq_true h] at hl
    simp [Builtin.min_, Builtin.min2, Op.stringOp, asBool, hl, cmpN_asymm h]
  · subst h
    rw [decide_eq_false (cmpN_irrefl _)] at hl
    simp [Builtin.min_, Builtin.min2, Op.stringOp, asBool, hl, cmpN_irrefl]
  · rw [decide_eq_false (cmpN_asymm h)] at hl
    rw [decide_eq_false (cmpN_ne h).symm] at he
    simp [Builtin.min_, Builtin.min2, Op.stringOp, asBool, hl, he, h]
set_option maxHeartbeats 1000000 in
theorem least_any (A A' : Option Addr) (c c' : Nat) (a b : List At) (w : World) (h : TRow w w.heap.size A a) (h' : TRow w w.heap.size A' b) (hn : ¬ (a = [] ∧ b = [])) :
    Calls Try.prog 59 #[.slice A a.length c, .slice A' b.length c'] w fun e w' => e = .returned (.string (leastN a b)) ∧ ∃ q, w' = w.drewN q := by
  cases a with
  | nil =>
    cases b with
    | nil => simp at hn
    | cons y s =>
      obtain ⟨b0, off, p, rfl, hb, hp, c1, c2⟩ := trow_at h' (j := 0) (by simp)
      have hp' : p = y := by simpa using hp
      subst hp'
      clear h h' hn hp c2 hb
      rw [Nat.zero_mul, Nat.add_zero] at c1
      have hl : (0 : Int) < ((s.length + 1 : Nat) : Int) := by omega
      simp only [List.length_nil, List.length_cons]
      go_enter Try.func59, Try.ntmps59
      go_wp2_with fail
      go_ret
      exact ⟨rfl, 0, rfl⟩
  | cons x r =>
    obtain ⟨b0, off, p, rfl, hb, hp, c1, c2⟩ := trow_at h (j := 0) (by simp)
    have hp' : p = x := by simpa using hp
    subst hp'
    rw [Nat.zero_mul, Nat.add_zero] at c1
    have hl : (0 : Int) < ((r.length + 1 : Nat) : Int) := by omega
    have hq : (((r.length + 1 : Nat) : Int) == 0) = false := by simp; omega
    cases b with
    | nil =>
      clear h h' hn hp c2 hb
      simp only [List.length_nil, List.length_cons]
      go_enter Try.func59, Try.ntmps59
      go_wp2_with fail
      go_ret
      exact ⟨rfl, 0, rfl⟩
    | cons y s =>
      obtain ⟨b1, off1, p1, rfl, hb1, hp1, d1, d2⟩ := trow_at h' (j := 0) (by simp)
      have hp1' : p1 = y := by simpa using hp1
      subst hp1'
      rw [Nat.zero_mul, Nat.add_zero] at d1
      have hl1 : (0 : Int) < ((s.length + 1 : Nat) : Int) := by omega
      have hq1 : (((s.length + 1 : Nat) : Int) == 0) = false := by simp; omega
      have c1' : ∀ n, (w.drewN n).cell? ⟨b0, off, none⟩ = some (.string p.1) := fun n => c1
      have d1' : ∀ n, (w.drewN n).cell? ⟨b1, off1, none⟩ = some (.string p1.1) := fun n => d1
      obtain ⟨m, hm⟩ : ∃ m, m = (if cmpN p1.1 p.1 < 0 then p1.1 else p.1) := ⟨_, rfl⟩
      have hmin : ∀ (w : World) (ts : Array TypeId) (t : TypeId), Sem.run Try.prog (Builtin.min_ ts t #[.string p.1, .string p1.1]) w = .ok (.string m) w := fun w ts t => by rw [hm]; exact run_min_cmp w ts t _ _
      have HM := Lib.hid (show leastN (p :: r) (p1 :: s) = m from hm.symm)
      clear h h' hn hp c2 hb hp1 d2 hb1 hm
      simp only [List.length_cons]
      go_enter Try.func59, Try.ntmps59
      go_wp2_with fail
      go_quiet (fail)
      go_wp2_with fail
      go_ret
      exact ⟨by rw [HM.out]; rfl, _, rfl⟩
/-- The second lies in the first's block. -/
def SameB (A A' : Option Addr) : Prop := ∀ b off, A' = some ⟨b, off, none⟩ → ∃ off', A = some ⟨b, off', none⟩
theorem sameB (A : Option Addr) : SameB A A := fun b off h => ⟨off, h⟩
theorem sameB_off (b off off' : Nat) : SameB (some ⟨b, off, none⟩) (some ⟨b, off', none⟩) := fun b' o h => by cases h; exact ⟨off, rfl⟩
/-- What take hands back. -/
def TakeP (w : World) (A0 : Option Addr) (l : List At) (n : ByteArray) (e : Ending) (w' : World) : Prop := ∃ A c, e = .returned (.tuple #[.agg #[.string (takeL l n).1.1, .string (takeL l n).1.2.1, .bool (takeL l n).1.2.2], .slice A (takeL l n).2.length c]) ∧ TRow w' w'.heap.size A (takeL l n).2 ∧ (takeL l n).2.length ≤ c ∧ c ≤ maxLen ∧ SameB A0 A ∧ Below w.heap.size w w'
theorem results_take (tmps : Array Value) (w : World) (B : Nat) (x : Ch) (fr : Nat × Nat) (v : Value) (hp : tmps.getD 4 undef = .pointer (some ⟨B, 0, none⟩)) (hv : tmps.getD 5 undef = v) (hg : w.heap[B]? = some (.cells #[.string x.1, .string x.2.1, .bool x.2.2] 46 fr)) :
    (results Try.f60 tmps).run Try.prog w = .ok (.tuple #[.agg #[.string x.1, .string x.2.1, .bool x.2.2], v]) w := by
  rw [results_cell_tmp rfl, hp, hv]
  simp [asAddr, run_loadVar_row w B 46 46 _ fr _ hg Try.underlying46 rfl (by kernel_rfl)]
set_option maxHeartbeats 1000000 in
theorem take_any (A : Option Addr) (c : Nat) (l : List At) (n : ByteArray) (w : World) (h : TRow w w.heap.size A l) (hc : l.length ≤ c) (hm : c ≤ maxLen) :
    Calls Try.prog 60 #[.slice A l.length c, .string n] w (TakeP w A l n) := by
  have hb1 : ∀ o : Obj, Below w.heap.size w (w.alloc o) := fun o => (Below.refl _ _).alloc (Nat.le_refl _) _
  cases l with
  | nil =>
    have HR := Lib.hid h
    clear h
    simp only [List.length_nil]
    go_enter Try.func60, Try.ntmps60
    go_wp2_with fail
    refine bodyPost_ret (results_take _ _ w.heap.size (n, noS, true) (0, 0) _ rfl rfl (heap_alloc_new w _)) rfl ?_
    exact ⟨A, c, rfl, TRow.nil _ _ _, by simp [takeL], hm, sameB _, hb1 _⟩
  | cons x r =>
    obtain ⟨b, off, p, rfl, hb, hp, c1, c2⟩ := trow_at h (j := 0) (by simp)
    have hp' : p = x := by simpa using hp
    subst hp'
    have HR := Lib.hid h
    have HC := Lib.hid hc; have HM := Lib.hid hm
    rw [Nat.zero_mul, Nat.add_zero] at c1 c2
    have hl : (0 : Int) < ((r.length + 1 : Nat) : Int) := by omega
    have hq0 : (((r.length + 1 : Nat) : Int) == 0) = false := by simp; omega
    have c1' : ∀ o n, ((w.alloc o).drewN n).cell? ⟨b, off, none⟩ = some (.string p.1) := fun o n => ((hb1 o).cell (p := ⟨b, off, none⟩) hb).trans c1
    have c2' : ∀ o n, ((w.alloc o).drewN n).cell? ⟨b, off + 1, none⟩ = some (.string p.2) := fun o n => ((hb1 o).cell (p := ⟨b, off + 1, none⟩) hb).trans c2
    have c1'' : ∀ o, (w.alloc o).cell? ⟨b, off, none⟩ = some (.string p.1) := fun o => ((hb1 o).cell (p := ⟨b, off, none⟩) hb).trans c1
    have hbn : b ≠ w.heap.size := by omega
    clear h hp hm c1 c2
    by_cases e : p.1 = n
    · have hq : (p.1.toList == n.toList) = true := by rw [eqB]; exact decide_eq_true e
      have HE := Lib.hid (show takeL (p :: r) n = ((n, p.2, false), r) by simp [takeL, e])
      have hr1 : r.length + 1 ≤ c := by simpa using hc
      have hc2 : ¬ (c : Int) < 1 := by omega
      have d1 : ∀ o, ((w.alloc o).drew).cell? ⟨b, off, none⟩ = some (.string p.1) := fun o => c1' o 1
      have d2 : ∀ o, ((w.alloc o).drew).cell? ⟨b, off + 1, none⟩ = some (.string p.2) := fun o => c2' o 1
      have hb2 : ∀ o, Below w.heap.size w ((w.drew).alloc o) := fun o => (Below.refl _ _).drew.alloc (Nat.le_refl _) _
      clear e c1' c2'
      by_cases hc3 : c = 1
      · subst hc3
        have hr0 : r = [] := List.eq_nil_of_length_eq_zero (by omega)
        subst hr0
        simp only [List.length_cons, List.length_nil]
        go_enter Try.func60, Try.ntmps60
        go_wp2_with fail
        go_region
        all_goals
          rename_i K0 hK0
          refine hK0 _ _ ?_
          go_wp2_with fail
          refine bodyPost_ret (results_take _ _ w.heap.size (n, p.2, false) (0, 0) _ rfl rfl (heap_alloc_new w.drew _)) rfl ?_
          refine ⟨some ⟨b, off, none⟩, 0, ?_, ?_, ?_, by simp [maxLen], sameB _, hb2 _⟩
          · rw [HE.out]; rfl
          · rw [HE.out]; exact TRow.nil _ _ _
          · rw [HE.out]; exact Nat.le_refl _
      · have hc4 : (1 : Int) < (c : Int) := by omega
        have hc5 : 1 < c := by omega
        simp only [List.length_cons]
        go_enter Try.func60, Try.ntmps60
        go_wp2_with fail
        go_region
        all_goals
          rename_i K0 hK0
          refine hK0 _ _ ?_
          go_wp2_with fail
          refine bodyPost_ret (results_take _ _ w.heap.size (n, p.2, false) (0, 0) _ rfl rfl (heap_alloc_new w.drew _)) rfl ?_
          refine ⟨some ⟨b, off + 2, none⟩, c - 1, ?_, ?_, ?_, Nat.le_trans (Nat.sub_le _ _) HM.out, sameB_off _ _ _, hb2 _⟩
          · rw [HE.out]; rfl
          · rw [HE.out]
            have := (trow_cut HR.out 1).up (hb2 (.cells #[.string n, .string p.2, .bool false] 46))
            exact this
          · rw [HE.out]; show r.length ≤ c - 1; omega
    · have hq : (p.1.toList == n.toList) = false := by rw [eqB]; exact decide_eq_false e
      have HE := Lib.hid (show takeL (p :: r) n = ((n, noS, true), p :: r) by simp [takeL, e])
      clear e c1' c2'
      simp only [List.length_cons]
      go_enter Try.func60, Try.ntmps60
      go_wp2_with fail
      refine bodyPost_ret (results_take _ _ w.heap.size (n, noS, true) (0, 0) _ rfl rfl (heap_alloc_new w _)) rfl ?_
      refine ⟨some ⟨b, off, none⟩, c, ?_, ?_, ?_, HM.out, sameB _, hb1 _⟩
      · rw [HE.out]; rfl
      · rw [HE.out]; exact HR.out.up (hb1 _)
      · rw [HE.out]; exact HC.out
end Go.Proofs.Yteamnjaepgfcmaa
