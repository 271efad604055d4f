/-
  Do: the line-up that steps make.
-/
import Derived.Test.YtlpjjnpafmakhaaDoOne
import Derived.Test.YtlpjjnpafmakhaaThings
import Derived.Test.YtlpjjnpafmakhaaPlan
namespace Go.Proofs.Ytlpjjnpafmakhaa
open Go.RowKit
set_option linter.unusedVariables false

/-- A slice of steps. -/
def PRow (w : World) (B : Nat) (A : Option Addr) (ps : List (Int × Int)) : Prop :=
  0 < ps.length → ∃ b off, A = some ⟨b, off, none⟩ ∧ b < B ∧ ∀ j, j < ps.length → w.cell? ⟨b, off + j * 2, none⟩ = some (.int .i64 (ps.getD j (0, 0)).1) ∧ w.cell? ⟨b, off + j * 2 + 1, none⟩ = some (.int .i64 (ps.getD j (0, 0)).2)
theorem prow_at {w : World} {B : Nat} {A : Option Addr} {ps : List (Int × Int)} (h : PRow w B A ps) {j : Nat} (hj : j < ps.length) :
    ∃ b off x y, A = some ⟨b, off, none⟩ ∧ b < B ∧ ps[j] = (x, y) ∧ w.cell? ⟨b, off + j * 2, none⟩ = some (.int .i64 x) ∧ w.cell? ⟨b, off + j * 2 + 1, none⟩ = some (.int .i64 y) := by
  obtain ⟨b, off, hA, hb, hc⟩ := h (by omega)
  have := hc j hj
  have e : ps.getD j (0, 0) = ps[j] := by simp [List.getD_eq_getElem?_getD, hj]
  rw [e] at this
  exact ⟨b, off, ps[j].1, ps[j].2, hA, hb, rfl, this⟩
theorem PRow.below {w w' : World} {B : Nat} {A : Option Addr} {ps : List (Int × Int)} (h : PRow w B A ps) (hb : Below B w w') : PRow w' B A ps := by
  intro h0
  obtain ⟨b, off, hA, hlt, hc⟩ := h h0
  exact ⟨b, off, hA, hlt, fun j hj => ⟨(hb.cell (p := ⟨b, off + j * 2, none⟩) hlt).trans (hc j hj).1, (hb.cell (p := ⟨b, off + j * 2 + 1, none⟩) hlt).trans (hc j hj).2⟩⟩
theorem PRow.mono {w : World} {B B' : Nat} {A : Option Addr} {ps : List (Int × Int)} (h : PRow w B A ps) (hb : B ≤ B') : PRow w B' A ps := by
  intro h0
  obtain ⟨b, off, hA, hlt, hc⟩ := h h0
  exact ⟨b, off, hA, by omega, hc⟩
theorem pairs_at : ∀ (ps : List (Int × Int)) (j : Nat) (hj : j < ps.length), (pairs ps)[j * 2]? = some (.int .i64 ps[j].1) ∧ (pairs ps)[j * 2 + 1]? = some (.int .i64 ps[j].2)
  | [], j, hj => by simp at hj
  | p :: ps, 0, _ => by simp [pairs]
  | p :: ps, j + 1, hj => by
    have := pairs_at ps j (by simpa using hj)
    simp only [pairs, List.flatMap_cons, List.getElem_cons_succ] at this ⊢
    rw [show (j + 1) * 2 = 2 + j * 2 by omega, show 2 + j * 2 + 1 = 2 + (j * 2 + 1) by omega, List.getElem?_append_right (by simp), List.getElem?_append_right (by simp)]
    simpa [Nat.add_sub_cancel_left] using this
theorem prow_own {w : World} {base e : Nat} {v : Value} {ps : List (Int × Int)} (h : w.ownsRow base e 2 v ps.length (pairs ps)) :
    ∃ A cap, v = .slice A ps.length cap ∧ PRow w w.heap.size A ps ∧ ps.length ≤ cap ∧ cap ≤ maxLen ∧ (A = none → cap = 0) := by
  rcases h.2 with ⟨rfl, hn⟩ | ⟨g, cap, cur, rfl, _, hg, hnc, hcm, _, _⟩
  · exact ⟨none, 0, by rw [hn], fun h0 => by omega, by omega, by simp [maxLen], fun _ => rfl⟩
  · refine ⟨_, cap, rfl, fun _ => ⟨g, 0, rfl, (Array.getElem?_eq_some_iff.1 hg).1, fun j hj => ?_⟩, hnc, hcm, fun h => by cases h⟩
    have e : ps.getD j (0, 0) = ps[j] := by simp [List.getD_eq_getElem?_getD, hj]
    have := pairs_at ps j hj
    rw [Nat.zero_add, World.ownsRow.cellAt h (j * 2) (by omega), World.ownsRow.cellAt h (j * 2 + 1) (by omega), e]
    exact this

def runB (l : List Int) (ps : List (Int × Int)) : Option (List Nat) := if twice l then none else runL l.length (startL l) ps
theorem runB_yes {l : List Int} (h : twice l = true) (ps : List (Int × Int)) : runB l ps = none := by unfold runB; rw [h]; rfl
theorem runB_no {l : List Int} (h : twice l = false) (ps : List (Int × Int)) : runB l ps = runL l.length (startL l) ps := by unfold runB; rw [h]; rfl
def outL (r : Option (List Nat)) : List Nat := r.getD []
/-- A slice of things, and whether the steps could be done. -/
def DoAns (w : World) (r : Option (List Nat)) (e : Ending) (w' : World) : Prop :=
  ∃ A c, e = .returned (.tuple #[.slice A (outL r).length c, .bool r.isSome]) ∧ Row w' w'.heap.size A (nats (outL r)) ∧ c ≤ maxLen ∧ Below w.heap.size w w'
theorem doAns_none {w w' : World} (hb : Below w.heap.size w w') : DoAns w none (.returned (.tuple #[.slice none 0 0, .bool false])) w' := ⟨none, 0, rfl, Row.nil _ _ _, by simp [maxLen], hb⟩
theorem run_take {n : Nat} {s0 s : List Nat} {ps : List (Int × Int)} {k : Nat} (hk : k < ps.length) (h : runL n s0 (ps.take k) = some s) : runL n s0 (ps.take (k + 1)) = stepL n s ps[k] := by
  rw [List.take_succ_eq_append_getElem hk, runL_append, h]
  exact runL_one n s ps[k]
theorem run_stop {n : Nat} {s0 s : List Nat} {ps : List (Int × Int)} {k : Nat} (hk : k < ps.length) (h : runL n s0 (ps.take k) = some s) (hs : stepL n s ps[k] = none) : runL n s0 ps = none := by
  have := run_take hk h
  rw [hs] at this
  rw [← List.take_append_drop (k + 1) ps, runL_append, this]
  rfl

def DRel (w : World) (U bp bn : Nat) (l : List Int) (ps : List (Int × Int)) (i : Value) (wr : World) : Prop :=
  ∃ k : Nat, k ≤ ps.length ∧ i = .int .i64 k ∧ ∃ N P s, LU wr w.heap.size U bp bn l.length N P ∧ Ring l.length N P s ∧ runL l.length (startL l) (ps.take k) = some s ∧ Below w.heap.size w wr

set_option maxRecDepth 100000 in
set_option maxHeartbeats 4000000 in
theorem doAll_any (A : Option Addr) (c : Nat) (l : List Int) (A2 : Option Addr) (c2 : Nat) (ps : List (Int × Int)) (w : World) (hr : Row w w.heap.size A l) (hl : l.length ≤ 1000000) (hwf : Wf l) (hp : PRow w w.heap.size A2 ps) (hpl : ps.length ≤ 1000000) :
    Calls Try.prog 15 #[.slice A l.length c, .slice A2 ps.length c2] w (DoAns w (runB l ps)) := by
  have HC := Lib.hid (check_any A c l w hr hl hwf)
  clear hwf
  cases ht : twice l with
  | true =>
    have HE := Lib.hid (errOf_yes ht)
    have HRB := Lib.hid (runB_yes ht ps)
    clear ht
    go_enter Try.func15, Try.ntmps15
    go_wp2_with fail
    refine HC.out.mono ?_
    rintro e w1 ⟨rfl, hb1⟩
    rw [HE.out]
    go_wp2_with fail
    go_ret2
    rw [HRB.out]
    exact doAns_none hb1
  | false =>
    have HE := Lib.hid (errOf_no ht)
    have HRB := Lib.hid (runB_no ht ps)
    have HT := Lib.hid ht
    clear ht
    go_enter Try.func15, Try.ntmps15
    go_wp2_with fail
    refine HC.out.mono ?_
    rintro e w1 ⟨rfl, hb1⟩
    rw [HE.out]
    go_wp2_with fail
    refine (lineUpOf_any A c l w1 ((hr.below hb1).mono hb1.size) hl HT.out).mono ?_
    rintro e w2 ⟨U, bp, bn, N, P, rfl, hLU, hring, hb2⟩
    have hb12 := hb1.trans (hb2.mono hb1.size)
    have hLU' : LU w2 w.heap.size U bp bn l.length N P := ⟨hLU.ne, hLU.neP, hLU.neN, Nat.le_trans hb1.size hLU.lo, Nat.le_trans hb1.size hLU.loP, Nat.le_trans hb1.size hLU.loN, hLU.lt, hLU.c0, hLU.c1, hLU.c2, own_down hLU.rp hb1.size, own_down hLU.rn hb1.size⟩
    clear hb1 hb2 hLU
    go_wp2_with fail
    go_loopw [16] (DRel w U bp bn l ps) (fun i _ => ps.length - (intOf i).toNat)
    case atStart => exact ⟨0, by omega, rfl, N, P, startL l, hLU', hring, rfl, hb12⟩
    case round =>
      clear hLU' hring hb12
      obtain ⟨k, hk, rfl, N, P, s, hLU, hring, hrun, hbel⟩ := hrel
      by_cases hlt : k < ps.length
      · obtain ⟨b, off, x, y, rfl, hb, hxy, cx, cy⟩ := prow_at (hp.below hbel) hlt
        obtain ⟨w3, hw3⟩ : ∃ w3, w3 = wr.alloc (.cells #[.int .i64 x, .int .i64 y] 36) := ⟨_, rfl⟩
        have k3 : Kept (two bp bn) wr w3 := by rw [hw3]; exact kept_alloc _ _ _
        have h3 : LU w3 w.heap.size U bp bn l.length N P := by rw [hw3]; exact hLU.keep (kept_alloc wr _ (fun _ => False)) (fun h => h) (fun h => h) (fun h => h)
        have cxx : w3.cell? ⟨wr.heap.size, 0, none⟩ = some (.int .i64 x) := by rw [hw3]; simp
        have cyy : w3.cell? ⟨wr.heap.size, 1, none⟩ = some (.int .i64 y) := by rw [hw3]; simp
        have HW := Lib.hid hw3; have H3 := Lib.hid h3; have HR := Lib.hid hring; have HRUN := Lib.hid hrun; have HXY := Lib.hid hxy
        have hb3 := hbel.trans (k3.below hbel.size (two_low hLU))
        clear hw3 h3 hLU hring hrun hxy k3
        cases hst : stepL l.length s (x, y) with
        | none =>
          have HS := Lib.hid hst
          clear hst
          have HN := Lib.hid (run_stop hlt HRUN.out (by rw [HXY.out]; exact HS.out))
          go_wp2_with fail
          rw [← HW.out]
          refine (do_no w.heap.size U bp bn l.length N P s x y w3 H3.out HR.out hl HS.out).mono ?_
          rintro e w4 ⟨rfl, h4, k4⟩
          have hb4 := hb3.trans (k4.below hb3.size (two_low H3.out))
          go_wp2_with fail
          go_ret2
          rw [HRB.out, HN.out]
          exact doAns_none hb4
        | some t =>
          have HS := Lib.hid hst
          clear hst
          have HN := Lib.hid (run_take hlt HRUN.out)
          go_wp2_with fail
          rw [← HW.out]
          refine (do_yes w.heap.size U bp bn l.length N P s t x y w3 H3.out HR.out hl HS.out).mono ?_
          rintro e w4 ⟨N', P', rfl, h4, r4, k4⟩
          have hb4 := hb3.trans (k4.below hb3.size (two_low H3.out))
          go_wp2_with fail
          exact ⟨⟨k + 1, by omega, by go_num, N', P', t, h4, r4, by rw [HN.out, HXY.out, HS.out], hb4⟩, by simp [intOf]; omega⟩
      · obtain rfl : k = ps.length := by omega
        rw [List.take_of_length_le (Nat.le_refl _)] at hrun
        have HRUN := Lib.hid hrun; have H := Lib.hid hLU; have HR := Lib.hid hring
        clear hrun hLU hring
        go_wp2_with fail
        refine (things_any w.heap.size U bp bn l.length N P s wr H.out HR.out hl).mono ?_
        rintro e w4 ⟨A4, c4, rfl, hrow, -, hcm, -, hb4⟩
        go_wp2_with fail
        go_ret2
        rw [HRB.out, HRUN.out]
        rw [nats_length]
        exact ⟨A4, c4, rfl, hrow, hcm, hbel.trans (hb4.mono hbel.size)⟩
end Go.Proofs.Ytlpjjnpafmakhaa
