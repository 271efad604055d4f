/-
  markup's parser: a new kid of an open node.
-/
import Derived.Test.YtjnhcoflmechmaaGreatDoorMAttr
import Derived.Test.YtjnhcoflmechmaaGreatDoorDElem2
namespace Go.Proofs.YtjnhcoflmechmaaGreatDoor.M
open Go.RowKit Go.Sort
set_option linter.unusedVariables false
set_option maxRecDepth 100000
theorem info25 : (Tryz.prog.info? 25).map (fun i => (i.zero, i.size, i.bytes)) = some (some (.agg #[.string ⟨#[]⟩, .string ⟨#[]⟩, .string ⟨#[]⟩, .slice none 0 0, .slice none 0 0]), 5, 96) := by kernel_rfl
def zeroN : List Value := [.string ⟨#[]⟩, .string ⟨#[]⟩, .string ⟨#[]⟩, .slice none 0 0, .slice none 0 0]
theorem zeroN_one : ∀ u ∈ zeroN, u.oneCell' = true := by decide
abbrev zeroNW (w : World) : World := w.alloc (.cells #[.string ⟨#[]⟩, .string ⟨#[]⟩, .string ⟨#[]⟩, .slice none 0 0, .slice none 0 0] 25)
/-- append of a zero node. -/
theorem kid_run (w : World) (base : Nat) (vK : Value) (n : Nat) (xs : List Value) (hown : w.ownsRow base 25 5 vK n xs) (hb : base ≤ w.heap.size) (hl : n ≤ 1000000) :
    ∃ A c w', (Builtin.append_ #[23, 23] 23 #[vK, .slice (some ⟨w.heap.size, 0, none⟩) 1 1]).run Tryz.prog (zeroNW w).drew = .ok (.slice A (n + 1) c) w' ∧ w'.ownsRow base 25 5 (.slice A (n + 1) c) (n + 1) (xs ++ zeroN) ∧ Kept (OwnB vK) w w' ∧ Fresh w vK (.slice A (n + 1) c) := by
  obtain ⟨i0, hi, hz0, hz1, hz2⟩ := info_parts info25
  obtain ⟨v7, w7, hrun, ho, hgr, _, hloc⟩ := run_append_own_at (P := Tryz.prog) (zeroNW w).drew base 23 23 25 i0 _ 5 96 Tryz.underlying23 hi hz0 hz1 hz2 rfl (by omega) vK n xs (World.ownsRow.drew (hown.alloc _)) ⟨w.heap.size, 0, none⟩ 1 1 zeroN (by simp [zeroN]) (show ∀ j u, zeroN[j]? = some u → (zeroNW w).cell? ((⟨w.heap.size, 0, none⟩ : Addr).add j) = some u from arr_new _ _ _ _ rfl) zeroN_one (by unfold maxLen; omega) (by omega) (show base ≤ (zeroNW w).heap.size by simp; omega)
  obtain ⟨A7, c7, rfl⟩ := row_form ho
  refine ⟨A7, c7, w7, hrun, ho, ((kept_alloc w _ _).trans (kept_below (below_drewN _ (zeroNW w) 1) _) : Kept (OwnB vK) w ((zeroNW w).drewN 1)).trans ((kept_grown hgr).mono (fun b _ hb => hb.symm)), fun j hj hb => ?_⟩
  rcases hloc with hl | hl
  · rw [← hl]; exact hb
  · rw [hl] at hb
    have hb' : j = (zeroNW w).heap.size := by simpa [eq_comm] using hb
    simp at hb'
    omega
def putN5 (w : World) (g i : Nat) : World := ((((w.setCell ⟨g, i, none⟩ (.string ⟨#[]⟩)).setCell ⟨g, i + 1, none⟩ (.string ⟨#[]⟩)).setCell ⟨g, i + 2, none⟩ (.string ⟨#[]⟩)).setCell ⟨g, i + 3, none⟩ (.slice none 0 0)).setCell ⟨g, i + 4, none⟩ (.slice none 0 0)
theorem putN5_comm (w : World) (D d g i : Nat) (u : Value) (h : ¬ D = g) : putN5 (w.setCell ⟨D, d, none⟩ u) g i = (putN5 w g i).setCell ⟨D, d, none⟩ u := by
  unfold putN5
  rw [setCell_comm w ⟨D, d, none⟩ ⟨g, i, none⟩ _ _ h, setCell_comm _ ⟨D, d, none⟩ ⟨g, i + 1, none⟩ _ _ h, setCell_comm _ ⟨D, d, none⟩ ⟨g, i + 2, none⟩ _ _ h, setCell_comm _ ⟨D, d, none⟩ ⟨g, i + 3, none⟩ _ _ h, setCell_comm _ ⟨D, d, none⟩ ⟨g, i + 4, none⟩ _ _ h]
theorem kept_putN5 (w : World) (g i : Nat) : Kept (· = g) w (putN5 w g i) := by
  unfold putN5
  exact ((((kept_setCell w ⟨g, i, none⟩ _).trans (kept_setCell _ ⟨g, i + 1, none⟩ _)).trans (kept_setCell _ ⟨g, i + 2, none⟩ _)).trans (kept_setCell _ ⟨g, i + 3, none⟩ _)).trans (kept_setCell _ ⟨g, i + 4, none⟩ _)
theorem own_putN5 {w : World} {base g c n : Nat} {xs : List Value} (hx : xs.length = n * 5) (h : w.ownsRow base 25 5 (.slice (some ⟨g, 0, none⟩) (n + 1) c) (n + 1) (xs ++ zeroN)) : (putN5 w g (n * 5)).ownsRow base 25 5 (.slice (some ⟨g, 0, none⟩) (n + 1) c) (n + 1) (xs ++ zeroN) := by
  have e : xs ++ zeroN = (((((xs ++ zeroN).set (n * 5) (.string ⟨#[]⟩)).set (n * 5 + 1) (.string ⟨#[]⟩)).set (n * 5 + 2) (.string ⟨#[]⟩)).set (n * 5 + 3) (.slice none 0 0)).set (n * 5 + 4) (.slice none 0 0) := by
    rw [List.set_append_right _ _ (by omega), List.set_append_right _ _ (by omega), List.set_append_right _ _ (by omega), List.set_append_right _ _ (by omega), List.set_append_right _ _ (by omega), hx]
    congr 1
    rw [show n * 5 - n * 5 = 0 by omega, show n * 5 + 1 - n * 5 = 1 by omega, show n * 5 + 2 - n * 5 = 2 by omega, show n * 5 + 3 - n * 5 = 3 by omega, show n * 5 + 4 - n * 5 = 4 by omega]
    rfl
  rw [e]
  unfold putN5
  exact (((((h.stored (n * 5) _).1.stored (n * 5 + 1) _).1.stored (n * 5 + 2) _).1.stored (n * 5 + 3) _).1.stored (n * 5 + 4) _).1
/-- What newKid says. -/
def KidC (P g o base : Nat) (s : ByteArray) (a nb : Nat) (tag key text : ByteArray) (vA : Value) (K : Option Addr) (n ck : Nat) (xs : List Value) (w : World) (e : Ending) (w' : World) : Prop :=
  ∃ g' c', e = .returned (.pointer (some ⟨g', n * 5, none⟩)) ∧ P3 w' P s a (nb + 1) ∧ NodAt w' g o tag key text vA (.slice (some ⟨g', 0, none⟩) (n + 1) c') ∧ w'.ownsRow base 25 5 (.slice (some ⟨g', 0, none⟩) (n + 1) c') (n + 1) (xs ++ zeroN) ∧ Fresh w (.slice K n ck) (.slice (some ⟨g', 0, none⟩) (n + 1) c') ∧ Kept (fun k => k = P ∨ k = g ∨ OwnB (.slice K n ck) k) w w' ∧ Nbr g o w w' ∧ ¬ g' = g
set_option maxHeartbeats 8000000 in
theorem newKid_any (P g o base : Nat) (s : ByteArray) (a nb : Nat) (tag key text : ByteArray) (vA : Value) (K : Option Addr) (n ck : Nat) (xs : List Value) (w : World) (h : P3 w P s a nb) (hn : NodAt w g o tag key text vA (.slice K n ck)) (hr : w.ownsRow base 25 5 (.slice K n ck) n xs) (hbase : base ≤ w.heap.size) (hPb : P < base) (hPg : P ≠ g) (hgo : ¬ OwnB (.slice K n ck) g) (hnb : nb + 1 ≤ 4096) (hnn : n ≤ 4096) :
    Calls Tryz.prog 104 #[.pointer (some ⟨P, 0, none⟩), .pointer (some ⟨g, o, none⟩)] w (KidC P g o base s a nb tag key text vA K n ck xs w) := by
  obtain ⟨w1, hw1⟩ : ∃ w1, w1 = w.setCell ⟨P, 2, none⟩ (.int .i64 ((nb : Int) + 1)) := ⟨_, rfl⟩
  have hk1 : Kept (· = P) w w1 := by rw [hw1]; exact kept_setCell w ⟨P, 2, none⟩ _
  have hp1 : P3 w1 P s a (nb + 1) := by
    have := h.set2 (nb + 1)
    rw [show ((nb + 1 : Nat) : Int) = (nb : Int) + 1 by omega, ← hw1] at this
    exact this
  have hn1 := hn.kept hk1 (fun e => hPg e.symm)
  have hPo : ¬ OwnB (.slice K n ck) P := fun e => by have := (hr.lt P e).1; omega
  have hr1 := hk1.own hr (fun k hk e => hPo (by have e' : k = P := e; rw [← e']; exact hk))
  have hb1 : base ≤ w1.heap.size := Nat.le_trans hbase hk1.size
  have hx := hr.1
  obtain ⟨A6, c6, w6, hrun, hr6, hk6, hf6⟩ := kid_run w1 base _ n xs hr1 hb1 (by omega)
  obtain ⟨g6, hg6e⟩ : ∃ g6, A6 = some ⟨g6, 0, none⟩ := by
    rcases hr6.2 with ⟨hn, h0⟩ | ⟨g', c', cur, he, _⟩
    · omega
    · simp at he; exact ⟨g', he.1⟩
  subst hg6e
  have hgb := hr6.lt g6 rfl
  have hgg : ¬ g = g6 := fun e => by
    have h1 : g < w1.heap.size := hn1.lt
    exact hgo (hf6 g h1 (by rw [e]; rfl))
  have hn6 := hn1.kept hk6 hgo
  obtain ⟨w7, hw7⟩ : ∃ w7, w7 = putN5 w6 g6 (n * 5) := ⟨_, rfl⟩
  have hk67 : Kept (· = g6) w6 w7 := by rw [hw7]; exact kept_putN5 _ _ _
  have hr7 : w7.ownsRow base 25 5 (.slice (some ⟨g6, 0, none⟩) (n + 1) c6) (n + 1) (xs ++ zeroN) := by rw [hw7]; exact own_putN5 hx hr6
  have hn7 := hn6.kept hk67 hgg
  obtain ⟨w8, hw8⟩ : ∃ w8, w8 = w7.setCell ⟨g, o + 4, none⟩ (.slice (some ⟨g6, 0, none⟩) (n + 1) c6) := ⟨_, rfl⟩
  have hk8 : Kept (· = g) w7 w8 := by rw [hw8]; exact kept_setCell w7 ⟨g, o + 4, none⟩ _
  have hn8 : NodAt w8 g o tag key text vA (.slice (some ⟨g6, 0, none⟩) (n + 1) c6) := by rw [hw8]; exact hn7.set4 _
  have hr8 := hk8.own hr7 (fun k hk e => hgg (by
    have e' : k = g := e
    obtain rfl : g6 = k := by simpa [Value.ownBlock] using hk
    exact e'.symm))
  have hPg6 : ¬ P = g6 := by omega
  have hp8 : P3 w8 P s a (nb + 1) := ((hp1.kept hk6 hPo).kept hk67 hPg6).kept hk8 hPg
  have hkall : Kept (fun k => k = P ∨ k = g ∨ OwnB (.slice K n ck) k) w w8 := by
    have k1 : Kept (fun k => k = P ∨ k = g ∨ OwnB (.slice K n ck) k) w w6 := (hk1.mono (fun k _ h => .inl h)).trans (hk6.mono (fun k _ h => .inr (.inr h)))
    refine (k1.trans' hk67 (fun k hk e => ?_)).trans (hk8.mono (fun k _ h => .inr (.inl h)))
    have e' : k = g6 := e
    exact .inr (.inr (hf6 k (Nat.lt_of_lt_of_le hk hk1.size) (by rw [e']; rfl)))
  have hNB : Nbr g o w w8 := by
    have b1 : Nbr g o w w7 := ((Nbr.kept hk1 hn.lt (fun e => hPg e.symm)).trans (.kept hk6 hn1.lt hgo)).trans (.kept hk67 hn6.lt hgg)
    rw [hw8]
    exact b1.trans (.set (o + 4) _ (by omega))
  have hfr : Fresh w (.slice K n ck) (.slice (some ⟨g6, 0, none⟩) (n + 1) c6) := fun k hk e => hf6 k (Nat.lt_of_lt_of_le hk hk1.size) e
  have HF := Lib.hid (show ∀ q, KidC P g o base s a nb tag key text vA K n ck xs w (.returned (.pointer (some ⟨g6, n * 5, none⟩))) (w8.drewN q) from fun q => ⟨g6, c6, rfl, hp8, ⟨hn8.c0, hn8.c1, hn8.c2, hn8.c3, hn8.c4, hn8.fr⟩, (show (w8.drewN q).ownsRow _ _ _ _ _ _ from hr8), hfr, hkall.trans (kept_drew _ _ _), hNB.trans (.same rfl), fun e => hgg e.symm⟩)
  obtain ⟨a0, a1, a2⟩ := h.cells
  have pf := h.frozen 2
  have b2 := hp1.cells.2.2
  rw [show ((nb + 1 : Nat) : Int) = (nb : Int) + 1 by omega] at b2
  obtain ⟨y0, y1, y2, y3, y4, yf⟩ := hn1
  obtain ⟨t0, t1, t2, t3, t4, tf⟩ := hn6
  have tf4 := tf (o + 4)
  obtain ⟨z0, z1, z2, z3, z4, zf⟩ := hn8
  have hat : ∀ i, i < 5 → w6.cell? ⟨g6, n * 5 + i, none⟩ = zeroN[i]? := fun i hi => by
    rw [World.ownsRow.cellAt hr6 (n * 5 + i) (by omega), List.getElem?_append_right (by omega), hx, show n * 5 + i - n * 5 = i by omega]
  have r0 : w6.cell? ⟨g6, n * 5, none⟩ = some (.string ⟨#[]⟩) := hat 0 (by omega)
  have r1 : w6.cell? ⟨g6, n * 5 + 1, none⟩ = some (.string ⟨#[]⟩) := hat 1 (by omega)
  have r2 : w6.cell? ⟨g6, n * 5 + 2, none⟩ = some (.string ⟨#[]⟩) := hat 2 (by omega)
  have r3 : w6.cell? ⟨g6, n * 5 + 3, none⟩ = some (.slice none 0 0) := hat 3 (by omega)
  have r4 : w6.cell? ⟨g6, n * 5 + 4, none⟩ = some (.slice none 0 0) := hat 4 (by omega)
  have rf0 := World.ownsRow.frozenAt hr6 (n * 5); have rf1 := World.ownsRow.frozenAt hr6 (n * 5 + 1); have rf2 := World.ownsRow.frozenAt hr6 (n * 5 + 2); have rf3 := World.ownsRow.frozenAt hr6 (n * 5 + 3); have rf4 := World.ownsRow.frozenAt hr6 (n * 5 + 4)
  have u4 : (((((w6.setCell ⟨g6, n * 5, none⟩ (.string ⟨#[]⟩)).setCell ⟨g6, n * 5 + 1, none⟩ (.string ⟨#[]⟩)).setCell ⟨g6, n * 5 + 2, none⟩ (.string ⟨#[]⟩)).setCell ⟨g6, n * 5 + 3, none⟩ (.slice none 0 0)).setCell ⟨g6, n * 5 + 4, none⟩ (.slice none 0 0)).cell? ⟨g, o + 4, none⟩ = some (.slice K n ck) := (kept_putN5 w6 g6 (n * 5)).cellOf t4 hgg
  have uf : (((((w6.setCell ⟨g6, n * 5, none⟩ (.string ⟨#[]⟩)).setCell ⟨g6, n * 5 + 1, none⟩ (.string ⟨#[]⟩)).setCell ⟨g6, n * 5 + 2, none⟩ (.string ⟨#[]⟩)).setCell ⟨g6, n * 5 + 3, none⟩ (.slice none 0 0)).setCell ⟨g6, n * 5 + 4, none⟩ (.slice none 0 0)).frozen? ⟨g, o + 4, none⟩ = false := ((kept_putN5 w6 g6 (n * 5)).frozen (a := ⟨g, o + 4, none⟩) (World.block_lt_of_cell? w6 _ t4) hgg).trans tf4
  have HRUN := Lib.hid hrun
  have HWD := Lib.hid (show putN5 (w6.setCell ⟨g, o + 4, none⟩ (.slice (some ⟨g6, 0, none⟩) (n + 1) c6)) g6 (n * 5) = w8 from by rw [hw8, hw7]; exact putN5_comm _ _ _ _ _ _ hgg)
  have HW1 := Lib.hid hw1; have HW8 := Lib.hid (show (putN5 w6 g6 (n * 5)).setCell ⟨g, o + 4, none⟩ (.slice (some ⟨g6, 0, none⟩) (n + 1) c6) = w8 by rw [hw8, hw7])
  have m4 := cell_push (o := .cells #[.string ⟨#[]⟩, .string ⟨#[]⟩, .string ⟨#[]⟩, .slice none 0 0, .slice none 0 0] 25) y4
  have hn0 : (0 : Int) ≤ (n : Int) := by omega
  have hn1 : (n : Int) < ((n + 1 : Nat) : Int) := by omega
  have hn2 : (n : Int) < (n : Int) + 1 := by omega
  have hn3 : n < n + 1 := by omega
  have hwr : IntKind.i64.wrap ((nb : Int) + 1) = (nb : Int) + 1 := by rw [IntKind.wrap_i64]; omega
  have hgt : decide ((nb : Int) + 1 > 4096) = false := by simp; omega
  have hgt2 : ¬ (nb : Int) + 1 > 4096 := by omega
  have hwn : IntKind.i64.wrap (n : Int) = (n : Int) := by rw [IntKind.wrap_i64]; omega
  clear h hn hr hbase hPb hPg hgo hnb hnn hw1 hk1 hp1 hPo hr1 hb1 hx hrun hr6 hk6 hf6 hgb hw7 hk67 hr7 hn7 hw8 hk8 hr8 hPg6 hp8 hkall hNB hfr y0 y1 y2 y3 yf t0 t1 t2 t3 tf z0 z1 z2 z3 zf hat
  go_enter Tryz.func104, Tryz.ntmps104
  go_upto_region 2 with (fail)
  rw [show w.setCell ⟨P, 2, none⟩ (.int .i64 ((nb : Int) + 1)) = w1 from HW1.out.symm]
  clear a0 a1 a2 pf
  go_upto_region 4 with (fail)
  go_region_law (refine step_append_run rfl (.tmp 22) (.tmp 25) 23 rfl (.slice K n ck) (.slice (some ⟨w1.heap.size, 0, none⟩) 1 1) (by first | (simp [Act.eval]; done) | (simp [Act.eval, Act.put]; done)) (by first | (simp [Act.eval]; done) | (simp [Act.eval, Act.put]; done)) HRUN.out ?_)
  all_goals
    first
      | rw [show ((((((w6.setCell ⟨g6, n * 5, none⟩ (.string ⟨#[]⟩)).setCell ⟨g6, n * 5 + 1, none⟩ (.string ⟨#[]⟩)).setCell ⟨g6, n * 5 + 2, none⟩ (.string ⟨#[]⟩)).setCell ⟨g6, n * 5 + 3, none⟩ (.slice none 0 0)).setCell ⟨g6, n * 5 + 4, none⟩ (.slice none 0 0)).setCell ⟨g, o + 4, none⟩ (.slice (some ⟨g6, 0, none⟩) (n + 1) c6)) = w8 from HW8.out]
      | rw [show ((((((w6.setCell ⟨g, o + 4, none⟩ (.slice (some ⟨g6, 0, none⟩) (n + 1) c6)).setCell ⟨g6, n * 5, none⟩ (.string ⟨#[]⟩)).setCell ⟨g6, n * 5 + 1, none⟩ (.string ⟨#[]⟩)).setCell ⟨g6, n * 5 + 2, none⟩ (.string ⟨#[]⟩)).setCell ⟨g6, n * 5 + 3, none⟩ (.slice none 0 0)).setCell ⟨g6, n * 5 + 4, none⟩ (.slice none 0 0)) = w8 from HWD.out]
    go_wp2_with fail
    go_quiet (fail)
    go_wp2_with fail
    go_ret
    exact HF.out _
end Go.Proofs.YtjnhcoflmechmaaGreatDoor.M
