/-
  tendrilref13.row and Rows.
-/
import Derived.Test.YtlkdklpglmglkaaFApp
import Derived.Test.YtlkdklpglmglkaaICheck
namespace Go.Proofs.Ytlkdklpglmglkaa
open Go.RowKit Go.Sort Go.Lib
set_option linter.unusedVariables false
set_option maxRecDepth 100000
def BoxR (W : World) (b : Nat) (v0 v1 v2 v3 v4 v5 : Value) : Prop := W.heap[b]? = some (.cells #[v0, v1, v2, v3, v4, v5] 56 (0, 0))
theorem BoxR.lt {W : World} {b : Nat} {v0 v1 v2 v3 v4 v5 : Value} (h : BoxR W b v0 v1 v2 v3 v4 v5) : b < W.heap.size := (Array.getElem?_eq_some_iff.1 h).1
theorem BoxR.cells {W : World} {b : Nat} {v0 v1 v2 v3 v4 v5 : Value} (h : BoxR W b v0 v1 v2 v3 v4 v5) : W.cell? ⟨b, 0, none⟩ = some v0 ∧ W.cell? ⟨b, 1, none⟩ = some v1 ∧ W.cell? ⟨b, 2, none⟩ = some v2 ∧ W.cell? ⟨b, 3, none⟩ = some v3 ∧ W.cell? ⟨b, 4, none⟩ = some v4 ∧ W.cell? ⟨b, 5, none⟩ = some v5 := by
  have e : ∀ j, W.cell? ⟨b, j, none⟩ = (#[v0, v1, v2, v3, v4, v5] : Array Value)[j]? := fun j => cell_of_row _ _ _ _ _ (0, 0) h
  exact ⟨by rw [e]; rfl, by rw [e]; rfl, by rw [e]; rfl, by rw [e]; rfl, by rw [e]; rfl, by rw [e]; rfl⟩
theorem BoxR.frozen {W : World} {b : Nat} {v0 v1 v2 v3 v4 v5 : Value} (h : BoxR W b v0 v1 v2 v3 v4 v5) (j : Nat) : W.frozen? ⟨b, j, none⟩ = false := by
  simp [World.frozen?, show W.heap[b]? = _ from h]
theorem BoxR.kept {W W' : World} {b : Nat} {v0 v1 v2 v3 v4 v5 : Value} (h : BoxR W b v0 v1 v2 v3 v4 v5) {S : Nat → Prop} (hk : Kept S W W') (hs : ¬ S b) : BoxR W' b v0 v1 v2 v3 v4 v5 := (hk.block b h.lt hs).trans h
theorem BoxR.new (W : World) (v0 v1 v2 v3 v4 v5 : Value) (b : Nat) (hb : b = W.heap.size) : BoxR (W.alloc (.cells #[v0, v1, v2, v3, v4, v5] 56)) b v0 v1 v2 v3 v4 v5 := by subst hb; exact heap_alloc_new W _
def putR (W : World) (b : Nat) (v0 v1 v2 v3 v4 v5 : Value) : World := (((((W.setCell ⟨b, 0, none⟩ v0).setCell ⟨b, 1, none⟩ v1).setCell ⟨b, 2, none⟩ v2).setCell ⟨b, 3, none⟩ v3).setCell ⟨b, 4, none⟩ v4).setCell ⟨b, 5, none⟩ v5
theorem BoxR.put {W : World} {b : Nat} {u0 u1 u2 u3 u4 u5 : Value} (h : BoxR W b u0 u1 u2 u3 u4 u5) (v0 v1 v2 v3 v4 v5 : Value) : BoxR (putR W b v0 v1 v2 v3 v4 v5) b v0 v1 v2 v3 v4 v5 := by
  have hh : W.heap[b]? = _ := h
  unfold BoxR putR
  simp only [World.setCell, Array.getElem?_modify, if_true, hh, Option.map_some]
  rfl
theorem kept_putR (W : World) (b : Nat) (v0 v1 v2 v3 v4 v5 : Value) : Kept (· = b) W (putR W b v0 v1 v2 v3 v4 v5) := by
  unfold putR
  exact (((((kept_setCell W ⟨b, 0, none⟩ v0).trans (kept_setCell _ ⟨b, 1, none⟩ v1)).trans (kept_setCell _ ⟨b, 2, none⟩ v2)).trans (kept_setCell _ ⟨b, 3, none⟩ v3)).trans (kept_setCell _ ⟨b, 4, none⟩ v4)).trans (kept_setCell _ ⟨b, 5, none⟩ v5)
abbrev rowZ : RV := (noRw, ⟨none, 0⟩)
/-- The item's box and the result's box of row. -/
def ibW (w : World) (p : IV) : World := (w.alloc (.cells #[.string p.1.t.tag, .string p.1.t.key, .string p.1.t.text, .slice p.2.A p.1.t.as.length p.2.ca, .slice p.2.K p.1.t.kids.length p.2.ck, .int .i64 p.1.d, .int .i64 p.1.up] 69)).alloc (.cells #[.int .i64 0, .int .i64 0, .string ⟨#[]⟩, .string ⟨#[]⟩, .string ⟨#[]⟩, .slice none 0 0] 56)
theorem ibW_cells (w : World) (p : IV) : ItCells (ibW w p) w.heap.size 0 p ∧ BoxR (ibW w p) (w.heap.size + 1) (.int .i64 0) (.int .i64 0) (.string ⟨#[]⟩) (.string ⟨#[]⟩) (.string ⟨#[]⟩) (.slice none 0 0) ∧ Below w.heap.size w (ibW w p) := by
  have e : ∀ j u, (#[.string p.1.t.tag, .string p.1.t.key, .string p.1.t.text, .slice p.2.A p.1.t.as.length p.2.ca, .slice p.2.K p.1.t.kids.length p.2.ck, .int .i64 p.1.d, .int .i64 p.1.up] : Array Value)[j]? = some u → (ibW w p).cell? ⟨w.heap.size, j, none⟩ = some u := fun j u h => cell_push ((cell_of_row _ _ _ _ _ (0, 0) (heap_alloc_new w _)).trans h)
  refine ⟨⟨⟨e 0 _ rfl, e 1 _ rfl, e 2 _ rfl, e 3 _ rfl, e 4 _ rfl⟩, e 5 _ rfl, e 6 _ rfl⟩, BoxR.new _ _ _ _ _ _ _ _ (by simp), ?_⟩
  unfold ibW
  exact ((Below.refl _ w).alloc (Nat.le_refl _) _).alloc (by simp) _
abbrev itemV (p : IV) : Value := .agg #[.string p.1.t.tag, .string p.1.t.key, .string p.1.t.text, .slice p.2.A p.1.t.as.length p.2.ca, .slice p.2.K p.1.t.kids.length p.2.ck, .int .i64 p.1.d, .int .i64 p.1.up]
theorem results_row46 (tmps : Array Value) (w : World) (B : Nat) (v0 v1 v2 v3 v4 v5 : Value) (hp : tmps.getD 2 undef = .pointer (some ⟨B, 0, none⟩)) (hg : BoxR w B v0 v1 v2 v3 v4 v5) :
    (results Try.f46 tmps).run Try.prog w = .ok (.agg #[v0, v1, v2, v3, v4, v5]) w := by
  exact results_cell_row rfl tmps w B 56 _ (0, 0) _ hp hg Try.underlying56 rfl (by kernel_rfl)
set_option maxHeartbeats 4000000 in
theorem row46_any (p : IV) (w : World) (h1 : -1 ≤ p.1.up) (h2 : p.1.up ≤ 1000000) : Calls Try.prog 46 #[itemV p] w fun e w' => e = .returned (rowV (ro p.1) ⟨p.2.A, p.2.ca⟩) ∧ Below w.heap.size w w' := by
  obtain ⟨w1, hw1⟩ : ∃ w1, w1 = ibW w p := ⟨_, rfl⟩
  obtain ⟨hic, hbx, hbl⟩ := ibW_cells w p
  rw [← hw1] at hic hbx hbl
  have HP := Lib.hid (hbx.put (.int .i64 0) (.int .i64 (p.1.up + 1)) (.string p.1.t.tag) (.string p.1.t.key) (.string p.1.t.text) (.slice p.2.A p.1.t.as.length p.2.ca))
  have HB := Lib.hid (hbl.trans ((kept_putR w1 (w.heap.size + 1) (.int .i64 0) (.int .i64 (p.1.up + 1)) (.string p.1.t.tag) (.string p.1.t.key) (.string p.1.t.text) (.slice p.2.A p.1.t.as.length p.2.ca)).below hbl.size (fun k hk => by have e : k = w.heap.size + 1 := hk; omega)))
  obtain ⟨⟨c0, c1, c2, c3, c4⟩, c5, c6⟩ := hic
  obtain ⟨g0, g1, g2, g3, g4, g5⟩ := hbx.cells
  have z0 := hbx.frozen 0
  have z1 := hbx.frozen 1
  have z2 := hbx.frozen 2
  have z3 := hbx.frozen 3
  have z4 := hbx.frozen 4
  have z5 := hbx.frozen 5
  have HW := Lib.hid hw1
  have hwr : IntKind.i64.wrap (p.1.up + 1) = p.1.up + 1 := by rw [IntKind.wrap_i64]; omega
  clear hbx hbl hw1 h1 h2
  go_enter Try.func46, Try.ntmps46
  go_upto_region 1 with (fail)
  rw [show (w.alloc (.cells #[.string p.1.t.tag, .string p.1.t.key, .string p.1.t.text, .slice p.2.A p.1.t.as.length p.2.ca, .slice p.2.K p.1.t.kids.length p.2.ck, .int .i64 p.1.d, .int .i64 p.1.up] 69)).alloc (.cells #[.int .i64 0, .int .i64 0, .string ⟨#[]⟩, .string ⟨#[]⟩, .string ⟨#[]⟩, .slice none 0 0] 56) = w1 from HW.out.symm]
  go_wp2_with fail
  refine bodyPost_ret (results_row46 _ _ (w.heap.size + 1) _ _ _ _ _ _ rfl HP.out) rfl ?_
  exact ⟨rfl, HB.out⟩
theorem rrow_ownB {w : World} {base : Nat} {A : Option Addr} {n c : Nat} {qs : List RV} (h : w.ownsRow base 56 6 (.slice A n c) qs.length (rws qs)) (ha : ∀ p ∈ qs, AtR w w.heap.size p.1 p.2) : RRow w w.heap.size A (qs.map Prod.fst) ∧ n = qs.length ∧ qs.length ≤ c := by
  rcases h.2 with ⟨he, hn⟩ | ⟨g, c', cur, he, hg, hh, h1, h2, h3, h4⟩
  · simp at he
    obtain ⟨rfl, rfl, rfl⟩ := he
    exact ⟨fun h0 => by simp at h0; omega, hn.symm, by omega⟩
  · simp at he
    obtain ⟨rfl, rfl, rfl⟩ := he
    refine ⟨fun h0 => ⟨g, 0, fun j => (qs.getD j (noRw, ⟨none, 0⟩)).2, rfl, (Array.getElem?_eq_some_iff.1 hh).1, fun j hj => ?_⟩, rfl, h1⟩
    have hj' : j < qs.length := by simpa using hj
    have e : (qs.getD j (noRw, ⟨none, 0⟩)).2 = qs[j].2 := by simp [List.getD_eq_getElem?_getD, hj']
    have e2 : (qs.map Prod.fst)[j] = qs[j].1 := by simp
    simp only [e, e2]
    have key : ∀ r, r < 6 → w.cell? ⟨g, 0 + j * 6 + r, none⟩ = (rCells qs[j].1 qs[j].2)[r]? := fun r hr => by
      rw [Nat.zero_add, World.ownsRow.cellAt h (j * 6 + r) (by omega), rws_at qs j hj' r hr]
    exact ⟨⟨key 0 (by omega), key 1 (by omega), key 2 (by omega), key 3 (by omega), key 4 (by omega), key 5 (by omega)⟩, ha qs[j] (List.getElem_mem _)⟩
/-- An item's row, and where its attributes lie. -/
def rvOf (p : IV) : RV := (ro p.1, ⟨p.2.A, p.2.ca⟩)
theorem own_rws {w : World} {base : Nat} {v : Value} {n : Nat} {xs : List Value} {qs : List RV} (h : w.ownsRow base 56 6 v n xs) (hx : xs = rws qs) (hn : qs.length = n) : w.ownsRow base 56 6 v qs.length (rws qs) := by subst hx; subst hn; exact h
/-- What the reference's Rows hands back. -/
def RRowsPost (t : Tr) (w : World) (e : Ending) (w' : World) : Prop :=
  ((seenL aloneT t).2 ≠ 0 ∧ e = .returned (.tuple #[.slice none 0 0, .int .i64 (seenL aloneT t).2]) ∧ Below w.heap.size w w') ∨
  ((seenL aloneT t).2 = 0 ∧ ∃ A c, e = .returned (.tuple #[.slice A (rowsT t 0 0).length c, .int .i64 0]) ∧ RRow w' w'.heap.size A (rowsT t 0 0) ∧ Below w.heap.size w w')
theorem items_rows {t : Tr} (h : (seenL aloneT t).2 = 0) : (itemsL t).map ro = rowsT t 0 0 := by
  rw [ok_len h, ← seen_ok aloneT t h]
  have := (all_ro t 1 (-1) []).1
  simpa using this
theorem items_up {t : Tr} (h : (seenL aloneT t).2 = 0) {k : Nat} (hk : k < (itemsL t).length) : -1 ≤ (itemsL t)[k].up ∧ (itemsL t)[k].up ≤ k := by
  have hl : (rowsT t 0 0).length = (itemsL t).length := by rw [← items_rows h]; simp
  have hf := form_rows t
  have := okAt_up (hf k (by omega))
  rw [rwAt_eq (show k < (rowsT t 0 0).length by omega)] at this
  simp only [← items_rows h, List.getElem_map, ro] at this
  omega
theorem first_err {t : Tr} {a f : Int} (h : FirstF aloneT (itemsL t) a f) : f = (seenL aloneT t).2 := (firstF_unique h (seen_first aloneT t)).2
set_option maxHeartbeats 4000000 in
theorem rrows_any (t : Tr) (x : NV) (w : World) (h : TreeAt w w.heap.size t x) (hg : GoodT t) : Calls Try.prog 13 #[nodeV t x] w (RRowsPost t w) := by
  have nf : ¬ (False : Prop) := fun h => h
  obtain ⟨w1, hw1⟩ : ∃ w1, w1 = boxW w t x := ⟨_, rfl⟩
  have hb1 : Below w.heap.size w w1 := by rw [hw1]; exact below_box w t x
  have hbx : KidCells w1 w.heap.size 0 t x := by rw [hw1]; exact box_node w t x
  have C := Lib.hid (icheck_any t x w1 (h.up hb1) hg)
  have HT := Lib.hid (h.up hb1); have HW := Lib.hid hw1; have HB1 := Lib.hid hb1; have HBX := Lib.hid hbx
  obtain ⟨i0, hi, hz0, hz1, hz2⟩ := info_parts Try.info56
  obtain ⟨c0, c1, c2, c3, c4⟩ := hbx
  have HLEN := Lib.hid (items_len t)
  clear h hg hw1 hb1
  go_enter Try.func13, Try.ntmps13
  go_wp2_with fail
  rw [box_out HW]
  refine C.out.mono ?_
  rintro e w2 ⟨a, f, rfl, hff, hb2⟩
  have HFE := Lib.hid (first_err hff)
  have HB2 := Lib.hid (HB1.out.trans (hb2.mono HB1.out.size))
  have HT2 := Lib.hid (HT.out.up hb2)
  clear c0 c1 c2 c3 c4
  obtain ⟨c0, c1, c2, c3, c4⟩ := HBX.out.kept (kept_below hb2 (fun _ => False)) nf
  clear hff hb2 C
  by_cases hz : f = 0
  · have hz' : (f != 0) = false := by simpa using hz
    have HZ := Lib.hid (show (seenL aloneT t).2 = 0 by rw [← HFE.out]; exact hz)
    have C2 := Lib.hid (items_any t x w2 HT2.out)
    rw [node_val] at C2
    clear hz
    go_wp2_with fail
    refine C2.out.mono ?_
    rintro e w3 ⟨A, cap, ps, rfl, hrow, hm, ha, hb3⟩
    have HROW := Lib.hid hrow; have HM := Lib.hid hm
    have HB3 := Lib.hid (HB2.out.trans (hb3.mono HB2.out.size))
    have HTA := Lib.hid (show ∀ p ∈ ps, TreeAt w3 w3.heap.size p.1.t p.2 from fun p hp => (ha p hp).mono hb3.size)
    have hlen : ps.length ≤ 4097 := by have := HLEN.out; rw [← hm] at this; simpa using this
    have HUP := Lib.hid (show ∀ k, (hk : k < ps.length) → -1 ≤ ps[k].1.up ∧ ps[k].1.up ≤ k from fun k hk => by
      have := items_up HZ.out (k := k) (by rw [← hm]; simpa using hk)
      simp only [← hm, List.getElem_map] at this
      exact this)
    clear hrow hm ha hb3 C2 c0 c1 c2 c3 c4
    go_wp2_with fail
    go_loopg [7, 8, 21] ps.length (fun g s7 _ s21 wr => ∃ (k : Nat) (qs : List RV), s21 = .int .i64 k ∧ k ≤ ps.length ∧ ps.length - k ≤ g ∧ qs.length ≤ k ∧ RowKit.Hid (qs = (ps.take k).map rvOf) ∧ RowKit.Hid (wr.ownsRow w3.heap.size 56 6 s7 qs.length (rws qs)) ∧ RowKit.Hid (Below w3.heap.size w3 wr))
    case atStart => exact ⟨0, [], rfl, by omega, by omega, by simp, Lib.hid (by simp), Lib.hid (World.ownsRow_nil _ _ _ _), Lib.hid (Below.refl _ _)⟩
    case round =>
      obtain ⟨k, qs, rfl, hk, hg, hql, HQ, HO, HB⟩ := hrel
      obtain ⟨A', c', hu⟩ := row_form HO.out
      subst hu
      by_cases hlt : k < ps.length
      · have h1 : (k : Int) < (ps.length : Int) := by omega
        obtain ⟨gb, p, hA, hgb, hp, hpc⟩ := irow_at (HROW.out.up HB.out) hlt
        obtain ⟨⟨d0, d1, d2, d3, d4⟩, d5, d6⟩ := hpc
        have hup := HUP.out k hlt
        rw [← hp] at hup
        have CR := Lib.hid (row46_any p wr hup.1 (by omega))
        have HQ2 := Lib.hid (show qs ++ [rvOf p] = (ps.take (k + 1)).map rvOf by rw [HQ.out, hp, show ps.take (k + 1) = ps.take k ++ [ps[k]] by simp, List.map_append]; rfl)
        have hbs := HB.out.size
        clear hp hup
        go_wp2_with fail
        refine CR.out.mono ?_
        rintro e w4 ⟨rfl, hb4⟩
        have HB4 := Lib.hid (HB.out.trans (hb4.mono hbs))
        have HO4 := Lib.hid ((kept_below hb4 (fun _ => False)).own HO.out (fun _ _ => nf))
        have hbs4 : w3.heap.size ≤ w4.heap.size := HB4.out.size
        clear hb4 CR d0 d1 d2 d3 d4 d5 d6
        obtain ⟨r, hr⟩ : ∃ r, r = ro p.1 := ⟨_, rfl⟩
        rw [← hr]
        have HRO := Lib.hid hr
        clear hr
        unfold rowV
        go_wp2_with (at_builtin; refine wpList_appS rfl _ _ 28 rfl w3.heap.size 56 i0 (.agg #[.int .i64 0, .int .i64 0, .string ⟨#[]⟩, .string ⟨#[]⟩, .string ⟨#[]⟩, .slice none 0 0]) 6 88 Try.underlying28 hi hz0 hz1 hz2 rfl (by omega) (by omega) _ qs.length (rws qs) rfl HO4.out #[.int .i64 r.id, .int .i64 r.up, .string r.tag, .string r.key, .string r.text, .slice p.2.A r.as.length p.2.ca] rfl (rCells_one r ⟨p.2.A, p.2.ca⟩) _ (by simp) rfl (by omega) hbs4 ?_; intro v5 w5 hown5 hb5 hk5 hf5)
        have HO5 := Lib.hid (own_rws (qs := qs ++ [rvOf p]) hown5 (by rw [rvOf, ← HRO.out]; simp [rws, rCells]) (by simp))
        have HB5 := Lib.hid (HB4.out.trans hb5)
        clear hown5 hb5 hk5 hf5
        go_wp2_with fail
        try rw [← hA]
        go_roundg (ps.length - (k + 1))
        case measure => omega
        case rel => exact ⟨k + 1, qs ++ [rvOf p], by go_num, by omega, by omega, by simp; omega, HQ2, HO5, HB5⟩
      · have h1 : ¬ (k : Int) < (ps.length : Int) := by omega
        have HFIN := Lib.hid (rrow_ownB HO.out (fun q hq => by
          rw [HQ.out] at hq
          obtain ⟨p, hp, rfl⟩ := List.mem_map.1 hq
          have hta := (HTA.out p (List.mem_of_mem_take hp)).up HB.out
          obtain ⟨k1, k2, k3, _, _, _⟩ := hta.caps
          exact ⟨hta.att, k1, k2, k3⟩))
        have HMR := Lib.hid (show qs.map Prod.fst = rowsT t 0 0 by
          rw [HQ.out, ← items_rows HZ.out, ← HM.out, List.take_of_length_le (by omega)]
          simp [rvOf, Function.comp_def])
        go_wp2_with fail
        go_ret2
        have hqr : qs.length = (rowsT t 0 0).length := by rw [← HMR.out]; simp
        have hR := HFIN.out.1
        rw [HMR.out] at hR
        exact .inr ⟨HZ.out, A', c', by rw [← hqr]; rfl, hR, HB3.out.trans (HB.out.mono HB3.out.size)⟩
  · have hz' : (f != 0) = true := by simpa using hz
    have HZ := Lib.hid hz
    clear hz
    go_wp2_with fail
    go_ret2
    exact .inl ⟨by rw [← HFE.out]; exact HZ.out, by rw [← HFE.out]; rfl, HB2.out⟩
end Go.Proofs.Ytlkdklpglmglkaa
