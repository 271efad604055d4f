/-
  tendrilref07.Put, Drop.
-/
import Derived.Test.YtlhhfcnagkhllaaKEnt
import Derived.Laws.AppendOwnNone
namespace Go.Proofs.Ytlhhfcnagkhllaa
open Go.RowKit Go.Maps
set_option linter.unusedVariables false

abbrev enV (p : En) : Value := .agg #[.string p.1.tag, .string p.1.key, .int .i64 p.1.n, .int .i64 p.2]
abbrev enCells (p : En) : Array Value := #[.string p.1.tag, .string p.1.key, .int .i64 p.1.n, .int .i64 p.2]
structure EBox (w : World) (B : Nat) (p : En) : Prop where
  t : w.cell? ⟨B, 0, none⟩ = some (.string p.1.tag)
  k : w.cell? ⟨B, 1, none⟩ = some (.string p.1.key)
  n : w.cell? ⟨B, 2, none⟩ = some (.int .i64 p.1.n)
  v : w.cell? ⟨B, 3, none⟩ = some (.int .i64 p.2)
theorem EBox.up {w w' : World} {B : Nat} {p : En} (h : EBox w B p) (hb : Below w.heap.size w w') : EBox w' B p :=
  ⟨(hb.cell (World.block_lt_of_cell? w _ h.t)).trans h.t, (hb.cell (World.block_lt_of_cell? w _ h.k)).trans h.k, (hb.cell (World.block_lt_of_cell? w _ h.n)).trans h.n, (hb.cell (World.block_lt_of_cell? w _ h.v)).trans h.v⟩
theorem ebox_new (w : World) (p : En) : EBox (w.alloc (.cells (enCells p) 36)) w.heap.size p :=
  ⟨cell_of_row _ _ 0 _ _ (0, 0) (heap_alloc_new w _), cell_of_row _ _ 1 _ _ (0, 0) (heap_alloc_new w _), cell_of_row _ _ 2 _ _ (0, 0) (heap_alloc_new w _), cell_of_row _ _ 3 _ _ (0, 0) (heap_alloc_new w _)⟩
theorem Try.info36 : (Try.prog.info? 36).map (fun i => (i.zero, i.size, i.bytes)) = some (some (.agg #[.string ⟨#[]⟩, .string ⟨#[]⟩, .int .i64 0, .int .i64 0]), 4, 48) := by kernel_rfl
theorem four_new (W : World) (a b c d : Value) (t : TypeId) (B : Nat) (hB : B = W.heap.size) : ∀ j u, [a, b, c, d][j]? = some u → (W.alloc (.cells #[a, b, c, d] t)).cell? ((⟨B, 0, none⟩ : Addr).add j) = some u := by
  subst hB
  intro j u hj
  have e1 : (W.alloc (.cells #[a, b, c, d] t)).cell? ⟨W.heap.size, 0 + j, none⟩ = (#[a, b, c, d] : Array Value)[0 + j]? := cell_of_row _ _ _ _ _ (0, 0) (heap_alloc_new W _)
  rw [Addr.add_lit, e1]
  simpa using hj

/-- append(x, y...) -/
theorem wpList_appE {P : Program} {w : World} {ops : Array Oper} {rest : List Oper} {o : Oper} {a : Act} {Q : Exit → Act → World → Prop} (hgd : o.guard = none) (s x : Operand) (t : TypeId)
    (ho : o.op = .call { callee := .builtin .append, args := #[s, x], argTypes := #[t, t] })
    (base : Nat) (e : TypeId) (i : TypeInfo) (z : Value) (ht : P.underlying t = some (.slice e)) (hi : P.info? e = some i) (hz : i.zero = some z)
    (hsize : i.size = 4) (hby : i.bytes = 48) (hzs : z.cells.size = 4)
    (v : Value) (n : Nat) (xs : List Value) (hs : a.eval s = v) (hown : w.ownsRow base e 4 v n xs)
    (A : Option Addr) (m c : Nat) (ms : List En) (hx : a.eval x = .slice A m c) (hm : ms.length = m) (hr : ERow w w.heap.size A ms) (hc0 : A = none → c = 0)
    (hbytes : (n + m) ≤ 10000000) (hbase : base ≤ w.heap.size)
    (h : ∀ v' w', w'.ownsRow base e 4 v' (n + m) (xs ++ ens ms) → Below base w w' → wpList P ops Q rest (a.put o.dst v') w') : wpList P ops Q (o :: rest) a w := by
  subst hm
  cases A with
  | none =>
    obtain rfl := erow_none hr
    obtain rfl := hc0 rfl
    exact wpList_append_own_none hgd s x t ho base e i 4 ht hi v n xs hs hown hx (h v w (by simpa [ens] using hown) (Below.refl _ _))
  | some ad =>
    refine wpList_append_own w hgd s x t ho base e i z 4 48 ht hi hz hsize hby hzs (by omega) v n xs hs hown ad ms.length c (ens ms) hx (ens_length ms) ?_ (ens_one ms) (by simp [maxLen]; omega) (by omega) hbase ?_
    · intro j y hj
      have hjl : j < ms.length * 4 := by have := (List.getElem?_eq_some_iff.1 hj).1; rw [ens_length] at this; exact this
      obtain ⟨b, off, hA, _, hc⟩ := hr (by omega)
      obtain rfl : ad = ⟨b, off, none⟩ := by simpa using hA
      have hq : j / 4 < ms.length := by omega
      rw [ens_at ms j hjl] at hj
      have eg : ms.getD (j / 4) noEn = ms[j / 4] := by simp [List.getD_eq_getElem?_getD, hq]
      rw [eg] at hj
      rw [Addr.add_lit, ← hj]
      obtain ⟨c0, c1, c2, c3⟩ := hc (j / 4) hq
      have hm4 : j % 4 < 4 := Nat.mod_lt _ (by omega)
      rcases (show j % 4 = 0 ∨ j % 4 = 1 ∨ j % 4 = 2 ∨ j % 4 = 3 by omega) with h4 | h4 | h4 | h4
      · rw [h4, show off + j = off + j / 4 * 4 by omega]; exact c0
      · rw [h4, show off + j = off + j / 4 * 4 + 1 by omega]; exact c1
      · rw [h4, show off + j = off + j / 4 * 4 + 2 by omega]; exact c2
      · rw [h4, show off + j = off + j / 4 * 4 + 3 by omega]; exact c3
    · intro v' w' hown' hgrow _
      exact h v' w' hown' ((Below.refl base w).grown hgrow hbase (fun k hk => (hown.lt k hk).1))
theorem wpList_app4 {P : Program} {w : World} {ops : Array Oper} {rest : List Oper} {o : Oper} {a : Act} {Q : Exit → Act → World → Prop} (hgd : o.guard = none) (s x : Operand) (t : TypeId)
    (ho : o.op = .call { callee := .builtin .append, args := #[s, x], argTypes := #[t, t] })
    (base : Nat) (e : TypeId) (i : TypeInfo) (z : Value) (ht : P.underlying t = some (.slice e)) (hi : P.info? e = some i) (hz : i.zero = some z)
    (hsize : i.size = 4) (hby : i.bytes = 48) (hzs : z.cells.size = 4)
    (v : Value) (n : Nat) (xs : List Value) (hs : a.eval s = v) (hown : w.ownsRow base e 4 v n xs)
    (p : En) (B : Nat) (hB : B = w.heap.size) (hx : a.eval x = .slice (some ⟨B, 0, none⟩) 1 1)
    (hbytes : (n + 1) ≤ 10000000) (hbase : base ≤ w.heap.size)
    (h : ∀ v' w', w'.ownsRow base e 4 v' (n + 1) (xs ++ encE p) → Below base w w' → wpList P ops Q rest (a.put o.dst v') w') : wpList P ops Q (o :: rest) a (w.alloc (.cells #[.string p.1.tag, .string p.1.key, .int .i64 p.1.n, .int .i64 p.2] e)) := by
  subst hB
  refine wpList_append_own (w.alloc _) hgd s x t ho base e i z 4 48 ht hi hz hsize hby hzs (by omega) v n xs hs (hown.alloc _) ⟨w.heap.size, 0, none⟩ 1 1 (encE p) hx rfl (four_new _ _ _ _ _ _ _ rfl) ?_ (by simp [maxLen]; omega) (by omega) (by simp; omega) ?_
  · intro y hy; simp [encE] at hy; rcases hy with rfl | rfl | rfl | rfl <;> rfl
  · intro v' w' hown' hgrow _
    exact h v' w' hown' (((Below.refl base w).alloc hbase _).grown hgrow (by simp; omega) (fun k hk => (hown.lt k hk).1))

/-- A slice of entries that the call made, in a block of its own. -/
def MadeE (w : World) (es : List En) (e : Ending) (w' : World) : Prop := ∃ v, e = .returned v ∧ w'.ownsRow w.heap.size 36 4 v es.length (ens es) ∧ Below w.heap.size w w'
theorem own_ens {w : World} {base : Nat} {v : Value} {zs : List En} {n : Nat} {xs : List Value} (h : w.ownsRow base 36 4 v n xs) (hx : xs = ens zs) (hn : zs.length = n) : w.ownsRow base 36 4 v zs.length (ens zs) := by subst hx; subst hn; exact h
def InAt (es : List En) (p : En) (k : Nat) : Prop := k ≤ es.length ∧ (∀ j, (hj : j < es.length) → j < k → lessB es[j].1 p.1 = true) ∧ ((hk : k < es.length) → lessB es[k].1 p.1 = false)
def insE (es : List En) (p : En) (k : Nat) : List En := es.take k ++ p :: es.drop k
def PPost (w : World) (es : List En) (p : En) (e : Ending) (w' : World) : Prop := ∃ k, InAt es p k ∧ MadeE w (insE es p k) e w'
def PRel (w : World) (es : List En) (p : En) (i : Value) (wr : World) : Prop := ∃ k : Nat, k ≤ es.length ∧ i = .int .i64 k ∧ (∀ j, (hj : j < es.length) → j < k → lessB es[j].1 p.1 = true) ∧ Below w.heap.size w wr ∧ EBox wr w.heap.size p ∧ w.heap.size < wr.heap.size

theorem own_down {w : World} {base base' : Nat} {e : TypeId} {n : Nat} {v : Value} {xs : List Value} (h : w.ownsRow base e 4 v n xs) (hb : base' ≤ base) : w.ownsRow base' e 4 v n xs := by
  refine ⟨h.1, ?_⟩
  rcases h.2 with h1 | ⟨g, cap, cur, h1, h2, h3⟩
  · exact .inl h1
  · exact .inr ⟨g, cap, cur, h1, by omega, h3⟩
theorem EBox.down {w w' : World} {B B' : Nat} {p : En} (h : EBox w B p) (hb : Below B' w w') (hB : B < B') : EBox w' B p :=
  ⟨(hb.cell (p := ⟨B, 0, none⟩) hB).trans h.t, (hb.cell (p := ⟨B, 1, none⟩) hB).trans h.k, (hb.cell (p := ⟨B, 2, none⟩) hB).trans h.n, (hb.cell (p := ⟨B, 3, none⟩) hB).trans h.v⟩
abbrev small (L : Lab) : Prop := L.tag.size ≤ 100000 ∧ L.key.size ≤ 100000
set_option maxRecDepth 100000 in
set_option maxHeartbeats 4000000 in
theorem rput_some (b off c : Nat) (es : List En) (p : En) (w : World) (hr : ERow w w.heap.size (some ⟨b, off, none⟩) es) (hl : es.length ≤ 1000000) (hc : es.length ≤ c) (hcm : c ≤ maxLen) (hsm : ∀ q ∈ es, small q.1) (hp : small p.1) :
    Calls Try.prog 12 #[.slice (some ⟨b, off, none⟩) es.length c, enV p] w (PPost w es p) := by
  obtain ⟨i0, hi, hz0, hz1, hz2⟩ := info_parts Try.info36
  unfold maxLen at hcm
  have HSM := Lib.hid hsm; have HR := Lib.hid hr
  have hbx := ebox_new w p
  have hb0 := lit_below w (.cells (enCells p) 36)
  have hsz0 : w.heap.size < (w.alloc (.cells (enCells p) 36)).heap.size := by simp
  clear hsm hr
  go_enter Try.func12, Try.ntmps12
  go_wp2_with fail
  go_loopw [6] (PRel w es p) (fun i _ => es.length - (intOf i).toNat)
  case atStart => exact ⟨0, by omega, rfl, fun j _ h => by omega, hb0, hbx, hsz0⟩
  case round =>
    clear hbx hb0 hsz0
    obtain ⟨k, hk, rfl, hall, hbel, hbox, hszr⟩ := hrel
    have HALL := Lib.hid hall
    clear hall
    by_cases hlt : k < es.length
    · obtain ⟨b', off', q, hA, hb, hq, d1, d2, d3, d4⟩ := erow_at (HR.out.below hbel) hlt
      obtain ⟨rfl, rfl⟩ : b = b' ∧ off = off' := by simpa using hA
      clear hA d4
      have k1 := hbox.t
      have k2 := hbox.k
      have k3 := hbox.n
      have hqs : small q.1 := by rw [hq]; exact HSM.out _ (List.getElem_mem _)
      have HCL := Lib.hid (refLess_any q.1 p.1 wr.drew hqs hp)
      have HQ := Lib.hid hq; have HB := Lib.hid hbel; have HBX := Lib.hid hbox
      clear hq hbel hbox
      have hbw : b < wr.heap.size := Nat.lt_of_lt_of_le hb HB.out.size
      have hk0 : (0 : Int) ≤ (k : Int) := Int.natCast_nonneg _
      have hk1 : (k : Int) < (es.length : Int) := by omega
      have HBW := Lib.hid hbw
      clear hbw
      obtain ⟨r, hrr⟩ : ∃ r, r = lessB q.1 p.1 := ⟨_, rfl⟩
      rw [← hrr] at HCL
      have HRR := Lib.hid hrr
      clear hrr
      go_wp2_with fail
      go_region_held3 (fun w' => w'.cell? ⟨b, off + k * 4, none⟩ = some (.string q.1.tag) ∧ w'.cell? ⟨b, off + k * 4 + 1, none⟩ = some (.string q.1.key) ∧ w'.cell? ⟨b, off + k * 4 + 2, none⟩ = some (.int .i64 q.1.n) ∧ w'.cell? ⟨w.heap.size, 0, none⟩ = some (.string p.1.tag) ∧ w'.cell? ⟨w.heap.size, 1, none⟩ = some (.string p.1.key) ∧ w'.cell? ⟨w.heap.size, 2, none⟩ = some (.int .i64 p.1.n))
        (first
          | go_keep
          | (go_split_ands
             exact ⟨(hb3.cell (p := ⟨b, off + k * 4, none⟩) HBW.out).trans d1, (hb3.cell (p := ⟨b, off + k * 4 + 1, none⟩) HBW.out).trans d2, (hb3.cell (p := ⟨b, off + k * 4 + 2, none⟩) HBW.out).trans d3, (hb3.cell (p := ⟨w.heap.size, 0, none⟩) hszr).trans k1, (hb3.cell (p := ⟨w.heap.size, 1, none⟩) hszr).trans k2, (hb3.cell (p := ⟨w.heap.size, 2, none⟩) hszr).trans k3⟩))
        ((go_at_call 22; refine HCL.out.mono ?_; rintro e w3 ⟨rfl, hb3⟩))
      have HB3 := Lib.hid (HB.out.trans ((below_drewN _ wr 1).trans (hb3.mono HB.out.size)))
      have HBX3 := Lib.hid ((HBX.out.up (below_drewN _ wr 1)).up hb3)
      have hsz3 : w.heap.size + 1 ≤ w3.heap.size := Nat.le_trans hszr hb3.size
      clear hb3 k1 k2 k3 d1 d2 d3
      cases r with
      | true =>
        go_wp2_with fail
        refine ⟨⟨k + 1, by omega, by go_num, fun j hj hjk => ?_, HB3.out, HBX3.out, hsz3⟩, by simp [intOf]; omega⟩
        by_cases hjl : j < k
        · exact HALL.out j hj hjl
        · obtain rfl : j = k := by omega
          rw [← HQ.out, ← HRR.out]
      | false =>
        have HTL := Lib.hid (show (es.take k).length = k by simp; omega)
        have HDL := Lib.hid (show (es.drop k).length = es.length - k by simp)
        have HE := Lib.hid (HR.out.below HB3.out)
        go_wp2_with (at_builtin; first
          | (refine wpList_appE rfl _ _ 27 rfl (w.heap.size + 1) 36 i0 _ Try.underlying27 hi hz0 hz1 hz2 rfl _ (k + 1) _ rfl hown2 _ _ _ (es.drop k) rfl HDL.out ((erow_cut hr2 k).mono (Nat.le_of_succ_le hs2)) (fun h => by cases h) (by omega) hs2 ?_; intro v3 w6 hown3 hbel3)
          | (refine wpList_app4 rfl _ _ 27 rfl (w.heap.size + 1) 36 i0 _ Try.underlying27 hi hz0 hz1 hz2 rfl _ k _ rfl hown1 p _ rfl rfl (by omega) hs1 ?_; intro v2 w5 hown2 hbel2; have hs2 := Nat.le_trans hs1 hbel2.size; have hr2 := HE.out.below ((hbel1.trans hbel2).mono (Nat.le_succ _)))
          | (refine wpList_appE rfl _ _ 27 rfl (w.heap.size + 1) 36 i0 _ Try.underlying27 hi hz0 hz1 hz2 rfl _ 0 [] rfl (World.ownsRow_nil _ _ _ _) _ _ _ (es.take k) rfl HTL.out ((erow_take HE.out k).mono (Nat.le_of_succ_le hsz3)) (fun h => by cases h) (by omega) hsz3 ?_; intro v1 w4 hown1 hbel1; have hs1 := Nat.le_trans hsz3 hbel1.size; have hbx1 := HBX3.out.down hbel1 (Nat.lt_succ_self _); have k1 := hbx1.t; have k2 := hbx1.k; have k3 := hbx1.n; have k4 := hbx1.v; rw [Nat.zero_add] at hown1))
        go_ret
        refine ⟨k, ⟨by omega, HALL.out, fun h => by first | omega | (rw [← HQ.out, ← HRR.out])⟩, _, rfl, own_ens (own_down hown3 (Nat.le_succ _)) ?_ ?_, HB3.out.trans (((hbel1.trans hbel2).trans hbel3).mono (Nat.le_succ _))⟩
        · simp [insE, ens]
        · rw [insE, List.length_append, List.length_cons, HTL.out, HDL.out]; omega
    · obtain rfl : k = es.length := by omega
      have HB := Lib.hid hbel; have HBX := Lib.hid hbox
      clear hbel hbox
      go_wp2_with fail
      go_quiet (fail)
      have HB3 := Lib.hid (HB.out.trans (below_drewN _ wr nq))
      have HBX3 := Lib.hid (HBX.out.up (below_drewN _ wr nq))
      have hsz3 : w.heap.size + 1 ≤ (wr.drewN nq).heap.size := hszr
      generalize wr.drewN nq = w3 at HB3 HBX3 hsz3 ⊢
      by_cases hca : c = es.length
      · subst hca
        have HTL := Lib.hid (show (es.take es.length).length = es.length by simp)
        have HDL := Lib.hid (show (es.drop es.length).length = es.length - es.length by simp)
        have HE := Lib.hid (HR.out.below HB3.out)
        go_wp2_with (at_builtin; first
          | (refine wpList_appE rfl _ _ 27 rfl (w.heap.size + 1) 36 i0 _ Try.underlying27 hi hz0 hz1 hz2 rfl _ (es.length + 1) _ rfl hown2 _ _ _ [] rfl rfl (ERow.nil _ _ _) (fun h => by cases h) (by omega) hs2 ?_; intro v3 w6 hown3 hbel3)
          | (refine wpList_app4 rfl _ _ 27 rfl (w.heap.size + 1) 36 i0 _ Try.underlying27 hi hz0 hz1 hz2 rfl _ es.length _ rfl hown1 p _ rfl rfl (by omega) hs1 ?_; intro v2 w5 hown2 hbel2; have hs2 := Nat.le_trans hs1 hbel2.size; have hr2 := HE.out.below ((hbel1.trans hbel2).mono (Nat.le_succ _)))
          | (refine wpList_appE rfl _ _ 27 rfl (w.heap.size + 1) 36 i0 _ Try.underlying27 hi hz0 hz1 hz2 rfl _ 0 [] rfl (World.ownsRow_nil _ _ _ _) _ _ _ (es.take es.length) rfl HTL.out ((erow_take HE.out es.length).mono (Nat.le_of_succ_le hsz3)) (fun h => by cases h) (by omega) hsz3 ?_; intro v1 w4 hown1 hbel1; have hs1 := Nat.le_trans hsz3 hbel1.size; have hbx1 := HBX3.out.down hbel1 (Nat.lt_succ_self _); have k1 := hbx1.t; have k2 := hbx1.k; have k3 := hbx1.n; have k4 := hbx1.v; rw [Nat.zero_add] at hown1))
        go_ret
        refine ⟨es.length, ⟨by omega, HALL.out, fun h => by first | omega | (rw [← HQ.out, ← HRR.out])⟩, _, rfl, own_ens (own_down hown3 (Nat.le_succ _)) ?_ ?_, HB3.out.trans (((hbel1.trans hbel2).trans hbel3).mono (Nat.le_succ _))⟩
        · simp [insE, ens]
        · rw [insE, List.length_append, List.length_cons, HTL.out, HDL.out]; omega
      · 
        have HTL := Lib.hid (show (es.take es.length).length = es.length by simp)
        have HDL := Lib.hid (show (es.drop es.length).length = es.length - es.length by simp)
        have HE := Lib.hid (HR.out.below HB3.out)
        go_wp2_with (at_builtin; first
          | (refine wpList_appE rfl _ _ 27 rfl (w.heap.size + 1) 36 i0 _ Try.underlying27 hi hz0 hz1 hz2 rfl _ (es.length + 1) _ rfl hown2 _ _ _ [] rfl rfl (ERow.nil _ _ _) (fun h => by cases h) (by omega) hs2 ?_; intro v3 w6 hown3 hbel3)
          | (refine wpList_app4 rfl _ _ 27 rfl (w.heap.size + 1) 36 i0 _ Try.underlying27 hi hz0 hz1 hz2 rfl _ es.length _ rfl hown1 p _ rfl rfl (by omega) hs1 ?_; intro v2 w5 hown2 hbel2; have hs2 := Nat.le_trans hs1 hbel2.size; have hr2 := HE.out.below ((hbel1.trans hbel2).mono (Nat.le_succ _)))
          | (refine wpList_appE rfl _ _ 27 rfl (w.heap.size + 1) 36 i0 _ Try.underlying27 hi hz0 hz1 hz2 rfl _ 0 [] rfl (World.ownsRow_nil _ _ _ _) _ _ _ (es.take es.length) rfl HTL.out ((erow_take HE.out es.length).mono (Nat.le_of_succ_le hsz3)) (fun h => by cases h) (by omega) hsz3 ?_; intro v1 w4 hown1 hbel1; have hs1 := Nat.le_trans hsz3 hbel1.size; have hbx1 := HBX3.out.down hbel1 (Nat.lt_succ_self _); have k1 := hbx1.t; have k2 := hbx1.k; have k3 := hbx1.n; have k4 := hbx1.v; rw [Nat.zero_add] at hown1))
        go_ret
        refine ⟨es.length, ⟨by omega, HALL.out, fun h => by first | omega | (rw [← HQ.out, ← HRR.out])⟩, _, rfl, own_ens (own_down hown3 (Nat.le_succ _)) ?_ ?_, HB3.out.trans (((hbel1.trans hbel2).trans hbel3).mono (Nat.le_succ _))⟩
        · simp [insE, ens]
        · rw [insE, List.length_append, List.length_cons, HTL.out, HDL.out]; omega
end Go.Proofs.Ytlhhfcnagkhllaa
