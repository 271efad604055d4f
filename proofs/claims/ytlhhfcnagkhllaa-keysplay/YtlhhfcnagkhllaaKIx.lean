/-
  The index: get, put, drop, size of its table.
-/
import Derived.Test.YtlhhfcnagkhllaaKMap
namespace Go.Proofs.Ytlhhfcnagkhllaa
open Go.RowKit Go.Maps
set_option linter.unusedVariables false

noncomputable def klOf (L : Lab) : Lit := (keyOf Try.prog 30 (labV L)).getD (.bool false)
theorem kl_of {L : Lab} (h : LWf L) : keyOf Try.prog 30 (labV L) = some (klOf L) := by
  obtain ⟨kl, hk⟩ := key_some h
  unfold klOf; rw [hk]; rfl
theorem kl_inj {L M : Lab} (h : LWf L) (h' : LWf M) (e : klOf L = klOf M) : L = M := by
  have h1 := kl_of h
  have h2 := kl_of h'
  rw [← e] at h2
  have := law30.inj h1 h2
  cases L; cases M
  simpa using this
theorem kl_lit {L : Lab} (h : LWf L) : WideAt.IsKeyLit (klOf L) := law30.key (kl_of h)

structure Agree (D : DataW Unit) (es : List (Lab × Int)) : Prop where
  nodup : (es.map Prod.fst).Nodup
  wf : ∀ p ∈ es, LWf p.1 ∧ wf64 p.2
  has : ∀ L, LWf L → Maps.has D (klOf L) = decide (L ∈ es.map Prod.fst)
  val : ∀ p ∈ es, ∀ z, D.atKey (klOf p.1) z = .lit (.int .i64 p.2)
  size : Maps.size D = es.length
theorem agree_nil : Agree (.map []) [] := ⟨List.nodup_nil, fun p hp => by simp at hp, fun L _ => by simp [Maps.has], fun p hp => by simp at hp, rfl⟩
theorem Agree.put {D : DataW Unit} {es es' : List (Lab × Int)} {L : Lab} {n : Int} (h : Agree D es) (ht : Tidy D) (hL : LWf L) (hn : wf64 n) (hno : L ∉ es.map Prod.fst) (hp : es'.Perm ((L, n) :: es)) : Agree (D.put (klOf L) (.lit (.int .i64 n))) es' := by
  have hp1 : (es'.map Prod.fst).Perm (L :: es.map Prod.fst) := hp.map Prod.fst
  refine ⟨hp1.nodup_iff.2 (List.nodup_cons.2 ⟨hno, h.nodup⟩), fun p hpm => ?_, fun M hM => ?_, fun p hpm z => ?_, ?_⟩
  · rcases List.mem_cons.1 (hp.mem_iff.1 hpm) with rfl | h1
    · exact ⟨hL, hn⟩
    · exact h.wf p h1
  · have hmem : M ∈ es'.map Prod.fst ↔ M = L ∨ M ∈ es.map Prod.fst := by rw [hp1.mem_iff, List.mem_cons]
    by_cases e : M = L
    · subst e
      rw [has_put_same ht.isMap (kl_lit hM)]
      simp only [hmem, true_or, decide_true]
    · rw [has_put_other (fun e' => e (kl_inj hM hL e')), h.has M hM]
      apply decide_eq_decide.2
      rw [hmem]
      exact ⟨Or.inr, fun h1 => h1.elim (fun h2 => absurd h2 e) id⟩
  · rcases List.mem_cons.1 (hp.mem_iff.1 hpm) with rfl | h1
    · exact atKey_put_same ht.isMap (kl_lit hL) _ _
    · have hne : p.1 ≠ L := fun e => hno (by rw [← e]; exact List.mem_map_of_mem h1)
      rw [atKey_put_other (fun e' => hne (kl_inj (h.wf p h1).1 hL e'))]
      exact h.val p h1 z
  · rw [size_put ht, h.has L hL, decide_eq_false hno, h.size, hp.length_eq]
    simp
theorem Agree.del {D : DataW Unit} {es es' : List (Lab × Int)} {L : Lab} {n : Int} (h : Agree D es) (ht : Tidy D) (hL : LWf L) (hp : es.Perm ((L, n) :: es')) : Agree (D.del (klOf L)) es' := by
  have hp1 : (es.map Prod.fst).Perm (L :: es'.map Prod.fst) := hp.map Prod.fst
  have hnd := List.nodup_cons.1 (hp1.nodup_iff.1 h.nodup)
  refine ⟨hnd.2, fun p hpm => h.wf p (hp.mem_iff.2 (by simp [hpm])), fun M hM => ?_, fun p hpm z => ?_, ?_⟩
  · by_cases e : M = L
    · subst e
      rw [has_del_same, decide_eq_false hnd.1]
    · rw [has_del_other (fun e' => e (kl_inj hM hL e')), h.has M hM]
      apply decide_eq_decide.2
      rw [hp1.mem_iff, List.mem_cons]
      exact ⟨fun h1 => h1.elim (fun h2 => absurd h2 e) id, Or.inr⟩
  · have hpe : p ∈ es := hp.mem_iff.2 (by simp [hpm])
    have hne : p.1 ≠ L := fun e => hnd.1 (by rw [← e]; exact List.mem_map_of_mem hpm)
    rw [atKey_del_other (fun e' => hne (kl_inj (h.wf p hpe).1 hL e'))]
    exact h.val p hpe z
  · have h1 := size_del (k := klOf L) ht
    rw [h.has L hL, decide_eq_true (hp1.mem_iff.2 (by simp)), h.size, hp.length_eq] at h1
    simp at h1
    exact h1

theorem own_size {w : World} {b n : Nat} {D : DataW Unit} (h : w.ownsMap Try.prog 30 (plainElem Try.prog 3) b n D) {m : Nat} (hm : Maps.size D = m) : w.ownsMap Try.prog 30 (plainElem Try.prog 3) b m D := by
  obtain ⟨es, clock, hb, F, hs, rfl⟩ := h
  refine ⟨es, clock, hb, F, ?_, rfl⟩
  rw [← hm]
  simp [Maps.size, length_sorted]
theorem own_keep {w w' : World} {b n : Nat} {D : DataW Unit} (h : w.ownsMap Try.prog 30 (plainElem Try.prog 3) b n D) {S : Nat → Prop} (hk : Kept S w w') (hs : ¬ S b) : w'.ownsMap Try.prog 30 (plainElem Try.prog 3) b n D := by
  have hlt := h.lt
  obtain ⟨es, clock, hb, F, h1, rfl⟩ := h
  exact ⟨es, clock, (hk.block b hlt hs).trans hb, F, h1, rfl⟩

structure Ix (w : World) (base X bm : Nat) (es : List (Lab × Int)) : Prop where
  lo : base ≤ X
  loM : base ≤ bm
  ne : ¬ X = bm
  c0 : w.cell? ⟨X, 0, none⟩ = some (.map (some bm))
  own : ∃ D, w.ownsMap Try.prog 30 (plainElem Try.prog 3) bm es.length D ∧ Agree D es
theorem Ix.keep {w w' : World} {base X bm : Nat} {es : List (Lab × Int)} (h : Ix w base X bm es) {S : Nat → Prop} (hk : Kept S w w') (h1 : ¬ S X) (h2 : ¬ S bm) : Ix w' base X bm es := by
  obtain ⟨D, ho, ha⟩ := h.own
  exact ⟨h.lo, h.loM, h.ne, hk.cellOf h.c0 h1, D, own_keep ho hk h2, ha⟩
theorem Ix.below {w w' : World} {base X bm : Nat} {es : List (Lab × Int)} (h : Ix w base X bm es) (hb : Below w.heap.size w w') : Ix w' base X bm es := h.keep (S := fun _ => False) (kept_below hb _) (fun h => h) (fun h => h)
theorem Ix.lt {w : World} {base X bm : Nat} {es : List (Lab × Int)} (h : Ix w base X bm es) : X < w.heap.size := World.block_lt_of_cell? w _ h.c0
theorem Ix.ltM {w : World} {base X bm : Nat} {es : List (Lab × Int)} (h : Ix w base X bm es) : bm < w.heap.size := by obtain ⟨D, ho, _⟩ := h.own; exact ho.lt
theorem zero3 (w : World) : (zeroValue 3).run Try.prog w = .ok (.int .i64 0) w := by kernel_rfl
theorem wf0 : wf64 0 := by unfold wf64; decide
theorem plain_z : plainElem (H := Unit) Try.prog 3 (.int .i64 0) = some (.lit (.int .i64 0), []) := plainElem_int Try.underlying3 wf0

theorem Ix.look_yes {w : World} {base X bm : Nat} {es : List (Lab × Int)} (h : Ix w base X bm es) {L : Lab} {n : Int} (hm : (L, n) ∈ es) : (Instr.lookup 52 (.map (some bm)) (labV L) true).run Try.prog w = .ok (.tuple #[.int .i64 n, .bool true]) w := by
  obtain ⟨D, ho, ha⟩ := h.own
  have hw := (ha.wf _ hm).1
  obtain ⟨v, ps, hrun, hv⟩ := ho.look_ok law30 Try.underlying52 (zero3 w) plain_z (kl_of hw)
  rw [ha.val _ hm] at hv
  obtain ⟨c, rfl, hc, _⟩ := plainElem_int_inv Try.underlying3 hv
  rw [hrun, ha.has L hw, decide_eq_true (List.mem_map_of_mem (f := Prod.fst) hm)]
  simp at hc
  rw [hc.1]
theorem Ix.look_no {w : World} {base X bm : Nat} {es : List (Lab × Int)} (h : Ix w base X bm es) {L : Lab} (hL : LWf L) (hm : L ∉ es.map Prod.fst) : (Instr.lookup 52 (.map (some bm)) (labV L) true).run Try.prog w = .ok (.tuple #[.int .i64 0, .bool false]) w := by
  obtain ⟨D, ho, ha⟩ := h.own
  obtain ⟨v, ps, hrun, hv⟩ := ho.look_ok law30 Try.underlying52 (zero3 w) plain_z (kl_of hL)
  have hh := ha.has L hL
  rw [decide_eq_false hm] at hh
  rw [atKey_of_not_has hh] at hv
  obtain ⟨c, rfl, hc, _⟩ := plainElem_int_inv Try.underlying3 hv
  rw [hrun, hh]
  simp at hc
  rw [← hc.1]
theorem Ix.store {w : World} {base X bm : Nat} {es es' : List (Lab × Int)} (h : Ix w base X bm es) {L : Lab} {n : Int} (hL : LWf L) (hn : wf64 n) (hm : L ∉ es.map Prod.fst) (hl : es.length ≤ 1000000) (hp : es'.Perm ((L, n) :: es)) :
    ∃ w', (Instr.mapUpdate 52 (.map (some bm)) (labV L) (.int .i64 n)).run Try.prog w = .ok () w' ∧ Ix w' base X bm es' ∧ Kept (· = bm) w w' := by
  obtain ⟨D, ho, ha⟩ := h.own
  obtain ⟨w', hrun, ho', ht⟩ := ho.store law30 Try.underlying52 (by unfold maxLen; omega) (kl_of hL) (plainElem_int Try.underlying3 hn)
  have ha' := ha.put (ho.tidy law30) hL hn hm hp
  have hk := kept_grown ht.grown
  exact ⟨w', hrun, ⟨h.lo, h.loM, h.ne, hk.cellOf h.c0 h.ne, _, own_size ho' ha'.size, ha'⟩, hk⟩
theorem Ix.remove {w : World} {base X bm : Nat} {es es' : List (Lab × Int)} (h : Ix w base X bm es) {L : Lab} {n : Int} (hL : LWf L) (hp : es.Perm ((L, n) :: es')) :
    ∃ w', (Builtin.delete_ #[52, 30] 0 #[.map (some bm), labV L]).run Try.prog w = .ok (.tuple #[]) w' ∧ Ix w' base X bm es' ∧ Kept (· = bm) w w' := by
  obtain ⟨D, ho, ha⟩ := h.own
  obtain ⟨w', hrun, ho', ht⟩ := ho.drop law30 Try.underlying52 (kl_of hL) 0
  have ha' := ha.del (ho.tidy law30) hL hp
  have hk := kept_grown ht.grown
  exact ⟨w', hrun, ⟨h.lo, h.loM, h.ne, hk.cellOf h.c0 h.ne, _, own_size ho' ha'.size, ha'⟩, hk⟩
theorem Ix.len {w : World} {base X bm : Nat} {es : List (Lab × Int)} (h : Ix w base X bm es) (ty : TypeId) : (Builtin.len_ #[52] ty #[.map (some bm)]).run Try.prog w = .ok (.int .i64 es.length) w := by
  obtain ⟨D, ho, ha⟩ := h.own
  rw [ho.len Try.underlying52, ha.size]
theorem Ix.clear {w : World} {base X bm : Nat} (h : Ix w base X bm []) (ty : TypeId) : ∃ w', (Builtin.clear_ #[52] ty #[.map (some bm)]).run Try.prog w = .ok (.tuple #[]) w' ∧ Ix w' base X bm [] ∧ Kept (· = bm) w w' := by
  obtain ⟨D, ho, ha⟩ := h.own
  obtain ⟨es, clock, hb, F, hs, rfl⟩ := ho
  have hes : es = #[] := by simpa using hs
  subst hes
  refine ⟨Go.ChangeMaps.setBlock w bm (.map #[] clock), ?_, ?_, ?_⟩
  · simp [Builtin.clear_, run_underlying Try.underlying52, MapKept.run_getObj_map hb, MapKept.run_setObj_map _ hb, Result.andThen, Go.ChangeMaps.setBlock]
  · have hk : Kept (· = bm) w (Go.ChangeMaps.setBlock w bm (.map #[] clock)) := ⟨rfl, rfl, rfl, by simp [Go.ChangeMaps.setBlock], fun k _ hs => Go.ChangeMaps.heap_setBlock_other hb _ hs⟩
    exact ⟨h.lo, h.loM, h.ne, hk.cellOf h.c0 h.ne, _, ⟨#[], clock, Go.ChangeMaps.heap_setBlock_same hb _, F, hs, rfl⟩, ha⟩
  · exact ⟨rfl, rfl, rfl, by simp [Go.ChangeMaps.setBlock], fun k _ hs => Go.ChangeMaps.heap_setBlock_other hb _ hs⟩

theorem box_cells (w : World) (L : Lab) : (w.alloc (.cells (labCells L) 30)).cell? ⟨w.heap.size, 0, none⟩ = some (.string L.tag) ∧ (w.alloc (.cells (labCells L) 30)).cell? ⟨w.heap.size, 1, none⟩ = some (.string L.key) ∧ (w.alloc (.cells (labCells L) 30)).cell? ⟨w.heap.size, 2, none⟩ = some (.int .i64 L.n) :=
  ⟨cell_of_row _ _ _ _ _ (0, 0) (heap_alloc_new w _), cell_of_row _ _ _ _ _ (0, 0) (heap_alloc_new w _), cell_of_row _ _ _ _ _ (0, 0) (heap_alloc_new w _)⟩

/-- What get answers. -/
structure Look (es : List (Lab × Int)) (L : Lab) (n : Int) (b : Bool) : Prop where
  yes : b = true → (L, n) ∈ es
  no : b = false → L ∉ es.map Prod.fst ∧ n = 0
theorem Ix.look {w : World} {base X bm : Nat} {es : List (Lab × Int)} (h : Ix w base X bm es) {L : Lab} (hL : LWf L) {n : Int} {b : Bool} (hl : Look es L n b) : (Instr.lookup 52 (.map (some bm)) (labV L) true).run Try.prog w = .ok (.tuple #[.int .i64 n, .bool b]) w := by
  cases b with
  | true => exact h.look_yes (hl.yes rfl)
  | false => rw [(hl.no rfl).2]; exact h.look_no hL (hl.no rfl).1

set_option maxHeartbeats 2000000 in
theorem tget_any (base X bm : Nat) (es : List (Lab × Int)) (L : Lab) (n : Int) (b : Bool) (w : World) (h : Ix w base X bm es) (hL : LWf L) (hl : Look es L n b) :
    Calls Try.prog 24 #[.pointer (some ⟨X, 0, none⟩), labV L] w fun e w' => e = .returned (.tuple #[.int .i64 n, .bool b]) ∧ Below w.heap.size w w' := by
  obtain ⟨w1, hw1⟩ : ∃ w1, w1 = w.alloc (.cells (labCells L) 30) := ⟨_, rfl⟩
  have hb1 : Below w.heap.size w w1 := by rw [hw1]; exact lit_below _ _
  have h1 : Ix w1 base X bm es := h.below hb1
  have c0 := h1.c0
  obtain ⟨k1, k2, k3⟩ := box_cells w L
  rw [← hw1] at k1 k2 k3
  have hlk : ∀ q, (Instr.lookup 52 (.map (some bm)) (.agg #[.string L.tag, .string L.key, .int .i64 L.n]) true).run Try.prog (w1.drewN q) = .ok (.tuple #[.int .i64 n, .bool b]) (w1.drewN q) :=
    fun q => (h1.keep (kept_drewN w1 q (fun _ => False)) (fun h => h) (fun h => h)).look hL hl
  have HW := Lib.hid hw1
  clear hw1 h h1 hl
  go_enter Try.func24, Try.ntmps24
  go_wp2_with fail
  rw [← HW.out]
  go_wp2_with fail
  go_quiet (fail)
  go_wp2
  go_ret2
  exact ⟨rfl, hb1.trans (below_drewN _ _ _)⟩
end Go.Proofs.Ytlhhfcnagkhllaa
