/-
  keys: an index of labels (New, Put, Get, Of), as in the seat of stage 4.
-/
import Derived.Test.YtlkdklpglmglkaaProg
import Derived.WalkKit
import Derived.WalkLawsBesides
import Derived.Outline
import Derived.Below
import Derived.Lib.Hide
import Derived.BigQuiet
import Derived.Deep.QuietTactic
import Derived.DeepKeys4
import Derived.Maps.OwnSet
import Derived.RegionTactic
import Derived.BigRegion
import Derived.WalkSpells
import Derived.Deep.RegionHeld3
namespace Go.Proofs.Ytlkdklpglmglkaa.K
open Go.RowKit Go.Maps
set_option linter.unusedVariables false
set_option maxRecDepth 100000


theorem ret_int {k : IntKind} {a b : Int} (h : a = b) : Ending.returned (.int k a) = .returned (.int k b) := by rw [h]
theorem ret_bool {a b : Bool} (h : a = b) : Ending.returned (.bool a) = .returned (.bool b) := by rw [h]

/-! What a call may turn. -/
structure Kept (S : Nat → Prop) (w w' : World) : Prop where
  os : w'.os = w.os
  tape : w'.tape = w.tape
  output : w'.output = w.output
  size : w.heap.size ≤ w'.heap.size
  block : ∀ k, k < w.heap.size → ¬ S k → w'.heap[k]? = w.heap[k]?
theorem Kept.refl (S : Nat → Prop) (w : World) : Kept S w w := ⟨rfl, rfl, rfl, Nat.le_refl _, fun _ _ _ => rfl⟩
theorem Kept.trans {S : Nat → Prop} {a b c : World} (h : Kept S a b) (k : Kept S b c) : Kept S a c :=
  ⟨k.os.trans h.os, k.tape.trans h.tape, k.output.trans h.output, Nat.le_trans h.size k.size, fun i hi hs => (k.block i (Nat.lt_of_lt_of_le hi h.size) hs).trans (h.block i hi hs)⟩
theorem Kept.mono {S T : Nat → Prop} {w w' : World} (h : Kept S w w') (hS : ∀ k, S k → T k) : Kept T w w' := ⟨h.os, h.tape, h.output, h.size, fun k hk ht => h.block k hk (fun hs => ht (hS k hs))⟩
theorem Kept.below {S : Nat → Prop} {w w' : World} (h : Kept S w w') {B : Nat} (hB : B ≤ w.heap.size) (hS : ∀ k, S k → B ≤ k) : Below B w w' :=
  ⟨h.os, h.tape, h.output, h.size, fun k hk => h.block k (by omega) (fun hs => by have := hS k hs; omega)⟩
theorem kept_below {w w' : World} (h : Below w.heap.size w w') (S : Nat → Prop) : Kept S w w' := ⟨h.os, h.tape, h.output, h.size, fun k hk _ => h.block k hk⟩
theorem kept_alloc (w : World) (o : Obj) (S : Nat → Prop) : Kept S w (w.alloc o) := kept_below ((Below.refl _ _).alloc (Nat.le_refl _) _) S
theorem kept_drewN (w : World) (n : Nat) (S : Nat → Prop) : Kept S w (w.drewN n) := ⟨rfl, rfl, rfl, Nat.le_refl _, fun _ _ _ => rfl⟩
theorem kept_drew (w : World) (S : Nat → Prop) : Kept S w w.drew := kept_drewN w 1 S
theorem kept_grown {w w' : World} {g : Nat} (hg : w.grownBy w' (some g)) : Kept (· = g) w w' :=
  ⟨hg.os, hg.tape, hg.output, hg.size, fun k hk hs => hg.block k hk (by intro e; exact hs (by simpa using e))⟩
theorem Kept.cellOf {S : Nat → Prop} {w w' : World} (h : Kept S w w') {a : Addr} {v : Value} (hc : w.cell? a = some v) (hs : ¬ S a.block) : w'.cell? a = some v :=
  (World.cell?_of_block (h.block a.block (World.block_lt_of_cell? w _ hc) hs)).trans hc
theorem below_trans {a b c : World} (h : Below a.heap.size a b) (k : Below b.heap.size b c) : Below a.heap.size a c := h.trans (k.mono h.size)
theorem below_drewN (B : Nat) (w : World) (n : Nat) : Below B w (w.drewN n) := ⟨rfl, rfl, rfl, Nat.le_refl _, fun _ _ => rfl⟩
theorem lit_below (w : World) (o : Obj) : Below w.heap.size w (w.alloc o) := (Below.refl _ _).alloc (Nat.le_refl _) _

/-! Labels. -/
structure Lab where
  tag : ByteArray
  key : ByteArray
  n : Int
theorem Lab.eta (L : Lab) : L = ⟨L.tag, L.key, L.n⟩ := by cases L; rfl
instance : DecidableEq Lab := fun a b => if h : a.tag = b.tag ∧ a.key = b.key ∧ a.n = b.n then isTrue (by cases a; cases b; simp_all) else isFalse (by rintro rfl; exact h ⟨rfl, rfl, rfl⟩)
def wf64 (n : Int) : Prop := (Lit.int .i64 n).wf = true
structure LWf (L : Lab) : Prop where
  tag : L.tag.size ≤ maxLen
  key : L.key.size ≤ maxLen
  n : wf64 L.n
abbrev labCells (L : Lab) : Array Value := #[.string L.tag, .string L.key, .int .i64 L.n]
abbrev labV (L : Lab) : Value := .agg #[.string L.tag, .string L.key, .int .i64 L.n]

theorem laidOut : laidOutB Try.prog = true := by kernel_rfl
theorem wide30 : (match Try.prog.underlying 58 with | some (.array _ _) | some (.struct _) => true | _ => false) = true := by kernel_rfl
theorem law30 : Keyed Try.prog 58 := Keyed.of_law (deep_law_laid laidOut (m := 3) (by omega) (of_decide_eq_true (by kernel_rfl)) (by kernel_rfl) wide30)
theorem types_size : ∃ m, Try.prog.types.size + 1 = m + 1 + 1 := ⟨Try.prog.types.size - 1, by have : 2 ≤ Try.prog.types.size := of_decide_eq_true (by kernel_rfl); omega⟩
theorem keyType30 : Try.prog.keyType 58 = true := by kernel_rfl
theorem cells30 : Try.prog.cellsOf 58 = 3 := by kernel_rfl
theorem cells9 : Try.prog.cellsOf 9 = 1 := by kernel_rfl
theorem cells3 : Try.prog.cellsOf 3 = 1 := by kernel_rfl
theorem key_some {L : Lab} (h : LWf L) : ∃ kl, keyOf Try.prog 58 (labV L) = some kl := by
  obtain ⟨m, hm⟩ := types_size
  have hw : (Lit.int .i64 L.n).wf = true := h.n
  have ht := h.tag
  have hk := h.key
  refine ⟨.string (keyBytes [.string L.tag.data.toList, .string L.key.data.toList, .int .i64 L.n]), ?_⟩
  unfold keyOf
  rw [hm]
  simp [Try.underlying58, keyType30, Value.formed, cells30, Program.keyLits, Value.cells, Try.underlying9, Try.underlying3, cells9, cells3, hw, ht, hk]


noncomputable def klOf (L : Lab) : Lit := (keyOf Try.prog 58 (labV L)).getD (.bool false)
theorem kl_of {L : Lab} (h : LWf L) : keyOf Try.prog 58 (labV L) = some (klOf L) := by
  obtain ⟨kl, hk⟩ := key_some h
  unfold klOf; rw [hk]; rfl
theorem kl_inj {L M : Lab} (h : LWf L) (h' : LWf M) (e : klOf L = klOf M) : L = M := by
  have h1 := kl_of h
  have h2 := kl_of h'
  rw [← e] at h2
  have := law30.inj h1 h2
  cases L; cases M
  simpa using this
theorem kl_lit {L : Lab} (h : LWf L) : WideAt.IsKeyLit (klOf L) := law30.key (kl_of h)

structure Agree (D : DataW Unit) (es : List (Lab × Int)) : Prop where
  nodup : (es.map Prod.fst).Nodup
  wf : ∀ p ∈ es, LWf p.1 ∧ wf64 p.2
  has : ∀ L, LWf L → Maps.has D (klOf L) = decide (L ∈ es.map Prod.fst)
  val : ∀ p ∈ es, ∀ z, D.atKey (klOf p.1) z = .lit (.int .i64 p.2)
  size : Maps.size D = es.length
theorem agree_nil : Agree (.map []) [] := ⟨List.nodup_nil, fun p hp => by simp at hp, fun L _ => by simp [Maps.has], fun p hp => by simp at hp, rfl⟩
theorem Agree.put {D : DataW Unit} {es es' : List (Lab × Int)} {L : Lab} {n : Int} (h : Agree D es) (ht : Tidy D) (hL : LWf L) (hn : wf64 n) (hno : L ∉ es.map Prod.fst) (hp : es'.Perm ((L, n) :: es)) : Agree (D.put (klOf L) (.lit (.int .i64 n))) es' := by
  have hp1 : (es'.map Prod.fst).Perm (L :: es.map Prod.fst) := hp.map Prod.fst
  refine ⟨hp1.nodup_iff.2 (List.nodup_cons.2 ⟨hno, h.nodup⟩), fun p hpm => ?_, fun M hM => ?_, fun p hpm z => ?_, ?_⟩
  · rcases List.mem_cons.1 (hp.mem_iff.1 hpm) with rfl | h1
    · exact ⟨hL, hn⟩
    · exact h.wf p h1
  · have hmem : M ∈ es'.map Prod.fst ↔ M = L ∨ M ∈ es.map Prod.fst := by rw [hp1.mem_iff, List.mem_cons]
    by_cases e : M = L
    · subst e
      rw [has_put_same ht.isMap (kl_lit hM)]
      simp only [hmem, true_or, decide_true]
    · rw [has_put_other (fun e' => e (kl_inj hM hL e')), h.has M hM]
      apply decide_eq_decide.2
      rw [hmem]
      exact ⟨Or.inr, fun h1 => h1.elim (fun h2 => absurd h2 e) id⟩
  · rcases List.mem_cons.1 (hp.mem_iff.1 hpm) with rfl | h1
    · exact atKey_put_same ht.isMap (kl_lit hL) _ _
    · have hne : p.1 ≠ L := fun e => hno (by rw [← e]; exact List.mem_map_of_mem h1)
      rw [atKey_put_other (fun e' => hne (kl_inj (h.wf p h1).1 hL e'))]
      exact h.val p h1 z
  · rw [size_put ht, h.has L hL, decide_eq_false hno, h.size, hp.length_eq]
    simp
theorem Agree.del {D : DataW Unit} {es es' : List (Lab × Int)} {L : Lab} {n : Int} (h : Agree D es) (ht : Tidy D) (hL : LWf L) (hp : es.Perm ((L, n) :: es')) : Agree (D.del (klOf L)) es' := by
  have hp1 : (es.map Prod.fst).Perm (L :: es'.map Prod.fst) := hp.map Prod.fst
  have hnd := List.nodup_cons.1 (hp1.nodup_iff.1 h.nodup)
  refine ⟨hnd.2, fun p hpm => h.wf p (hp.mem_iff.2 (by simp [hpm])), fun M hM => ?_, fun p hpm z => ?_, ?_⟩
  · by_cases e : M = L
    · subst e
      rw [has_del_same, decide_eq_false hnd.1]
    · rw [has_del_other (fun e' => e (kl_inj hM hL e')), h.has M hM]
      apply decide_eq_decide.2
      rw [hp1.mem_iff, List.mem_cons]
      exact ⟨fun h1 => h1.elim (fun h2 => absurd h2 e) id, Or.inr⟩
  · have hpe : p ∈ es := hp.mem_iff.2 (by simp [hpm])
    have hne : p.1 ≠ L := fun e => hnd.1 (by rw [← e]; exact List.mem_map_of_mem hpm)
    rw [atKey_del_other (fun e' => hne (kl_inj (h.wf p hpe).1 hL e'))]
    exact h.val p hpe z
  · have h1 := size_del (k := klOf L) ht
    rw [h.has L hL, decide_eq_true (hp1.mem_iff.2 (by simp)), h.size, hp.length_eq] at h1
    simp at h1
    exact h1

theorem own_size {w : World} {b n : Nat} {D : DataW Unit} (h : w.ownsMap Try.prog 58 (plainElem Try.prog 3) b n D) {m : Nat} (hm : Maps.size D = m) : w.ownsMap Try.prog 58 (plainElem Try.prog 3) b m D := by
  obtain ⟨es, clock, hb, F, hs, rfl⟩ := h
  refine ⟨es, clock, hb, F, ?_, rfl⟩
  rw [← hm]
  simp [Maps.size, length_sorted]
theorem own_keep {w w' : World} {b n : Nat} {D : DataW Unit} (h : w.ownsMap Try.prog 58 (plainElem Try.prog 3) b n D) {S : Nat → Prop} (hk : Kept S w w') (hs : ¬ S b) : w'.ownsMap Try.prog 58 (plainElem Try.prog 3) b n D := by
  have hlt := h.lt
  obtain ⟨es, clock, hb, F, h1, rfl⟩ := h
  exact ⟨es, clock, (hk.block b hlt hs).trans hb, F, h1, rfl⟩

structure Ix (w : World) (base X bm : Nat) (es : List (Lab × Int)) : Prop where
  lo : base ≤ X
  loM : base ≤ bm
  ne : ¬ X = bm
  c0 : w.cell? ⟨X, 0, none⟩ = some (.map (some bm))
  own : ∃ D, w.ownsMap Try.prog 58 (plainElem Try.prog 3) bm es.length D ∧ Agree D es
theorem Ix.keep {w w' : World} {base X bm : Nat} {es : List (Lab × Int)} (h : Ix w base X bm es) {S : Nat → Prop} (hk : Kept S w w') (h1 : ¬ S X) (h2 : ¬ S bm) : Ix w' base X bm es := by
  obtain ⟨D, ho, ha⟩ := h.own
  exact ⟨h.lo, h.loM, h.ne, hk.cellOf h.c0 h1, D, own_keep ho hk h2, ha⟩
theorem Ix.below {w w' : World} {base X bm : Nat} {es : List (Lab × Int)} (h : Ix w base X bm es) (hb : Below w.heap.size w w') : Ix w' base X bm es := h.keep (S := fun _ => False) (kept_below hb _) (fun h => h) (fun h => h)
theorem Ix.lt {w : World} {base X bm : Nat} {es : List (Lab × Int)} (h : Ix w base X bm es) : X < w.heap.size := World.block_lt_of_cell? w _ h.c0
theorem Ix.ltM {w : World} {base X bm : Nat} {es : List (Lab × Int)} (h : Ix w base X bm es) : bm < w.heap.size := by obtain ⟨D, ho, _⟩ := h.own; exact ho.lt
theorem zero3 (w : World) : (zeroValue 3).run Try.prog w = .ok (.int .i64 0) w := by kernel_rfl
theorem wf0 : wf64 0 := by unfold wf64; decide
theorem plain_z : plainElem (H := Unit) Try.prog 3 (.int .i64 0) = some (.lit (.int .i64 0), []) := plainElem_int Try.underlying3 wf0

theorem Ix.look_yes {w : World} {base X bm : Nat} {es : List (Lab × Int)} (h : Ix w base X bm es) {L : Lab} {n : Int} (hm : (L, n) ∈ es) : (Instr.lookup 112 (.map (some bm)) (labV L) true).run Try.prog w = .ok (.tuple #[.int .i64 n, .bool true]) w := by
  obtain ⟨D, ho, ha⟩ := h.own
  have hw := (ha.wf _ hm).1
  obtain ⟨v, ps, hrun, hv⟩ := ho.look_ok law30 Try.underlying112 (zero3 w) plain_z (kl_of hw)
  rw [ha.val _ hm] at hv
  obtain ⟨c, rfl, hc, _⟩ := plainElem_int_inv Try.underlying3 hv
  rw [hrun, ha.has L hw, decide_eq_true (List.mem_map_of_mem (f := Prod.fst) hm)]
  simp at hc
  rw [hc.1]
theorem Ix.look_no {w : World} {base X bm : Nat} {es : List (Lab × Int)} (h : Ix w base X bm es) {L : Lab} (hL : LWf L) (hm : L ∉ es.map Prod.fst) : (Instr.lookup 112 (.map (some bm)) (labV L) true).run Try.prog w = .ok (.tuple #[.int .i64 0, .bool false]) w := by
  obtain ⟨D, ho, ha⟩ := h.own
  obtain ⟨v, ps, hrun, hv⟩ := ho.look_ok law30 Try.underlying112 (zero3 w) plain_z (kl_of hL)
  have hh := ha.has L hL
  rw [decide_eq_false hm] at hh
  rw [atKey_of_not_has hh] at hv
  obtain ⟨c, rfl, hc, _⟩ := plainElem_int_inv Try.underlying3 hv
  rw [hrun, hh]
  simp at hc
  rw [← hc.1]
theorem Ix.store {w : World} {base X bm : Nat} {es es' : List (Lab × Int)} (h : Ix w base X bm es) {L : Lab} {n : Int} (hL : LWf L) (hn : wf64 n) (hm : L ∉ es.map Prod.fst) (hl : es.length ≤ 1000000) (hp : es'.Perm ((L, n) :: es)) :
    ∃ w', (Instr.mapUpdate 112 (.map (some bm)) (labV L) (.int .i64 n)).run Try.prog w = .ok () w' ∧ Ix w' base X bm es' ∧ Kept (· = bm) w w' := by
  obtain ⟨D, ho, ha⟩ := h.own
  obtain ⟨w', hrun, ho', ht⟩ := ho.store law30 Try.underlying112 (by unfold maxLen; omega) (kl_of hL) (plainElem_int Try.underlying3 hn)
  have ha' := ha.put (ho.tidy law30) hL hn hm hp
  have hk := kept_grown ht.grown
  exact ⟨w', hrun, ⟨h.lo, h.loM, h.ne, hk.cellOf h.c0 h.ne, _, own_size ho' ha'.size, ha'⟩, hk⟩
theorem Ix.remove {w : World} {base X bm : Nat} {es es' : List (Lab × Int)} (h : Ix w base X bm es) {L : Lab} {n : Int} (hL : LWf L) (hp : es.Perm ((L, n) :: es')) :
    ∃ w', (Builtin.delete_ #[112, 58] 0 #[.map (some bm), labV L]).run Try.prog w = .ok (.tuple #[]) w' ∧ Ix w' base X bm es' ∧ Kept (· = bm) w w' := by
  obtain ⟨D, ho, ha⟩ := h.own
  obtain ⟨w', hrun, ho', ht⟩ := ho.drop law30 Try.underlying112 (kl_of hL) 0
  have ha' := ha.del (ho.tidy law30) hL hp
  have hk := kept_grown ht.grown
  exact ⟨w', hrun, ⟨h.lo, h.loM, h.ne, hk.cellOf h.c0 h.ne, _, own_size ho' ha'.size, ha'⟩, hk⟩
theorem Ix.len {w : World} {base X bm : Nat} {es : List (Lab × Int)} (h : Ix w base X bm es) (ty : TypeId) : (Builtin.len_ #[112] ty #[.map (some bm)]).run Try.prog w = .ok (.int .i64 es.length) w := by
  obtain ⟨D, ho, ha⟩ := h.own
  rw [ho.len Try.underlying112, ha.size]
theorem Ix.clear {w : World} {base X bm : Nat} (h : Ix w base X bm []) (ty : TypeId) : ∃ w', (Builtin.clear_ #[112] ty #[.map (some bm)]).run Try.prog w = .ok (.tuple #[]) w' ∧ Ix w' base X bm [] ∧ Kept (· = bm) w w' := by
  obtain ⟨D, ho, ha⟩ := h.own
  obtain ⟨es, clock, hb, F, hs, rfl⟩ := ho
  have hes : es = #[] := by simpa using hs
  subst hes
  refine ⟨Go.ChangeMaps.setBlock w bm (.map #[] clock), ?_, ?_, ?_⟩
  · simp [Builtin.clear_, run_underlying Try.underlying112, MapKept.run_getObj_map hb, MapKept.run_setObj_map _ hb, Result.andThen, Go.ChangeMaps.setBlock]
  · have hk : Kept (· = bm) w (Go.ChangeMaps.setBlock w bm (.map #[] clock)) := ⟨rfl, rfl, rfl, by simp [Go.ChangeMaps.setBlock], fun k _ hs => Go.ChangeMaps.heap_setBlock_other hb _ hs⟩
    exact ⟨h.lo, h.loM, h.ne, hk.cellOf h.c0 h.ne, _, ⟨#[], clock, Go.ChangeMaps.heap_setBlock_same hb _, F, hs, rfl⟩, ha⟩
  · exact ⟨rfl, rfl, rfl, by simp [Go.ChangeMaps.setBlock], fun k _ hs => Go.ChangeMaps.heap_setBlock_other hb _ hs⟩

theorem box_cells (w : World) (L : Lab) : (w.alloc (.cells (labCells L) 58)).cell? ⟨w.heap.size, 0, none⟩ = some (.string L.tag) ∧ (w.alloc (.cells (labCells L) 58)).cell? ⟨w.heap.size, 1, none⟩ = some (.string L.key) ∧ (w.alloc (.cells (labCells L) 58)).cell? ⟨w.heap.size, 2, none⟩ = some (.int .i64 L.n) :=
  ⟨cell_of_row _ _ _ _ _ (0, 0) (heap_alloc_new w _), cell_of_row _ _ _ _ _ (0, 0) (heap_alloc_new w _), cell_of_row _ _ _ _ _ (0, 0) (heap_alloc_new w _)⟩

/-- What get answers. -/
structure Look (es : List (Lab × Int)) (L : Lab) (n : Int) (b : Bool) : Prop where
  yes : b = true → (L, n) ∈ es
  no : b = false → L ∉ es.map Prod.fst ∧ n = 0
theorem Ix.look {w : World} {base X bm : Nat} {es : List (Lab × Int)} (h : Ix w base X bm es) {L : Lab} (hL : LWf L) {n : Int} {b : Bool} (hl : Look es L n b) : (Instr.lookup 112 (.map (some bm)) (labV L) true).run Try.prog w = .ok (.tuple #[.int .i64 n, .bool b]) w := by
  cases b with
  | true => exact h.look_yes (hl.yes rfl)
  | false => rw [(hl.no rfl).2]; exact h.look_no hL (hl.no rfl).1

set_option maxHeartbeats 2000000 in
theorem tget_any (base X bm : Nat) (es : List (Lab × Int)) (L : Lab) (n : Int) (b : Bool) (w : World) (h : Ix w base X bm es) (hL : LWf L) (hl : Look es L n b) :
    Calls Try.prog 82 #[.pointer (some ⟨X, 0, none⟩), labV L] w fun e w' => e = .returned (.tuple #[.int .i64 n, .bool b]) ∧ Below w.heap.size w w' := by
  obtain ⟨w1, hw1⟩ : ∃ w1, w1 = w.alloc (.cells (labCells L) 58) := ⟨_, rfl⟩
  have hb1 : Below w.heap.size w w1 := by rw [hw1]; exact lit_below _ _
  have h1 : Ix w1 base X bm es := h.below hb1
  have c0 := h1.c0
  obtain ⟨k1, k2, k3⟩ := box_cells w L
  rw [← hw1] at k1 k2 k3
  have hlk : ∀ q, (Instr.lookup 112 (.map (some bm)) (.agg #[.string L.tag, .string L.key, .int .i64 L.n]) true).run Try.prog (w1.drewN q) = .ok (.tuple #[.int .i64 n, .bool b]) (w1.drewN q) :=
    fun q => (h1.keep (kept_drewN w1 q (fun _ => False)) (fun h => h) (fun h => h)).look hL hl
  have HW := Lib.hid hw1
  clear hw1 h h1 hl
  go_enter Try.func82, Try.ntmps82
  go_wp2_with fail
  rw [← HW.out]
  go_wp2_with fail
  go_quiet (fail)
  go_wp2
  go_ret2
  exact ⟨rfl, hb1.trans (below_drewN _ _ _)⟩

set_option maxHeartbeats 4000000 in
theorem tput_old (base X bm : Nat) (es : List (Lab × Int)) (L : Lab) (n m : Int) (w : World) (h : Ix w base X bm es) (hL : LWf L) (hl : (L, m) ∈ es) :
    Calls Try.prog 86 #[.pointer (some ⟨X, 0, none⟩), labV L, .int .i64 n] w fun e w' => e = .returned (.bool false) ∧ Below w.heap.size w w' := by
  obtain ⟨w1, hw1⟩ : ∃ w1, w1 = w.alloc (.cells (labCells L) 58) := ⟨_, rfl⟩
  have hb1 : Below w.heap.size w w1 := by rw [hw1]; exact lit_below _ _
  have h1 : Ix w1 base X bm es := h.below hb1
  have c0 := h1.c0
  obtain ⟨k1, k2, k3⟩ := box_cells w L
  rw [← hw1] at k1 k2 k3
  have hlk : ∀ q, (Instr.lookup 112 (.map (some bm)) (.agg #[.string L.tag, .string L.key, .int .i64 L.n]) true).run Try.prog (w1.drewN q) = .ok (.tuple #[.int .i64 m, .bool true]) (w1.drewN q) :=
    fun q => (h1.keep (kept_drewN w1 q (fun _ => False)) (fun h => h) (fun h => h)).look_yes hl
  have HW := Lib.hid hw1
  clear hw1 h h1 hl
  go_enter Try.func86, Try.ntmps86
  go_wp2_with fail
  rw [← HW.out]
  go_wp2_with fail
  go_quiet (fail)
  go_wp2
  go_ret
  exact ⟨rfl, hb1.trans (below_drewN _ _ _)⟩


def PutYes (w : World) (base X bm : Nat) (es' : List (Lab × Int)) (e : Ending) (w' : World) : Prop := e = .returned (.bool true) ∧ Ix w' base X bm es' ∧ Kept (· = bm) w w'

set_option maxHeartbeats 4000000 in
theorem tput_new (base X bm : Nat) (es es' : List (Lab × Int)) (L : Lab) (n : Int) (w : World) (h : Ix w base X bm es) (hL : LWf L) (hn : wf64 n) (hl : L ∉ es.map Prod.fst) (hlen : es.length ≤ 1000000) (hp : es'.Perm ((L, n) :: es)) :
    Calls Try.prog 86 #[.pointer (some ⟨X, 0, none⟩), labV L, .int .i64 n] w (PutYes w base X bm es') := by
  obtain ⟨w1, hw1⟩ : ∃ w1, w1 = w.alloc (.cells (labCells L) 58) := ⟨_, rfl⟩
  have hb1 : Below w.heap.size w w1 := by rw [hw1]; exact lit_below _ _
  have h1 : Ix w1 base X bm es := h.below hb1
  have c0 := h1.c0
  obtain ⟨k1, k2, k3⟩ := box_cells w L
  rw [← hw1] at k1 k2 k3
  have hlk : ∀ q, (Instr.lookup 112 (.map (some bm)) (.agg #[.string L.tag, .string L.key, .int .i64 L.n]) true).run Try.prog (w1.drewN q) = .ok (.tuple #[.int .i64 0, .bool false]) (w1.drewN q) :=
    fun q => (h1.keep (kept_drewN w1 q (fun _ => False)) (fun h => h) (fun h => h)).look_no hL hl
  have q52 : ∀ (w : World) (r : Option Nat), (binOp .eql 112 (.map r) (.map none)).run Try.prog w = .ok (.bool r.isNone) w := fun w r => run_eql_map_nil w 112 58 3 r Try.underlying112
  have hnb : ¬ w.heap.size = bm := by have := h.ltM; omega
  have HW := Lib.hid hw1; have H1 := Lib.hid h1; have HNB := Lib.hid hnb
  clear hw1 h h1 hnb
  go_enter Try.func86, Try.ntmps86
  go_wp2_with fail
  rw [← HW.out]
  go_wp2_with fail
  go_quiet (fail)
  have h2 : Ix (w1.drewN nq) base X bm es := H1.out.keep (kept_drewN w1 nq (fun _ => False)) (fun h => h) (fun h => h)
  have c2 := h2.c0
  have j1 : (w1.drewN nq).cell? ⟨w.heap.size, 0, none⟩ = some (.string L.tag) := k1
  have j2 : (w1.drewN nq).cell? ⟨w.heap.size, 1, none⟩ = some (.string L.key) := k2
  have j3 : (w1.drewN nq).cell? ⟨w.heap.size, 2, none⟩ = some (.int .i64 L.n) := k3
  have hk2 : Kept (· = bm) w (w1.drewN nq) := (kept_below hb1 _).trans (kept_drewN _ _ _)
  generalize w1.drewN nq = w2 at h2 c2 j1 j2 j3 hk2 ⊢
  clear hlk c0 k1 k2 k3 hb1
  obtain ⟨w3, hst, h3, hk3⟩ := (h2.keep (kept_drew w2 (fun _ => False)) (fun h => h) (fun h => h)).store hL hn hl hlen hp
  have HK := Lib.hid (hk2.trans ((kept_drew w2 _).trans hk3)); have H3 := Lib.hid h3
  clear h2 h3 hk2 hk3
  go_wp2_with fail
  go_region
  go_wp2
  go_ret
  exact ⟨rfl, H3.out, HK.out⟩


/-! New, and the calls that lead to the table. -/
def NewPost (w : World) (e : Ending) (w' : World) : Prop := ∃ X bm, e = .returned (.pointer (some ⟨X, 0, none⟩)) ∧ Ix w' w.heap.size X bm [] ∧ Below w.heap.size w w'

theorem new_ix (w : World) : Ix ((w.alloc (.map #[] 0)).alloc (.cells #[.map (some w.heap.size)] 116)) w.heap.size (w.heap.size + 1) w.heap.size [] := by
  have ho := (World.ownsMap_made (H := Unit) w Try.prog 58 (plainElem Try.prog 3)).alloc (.cells #[.map (some w.heap.size)] 116)
  have hs : (w.alloc (.map #[] 0)).heap.size = w.heap.size + 1 := by simp
  have hb := heap_alloc_new (w.alloc (.map #[] 0)) (.cells #[.map (some w.heap.size)] 116)
  rw [hs] at hb
  exact ⟨by omega, by omega, by omega, cell_of_row _ _ _ _ _ (0, 0) hb, _, ho, agree_nil⟩

set_option maxHeartbeats 1000000 in
theorem new_any (n : Int) (w : World) : Calls Try.prog 80 #[.int .i64 n] w (NewPost w) := by
  have hb : Below w.heap.size w ((w.alloc (.map #[] 0)).alloc (.cells #[.map (some w.heap.size)] 116)) := ((Below.refl _ _).alloc (Nat.le_refl _) _).alloc (by simp) _
  have hix := new_ix w
  have H := Lib.hid hix; have HB := Lib.hid hb
  clear hix hb
  have hmk : ∀ (W : World) (x : Int), (Instr.makeMap 112 (some (.int .i64 x))).run Try.prog W = .ok (.map (some W.heap.size)) (W.alloc (.map #[] 0)) := by
    intro W x
    simp [Instr.makeMap, asInt, asIntOf, Result.andThen]
  go_enter Try.func80, Try.ntmps80
  go_wp2
  all_goals
    go_ret
    exact ⟨_, _, rfl, H.out, HB.out⟩


theorem box_kept {w w' : World} {L : Lab} {B : Nat} {S : Nat → Prop} (hk : Kept S w w') (hs : ¬ S B) (h : w.cell? ⟨B, 0, none⟩ = some (.string L.tag) ∧ w.cell? ⟨B, 1, none⟩ = some (.string L.key) ∧ w.cell? ⟨B, 2, none⟩ = some (.int .i64 L.n)) :
    w'.cell? ⟨B, 0, none⟩ = some (.string L.tag) ∧ w'.cell? ⟨B, 1, none⟩ = some (.string L.key) ∧ w'.cell? ⟨B, 2, none⟩ = some (.int .i64 L.n) := ⟨hk.cellOf h.1 hs, hk.cellOf h.2.1 hs, hk.cellOf h.2.2 hs⟩


set_option maxHeartbeats 4000000 in
theorem put_old (base X bm : Nat) (es : List (Lab × Int)) (L : Lab) (n m : Int) (w : World) (h : Ix w base X bm es) (hL : LWf L) (hl : (L, m) ∈ es) :
    Calls Try.prog 81 #[.pointer (some ⟨X, 0, none⟩), labV L, .int .i64 n] w fun e w' => e = .returned (.bool false) ∧ Below w.heap.size w w' := by
  obtain ⟨w1, hw1⟩ : ∃ w1, w1 = w.alloc (.cells (labCells L) 58) := ⟨_, rfl⟩
  have hb1 : Below w.heap.size w w1 := by rw [hw1]; exact lit_below _ _
  have h1 : Ix w1 base X bm es := h.below hb1
  obtain ⟨k1, k2, k3⟩ := box_cells w L
  have hsz : w.heap.size < w1.heap.size := by rw [hw1]; simp
  rw [← hw1] at k1 k2 k3
  have hc := tput_old base X bm es L n m w1.drew (h1.keep (kept_drew w1 (fun _ => False)) (fun h => h) (fun h => h)) hL hl
  have HC := Lib.hid hc
  have HW := Lib.hid hw1
  clear hw1 h h1 hl hc
  go_enter Try.func81, Try.ntmps81
  go_wp2_with fail
  rw [← HW.out]
  go_wp2_with fail
  go_region_held3 (fun w' => w'.cell? ⟨w.heap.size, 0, none⟩ = some (.string L.tag) ∧ w'.cell? ⟨w.heap.size, 1, none⟩ = some (.string L.key) ∧ w'.cell? ⟨w.heap.size, 2, none⟩ = some (.int .i64 L.n))
    (first
      | go_keep
      | (go_split_ands
         exact box_kept (L := L) (S := fun _ => False) ((kept_drew w1 _).trans (kept_below hb2 _)) (fun h => h) ⟨k1, k2, k3⟩))
    ((go_at_call 86; refine HC.out.mono ?_; rintro e w2 ⟨rfl, hb2⟩))
  go_wp2
  go_ret
  exact ⟨rfl, hb1.trans ((below_drewN _ w1 1).trans (hb2.mono hb1.size))⟩

set_option maxHeartbeats 4000000 in
theorem put_new (base X bm : Nat) (es es' : List (Lab × Int)) (L : Lab) (n : Int) (w : World) (h : Ix w base X bm es) (hL : LWf L) (hn : wf64 n) (hl : L ∉ es.map Prod.fst) (hlen : es.length ≤ 1000000) (hp : es'.Perm ((L, n) :: es)) :
    Calls Try.prog 81 #[.pointer (some ⟨X, 0, none⟩), labV L, .int .i64 n] w (PutYes w base X bm es') := by
  obtain ⟨w1, hw1⟩ : ∃ w1, w1 = w.alloc (.cells (labCells L) 58) := ⟨_, rfl⟩
  have hb1 : Below w.heap.size w w1 := by rw [hw1]; exact lit_below _ _
  have h1 : Ix w1 base X bm es := h.below hb1
  obtain ⟨k1, k2, k3⟩ := box_cells w L
  have hnb : ¬ w.heap.size = bm := by have := h.ltM; omega
  rw [← hw1] at k1 k2 k3
  have h1d := h1.keep (kept_drew w1 (fun _ => False)) (fun h => h) (fun h => h)
  have hc := tput_new base X bm es es' L n w1.drew h1d hL hn hl hlen hp
  have HC := Lib.hid hc
  have HW := Lib.hid hw1
  clear hw1 h h1 h1d hc
  go_enter Try.func81, Try.ntmps81
  go_wp2_with fail
  rw [← HW.out]
  go_wp2_with fail
  go_region_held3 (fun w' => w'.cell? ⟨w.heap.size, 0, none⟩ = some (.string L.tag) ∧ w'.cell? ⟨w.heap.size, 1, none⟩ = some (.string L.key) ∧ w'.cell? ⟨w.heap.size, 2, none⟩ = some (.int .i64 L.n))
    (first
      | go_keep
      | (go_split_ands
         exact box_kept (L := L) ((kept_drew w1 _).trans hk2) hnb ⟨k1, k2, k3⟩))
    ((go_at_call 86; refine HC.out.mono ?_; rintro e w2 ⟨rfl, h2, hk2⟩))
  go_wp2
  go_ret
  exact ⟨rfl, h2, (kept_below hb1 _).trans ((kept_drew w1 _).trans hk2)⟩

set_option maxHeartbeats 4000000 in
theorem get_any (base X bm : Nat) (es : List (Lab × Int)) (L : Lab) (n : Int) (b : Bool) (w : World) (h : Ix w base X bm es) (hL : LWf L) (hl : Look es L n b) :
    Calls Try.prog 71 #[.pointer (some ⟨X, 0, none⟩), labV L] w fun e w' => e = .returned (.tuple #[.int .i64 n, .bool b]) ∧ Below w.heap.size w w' := by
  obtain ⟨w1, hw1⟩ : ∃ w1, w1 = w.alloc (.cells (labCells L) 58) := ⟨_, rfl⟩
  have hb1 : Below w.heap.size w w1 := by rw [hw1]; exact lit_below _ _
  have h1 : Ix w1 base X bm es := h.below hb1
  obtain ⟨k1, k2, k3⟩ := box_cells w L
  have hnb : ¬ w.heap.size = bm := by have := h.ltM; omega
  rw [← hw1] at k1 k2 k3
  have h1d := h1.keep (kept_drew w1 (fun _ => False)) (fun h => h) (fun h => h)
  have hc := tget_any base X bm es L n b w1.drew h1d hL hl
  have HC := Lib.hid hc
  have HW := Lib.hid hw1
  clear hw1 h h1 h1d hc
  go_enter Try.func71, Try.ntmps71
  go_wp2_with fail
  rw [← HW.out]
  go_wp2_with fail
  go_region_held3 (fun w' => w'.cell? ⟨w.heap.size, 0, none⟩ = some (.string L.tag) ∧ w'.cell? ⟨w.heap.size, 1, none⟩ = some (.string L.key) ∧ w'.cell? ⟨w.heap.size, 2, none⟩ = some (.int .i64 L.n))
    (first
      | go_keep
      | (go_split_ands
         exact box_kept (L := L) (S := fun _ => False) ((kept_drew w1 _).trans (kept_below hb2 _)) (fun h => h) ⟨k1, k2, k3⟩))
    ((go_at_call 82; refine HC.out.mono ?_; rintro e w2 ⟨rfl, hb2⟩))
  go_wp2
  go_ret2
  exact ⟨rfl, hb1.trans ((below_drewN _ w1 1).trans (hb2.mono hb1.size))⟩

/-- A slice of labels. -/
abbrev noLab : Lab := ⟨ByteArray.empty, ByteArray.empty, 0⟩

def LRow (w : World) (B : Nat) (A : Option Addr) (ls : List Lab) : Prop :=
  0 < ls.length → ∃ b off, A = some ⟨b, off, none⟩ ∧ b < B ∧ ∀ j, (hj : j < ls.length) → w.cell? ⟨b, off + j * 3, none⟩ = some (.string ls[j].tag) ∧ w.cell? ⟨b, off + j * 3 + 1, none⟩ = some (.string ls[j].key) ∧ w.cell? ⟨b, off + j * 3 + 2, none⟩ = some (.int .i64 ls[j].n)

theorem lrow_at {w : World} {B : Nat} {A : Option Addr} {ls : List Lab} (h : LRow w B A ls) {j : Nat} (hj : j < ls.length) :
    ∃ b off L, A = some ⟨b, off, none⟩ ∧ b < B ∧ L = ls[j] ∧ w.cell? ⟨b, off + j * 3, none⟩ = some (.string L.tag) ∧ w.cell? ⟨b, off + j * 3 + 1, none⟩ = some (.string L.key) ∧ w.cell? ⟨b, off + j * 3 + 2, none⟩ = some (.int .i64 L.n) := by
  obtain ⟨b, off, hA, hb, hc⟩ := h (by omega)
  exact ⟨b, off, _, hA, hb, rfl, hc j hj⟩

theorem LRow.below {w w' : World} {B : Nat} {A : Option Addr} {ls : List Lab} (h : LRow w B A ls) (hb : Below B w w') : LRow w' B A ls := by
  intro h0
  obtain ⟨b, off, hA, hlt, hc⟩ := h h0
  exact ⟨b, off, hA, hlt, fun j hj => ⟨(hb.cell (p := ⟨b, off + j * 3, none⟩) hlt).trans (hc j hj).1, (hb.cell (p := ⟨b, off + j * 3 + 1, none⟩) hlt).trans (hc j hj).2.1, (hb.cell (p := ⟨b, off + j * 3 + 2, none⟩) hlt).trans (hc j hj).2.2⟩⟩

theorem LRow.mono {w : World} {B B' : Nat} {A : Option Addr} {ls : List Lab} (h : LRow w B A ls) (hb : B ≤ B') : LRow w B' A ls := by
  intro h0
  obtain ⟨b, off, hA, hlt, hc⟩ := h h0
  exact ⟨b, off, hA, by omega, hc⟩

theorem LRow.up {w w' : World} {A : Option Addr} {ls : List Lab} (h : LRow w w.heap.size A ls) (hb : Below w.heap.size w w') : LRow w' w'.heap.size A ls := (h.below hb).mono hb.size


/-- Each label with the place at which it stands first, of the first k. -/
def ofL (ls : List Lab) : Nat → List (Lab × Int)
  | 0 => []
  | k + 1 => if (ls.getD k noLab) ∈ (ofL ls k).map Prod.fst then ofL ls k else ofL ls k ++ [(ls.getD k noLab, (k : Int))]

theorem ofL_len (ls : List Lab) (k : Nat) : (ofL ls k).length ≤ k := by
  induction k with
  | zero => simp [ofL]
  | succ k ih =>
    simp only [ofL]
    split
    · omega
    · simp; omega

theorem ofL_old {ls : List Lab} {k : Nat} (hk : k < ls.length) (h : ls[k] ∈ (ofL ls k).map Prod.fst) : ofL ls (k + 1) = ofL ls k := by
  have e : ls.getD k noLab = ls[k] := by simp [List.getD_eq_getElem?_getD, hk]
  simp only [ofL, e]
  rw [if_pos h]

theorem ofL_new {ls : List Lab} {k : Nat} (hk : k < ls.length) (h : ls[k] ∉ (ofL ls k).map Prod.fst) : ofL ls (k + 1) = ofL ls k ++ [(ls[k], (k : Int))] := by
  have e : ls.getD k noLab = ls[k] := by simp [List.getD_eq_getElem?_getD, hk]
  simp only [ofL, e]
  rw [if_neg h]

theorem wf_nat {k : Nat} (h : k ≤ 1000000) : wf64 (k : Int) := by
  unfold wf64
  simp [Lit.wf, IntKind.min, IntKind.max, IntKind.signed, IntKind.bits]
  omega

def IxMade (w : World) (es : List (Lab × Int)) (e : Ending) (w' : World) : Prop := ∃ X bm, e = .returned (.pointer (some ⟨X, 0, none⟩)) ∧ Ix w' w.heap.size X bm es ∧ Below w.heap.size w w'

def OfRel (w : World) (X bm : Nat) (ls : List Lab) (i : Value) (wr : World) : Prop := ∃ k : Nat, k ≤ ls.length ∧ i = .int .i64 k ∧ Ix wr w.heap.size X bm (ofL ls k) ∧ Below w.heap.size w wr


set_option maxRecDepth 100000 in
set_option maxHeartbeats 4000000 in
theorem of_any (A : Option Addr) (c : Nat) (ls : List Lab) (w : World) (hr : LRow w w.heap.size A ls) (hl : ls.length ≤ 1000000) (hwf : ∀ L ∈ ls, LWf L) :
    Calls Try.prog 70 #[.slice A ls.length c] w (IxMade w (ofL ls ls.length)) := by
  have HF := Lib.hid hwf
  clear hwf
  go_enter Try.func70, Try.ntmps70
  go_wp2_with fail
  refine (new_any _ w).mono ?_
  rintro e w1 ⟨X, bm, rfl, hix, hb1⟩
  go_wp2_with fail
  go_loopw [11] (OfRel w X bm ls) (fun i _ => ls.length - (intOf i).toNat)
  case atStart => exact ⟨0, by omega, rfl, hix, hb1⟩
  case round =>
    clear hix hb1
    obtain ⟨k, hk, rfl, hix, hbel⟩ := hrel
    have hol := ofL_len ls k
    by_cases hlt : k < ls.length
    · obtain ⟨b, off, L, rfl, hb, hL, d1, d2, d3⟩ := lrow_at (hr.below hbel) hlt
      have hLw : LWf L := by rw [hL]; exact HF.out _ (List.getElem_mem _)
      obtain ⟨w2, hw2⟩ : ∃ w2, w2 = wr.alloc (.cells (labCells L) 58) := ⟨_, rfl⟩
      have hb2 : Below wr.heap.size wr w2 := by rw [hw2]; exact lit_below _ _
      have h2 := hix.below hb2
      obtain ⟨k1, k2, k3⟩ := box_cells wr L
      rw [← hw2] at k1 k2 k3
      have hbw2 : Below w.heap.size w w2 := hbel.trans (hb2.mono hbel.size)
      have HL := Lib.hid hL; have HW := Lib.hid hw2; have H2 := Lib.hid h2; have HIX := Lib.hid hix
      clear hL hw2 h2 hix hb2
      by_cases hm : L ∈ (ofL ls k).map Prod.fst
      · obtain ⟨p, hp, hpe⟩ := List.mem_map.1 hm
        obtain ⟨pl, pm⟩ := p
        have hpe' : pl = L := hpe
        subst hpe'
        have HS := Lib.hid (ofL_old hlt (by rw [← HL.out]; exact hm))
        clear hpe hm
        go_wp2_with fail
        rw [← HW.out]
        refine (put_old w.heap.size X bm (ofL ls k) pl (k : Int) pm w2 H2.out hLw hp).mono ?_
        rintro e w3 ⟨rfl, hb3⟩
        go_wp2_with fail
        exact ⟨⟨k + 1, by omega, by go_num, by rw [HS.out]; exact H2.out.below hb3, hbw2.trans (hb3.mono hbw2.size)⟩, by simp [intOf]; omega⟩
      · have HS := Lib.hid (ofL_new hlt (by rw [← HL.out]; exact hm))
        go_wp2_with fail
        rw [← HW.out]
        refine (put_new w.heap.size X bm (ofL ls k) (ofL ls k ++ [(L, (k : Int))]) L (k : Int) w2 H2.out hLw (wf_nat (by omega)) hm (by omega) (List.perm_append_singleton _ _)).mono ?_
        rintro e w3 ⟨rfl, h3, hk3⟩
        go_wp2_with fail
        exact ⟨⟨k + 1, by omega, by go_num, by rw [HS.out, ← HL.out]; exact h3, hbw2.trans (hk3.below hbw2.size (fun j hj => by have : j = bm := hj; rw [this]; exact H2.out.loM))⟩, by simp [intOf]; omega⟩
    · obtain rfl : k = ls.length := by omega
      have HIX := Lib.hid hix
      clear hix
      go_wp2_with fail
      go_ret
      exact ⟨X, bm, rfl, HIX.out, hbel⟩


end Go.Proofs.Ytlkdklpglmglkaa.K
