/-
  A tree in memory: its cells, its attributes, its kids; a set of keys; what a call may turn.
-/
import Derived.Test.YtlkdklpglmglkaaCheck
import Derived.Maps.OwnSet
import Derived.StringKeys
import Derived.Laws.AppendOwnNone
namespace Go.Proofs.Ytlkdklpglmglkaa
open Go.RowKit Go.Sort
set_option linter.unusedVariables false
set_option maxRecDepth 100000

structure Kept (S : Nat → Prop) (w w' : World) : Prop where
  os : w'.os = w.os
  tape : w'.tape = w.tape
  output : w'.output = w.output
  size : w.heap.size ≤ w'.heap.size
  block : ∀ k, k < w.heap.size → ¬ S k → w'.heap[k]? = w.heap[k]?
theorem Kept.refl (S : Nat → Prop) (w : World) : Kept S w w := ⟨rfl, rfl, rfl, Nat.le_refl _, fun _ _ _ => rfl⟩
theorem Kept.trans {S : Nat → Prop} {a b c : World} (h : Kept S a b) (k : Kept S b c) : Kept S a c :=
  ⟨k.os.trans h.os, k.tape.trans h.tape, k.output.trans h.output, Nat.le_trans h.size k.size, fun i hi hs => (k.block i (Nat.lt_of_lt_of_le hi h.size) hs).trans (h.block i hi hs)⟩
theorem Kept.trans' {S T : Nat → Prop} {a b c : World} (h : Kept S a b) (k : Kept T b c) (hT : ∀ i, i < a.heap.size → T i → S i) : Kept S a c :=
  ⟨k.os.trans h.os, k.tape.trans h.tape, k.output.trans h.output, Nat.le_trans h.size k.size, fun i hi hs => (k.block i (Nat.lt_of_lt_of_le hi h.size) (fun ht => hs (hT i hi ht))).trans (h.block i hi hs)⟩
theorem Kept.mono {S T : Nat → Prop} {w w' : World} (h : Kept S w w') (hS : ∀ k, k < w.heap.size → S k → T k) : Kept T w w' := ⟨h.os, h.tape, h.output, h.size, fun k hk ht => h.block k hk (fun hs => ht (hS k hk hs))⟩
theorem Kept.below {S : Nat → Prop} {w w' : World} (h : Kept S w w') {B : Nat} (hB : B ≤ w.heap.size) (hS : ∀ k, S k → B ≤ k) : Below B w w' :=
  ⟨h.os, h.tape, h.output, h.size, fun k hk => h.block k (by omega) (fun hs => by have := hS k hs; omega)⟩
theorem kept_below {w w' : World} (h : Below w.heap.size w w') (S : Nat → Prop) : Kept S w w' := ⟨h.os, h.tape, h.output, h.size, fun k hk _ => h.block k hk⟩
theorem kept_alloc (w : World) (o : Obj) (S : Nat → Prop) : Kept S w (w.alloc o) := kept_below ((Below.refl _ _).alloc (Nat.le_refl _) _) S
theorem kept_setCell (w : World) (a : Addr) (u : Value) : Kept (· = a.block) w (w.setCell a u) := by
  have hb : Below a.block w (w.setCell a u) := (Below.refl _ w).setCell (Nat.le_refl _) u
  exact ⟨hb.os, hb.tape, hb.output, hb.size, fun k hk hs => Below.heap_setCell w a u k hs⟩
theorem kept_grown {w w' : World} {row : Option Nat} (hg : w.grownBy w' row) : Kept (fun k => some k = row) w w' :=
  ⟨hg.os, hg.tape, hg.output, hg.size, fun k hk hs => hg.block k hk hs⟩
theorem Kept.cell {S : Nat → Prop} {w w' : World} (h : Kept S w w') {a : Addr} (ha : a.block < w.heap.size) (hs : ¬ S a.block) : w'.cell? a = w.cell? a := World.cell?_of_block (h.block a.block ha hs)
theorem Kept.cellOf {S : Nat → Prop} {w w' : World} (h : Kept S w w') {a : Addr} {v : Value} (hc : w.cell? a = some v) (hs : ¬ S a.block) : w'.cell? a = some v := (h.cell (World.block_lt_of_cell? w _ hc) hs).trans hc
theorem Kept.frozen {S : Nat → Prop} {w w' : World} (h : Kept S w w') {a : Addr} (ha : a.block < w.heap.size) (hs : ¬ S a.block) : w'.frozen? a = w.frozen? a := World.frozen?_of_block (h.block a.block ha hs)

/-- Where a node's two slices lie. -/
structure NV where
  A : Option Addr
  ca : Nat
  K : Option Addr
  ck : Nat
structure KidCells (w : World) (b o : Nat) (t : Tr) (x : NV) : Prop where
  c0 : w.cell? ⟨b, o, none⟩ = some (.string t.tag)
  c1 : w.cell? ⟨b, o + 1, none⟩ = some (.string t.key)
  c2 : w.cell? ⟨b, o + 2, none⟩ = some (.string t.text)
  c3 : w.cell? ⟨b, o + 3, none⟩ = some (.slice x.A t.as.length x.ca)
  c4 : w.cell? ⟨b, o + 4, none⟩ = some (.slice x.K t.kids.length x.ck)
def nodeCells (t : Tr) (x : NV) : List Value := [.string t.tag, .string t.key, .string t.text, .slice x.A t.as.length x.ca, .slice x.K t.kids.length x.ck]
theorem KidCells.block_lt {w : World} {b o : Nat} {t : Tr} {x : NV} (h : KidCells w b o t x) : b < w.heap.size := World.block_lt_of_cell? w _ h.c0
theorem KidCells.kept {w w' : World} {b o : Nat} {t : Tr} {x : NV} (h : KidCells w b o t x) {S : Nat → Prop} (hk : Kept S w w') (hs : ¬ S b) : KidCells w' b o t x := ⟨hk.cellOf h.c0 hs, hk.cellOf h.c1 hs, hk.cellOf h.c2 hs, hk.cellOf h.c3 hs, hk.cellOf h.c4 hs⟩
theorem KidCells.below {w w' : World} {B b o : Nat} {t : Tr} {x : NV} (h : KidCells w b o t x) (hb : Below B w w') (hlt : b < B) : KidCells w' b o t x :=
  ⟨(hb.cell (p := ⟨b, o, none⟩) hlt).trans h.c0, (hb.cell (p := ⟨b, o + 1, none⟩) hlt).trans h.c1, (hb.cell (p := ⟨b, o + 2, none⟩) hlt).trans h.c2, (hb.cell (p := ⟨b, o + 3, none⟩) hlt).trans h.c3, (hb.cell (p := ⟨b, o + 4, none⟩) hlt).trans h.c4⟩
/-- A struct of a node, laid in a block of its own. -/
theorem box_node (w : World) (t : Tr) (x : NV) : KidCells (w.alloc (.cells #[.string t.tag, .string t.key, .string t.text, .slice x.A t.as.length x.ca, .slice x.K t.kids.length x.ck] 25)) w.heap.size 0 t x := by
  have e : ∀ j, (w.alloc (.cells #[.string t.tag, .string t.key, .string t.text, .slice x.A t.as.length x.ca, .slice x.K t.kids.length x.ck] 25)).cell? ⟨w.heap.size, j, none⟩ = (#[.string t.tag, .string t.key, .string t.text, .slice x.A t.as.length x.ca, .slice x.K t.kids.length x.ck] : Array Value)[j]? := fun j => cell_of_row _ _ _ _ _ (0, 0) (heap_alloc_new w _)
  exact ⟨by rw [e]; rfl, by rw [e]; rfl, by rw [e]; rfl, by rw [e]; rfl, by rw [e]; rfl⟩
/-- A tree whose two slices lie at x, all its memory below B. -/
inductive TreeAt (w : World) (B : Nat) : Tr → NV → Prop
  | mk {t : Tr} {x : NV} (X : Nat → NV) (att : TRow w B x.A t.as) (h1 : t.as.length ≤ x.ca) (h2 : x.ca ≤ maxLen) (h3 : x.A = none → x.ca = 0) (h4 : t.kids.length ≤ x.ck) (h5 : x.ck ≤ maxLen) (h6 : x.K = none → x.ck = 0)
      (row : 0 < t.kids.length → ∃ b off, x.K = some ⟨b, off, none⟩ ∧ b < B ∧ ∀ j, (h : j < t.kids.length) → KidCells w b (off + j * 5) t.kids[j] (X j))
      (sub : ∀ j, (h : j < t.kids.length) → TreeAt w B t.kids[j] (X j)) : TreeAt w B t x
theorem TreeAt.keepB {w w' : World} {B : Nat} {t : Tr} {x : NV} (h : TreeAt w B t x) (hb : Below B w w') : TreeAt w' B t x := by
  induction h with
  | mk X att h1 h2 h3 h4 h5 h6 row sub ih =>
    refine .mk X (att.below hb) h1 h2 h3 h4 h5 h6 (fun h0 => ?_) ih
    obtain ⟨b, off, hK, hlt, hc⟩ := row h0
    exact ⟨b, off, hK, hlt, fun j hj => (hc j hj).below hb hlt⟩
theorem TreeAt.mono {w : World} {B B' : Nat} {t : Tr} {x : NV} (h : TreeAt w B t x) (hB : B ≤ B') : TreeAt w B' t x := by
  induction h with
  | mk X att h1 h2 h3 h4 h5 h6 row sub ih =>
    refine .mk X (att.mono hB) h1 h2 h3 h4 h5 h6 (fun h0 => ?_) ih
    obtain ⟨b, off, hK, hlt, hc⟩ := row h0
    exact ⟨b, off, hK, by omega, hc⟩
theorem TreeAt.up {w w' : World} {t : Tr} {x : NV} (h : TreeAt w w.heap.size t x) (hb : Below w.heap.size w w') : TreeAt w' w'.heap.size t x := (h.keepB hb).mono hb.size
theorem TreeAt.att {w : World} {B : Nat} {t : Tr} {x : NV} (h : TreeAt w B t x) : TRow w B x.A t.as := by cases h; assumption
theorem TreeAt.caps {w : World} {B : Nat} {t : Tr} {x : NV} (h : TreeAt w B t x) : t.as.length ≤ x.ca ∧ x.ca ≤ maxLen ∧ (x.A = none → x.ca = 0) ∧ t.kids.length ≤ x.ck ∧ x.ck ≤ maxLen ∧ (x.K = none → x.ck = 0) := by cases h; exact ⟨by assumption, by assumption, by assumption, by assumption, by assumption, by assumption⟩
theorem TreeAt.kid {w : World} {B : Nat} {t : Tr} {x : NV} (h : TreeAt w B t x) {j : Nat} (hj : j < t.kids.length) :
    ∃ b off k y, x.K = some ⟨b, off, none⟩ ∧ b < B ∧ k = t.kids[j] ∧ KidCells w b (off + j * 5) k y ∧ TreeAt w B k y := by
  cases h with
  | mk X att h1 h2 h3 h4 h5 h6 row sub =>
    obtain ⟨b, off, hK, hlt, hc⟩ := row (by omega)
    exact ⟨b, off, _, X j, hK, hlt, rfl, hc j hj, sub j hj⟩
inductive GoodT : Tr → Prop
  | mk {t : Tr} (h1 : t.tag.size ≤ maxLen) (h2 : t.key.size ≤ 100000000) (h3 : t.text.size ≤ 100000000) (h4 : t.as.length ≤ 1000000) (h5 : Short t.as) (h6 : t.kids.length ≤ 1000000) (sub : ∀ k ∈ t.kids, GoodT k) : GoodT t
theorem GoodT.kid {t : Tr} (h : GoodT t) {k : Tr} {j : Nat} (hj : j < t.kids.length) (hk : k = t.kids[j]) : GoodT k := by
  cases h with
  | mk h1 h2 h3 h4 h5 h6 sub => rw [hk]; exact sub _ (List.getElem_mem _)
theorem GoodT.sizes {t : Tr} (h : GoodT t) : t.tag.size ≤ maxLen ∧ t.key.size ≤ 100000000 ∧ t.text.size ≤ 100000000 ∧ t.as.length ≤ 1000000 ∧ Short t.as ∧ t.kids.length ≤ 1000000 := by
  cases h with
  | mk h1 h2 h3 h4 h5 h6 sub => exact ⟨h1, h2, h3, h4, h5, h6⟩
theorem tr_ind {P : Tr → Prop} (h : ∀ t, (∀ k ∈ t.kids, P k) → P t) : ∀ t, P t
  | .mk a b c s ks => h _ (fun k hk => tr_ind h k)
decreasing_by
  simp_wf
  have := List.sizeOf_lt_of_mem hk
  simp only [Tr.kids] at this
  omega
open Classical in
noncomputable def attE (l : List At) : Int := if h : ∃ e, ∃ a, CheckP l a e then h.choose else 0
theorem attE_of {l : List At} {a e : Int} (h : CheckP l a e) : e = attE l := by
  have hx : ∃ e, ∃ a, CheckP l a e := ⟨e, a, h⟩
  unfold attE
  rw [dif_pos hx]
  obtain ⟨a', h'⟩ := hx.choose_spec
  exact (checkP_unique h h').2
noncomputable def aloneT (t : Tr) : Int := if wfB tagB t.tag = false then 7 else if 65536 < t.key.size ∨ 65536 < t.text.size then 3 else attE t.as

/-- A set of keys: a table of its own. -/
def KSet (w : World) (b n : Nat) (S : ByteArray → Prop) : Prop := ∃ D, w.ownsMap Try.prog 9 (unitElem (H := Unit)) b n D ∧ ∀ k : ByteArray, k.size ≤ maxLen → (Maps.has D (.string k.data.toList) = true ↔ S k)
theorem law9 : Maps.Keyed Try.prog 9 := Maps.string_keyed Try.underlying9
theorem str_inj {a b : ByteArray} (h : a.data.toList = b.data.toList) : a = b := by
  obtain ⟨⟨la⟩⟩ := a
  obtain ⟨⟨lb⟩⟩ := b
  simp at h
  rw [h]
theorem keep_map {w w' : World} {b n : Nat} {D : DataW Unit} (h : w.ownsMap Try.prog 9 (unitElem (H := Unit)) b n D) {S : Nat → Prop} (hk : Kept S w w') (hs : ¬ S b) : w'.ownsMap Try.prog 9 (unitElem (H := Unit)) b n D := by
  have hlt := h.lt
  obtain ⟨es, clock, hb, F, h1, rfl⟩ := h
  exact ⟨es, clock, (hk.block b hlt hs).trans hb, F, h1, rfl⟩
theorem KSet.keep {w w' : World} {b n : Nat} {Q : ByteArray → Prop} (h : KSet w b n Q) {S : Nat → Prop} (hk : Kept S w w') (hs : ¬ S b) : KSet w' b n Q := by
  obtain ⟨D, h1, h2⟩ := h
  exact ⟨D, keep_map h1 hk hs, h2⟩
theorem KSet.lt {w : World} {b n : Nat} {Q : ByteArray → Prop} (h : KSet w b n Q) : b < w.heap.size := by
  obtain ⟨D, h1, h2⟩ := h
  exact h1.lt
theorem KSet.new (w : World) : KSet (w.alloc (.map #[] 0)) w.heap.size 0 (fun _ => False) := ⟨_, World.ownsMap_made w _ _ _, fun k _ => by simp [Maps.has]⟩
theorem KSet.imp {w : World} {b n n' : Nat} {Q Q' : ByteArray → Prop} (h : KSet w b n Q) (hq : ∀ k, Q k ↔ Q' k) (hn : n ≤ n') : KSet w b n' Q' := by
  obtain ⟨D, h1, h2⟩ := h
  exact ⟨D, h1.mono hn, fun k hk => (h2 k hk).trans (hq k)⟩
theorem zero103 (w : World) : (zeroValue 103).run Try.prog w = .ok (.agg #[]) w := by kernel_rfl
theorem KSet.look {w : World} {b n : Nat} {Q : ByteArray → Prop} (h : KSet w b n Q) (k : ByteArray) (hk : k.size ≤ maxLen) : ∃ r : Bool, (r = true ↔ Q k) ∧ (Instr.lookup 100 (.map (some b)) (.string k) true).run Try.prog w = .ok (.tuple #[.agg #[], .bool r]) w := by
  obtain ⟨D, h1, h2⟩ := h
  obtain ⟨v, ps, hrun, hv⟩ := h1.look_ok law9 Try.underlying100 (zero103 w) unitElem_mk (WideMaps.keyOf_string_mk Try.underlying9 hk)
  obtain ⟨rfl, -⟩ := unitElem_inv hv
  exact ⟨_, h2 k hk, hrun⟩
theorem KSet.store {w : World} {b n : Nat} {Q : ByteArray → Prop} (h : KSet w b n Q) (k : ByteArray) (hk : k.size ≤ maxLen) (hn : n < maxLen) :
    ∃ w', (Instr.mapUpdate 100 (.map (some b)) (.string k) (.agg #[])).run Try.prog w = .ok () w' ∧ KSet w' b (n + 1) (fun x => Q x ∨ k = x) ∧ Kept (· = b) w w' := by
  obtain ⟨D, h1, h2⟩ := h
  have hkey := WideMaps.keyOf_string_mk (k := 9) Try.underlying9 hk
  obtain ⟨w', hrun, ho', ht⟩ := h1.store law9 Try.underlying100 hn hkey unitElem_mk
  refine ⟨w', hrun, ⟨_, ho', fun x hx => ?_⟩, (kept_grown ht.grown).mono (fun i _ hi => by simpa using hi)⟩
  have hkl : WideAt.IsKeyLit (.string k.data.toList) := law9.key hkey
  by_cases e : k = x
  · subst e
    rw [Maps.has_put_same h1.isMap hkl]
    simp
  · rw [Maps.has_put_other (fun e' => e (str_inj (by simpa using e'.symm))), h2 x hx]
    simp [e]
end Go.Proofs.Ytlkdklpglmglkaa
