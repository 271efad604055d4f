/-
  What a call may turn: every block but those of a set stays as it was. Rows at a known block.
-/
import Derived.Test.YtlpjjnpafmakhaaBase
namespace Go.Proofs.Ytlpjjnpafmakhaa
open Go.RowKit
set_option linter.unusedVariables false

structure Kept (S : Nat → Prop) (w w' : World) : Prop where
  os : w'.os = w.os
  tape : w'.tape = w.tape
  output : w'.output = w.output
  size : w.heap.size ≤ w'.heap.size
  block : ∀ k, k < w.heap.size → ¬ S k → w'.heap[k]? = w.heap[k]?

theorem Kept.refl (S : Nat → Prop) (w : World) : Kept S w w := ⟨rfl, rfl, rfl, Nat.le_refl _, fun _ _ _ => rfl⟩
theorem Kept.trans {S : Nat → Prop} {a b c : World} (h : Kept S a b) (k : Kept S b c) : Kept S a c :=
  ⟨k.os.trans h.os, k.tape.trans h.tape, k.output.trans h.output, Nat.le_trans h.size k.size, fun i hi hs => (k.block i (Nat.lt_of_lt_of_le hi h.size) hs).trans (h.block i hi hs)⟩
theorem Kept.mono {S T : Nat → Prop} {w w' : World} (h : Kept S w w') (hS : ∀ k, S k → T k) : Kept T w w' := ⟨h.os, h.tape, h.output, h.size, fun k hk ht => h.block k hk (fun hs => ht (hS k hs))⟩
theorem Kept.below {S : Nat → Prop} {w w' : World} (h : Kept S w w') {B : Nat} (hB : B ≤ w.heap.size) (hS : ∀ k, S k → B ≤ k) : Below B w w' :=
  ⟨h.os, h.tape, h.output, h.size, fun k hk => h.block k (by omega) (fun hs => by have := hS k hs; omega)⟩
theorem kept_below {w w' : World} (h : Below w.heap.size w w') (S : Nat → Prop) : Kept S w w' := ⟨h.os, h.tape, h.output, h.size, fun k hk _ => h.block k hk⟩
theorem kept_alloc (w : World) (o : Obj) (S : Nat → Prop) : Kept S w (w.alloc o) := kept_below ((Below.refl _ _).alloc (Nat.le_refl _) _) S
theorem kept_drewN (w : World) (n : Nat) (S : Nat → Prop) : Kept S w (w.drewN n) := ⟨rfl, rfl, rfl, Nat.le_refl _, fun _ _ _ => rfl⟩
theorem kept_grown {w w' : World} {g : Nat} (hg : w.grownBy w' (some g)) : Kept (· = g) w w' :=
  ⟨hg.os, hg.tape, hg.output, hg.size, fun k hk hs => hg.block k hk (by intro e; exact hs (by simpa using e))⟩
theorem kept_setRow (w : World) (g : Nat) (cs : Array Value) : Kept (· = g) w (w.setRow g cs) :=
  ⟨rfl, rfl, rfl, by simp [World.setRow], fun k hk hs => setRow_other w g k cs hs⟩
theorem Kept.cellOf {S : Nat → Prop} {w w' : World} (h : Kept S w w') {a : Addr} {v : Value} (hc : w.cell? a = some v) (hs : ¬ S a.block) : w'.cell? a = some v :=
  (World.cell?_of_block (h.block a.block (World.block_lt_of_cell? w _ hc) hs)).trans hc
theorem Kept.objOf {S : Nat → Prop} {w w' : World} (h : Kept S w w') {g : Nat} {o : Obj} (hc : w.heap[g]? = some o) (hs : ¬ S g) : w'.heap[g]? = some o :=
  (h.block g (Array.getElem?_eq_some_iff.1 hc).1 hs).trans hc
theorem Kept.own {S : Nat → Prop} {w w' : World} (h : Kept S w w') {base : Nat} {e : TypeId} {g n c : Nat} {xs : List Value} (ho : w.ownsRow base e 1 (.slice (some ⟨g, 0, none⟩) n c) n xs) (hs : ¬ S g) : w'.ownsRow base e 1 (.slice (some ⟨g, 0, none⟩) n c) n xs := by
  refine ⟨ho.1, ?_⟩
  rcases ho.2 with ⟨hn, _⟩ | ⟨g', cap, cur, he, hg, hh, r⟩
  · cases hn
  · have : g = g' := by simp at he; exact he.1
    subst this
    exact .inr ⟨g, cap, cur, he, hg, h.objOf hh hs, r⟩

/-- The numbers that lie at a known block, from a place on. -/
def RowAt (w : World) (b off : Nat) (zs : List Int) : Prop := ∀ j, j < zs.length → w.cell? ⟨b, off + j, none⟩ = some (.int .i64 (zs.getD j 0))
theorem RowAt.kept {S : Nat → Prop} {w w' : World} {b off : Nat} {zs : List Int} (h : RowAt w b off zs) (hk : Kept S w w') (hs : ¬ S b) : RowAt w' b off zs := fun j hj => hk.cellOf (h j hj) hs
theorem RowAt.row {w : World} {B b off : Nat} {zs : List Int} (h : RowAt w b off zs) (hb : b < B) : Row w B (some ⟨b, off, none⟩) zs := fun _ => ⟨b, off, rfl, hb, h⟩
theorem RowAt.tail {w : World} {b off : Nat} {x : Int} {zs : List Int} (h : RowAt w b off (x :: zs)) : RowAt w b (off + 1) zs := by
  intro j hj
  have := h (j + 1) (by simp; omega)
  simpa [Nat.add_assoc, Nat.add_comm 1 j] using this
theorem RowAt.head {w : World} {b off : Nat} {x : Int} {zs : List Int} (h : RowAt w b off (x :: zs)) : w.cell? ⟨b, off, none⟩ = some (.int .i64 x) := by
  have := h 0 (by simp)
  simpa using this
theorem RowAt.news {w : World} {b off : Nat} {zs : List Int} (h : RowAt w b off zs) : ∀ j u, (ints zs)[j]? = some u → w.cell? ((⟨b, off, none⟩ : Addr).add j) = some u := by
  intro j u hj
  have hjl : j < zs.length := by
    have := (List.getElem?_eq_some_iff.1 hj).1; simpa using this
  rw [Addr.add_lit, h j hjl]
  simp [ints, hjl] at hj
  simp [List.getD_eq_getElem?_getD, List.getElem?_eq_getElem hjl, hj]
theorem rowAt_of {w : World} {g lo : Nat} {pre seg post : List Int} {e : TypeId} (h : w.heap[g]? = some (.cells (ints (pre ++ seg ++ post)).toArray e (0, 0))) (hlo : pre.length = lo) : RowAt w g lo seg := by
  intro j hj
  have : w.cell? ⟨g, lo + j, none⟩ = (ints (pre ++ seg ++ post)).toArray[lo + j]? := cell_of_row _ _ _ _ _ (0, 0) h
  rw [this]
  subst hlo
  simp [ints, List.getElem?_append, hj, List.getD_eq_getElem?_getD]
  try omega
theorem own_block {w : World} {base g n : Nat} {zs : List Int} (h : w.ownsRow base 3 1 (.slice (some ⟨g, 0, none⟩) n n) n (ints zs)) : w.heap[g]? = some (.cells (ints zs).toArray 3 (0, 0)) := by
  rcases h.2 with ⟨hn, _⟩ | ⟨g', cap, cur, he, hg, hh, _, _, hs, ht⟩
  · cases hn
  · simp at he
    obtain ⟨rfl, rfl⟩ := he
    have : cur.toList = ints zs := by rw [← ht, List.take_of_length_le (by simp; omega)]
    rw [hh, ← this]
theorem block_own {w : World} {base g n : Nat} {zs : List Int} (h : w.heap[g]? = some (.cells (ints zs).toArray 3 (0, 0))) (hb : base ≤ g) (hn : zs.length = n) (hm : n ≤ maxLen) : w.ownsRow base 3 1 (.slice (some ⟨g, 0, none⟩) n n) n (ints zs) := by
  refine ⟨by simp [hn], .inr ⟨g, n, _, rfl, hb, h, Nat.le_refl _, hm, by simp [hn], ?_⟩⟩
  simp [List.take_of_length_le, ← hn]
theorem own_room {w : World} {base g k c : Nat} {xs : List Value} (h : w.ownsRow base 3 1 (.slice (some ⟨g, 0, none⟩) k c) k xs) : w.ownsRow base 3 1 (.slice (some ⟨g, 0, none⟩) 0 c) 0 [] := by
  refine ⟨rfl, ?_⟩
  rcases h.2 with ⟨hn, _⟩ | ⟨g', cap, cur, he, hg, hh, h1, h2, hs, ht⟩
  · cases hn
  · simp at he
    obtain ⟨rfl, rfl⟩ := he
    exact .inr ⟨_, _, cur, rfl, hg, hh, by omega, h2, hs, by simp⟩

/-- One element more, within the room. -/
theorem wpList_fit1 {P : Program} {w : World} {ops : Array Oper} {rest : List Oper} {o : Oper} {a : Act} {Q : Exit → Act → World → Prop} (hgd : o.guard = none) (s x : Operand) (t : TypeId)
    (ho : o.op = .call { callee := .builtin .append, args := #[s, x], argTypes := #[t, t] })
    (base : Nat) (e : TypeId) (i : TypeInfo) (ht : P.underlying t = some (.slice e)) (hi : P.info? e = some i) (hsize : i.size = 1)
    (g k cap : Nat) (xs : List Value) (hs : a.eval s = .slice (some ⟨g, 0, none⟩) k cap) (hown : w.ownsRow base e 1 (.slice (some ⟨g, 0, none⟩) k cap) k xs)
    (u : Value) (hx : a.eval x = .slice (some ⟨w.heap.size, 0, none⟩) 1 1) (h1 : u.oneCell' = true) (hroom : k + 1 ≤ cap)
    (h : ∀ w', w'.ownsRow base e 1 (.slice (some ⟨g, 0, none⟩) (k + 1) cap) (k + 1) (xs ++ [u]) → Kept (· = g) w w' → wpList P ops Q rest (a.put o.dst (.slice (some ⟨g, 0, none⟩) (k + 1) cap)) w') : wpList P ops Q (o :: rest) a (w.alloc (.cells #[u] e)) := by
  refine wpList_append_fits (w.alloc (.cells #[u] e)) hgd s x t ho base e i 1 ht hi hsize g k cap xs hs (hown.alloc _) ⟨w.heap.size, 0, none⟩ 1 1 [u] hx rfl ?_ ?_ hroom ?_
  · intro j y hj
    match j, hj with
    | 0, hj => simp at hj; subst hj; simp [Addr.add]
  · intro y hy; simp at hy; subst hy; exact h1
  · intro w' hown' hgrow
    exact h w' hown' ((kept_alloc w _ _).trans (kept_grown hgrow))
/-- A row more, within the room. -/
theorem wpList_fitRow {P : Program} {w : World} {ops : Array Oper} {rest : List Oper} {o : Oper} {a : Act} {Q : Exit → Act → World → Prop} (hgd : o.guard = none) (s x : Operand) (t : TypeId)
    (ho : o.op = .call { callee := .builtin .append, args := #[s, x], argTypes := #[t, t] })
    (base : Nat) (e : TypeId) (i : TypeInfo) (ht : P.underlying t = some (.slice e)) (hi : P.info? e = some i) (hsize : i.size = 1)
    (g k cap : Nat) (xs : List Value) (hs : a.eval s = .slice (some ⟨g, 0, none⟩) k cap) (hown : w.ownsRow base e 1 (.slice (some ⟨g, 0, none⟩) k cap) k xs)
    (b off m c : Nat) (zs : List Int) (hx : a.eval x = .slice (some ⟨b, off, none⟩) m c) (hm : zs.length = m) (hr : RowAt w b off zs) (hroom : k + m ≤ cap)
    (h : ∀ w', w'.ownsRow base e 1 (.slice (some ⟨g, 0, none⟩) (k + m) cap) (k + m) (xs ++ ints zs) → Kept (· = g) w w' → wpList P ops Q rest (a.put o.dst (.slice (some ⟨g, 0, none⟩) (k + m) cap)) w') : wpList P ops Q (o :: rest) a w :=
  wpList_append_fits w hgd s x t ho base e i 1 ht hi hsize g k cap xs hs hown ⟨b, off, none⟩ m c (ints zs) hx (by simp [hm]) hr.news (ints_oneCell _ _) hroom fun w' h1 h2 => h w' h1 (kept_grown h2)
end Go.Proofs.Ytlpjjnpafmakhaa
