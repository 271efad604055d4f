/-
  label.Kept: a map from labels to their first places.
-/
import Derived.Test.YtlebcebihieiiaaDoorLFind
import Derived.Test.YtlebcebihieiiaaDoorLInts
import Derived.Test.YtlebcebihieiiaaDoorLOfW
import Derived.Test.YtlebcebihieiiaaDoorLLaid
import Derived.DeepKeys4
namespace Go.Proofs.YtlebcebihieiiaaDoor
open Go.RowKit Go.Sort Go.Maps
set_option linter.unusedVariables false
set_option maxRecDepth 100000
theorem wide33 : (match Tryd.prog.underlying 33 with | some (.array _ _) | some (.struct _) => true | _ => false) = true := by kernel_rfl
theorem law33 : Keyed Tryd.prog 33 := Keyed.of_law (deep_law_laid laidOut (m := 3) (by omega) (of_decide_eq_true (by kernel_rfl)) (by kernel_rfl) wide33)
theorem types_size : ∃ m, Tryd.prog.types.size + 1 = m + 1 + 1 := ⟨Tryd.prog.types.size - 1, by have : 2 ≤ Tryd.prog.types.size := of_decide_eq_true (by kernel_rfl); omega⟩
theorem keyType33 : Tryd.prog.keyType 33 = true := by kernel_rfl
theorem cs33 : Tryd.prog.cellsOf 33 = 3 := by kernel_rfl
theorem cs9 : Tryd.prog.cellsOf 9 = 1 := by kernel_rfl
theorem cs3 : Tryd.prog.cellsOf 3 = 1 := by kernel_rfl
/-- What may be a key. -/
structure KWf (L : Lab) : Prop where
  tag : L.tag.size ≤ maxLen
  key : L.key.size ≤ maxLen
  n : (Lit.int .i64 L.n).wf = true
theorem key_some {L : Lab} (h : KWf L) : ∃ kl, keyOf Tryd.prog 33 (labV L) = some kl := by
  obtain ⟨m, hm⟩ := types_size
  have hw : (Lit.int .i64 L.n).wf = true := h.n
  have ht := h.tag
  have hk := h.key
  refine ⟨.string (keyBytes [.string L.tag.data.toList, .string L.key.data.toList, .int .i64 L.n]), ?_⟩
  unfold keyOf
  rw [hm]
  simp [Tryd.underlying33, keyType33, Value.formed, cs33, Program.keyLits, Value.cells, Tryd.underlying9, Tryd.underlying3, cs9, cs3, hw, ht, hk]
noncomputable def klOf (L : Lab) : Lit := (keyOf Tryd.prog 33 (labV L)).getD (.bool false)
theorem kl_of {L : Lab} (h : KWf L) : keyOf Tryd.prog 33 (labV L) = some (klOf L) := by
  obtain ⟨kl, hk⟩ := key_some h
  unfold klOf; rw [hk]; rfl
theorem kl_inj {L M : Lab} (h : KWf L) (h' : KWf M) (e : klOf L = klOf M) : L = M := by
  have h1 := kl_of h
  have h2 := kl_of h'
  rw [← e] at h2
  have := law33.inj h1 h2
  cases L; cases M
  simpa using this
theorem kl_lit {L : Lab} (h : KWf L) : WideAt.IsKeyLit (klOf L) := law33.key (kl_of h)
theorem wf_nat {k : Nat} (h : k ≤ 1000000) : (Lit.int .i64 (k : Int)).wf = true := by
  simp [Lit.wf, IntKind.min, IntKind.max, IntKind.signed, IntKind.bits]
  omega
theorem kwf_of {L : Lab} (h : LWf L) : KWf L := by
  obtain ⟨h1, h2, h3⟩ := h
  refine ⟨by unfold maxLen; omega, by unfold maxLen; omega, ?_⟩
  have h3' : -9223372036854775808 ≤ L.n ∧ L.n ≤ 9223372036854775807 := h3
  simp [Lit.wf, IntKind.min, IntKind.max, IntKind.signed, IntKind.bits]
  omega
/-- A map that bears at each label a number, or nothing. -/
def Fst (w : World) (bm N : Nat) (f : Lab → Option Nat) : Prop := ∃ (D : DataW Unit) (n : Nat), n ≤ N ∧ w.ownsMap Tryd.prog 33 (plainElem Tryd.prog 3) bm n D ∧ ∀ L, KWf L → Maps.has D (klOf L) = (f L).isSome ∧ ∀ v, f L = some v → ∀ z, D.atKey (klOf L) z = .lit (.int .i64 v)
theorem Fst.lt {w : World} {bm N : Nat} {f : Lab → Option Nat} (h : Fst w bm N f) : bm < w.heap.size := by obtain ⟨D, n, _, h, _⟩ := h; exact h.lt
theorem Fst.keep {w w' : World} {bm N : Nat} {f : Lab → Option Nat} (h : Fst w bm N f) {S : Nat → Prop} (hk : Kept S w w') (hs : ¬ S bm) : Fst w' bm N f := by
  obtain ⟨D, n, hn, h, hf⟩ := h
  have hlt := h.lt
  obtain ⟨es, clock, hb, F, h1, rfl⟩ := h
  exact ⟨_, n, hn, ⟨es, clock, (hk.block bm hlt hs).trans hb, F, h1, rfl⟩, hf⟩
theorem fst_made (w : World) : Fst (w.alloc (.map #[] 0)) w.heap.size 0 (fun _ => none) := ⟨_, 0, Nat.le_refl _, World.ownsMap_made _ _ _ _, fun L _ => ⟨by simp [Maps.has], fun v hv => by cases hv⟩⟩
theorem Fst.more {w : World} {bm N N' : Nat} {f g : Lab → Option Nat} (h : Fst w bm N f) (hN : N ≤ N') (hf : ∀ u, f u = g u) : Fst w bm N' g := by
  obtain ⟨D, n, hn, ho, hd⟩ := h
  exact ⟨D, n, by omega, ho, fun u hu => by rw [← hf u]; exact hd u hu⟩
theorem plain_z : plainElem (H := Unit) Tryd.prog 3 (.int .i64 0) = some (.lit (.int .i64 0), []) := plainElem_int Tryd.underlying3 (wf_nat (k := 0) (by omega))
theorem Fst.look_yes {w : World} {bm N : Nat} {f : Lab → Option Nat} (h : Fst w bm N f) {L : Lab} (hL : KWf L) {v : Nat} (hv : f L = some v) : (Instr.lookup 59 (.map (some bm)) (labV L) true).run Tryd.prog w = .ok (.tuple #[.int .i64 v, .bool true]) w := by
  obtain ⟨D, n, hn, ho, hd⟩ := h
  obtain ⟨u, ps, hrun, hu⟩ := ho.look_ok law33 Tryd.underlying59 (zero3 w) plain_z (kl_of hL)
  rw [(hd L hL).2 v hv] at hu
  obtain ⟨c, rfl, hc, _⟩ := plainElem_int_inv Tryd.underlying3 hu
  rw [hrun, (hd L hL).1, hv]
  simp at hc
  rw [hc.1]; rfl
theorem Fst.look_no {w : World} {bm N : Nat} {f : Lab → Option Nat} (h : Fst w bm N f) {L : Lab} (hL : KWf L) (hv : f L = none) : (Instr.lookup 59 (.map (some bm)) (labV L) true).run Tryd.prog w = .ok (.tuple #[.int .i64 0, .bool false]) w := by
  obtain ⟨D, n, hn, ho, hd⟩ := h
  obtain ⟨u, ps, hrun, hu⟩ := ho.look_ok law33 Tryd.underlying59 (zero3 w) plain_z (kl_of hL)
  have hh := (hd L hL).1
  rw [hv] at hh
  rw [atKey_of_not_has hh] at hu
  obtain ⟨c, rfl, hc, _⟩ := plainElem_int_inv Tryd.underlying3 hu
  rw [hrun, hh]
  simp at hc
  rw [← hc.1]; rfl
theorem Fst.store {w : World} {bm N : Nat} {f : Lab → Option Nat} (h : Fst w bm N f) {L : Lab} (hL : KWf L) (m : Nat) (hm : m ≤ 1000000) (hN : N ≤ 1000000) :
    ∃ w', (Instr.mapUpdate 59 (.map (some bm)) (labV L) (.int .i64 m)).run Tryd.prog w = .ok () w' ∧ Fst w' bm (N + 1) (fun M => if M = L then some m else f M) ∧ Kept (· = bm) w w' := by
  obtain ⟨D, n, hn, ho, hd⟩ := h
  obtain ⟨w', hrun, ho', htt⟩ := ho.store law33 Tryd.underlying59 (by unfold maxLen; omega) (kl_of hL) (plainElem_int Tryd.underlying3 (wf_nat hm))
  refine ⟨w', hrun, ⟨_, n + 1, by omega, ho', fun M hM => ?_⟩, (kept_grown htt.grown).mono (fun k _ hk => by simpa using hk)⟩
  by_cases e : M = L
  · subst e
    dsimp only
    rw [if_pos rfl]
    refine ⟨has_put_same (ho.tidy law33).isMap (kl_lit hM) _, fun v hv z => ?_⟩
    cases hv
    exact atKey_put_same (ho.tidy law33).isMap (kl_lit hM) _ _
  · dsimp only
    rw [if_neg e]
    have hne : klOf M ≠ klOf L := fun e' => e (kl_inj hM hL e')
    refine ⟨(has_put_other hne _).trans (hd M hM).1, fun v hv z => ?_⟩
    rw [atKey_put_other hne]
    exact (hd M hM).2 v hv z
/-- The first places of the labels of the first i. -/
def firstF (a : List Lab) (i : Nat) (x : Lab) : Option Nat := if x ∈ a.take i then some (a.idxOf x) else none
theorem mem_more {a : List Lab} {i : Nat} (hi : i < a.length) (x : Lab) : x ∈ a.take (i + 1) ↔ x ∈ a.take i ∨ x = a[i] := by
  rw [List.take_add_one, List.getElem?_eq_getElem hi, List.mem_append, Option.toList_some, List.mem_singleton]
theorem firstF_old {a : List Lab} {i : Nat} (hi : i < a.length) (h : a[i] ∈ a.take i) (x : Lab) : firstF a i x = firstF a (i + 1) x := by
  unfold firstF
  have e : x ∈ a.take (i + 1) ↔ x ∈ a.take i := (mem_more hi x).trans ⟨fun h1 => h1.elim id (fun h2 => by rw [h2]; exact h), Or.inl⟩
  by_cases hx : x ∈ a.take i
  · rw [if_pos hx, if_pos (e.2 hx)]
  · rw [if_neg hx, if_neg (fun h' => hx (e.1 h'))]
theorem idx_new {a : List Lab} {i : Nat} (hi : i < a.length) (h : a[i] ∉ a.take i) : a.idxOf a[i] = i := idx_first hi rfl (fun j hj hji he => h (by
  rw [← he, List.mem_take_iff_getElem]
  exact ⟨j, by omega, rfl⟩))
theorem firstF_new {a : List Lab} {i : Nat} (hi : i < a.length) (h : a[i] ∉ a.take i) (x : Lab) : (if x = a[i] then some i else firstF a i x) = firstF a (i + 1) x := by
  unfold firstF
  by_cases e : x = a[i]
  · rw [if_pos e, if_pos ((mem_more hi x).2 (.inr e)), e, idx_new hi h]
  · rw [if_neg e]
    by_cases hx : x ∈ a.take i
    · rw [if_pos hx, if_pos ((mem_more hi x).2 (.inl hx))]
    · rw [if_neg hx, if_neg (fun h1 => ((mem_more hi x).1 h1).elim hx e)]
theorem firstF_all (a : List Lab) (x : Lab) : firstF a a.length x = if x ∈ a then some (a.idxOf x) else none := by unfold firstF; rw [List.take_length]
def keptL (a b : List Lab) : List Int := b.map (findL a)
end Go.Proofs.YtlebcebihieiiaaDoor
