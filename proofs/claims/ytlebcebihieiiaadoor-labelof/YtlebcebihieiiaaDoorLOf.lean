/-
  label.Of: the labels of siblings.
-/
import Derived.Test.YtlebcebihieiiaaDoorLRow
import Derived.Test.YtlebcebihieiiaaDoorApp
namespace Go.Proofs.YtlebcebihieiiaaDoor
open Go.RowKit Go.Sort Go.Maps
set_option linter.unusedVariables false
theorem law9 : Keyed Tryd.prog 9 := string_keyed Tryd.underlying9
theorem zero3 (w : World) : (zeroValue 3).run Tryd.prog w = .ok (.int .i64 0) w := by kernel_rfl
/-- A map that counts: at each tag the number f of it. -/
def Cnt (w : World) (bm N : Nat) (f : ByteArray → Nat) : Prop := ∃ (D : DataW Unit) (n : Nat), n ≤ N ∧ w.ownsMap Tryd.prog 9 (plainElem Tryd.prog 3) bm n D ∧ ∀ t : ByteArray, t.size ≤ maxLen → D.atKey (.string t.data.toList) (.lit (.int .i64 0)) = .lit (.int .i64 (f t))
theorem Cnt.lt {w : World} {bm N : Nat} {f : ByteArray → Nat} (h : Cnt w bm N f) : bm < w.heap.size := by obtain ⟨D, n, _, h, _⟩ := h; exact h.lt
theorem Cnt.keep {w w' : World} {bm N : Nat} {f : ByteArray → Nat} (h : Cnt w bm N f) {S : Nat → Prop} (hk : Kept S w w') (hs : ¬ S bm) : Cnt w' bm N f := by
  obtain ⟨D, n, hn, h, hf⟩ := h
  have hlt := h.lt
  obtain ⟨es, clock, hb, F, h1, rfl⟩ := h
  exact ⟨_, n, hn, ⟨es, clock, (hk.block bm hlt hs).trans hb, F, h1, rfl⟩, hf⟩
theorem cnt_made (w : World) : Cnt (w.alloc (.map #[] 0)) w.heap.size 0 (fun _ => 0) := ⟨_, 0, Nat.le_refl _, World.ownsMap_made _ _ _ _, fun _ _ => rfl⟩
theorem Cnt.look {w : World} {bm N : Nat} {f : ByteArray → Nat} (h : Cnt w bm N f) {t : ByteArray} (ht : t.size ≤ maxLen) : (Instr.lookup 48 (.map (some bm)) (.string t) false).run Tryd.prog w = .ok (.int .i64 (f t)) w := by
  obtain ⟨D, n, hn, h, hf⟩ := h
  obtain ⟨c, hrun, hat, _⟩ := h.lookup_int law9 Tryd.underlying48 Tryd.underlying3 (zero3 w) (WideMaps.keyOf_string_mk Tryd.underlying9 ht)
  rw [hf t ht] at hat
  simp at hat
  rw [hrun, hat]
theorem Cnt.store {w : World} {bm N : Nat} {f : ByteArray → Nat} (h : Cnt w bm N f) {t : ByteArray} (ht : t.size ≤ maxLen) (m : Nat) (hm : m ≤ 1000000) (hN : N ≤ 1000000) :
    ∃ w', (Instr.mapUpdate 48 (.map (some bm)) (.string t) (.int .i64 m)).run Tryd.prog w = .ok () w' ∧ Cnt w' bm (N + 1) (fun u => if u = t then m else f u) ∧ Kept (· = bm) w w' := by
  obtain ⟨D, n, hn, h, hf⟩ := h
  have hk := WideMaps.keyOf_string_mk Tryd.underlying9 ht
  have hwf : (Lit.int .i64 (m : Int)).wf = true := by
    simp [Lit.wf, IntKind.min, IntKind.max, IntKind.signed, IntKind.bits]
    omega
  obtain ⟨w', hrun, ho', htt⟩ := h.store law9 Tryd.underlying48 (by unfold maxLen; omega) hk (plainElem_int Tryd.underlying3 hwf)
  refine ⟨w', hrun, ⟨_, n + 1, by omega, ho', fun u hu => ?_⟩, ?_⟩
  · by_cases e : u = t
    · subst e
      dsimp only
      rw [if_pos rfl]
      exact atKey_put_same (h.tidy law9).isMap (law9.key hk) _ _
    · dsimp only
      rw [if_neg e, atKey_put_other (fun e' => e (bext (by simpa using e')))]
      exact hf u hu
  · have := kept_grown htt.grown
    exact this.mono (fun k _ hk => by simpa using hk)
end Go.Proofs.YtlebcebihieiiaaDoor
