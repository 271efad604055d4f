/-
  append at slices of attributes.
-/
import Derived.Test.YtlkdklpglmglkaaRow
import Derived.Laws.AppendOwnNone
namespace Go.Proofs.Ytlkdklpglmglkaa
open Go.RowKit Go.Sort
set_option linter.unusedVariables false
set_option maxRecDepth 100000
theorem info_parts {t : TypeId} {z : Value} {s b : Nat} (h : (Try.prog.info? t).map (fun i => (i.zero, i.size, i.bytes)) = some (some z, s, b)) :
    ∃ i, Try.prog.info? t = some i ∧ i.zero = some z ∧ i.size = s ∧ i.bytes = b := by
  cases hi : Try.prog.info? t with
  | none => rw [hi] at h; simp at h
  | some i => rw [hi] at h; simp at h; exact ⟨i, rfl, h.1, h.2.1, h.2.2⟩
theorem Try.info74 : (Try.prog.info? 74).map (fun i => (i.zero, i.size, i.bytes)) = some (some (.agg #[.string ⟨#[]⟩, .string ⟨#[]⟩]), 2, 32) := by kernel_rfl
theorem trow_src {w : World} {B : Nat} {ad : Addr} {ms : List At} (hr : TRow w B (some ad) ms) : ∀ j y, (ats ms)[j]? = some y → w.cell? (ad.add j) = some y := by
  intro j y hj
  have hjl : j < ms.length * 2 := by have := (List.getElem?_eq_some_iff.1 hj).1; rw [ats_length] at this; exact this
  obtain ⟨b, off, hA, _, hc⟩ := hr (by omega)
  obtain rfl : ad = ⟨b, off, none⟩ := by simpa using hA
  have hq : j / 2 < ms.length := by omega
  rw [ats_at ms j hjl] at hj
  have eg : ms.getD (j / 2) noAt = ms[j / 2] := by simp [List.getD_eq_getElem?_getD, hq]
  rw [eg] at hj
  rw [Addr.add_lit, ← hj]
  obtain ⟨c0, c1⟩ := hc (j / 2) hq
  rcases (show j % 2 = 0 ∨ j % 2 = 1 by omega) with h4 | h4
  · rw [h4, show off + j = off + j / 2 * 2 by omega]; exact c0
  · rw [h4, show off + j = off + j / 2 * 2 + 1 by omega]; exact c1
/-- append(x, y...) -/
theorem wpList_appT {P : Program} {w : World} {ops : Array Oper} {rest : List Oper} {o : Oper} {a : Act} {Q : Exit → Act → World → Prop} (hgd : o.guard = none) (s x : Operand) (t : TypeId)
    (ho : o.op = .call { callee := .builtin .append, args := #[s, x], argTypes := #[t, t] })
    (base : Nat) (e : TypeId) (i : TypeInfo) (z : Value) (ht : P.underlying t = some (.slice e)) (hi : P.info? e = some i) (hz : i.zero = some z)
    (hsize : i.size = 2) (hby : i.bytes = 32) (hzs : z.cells.size = 2)
    (v : Value) (n : Nat) (xs : List Value) (hs : a.eval s = v) (hown : w.ownsRow base e 2 v n xs)
    (A : Option Addr) (m c : Nat) (ms : List At) (hx : a.eval x = .slice A m c) (hm : ms.length = m) (hr : TRow w w.heap.size A ms) (hc0 : A = none → c = 0)
    (hbytes : (n + m) ≤ 10000000) (hbase : base ≤ w.heap.size)
    (h : ∀ v' w', w'.ownsRow base e 2 v' (n + m) (xs ++ ats ms) → Below base w w' → wpList P ops Q rest (a.put o.dst v') w') : wpList P ops Q (o :: rest) a w := by
  subst hm
  cases A with
  | none =>
    obtain rfl := trow_none hr
    obtain rfl := hc0 rfl
    exact wpList_append_own_none hgd s x t ho base e i 2 ht hi v n xs hs hown hx (h v w (by simpa [ats] using hown) (Below.refl _ _))
  | some ad =>
    refine wpList_append_own w hgd s x t ho base e i z 2 32 ht hi hz hsize hby hzs (by omega) v n xs hs hown ad ms.length c (ats ms) hx (ats_length ms) (trow_src hr) (ats_one ms) (by simp [maxLen]; omega) (by omega) hbase ?_
    intro v' w' hown' hgrow _
    exact h v' w' hown' ((Below.refl base w).grown hgrow hbase (fun k hk => (hown.lt k hk).1))
theorem two_new (W : World) (a b : Value) (t : TypeId) (B : Nat) (hB : B = W.heap.size) : ∀ j u, [a, b][j]? = some u → (W.alloc (.cells #[a, b] t)).cell? ((⟨B, 0, none⟩ : Addr).add j) = some u := by
  subst hB
  intro j u hj
  have e1 : (W.alloc (.cells #[a, b] t)).cell? ⟨W.heap.size, 0 + j, none⟩ = (#[a, b] : Array Value)[0 + j]? := cell_of_row _ _ _ _ _ (0, 0) (heap_alloc_new W _)
  rw [Addr.add_lit, e1]
  simpa using hj
/-- append(x, y) -/
theorem wpList_app2 {P : Program} {w : World} {ops : Array Oper} {rest : List Oper} {o : Oper} {a : Act} {Q : Exit → Act → World → Prop} (hgd : o.guard = none) (s x : Operand) (t : TypeId)
    (ho : o.op = .call { callee := .builtin .append, args := #[s, x], argTypes := #[t, t] })
    (base : Nat) (e : TypeId) (i : TypeInfo) (z : Value) (ht : P.underlying t = some (.slice e)) (hi : P.info? e = some i) (hz : i.zero = some z)
    (hsize : i.size = 2) (hby : i.bytes = 32) (hzs : z.cells.size = 2)
    (v : Value) (n : Nat) (xs : List Value) (hs : a.eval s = v) (hown : w.ownsRow base e 2 v n xs)
    (p : At) (B : Nat) (hB : B = w.heap.size) (hx : a.eval x = .slice (some ⟨B, 0, none⟩) 1 1)
    (hbytes : (n + 1) ≤ 10000000) (hbase : base ≤ w.heap.size)
    (h : ∀ v' w', w'.ownsRow base e 2 v' (n + 1) (xs ++ encA p) → Below base w w' → wpList P ops Q rest (a.put o.dst v') w') : wpList P ops Q (o :: rest) a (w.alloc (.cells #[.string p.1, .string p.2] e)) := by
  subst hB
  refine wpList_append_own (w.alloc _) hgd s x t ho base e i z 2 32 ht hi hz hsize hby hzs (by omega) v n xs hs (hown.alloc _) ⟨w.heap.size, 0, none⟩ 1 1 (encA p) hx rfl (two_new _ _ _ _ _ rfl) (encA_one p) (by simp [maxLen]; omega) (by omega) (by simp; omega) ?_
  · intro v' w' hown' hgrow _
    exact h v' w' hown' (((Below.refl base w).alloc hbase _).grown hgrow (by simp; omega) (fun k hk => (hown.lt k hk).1))
/-- A slice of attributes that the call made, in a block of its own. -/
def MadeA (w : World) (es : List At) (e : Ending) (w' : World) : Prop := ∃ v, e = .returned v ∧ w'.ownsRow w.heap.size 74 2 v es.length (ats es) ∧ Below w.heap.size w w'
theorem own_ats {w : World} {base : Nat} {v : Value} {zs : List At} {n : Nat} {xs : List Value} (h : w.ownsRow base 74 2 v n xs) (hx : xs = ats zs) (hn : zs.length = n) : w.ownsRow base 74 2 v zs.length (ats zs) := by subst hx; subst hn; exact h
theorem MadeA.made {w w' : World} {es : List At} {e : Ending} (h : MadeA w es e w') : MadeT w es e w' := by
  obtain ⟨v, rfl, hown, hb⟩ := h
  obtain ⟨A, c, rfl, h1, h2, h3, _⟩ := trow_own hown
  exact ⟨A, c, rfl, h1, h2, h3, hb⟩
end Go.Proofs.Ytlkdklpglmglkaa
