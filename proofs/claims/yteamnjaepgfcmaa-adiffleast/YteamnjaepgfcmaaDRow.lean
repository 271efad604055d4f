/-
  A slice of changes in memory, and append at it.
-/
import Derived.Test.YteamnjaepgfcmaaDMath
import Derived.Test.YteamnjaepgfcmaaApp
namespace Go.Proofs.Yteamnjaepgfcmaa
open Go.RowKit Go.Sort
set_option linter.unusedVariables false
def encC (c : Ch) : List Value := [.string c.1, .string c.2.1, .bool c.2.2]
theorem encC_one (c : Ch) : ∀ y ∈ encC c, y.oneCell' = true := by
  intro y hy; simp [encC] at hy; rcases hy with rfl | rfl | rfl <;> rfl
def cvs (l : List Ch) : List Value := l.flatMap encC
theorem cvs_append (a b : List Ch) : cvs (a ++ b) = cvs a ++ cvs b := by simp [cvs]
theorem cvs_snoc (a : List Ch) (c : Ch) : cvs (a ++ [c]) = cvs a ++ encC c := by simp [cvs]
theorem cvs_length (l : List Ch) : (cvs l).length = l.length * 3 := by
  induction l with
  | nil => rfl
  | cons p ps ih => simp only [cvs, List.flatMap_cons, List.length_append, List.length_cons, encC, List.length_nil] at ih ⊢; omega
abbrev noCh : Ch := (noS, noS, false)
theorem cvs_at : ∀ (l : List Ch) (j : Nat), j < l.length * 3 → (cvs l)[j]? = some ((encC (l.getD (j / 3) noCh)).getD (j % 3) undef)
  | [], j, h => by simp at h
  | L :: ss, j, h => by
    by_cases h3 : j < 3
    · have e1 : j / 3 = 0 := by omega
      have e2 : j % 3 = j := by omega
      rw [e1, e2]
      match j, h3 with
      | 0, _ => rfl
      | 1, _ => rfl
      | 2, _ => rfl
    · have h' : j - 3 < ss.length * 3 := by simp at h; omega
      have ih := cvs_at ss (j - 3) h'
      have e1 : j / 3 = (j - 3) / 3 + 1 := by omega
      have e2 : j % 3 = (j - 3) % 3 := by omega
      rw [e1, e2]
      simp only [cvs, List.flatMap_cons] at ih ⊢
      rw [List.getElem?_append_right (by simp [encC]; omega)]
      simp only [encC, List.length_cons, List.length_nil] at ih ⊢
      rw [ih]
      simp
/-- A slice of changes. -/
def XRow (w : World) (B : Nat) (A : Option Addr) (es : List Ch) : Prop :=
  0 < es.length → ∃ b off, A = some ⟨b, off, none⟩ ∧ b < B ∧ ∀ j, (hj : j < es.length) → w.cell? ⟨b, off + j * 3, none⟩ = some (.string es[j].1) ∧ w.cell? ⟨b, off + j * 3 + 1, none⟩ = some (.string es[j].2.1) ∧ w.cell? ⟨b, off + j * 3 + 2, none⟩ = some (.bool es[j].2.2)
theorem xrow_at {w : World} {B : Nat} {A : Option Addr} {es : List Ch} (h : XRow w B A es) {j : Nat} (hj : j < es.length) :
    ∃ b off n v g, A = some ⟨b, off, none⟩ ∧ b < B ∧ (n, v, g) = es[j] ∧ w.cell? ⟨b, off + j * 3, none⟩ = some (.string n) ∧ w.cell? ⟨b, off + j * 3 + 1, none⟩ = some (.string v) ∧ w.cell? ⟨b, off + j * 3 + 2, none⟩ = some (.bool g) := by
  obtain ⟨b, off, hA, hb, hc⟩ := h (by omega)
  exact ⟨b, off, _, _, _, hA, hb, rfl, hc j hj⟩
theorem XRow.below {w w' : World} {B : Nat} {A : Option Addr} {es : List Ch} (h : XRow w B A es) (hb : Below B w w') : XRow w' B A es := by
  intro h0
  obtain ⟨b, off, hA, hlt, hc⟩ := h h0
  exact ⟨b, off, hA, hlt, fun j hj => ⟨(hb.cell (p := ⟨b, off + j * 3, none⟩) hlt).trans (hc j hj).1, (hb.cell (p := ⟨b, off + j * 3 + 1, none⟩) hlt).trans (hc j hj).2.1, (hb.cell (p := ⟨b, off + j * 3 + 2, none⟩) hlt).trans (hc j hj).2.2⟩⟩
theorem XRow.mono {w : World} {B B' : Nat} {A : Option Addr} {es : List Ch} (h : XRow w B A es) (hb : B ≤ B') : XRow w B' A es := by
  intro h0
  obtain ⟨b, off, hA, hlt, hc⟩ := h h0
  exact ⟨b, off, hA, by omega, hc⟩
theorem XRow.up {w w' : World} {A : Option Addr} {es : List Ch} (h : XRow w w.heap.size A es) (hb : Below w.heap.size w w') : XRow w' w'.heap.size A es := (h.below hb).mono hb.size
theorem xrow_own {w : World} {base e : Nat} {v : Value} {es : List Ch} (h : w.ownsRow base e 3 v es.length (cvs es)) :
    ∃ A cap, v = .slice A es.length cap ∧ XRow w w.heap.size A es ∧ es.length ≤ cap ∧ cap ≤ maxLen := by
  rcases h.2 with ⟨rfl, hn⟩ | ⟨g, cap, cur, rfl, _, hg, hnc, hcm, _, _⟩
  · exact ⟨none, 0, by rw [hn], fun h0 => by omega, by omega, by simp [maxLen]⟩
  · refine ⟨_, cap, rfl, fun _ => ⟨g, 0, rfl, (Array.getElem?_eq_some_iff.1 hg).1, fun j hj => ?_⟩, hnc, hcm⟩
    have e : es.getD j noCh = es[j] := by simp [List.getD_eq_getElem?_getD, hj]
    have d0 : j * 3 / 3 = j := by omega
    have d1 : (j * 3 + 1) / 3 = j := by omega
    have d2 : (j * 3 + 2) / 3 = j := by omega
    have m0 : j * 3 % 3 = 0 := by omega
    have m1 : (j * 3 + 1) % 3 = 1 := by omega
    have m2 : (j * 3 + 2) % 3 = 2 := by omega
    rw [Nat.zero_add, World.ownsRow.cellAt h (j * 3) (by omega), World.ownsRow.cellAt h (j * 3 + 1) (by omega), World.ownsRow.cellAt h (j * 3 + 2) (by omega), cvs_at es (j * 3) (by omega), cvs_at es (j * 3 + 1) (by omega), cvs_at es (j * 3 + 2) (by omega), d0, d1, d2, m0, m1, m2, e]
    exact ⟨rfl, rfl, rfl⟩
/-- What a call hands back that makes a slice of changes. -/
def MadeX (w : World) (l : List Ch) (e : Ending) (w' : World) : Prop := ∃ A c, e = .returned (.slice A l.length c) ∧ XRow w' w'.heap.size A l ∧ l.length ≤ c ∧ c ≤ maxLen ∧ Below w.heap.size w w'
theorem three_new (W : World) (a b d : Value) (t : TypeId) (B : Nat) (hB : B = W.heap.size) : ∀ j u, [a, b, d][j]? = some u → (W.alloc (.cells #[a, b, d] t)).cell? ((⟨B, 0, none⟩ : Addr).add j) = some u := by
  subst hB
  intro j u hj
  have e1 : (W.alloc (.cells #[a, b, d] t)).cell? ⟨W.heap.size, 0 + j, none⟩ = (#[a, b, d] : Array Value)[0 + j]? := cell_of_row _ _ _ _ _ (0, 0) (heap_alloc_new W _)
  rw [Addr.add_lit, e1]
  simpa using hj
/-- append(x, y) -/
theorem wpList_app3 {P : Program} {w : World} {ops : Array Oper} {rest : List Oper} {o : Oper} {a : Act} {Q : Exit → Act → World → Prop} (hgd : o.guard = none) (s x : Operand) (t : TypeId)
    (ho : o.op = .call { callee := .builtin .append, args := #[s, x], argTypes := #[t, t] })
    (base : Nat) (e : TypeId) (i : TypeInfo) (z : Value) (ht : P.underlying t = some (.slice e)) (hi : P.info? e = some i) (hz : i.zero = some z)
    (hsize : i.size = 3) (hby : i.bytes = 40) (hzs : z.cells.size = 3)
    (v : Value) (n : Nat) (xs : List Value) (hs : a.eval s = v) (hown : w.ownsRow base e 3 v n xs)
    (p : Ch) (B : Nat) (hB : B = w.heap.size) (hx : a.eval x = .slice (some ⟨B, 0, none⟩) 1 1)
    (hbytes : (n + 1) ≤ 10000000) (hbase : base ≤ w.heap.size)
    (h : ∀ v' w', w'.ownsRow base e 3 v' (n + 1) (xs ++ encC p) → Below base w w' → wpList P ops Q rest (a.put o.dst v') w') : wpList P ops Q (o :: rest) a (w.alloc (.cells #[.string p.1, .string p.2.1, .bool p.2.2] e)) := by
  subst hB
  refine wpList_append_own (w.alloc _) hgd s x t ho base e i z 3 40 ht hi hz hsize hby hzs (by omega) v n xs hs (hown.alloc _) ⟨w.heap.size, 0, none⟩ 1 1 (encC p) hx rfl (three_new _ _ _ _ _ _ rfl) (encC_one p) (by simp [maxLen]; omega) (by omega) (by simp; omega) ?_
  · intro v' w' hown' hgrow _
    exact h v' w' hown' (((Below.refl base w).alloc hbase _).grown hgrow (by simp; omega) (fun k hk => (hown.lt k hk).1))
theorem own_cvs {w : World} {base e : Nat} {v : Value} {zs : List Ch} {n : Nat} {xs : List Value} (h : w.ownsRow base e 3 v n xs) (hx : xs = cvs zs) (hn : zs.length = n) : w.ownsRow base e 3 v zs.length (cvs zs) := by subst hx; subst hn; exact h
theorem Try.info46 : (Try.prog.info? 46).map (fun i => (i.zero, i.size, i.bytes)) = some (some (.agg #[.string ⟨#[]⟩, .string ⟨#[]⟩, .bool false]), 3, 40) := by kernel_rfl
theorem Try.info47 : (Try.prog.info? 47).map (fun i => (i.zero, i.size, i.bytes)) = some (some (.agg #[.string ⟨#[]⟩, .string ⟨#[]⟩, .bool false]), 3, 40) := by kernel_rfl
end Go.Proofs.Yteamnjaepgfcmaa
