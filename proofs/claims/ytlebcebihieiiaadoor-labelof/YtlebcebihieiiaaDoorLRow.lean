/-
  A slice of labels in memory; the labels of siblings.
-/
import Derived.Test.YtlebcebihieiiaaDoorLBox
import Derived.Test.YtlebcebihieiiaaDoorVOk
import Derived.Lib.SliceRun
import Derived.Deep.OwnRows
namespace Go.Proofs.YtlebcebihieiiaaDoor
open Go.RowKit Go.Sort
set_option linter.unusedVariables false
def encL (x : Lab) : List Value := [.string x.tag, .string x.key, .int .i64 x.n]
def labs (l : List Lab) : List Value := l.flatMap encL
theorem labs_cons (x : Lab) (l : List Lab) : labs (x :: l) = .string x.tag :: .string x.key :: .int .i64 x.n :: labs l := rfl
theorem labs_append (a b : List Lab) : labs (a ++ b) = labs a ++ labs b := by simp [labs]
theorem labs_snoc (a : List Lab) (x : Lab) : labs (a ++ [x]) = labs a ++ [.string x.tag, .string x.key, .int .i64 x.n] := by rw [labs_append]; rfl
theorem labs_length (l : List Lab) : (labs l).length = l.length * 3 := by
  induction l with
  | nil => rfl
  | cons p ps ih => rw [labs_cons]; simp only [List.length_cons, ih]; omega
theorem labs_at : ∀ (l : List Lab) (j : Nat), (hj : j < l.length) → (labs l)[j * 3]? = some (.string l[j].tag) ∧ (labs l)[j * 3 + 1]? = some (.string l[j].key) ∧ (labs l)[j * 3 + 2]? = some (.int .i64 l[j].n)
  | x :: l, 0, _ => ⟨rfl, rfl, rfl⟩
  | x :: l, j + 1, h => by
    have ih := labs_at l j (by simpa using h)
    have e : (j + 1) * 3 = j * 3 + 1 + 1 + 1 := by omega
    rw [labs_cons, e]
    exact ih
theorem labs_set : ∀ (l : List Lab) (i : Nat) (x : Lab), i < l.length → (((labs l).set (i * 3) (.string x.tag)).set (i * 3 + 1) (.string x.key)).set (i * 3 + 2) (.int .i64 x.n) = labs (l.set i x)
  | y :: l, 0, x, _ => rfl
  | y :: l, i + 1, x, h => by
    have ih := labs_set l i x (by simpa using h)
    have e : (i + 1) * 3 = i * 3 + 1 + 1 + 1 := by omega
    rw [List.set_cons_succ, labs_cons, labs_cons, e, ← ih]
    rfl
theorem labs_setn : ∀ (l : List Lab) (i : Nat) (x : Lab) (n : Int), (hi : i < l.length) → l[i] = x → (labs l).set (i * 3 + 2) (.int .i64 n) = labs (l.set i ⟨x.tag, x.key, n⟩)
  | y :: l, 0, x, n, _, h => by cases h; rfl
  | y :: l, i + 1, x, n, h, hx => by
    have ih := labs_setn l i x n (by simpa using h) (by simpa using hx)
    have e : (i + 1) * 3 = i * 3 + 1 + 1 + 1 := by omega
    rw [List.set_cons_succ, labs_cons, labs_cons, e, ← ih]
    rfl
/-- A slice of labels. -/
def LRow (w : World) (B : Nat) (A : Option Addr) (ls : List Lab) : Prop :=
  0 < ls.length → ∃ b off, A = some ⟨b, off, none⟩ ∧ b < B ∧ ∀ j, (hj : j < ls.length) → w.cell? ⟨b, off + j * 3, none⟩ = some (.string ls[j].tag) ∧ w.cell? ⟨b, off + j * 3 + 1, none⟩ = some (.string ls[j].key) ∧ w.cell? ⟨b, off + j * 3 + 2, none⟩ = some (.int .i64 ls[j].n)
theorem lrow_at {w : World} {B : Nat} {A : Option Addr} {ls : List Lab} (h : LRow w B A ls) {j : Nat} (hj : j < ls.length) :
    ∃ b off L, A = some ⟨b, off, none⟩ ∧ b < B ∧ L = ls[j] ∧ w.cell? ⟨b, off + j * 3, none⟩ = some (.string L.tag) ∧ w.cell? ⟨b, off + j * 3 + 1, none⟩ = some (.string L.key) ∧ w.cell? ⟨b, off + j * 3 + 2, none⟩ = some (.int .i64 L.n) := by
  obtain ⟨b, off, hA, hb, hc⟩ := h (by omega)
  exact ⟨b, off, _, hA, hb, rfl, hc j hj⟩
theorem LRow.below {w w' : World} {B : Nat} {A : Option Addr} {ls : List Lab} (h : LRow w B A ls) (hb : Below B w w') : LRow w' B A ls := by
  intro h0
  obtain ⟨b, off, hA, hlt, hc⟩ := h h0
  exact ⟨b, off, hA, hlt, fun j hj => ⟨(hb.cell (p := ⟨b, off + j * 3, none⟩) hlt).trans (hc j hj).1, (hb.cell (p := ⟨b, off + j * 3 + 1, none⟩) hlt).trans (hc j hj).2.1, (hb.cell (p := ⟨b, off + j * 3 + 2, none⟩) hlt).trans (hc j hj).2.2⟩⟩
theorem LRow.mono {w : World} {B B' : Nat} {A : Option Addr} {ls : List Lab} (h : LRow w B A ls) (hb : B ≤ B') : LRow w B' A ls := by
  intro h0
  obtain ⟨b, off, hA, hlt, hc⟩ := h h0
  exact ⟨b, off, hA, by omega, hc⟩
theorem LRow.up {w w' : World} {A : Option Addr} {ls : List Lab} (h : LRow w w.heap.size A ls) (hb : Below w.heap.size w w') : LRow w' w'.heap.size A ls := (h.below hb).mono hb.size
theorem lrow_own {w : World} {base e : Nat} {v : Value} {ls : List Lab} (h : w.ownsRow base e 3 v ls.length (labs ls)) :
    ∃ A cap, v = .slice A ls.length cap ∧ LRow w w.heap.size A ls ∧ ls.length ≤ cap ∧ cap ≤ maxLen := by
  rcases h.2 with ⟨rfl, hn⟩ | ⟨g, cap, cur, rfl, _, hg, hnc, hcm, _, _⟩
  · exact ⟨none, 0, by rw [hn], fun h0 => by omega, by omega, by simp [maxLen]⟩
  · refine ⟨_, cap, rfl, fun _ => ⟨g, 0, rfl, (Array.getElem?_eq_some_iff.1 hg).1, fun j hj => ?_⟩, hnc, hcm⟩
    obtain ⟨a, b, c⟩ := labs_at ls j hj
    rw [Nat.zero_add, World.ownsRow.cellAt h (j * 3) (by omega), World.ownsRow.cellAt h (j * 3 + 1) (by omega), World.ownsRow.cellAt h (j * 3 + 2) (by omega)]
    exact ⟨a, b, c⟩
/-- A slice of labels that the call made. -/
def MadeL (w : World) (ls : List Lab) (e : Ending) (w' : World) : Prop := ∃ A c, e = .returned (.slice A ls.length c) ∧ LRow w' w'.heap.size A ls ∧ ls.length ≤ c ∧ c ≤ maxLen ∧ Below w.heap.size w w'
theorem three_new (W : World) (a b c : Value) (t : TypeId) (B : Nat) (hB : B = W.heap.size) : ∀ j u, [a, b, c][j]? = some u → (W.alloc (.cells #[a, b, c] t)).cell? ((⟨B, 0, none⟩ : Addr).add j) = some u := by
  subst hB
  intro j u hj
  have e1 : (W.alloc (.cells #[a, b, c] t)).cell? ⟨W.heap.size, 0 + j, none⟩ = (#[a, b, c] : Array Value)[0 + j]? := cell_of_row _ _ _ _ _ (0, 0) (heap_alloc_new W _)
  rw [Addr.add_lit, e1]
  simpa using hj
theorem wpList_app3 {P : Program} {w : World} {ops : Array Oper} {rest : List Oper} {o : Oper} {a : Act} {Q : Exit → Act → World → Prop} (hgd : o.guard = none) (s x : Operand) (t : TypeId)
    (ho : o.op = .call { callee := .builtin .append, args := #[s, x], argTypes := #[t, t] })
    (base : Nat) (e : TypeId) (i : TypeInfo) (z : Value) (bytes : Nat) (ht : P.underlying t = some (.slice e)) (hi : P.info? e = some i) (hz : i.zero = some z)
    (hsize : i.size = 3) (hby : i.bytes = bytes) (hzs : z.cells.size = 3)
    (v : Value) (n : Nat) (xs : List Value) (hs : a.eval s = v) (hown : w.ownsRow base e 3 v n xs)
    (u1 u2 u3 : Value) (B : Nat) (hB : B = w.heap.size) (hx : a.eval x = .slice (some ⟨B, 0, none⟩) 1 1) (h1 : u1.oneCell' = true) (h2 : u2.oneCell' = true) (h3 : u3.oneCell' = true)
    (hbytes : (n + 1) * bytes ≤ 140737488355328) (h63 : n + 1 ≤ maxLen) (hbase : base ≤ w.heap.size)
    (h : ∀ v' w', w'.ownsRow base e 3 v' (n + 1) (xs ++ [u1, u2, u3]) → (w.alloc (.cells #[u1, u2, u3] e)).grownBy w' v.ownBlock → wpList P ops Q rest (a.put o.dst v') w') : wpList P ops Q (o :: rest) a (w.alloc (.cells #[u1, u2, u3] e)) := by
  subst hB
  refine wpList_append_own (w.alloc (.cells #[u1, u2, u3] e)) hgd s x t ho base e i z 3 bytes ht hi hz hsize hby hzs (by omega) v n xs hs (hown.alloc _) ⟨w.heap.size, 0, none⟩ 1 1 [u1, u2, u3] hx rfl (three_new _ _ _ _ _ _ rfl) ?_ h63 hbytes (by simp; omega) ?_
  · intro y hy; simp at hy; rcases hy with rfl | rfl | rfl
    · exact h1
    · exact h2
    · exact h3
  · intro v' w' hown' hgrow _
    exact h v' w' hown' hgrow
theorem made_labs (n : Nat) : (madeCells (Value.agg #[.string ⟨#[]⟩, .string ⟨#[]⟩, .int .i64 0]).cells (n * 3)).toList = labs (List.replicate n zL) := by
  have hz : (Value.agg #[.string ⟨#[]⟩, .string ⟨#[]⟩, .int .i64 0]).cells = #[.string ⟨#[]⟩, .string ⟨#[]⟩, .int .i64 0] := rfl
  rw [hz]
  have e : ∀ m, (madeCells #[.string ⟨#[]⟩, .string ⟨#[]⟩, .int .i64 0] m).toList = (List.range m).map (fun j => (#[.string ⟨#[]⟩, .string ⟨#[]⟩, .int .i64 0] : Array Value)[j % 3]!) := fun m => by
    simp [madeCells]
  rw [e]
  induction n with
  | zero => rfl
  | succ n ih =>
    have e2 : (n + 1) * 3 = n * 3 + 1 + 1 + 1 := by omega
    rw [e2, List.range_succ, List.range_succ, List.range_succ, List.map_append, List.map_append, List.map_append, ih, List.replicate_succ', labs_snoc]
    have m0 : n * 3 % 3 = 0 := by omega
    have m1 : (n * 3 + 1) % 3 = 1 := by omega
    have m2 : (n * 3 + 1 + 1) % 3 = 2 := by omega
    simp only [List.map_cons, List.map_nil, m0, m1, m2, List.append_assoc]
    rfl
/-! The labels of siblings. -/
def free (t : ByteArray) (k : Tr) : Bool := decide (k.key = noS) && decide (k.tag = t)
def cnt (ks : List Tr) (t : ByteArray) : Nat := ks.countP (free t)
def labOf (ks : List Tr) (k : Tr) : Lab := ⟨k.tag, k.key, if k.key = noS then (cnt ks k.tag : Int) else 0⟩
def firstL (ks : List Tr) : Nat → List Lab
  | 0 => []
  | i + 1 => firstL ks i ++ (match ks[i]? with | some k => [labOf (ks.take (i + 1)) k] | none => [])
abbrev labsOf (ks : List Tr) : List Lab := firstL ks ks.length
theorem firstL_succ {ks : List Tr} {i : Nat} {k : Tr} (h : ks[i]? = some k) : firstL ks (i + 1) = firstL ks i ++ [labOf (ks.take (i + 1)) k] := by
  rw [firstL, h]
theorem firstL_length {ks : List Tr} : ∀ {i : Nat}, i ≤ ks.length → (firstL ks i).length = i
  | 0, _ => rfl
  | i + 1, h => by
    rw [firstL_succ (List.getElem?_eq_getElem (by omega)), List.length_append, firstL_length (by omega)]; rfl
theorem firstL_get {ks : List Tr} : ∀ {i j : Nat}, i ≤ ks.length → (h : j < i) → ∀ k, ks[j]? = some k → (firstL ks i)[j]? = some (labOf (ks.take (j + 1)) k)
  | 0, j, _, h, k, _ => by omega
  | i + 1, j, hi, h, k, hk => by
    rw [firstL_succ (List.getElem?_eq_getElem (by omega))]
    rcases Nat.lt_or_ge j i with h1 | h1
    · rw [List.getElem?_append_left (by rw [firstL_length (by omega)]; exact h1)]
      exact firstL_get (by omega) h1 k hk
    · have : j = i := by omega
      subst this
      rw [List.getElem?_append_right (by rw [firstL_length (by omega)]; exact Nat.le_refl _), firstL_length (by omega), Nat.sub_self]
      rw [List.getElem?_eq_getElem (by omega)] at hk
      cases hk; rfl
theorem cnt_succ {ks : List Tr} {i : Nat} {k : Tr} (h : ks[i]? = some k) (t : ByteArray) : cnt (ks.take (i + 1)) t = cnt (ks.take i) t + (if free t k then 1 else 0) := by
  unfold cnt
  rw [List.take_add_one, h, List.countP_append]
  simp [List.countP_cons]
theorem cnt_le (ks : List Tr) (i : Nat) (t : ByteArray) : cnt (ks.take i) t ≤ i := by
  unfold cnt
  have := List.countP_le_length (p := free t) (l := ks.take i)
  rw [List.length_take] at this
  omega
theorem cnt_mono (ks : List Tr) (t : ByteArray) {i j : Nat} (h : i ≤ j) : cnt (ks.take i) t ≤ cnt (ks.take j) t := by
  unfold cnt
  have e : ks.take i = (ks.take j).take i := by rw [List.take_take, Nat.min_eq_left h]
  rw [e]
  exact List.Sublist.countP_le (List.take_sublist _ _)
theorem cnt_pos {ks : List Tr} {i : Nat} {k : Tr} (h : ks[i]? = some k) (hk : k.key = noS) : cnt (ks.take (i + 1)) k.tag = cnt (ks.take i) k.tag + 1 := by
  rw [cnt_succ h, if_pos (by simp [free, hk])]
/-- No two labels of siblings whose keys are apart are alike. -/
theorem labs_apart {ks : List Tr} (hk : KeysOk (fun _ => False) ks) {i j : Nat} (hj : j < i) (hi : i < ks.length) : (labsOf ks)[j]? ≠ (labsOf ks)[i]? := by
  have gi := List.getElem?_eq_getElem (l := ks) (i := i) hi
  have gj := List.getElem?_eq_getElem (l := ks) (i := j) (by omega)
  rw [firstL_get (Nat.le_refl _) hi _ gi, firstL_get (Nat.le_refl _) (by omega) _ gj]
  intro e
  have e := Option.some.inj e
  have e1 : ks[j].tag = ks[i].tag := congrArg Lab.tag e
  have e2 : ks[j].key = ks[i].key := congrArg Lab.key e
  rcases (keysOk_iff.1 hk) i hi with h | ⟨_, h⟩
  · have h0 : ks[i].key = noS := h
    have e3 := congrArg Lab.n e
    simp only [labOf, e1, e2, h0, if_true] at e3
    have c1 := cnt_pos gi h0
    have c2 := cnt_mono ks ks[i].tag (show j + 1 ≤ i by omega)
    have e3' : cnt (ks.take (j + 1)) ks[i].tag = cnt (ks.take (i + 1)) ks[i].tag := Int.ofNat.inj e3
    omega
  · exact h j hj e2
end Go.Proofs.YtlebcebihieiiaaDoor
