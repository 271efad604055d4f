/-
  Slices of integers: how they read, what a call makes; two of them compared.
-/
import Derived.Test.YtlkdklpglmglkaaFRow
import Derived.Laws.AppendOwnNone
namespace Go.Proofs.Ytlkdklpglmglkaa.I
open Go.RowKit
set_option linter.unusedVariables false
set_option maxRecDepth 100000

abbrev ints (zs : List Int) : List Value := zs.map (Value.int .i64)
/-- A slice of integers. -/
def Row (w : World) (B : Nat) (A : Option Addr) (zs : List Int) : Prop :=
  0 < zs.length → ∃ b off, A = some ⟨b, off, none⟩ ∧ b < B ∧ ∀ j, j < zs.length → w.cell? ⟨b, off + j, none⟩ = some (.int .i64 (zs.getD j 0))
theorem row_at {w : World} {B : Nat} {A : Option Addr} {zs : List Int} (h : Row w B A zs) {j : Nat} (hj : j < zs.length) :
    ∃ b off x, A = some ⟨b, off, none⟩ ∧ b < B ∧ x = zs.getD j 0 ∧ w.cell? ⟨b, off + j, none⟩ = some (.int .i64 x) := by
  obtain ⟨b, off, hA, hb, hc⟩ := h (by omega)
  exact ⟨b, off, _, hA, hb, rfl, hc j hj⟩
theorem Row.at2 {w : World} {B b off : Nat} {zs : List Int} (h : Row w B (some ⟨b, off, none⟩) zs) {j : Nat} (hj : j < zs.length) : w.cell? ⟨b, off + j, none⟩ = some (.int .i64 (zs.getD j 0)) := by
  obtain ⟨b', off', hA, hb, hc⟩ := h (by omega)
  obtain ⟨rfl, rfl⟩ : b = b' ∧ off = off' := by simpa using hA
  exact hc j hj
theorem Row.below {w w' : World} {B : Nat} {A : Option Addr} {zs : List Int} (h : Row w B A zs) (hb : Below B w w') : Row w' B A zs := by
  intro h0
  obtain ⟨b, off, hA, hlt, hc⟩ := h h0
  exact ⟨b, off, hA, hlt, fun j hj => (hb.cell (p := ⟨b, off + j, none⟩) hlt).trans (hc j hj)⟩
theorem Row.mono {w : World} {B B' : Nat} {A : Option Addr} {zs : List Int} (h : Row w B A zs) (hb : B ≤ B') : Row w B' A zs := by
  intro h0
  obtain ⟨b, off, hA, hlt, hc⟩ := h h0
  exact ⟨b, off, hA, by omega, hc⟩
theorem Row.nil (w : World) (B : Nat) (A : Option Addr) : Row w B A [] := fun h => by simp at h
theorem Row.drewN {w : World} {B : Nat} {A : Option Addr} {zs : List Int} (h : Row w B A zs) (n : Nat) : Row (w.drewN n) B A zs := h

/-- A row of integers that the call itself made. -/
def OwnI (w : World) (base : Nat) (v : Value) (zs : List Int) : Prop := w.ownsRow base 3 1 v zs.length (ints zs)
theorem row_own {w : World} {base : Nat} {v : Value} {zs : List Int} (h : OwnI w base v zs) :
    ∃ A cap, v = .slice A zs.length cap ∧ Row w w.heap.size A zs ∧ zs.length ≤ cap ∧ cap ≤ maxLen ∧ (A = none → cap = 0) := by
  rcases h.2 with ⟨rfl, hn⟩ | ⟨g, cap, cur, rfl, _, hg, hnc, hcm, _, _⟩
  · exact ⟨none, 0, by rw [hn], fun h0 => by omega, by omega, by simp [maxLen], fun _ => rfl⟩
  · refine ⟨_, cap, rfl, fun _ => ⟨g, 0, rfl, (Array.getElem?_eq_some_iff.1 hg).1, fun j hj => ?_⟩, hnc, hcm, fun h => by cases h⟩
    rw [Nat.zero_add, World.ownsRow.cellAt h j (by omega)]
    simp [List.getD_eq_getElem?_getD, List.getElem?_eq_getElem hj]
theorem row_lit {w : World} (e : TypeId) (zs : List Int) : Row (w.alloc (.cells (zs.map (Value.int .i64)).toArray e)) (w.heap.size + 1) (some ⟨w.heap.size, 0, none⟩) zs := by
  intro _
  refine ⟨w.heap.size, 0, rfl, by omega, fun j hj => ?_⟩
  have : (w.alloc (.cells (zs.map (Value.int .i64)).toArray e)).cell? ⟨w.heap.size, 0 + j, none⟩ = (zs.map (Value.int .i64)).toArray[0 + j]? := cell_of_row _ _ _ _ _ (0, 0) (heap_alloc_new w _)
  rw [this]
  simp [List.getD_eq_getElem?_getD, List.getElem?_eq_getElem hj]

theorem Try.info3 : (Try.prog.info? 3).map (fun i => (i.zero, i.size, i.bytes)) = some (some (.int .i64 0), 1, 8) := by kernel_rfl

/-- What a call answers that makes a slice of integers and turns nothing that was there. -/
def Made (w : World) (zs : List Int) (e : Ending) (w' : World) : Prop :=
  ∃ A c, e = .returned (.slice A zs.length c) ∧ Row w' w'.heap.size A zs ∧ zs.length ≤ c ∧ c ≤ maxLen ∧ (A = none → c = 0) ∧ Below w.heap.size w w'
theorem made_own {w w' : World} {base : Nat} {v : Value} {zs : List Int} (h : OwnI w' base v zs) (hb : Below w.heap.size w w') : Made w zs (.returned v) w' := by
  obtain ⟨A, c, rfl, h1, h2, h3, h4⟩ := row_own h
  exact ⟨A, c, rfl, h1, h2, h3, h4, hb⟩

theorem wpList_app1 {P : Program} {w : World} {ops : Array Oper} {rest : List Oper} {o : Oper} {a : Act} {Q : Exit → Act → World → Prop} (hgd : o.guard = none) (s x : Operand) (t : TypeId)
    (ho : o.op = .call { callee := .builtin .append, args := #[s, x], argTypes := #[t, t] })
    (base : Nat) (e : TypeId) (i : TypeInfo) (z : Value) (bytes : Nat) (ht : P.underlying t = some (.slice e)) (hi : P.info? e = some i) (hz : i.zero = some z)
    (hsize : i.size = 1) (hby : i.bytes = bytes) (hzs : z.cells.size = 1)
    (v : Value) (n : Nat) (xs : List Value) (hs : a.eval s = v) (hown : w.ownsRow base e 1 v n xs)
    (u : Value) (hx : a.eval x = .slice (some ⟨w.heap.size, 0, none⟩) 1 1) (h1 : u.oneCell' = true)
    (hbytes : (n + 1) * bytes ≤ 140737488355328) (h63 : n + 1 ≤ maxLen) (hbase : base ≤ w.heap.size)
    (h : ∀ v' w', w'.ownsRow base e 1 v' (n + 1) (xs ++ [u]) → Below base w w' → wpList P ops Q rest (a.put o.dst v') w') : wpList P ops Q (o :: rest) a (w.alloc (.cells #[u] e)) := by
  refine wpList_append_own (w.alloc (.cells #[u] e)) hgd s x t ho base e i z 1 bytes ht hi hz hsize hby hzs (by omega) v n xs hs (hown.alloc _) ⟨w.heap.size, 0, none⟩ 1 1 [u] hx rfl ?_ ?_ h63 hbytes (by simp; omega) ?_
  · intro j y hj
    match j, hj with
    | 0, hj => simp at hj; subst hj; simp [Addr.add]
  · intro y hy; simp at hy; subst hy; exact h1
  · intro v' w' hown' hgrow _
    exact h v' w' hown' (((Below.refl base w).alloc hbase _).grown hgrow (by simp; omega) (fun k hk => (hown.lt k hk).1))

theorem made_ints (n : Nat) : (madeCells (Value.int .i64 0).cells (n * 1)).toList = ints (List.replicate n 0) := by
  have : (Value.int .i64 0).cells = #[.int .i64 0] := rfl
  rw [this, toList_madeCells_one]; simp [ints]

theorem bel_drewN {B : Nat} {a w : World} (h : Below B a w) (n : Nat) : Below B a (w.drewN n) := h.trans (below_drewN _ _ _)

/-- Two slices of integers, compared (tendrilplain.Ints). -/
theorem ints_any (A1 A2 : Option Addr) (c1 c2 : Nat) (zs : List Int) (w : World) (h1 : Row w w.heap.size A1 zs) (h2 : Row w w.heap.size A2 zs) (hl : zs.length ≤ 1000000000) :
    Calls Try.prog 26 #[.slice A1 zs.length c1, .slice A2 zs.length c2] w fun e w' => e = .returned (.bool true) ∧ Below w.heap.size w w' := by
  go_enter Try.func26, Try.ntmps26
  go_wp2
  go_loopw [13] (fun i wr => ∃ k : Nat, k ≤ zs.length ∧ i = .int .i64 k ∧ Below w.heap.size w wr) (fun i _ => zs.length - (intOf i).toNat)
  case atStart => exact ⟨0, by omega, rfl, Below.refl _ _⟩
  case round =>
    obtain ⟨k, hk, rfl, hbel⟩ := hrel
    by_cases hlt : k < zs.length
    · obtain ⟨b1, o1, x, rfl, hb1, hx1, hc1⟩ := row_at (h1.below hbel) hlt
      obtain ⟨b2, o2, y, rfl, hb2, hx2, hc2⟩ := row_at (h2.below hbel) hlt
      obtain rfl : x = y := by rw [hx1, hx2]
      clear hx1 hx2
      go_wp2_with fail
      go_quiet (fail)
      go_wp2
      exact ⟨⟨k + 1, by omega, by go_num, bel_drewN hbel _⟩, by simp [intOf]; omega⟩
    · go_wp2
      go_ret
      exact ⟨rfl, hbel⟩
end Go.Proofs.Ytlkdklpglmglkaa.I
