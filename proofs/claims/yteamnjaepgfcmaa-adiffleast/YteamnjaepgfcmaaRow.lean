/-
  A slice of attributes in memory, and a row that the call itself may write.
-/
import Derived.Test.YteamnjaepgfcmaaCmp
import Derived.Lib.SliceRun
import Derived.Deep.OwnRows
namespace Go.Proofs.Yteamnjaepgfcmaa
open Go.RowKit Go.Sort
set_option linter.unusedVariables false

def ats (l : List At) : List Value := l.flatMap encA
theorem ats_append (a b : List At) : ats (a ++ b) = ats a ++ ats b := by simp [ats]
theorem ats_length (l : List At) : (ats l).length = l.length * 2 := by
  induction l with
  | nil => rfl
  | cons p ps ih => simp only [ats, List.flatMap_cons, List.length_append, List.length_cons, encA, List.length_nil] at ih ⊢; omega
abbrev noAt : At := (ByteArray.empty, ByteArray.empty)
theorem ats_at : ∀ (l : List At) (j : Nat), j < l.length * 2 → (ats l)[j]? = some ((encA (l.getD (j / 2) noAt)).getD (j % 2) undef)
  | [], j, h => by simp at h
  | L :: ss, j, h => by
    by_cases h3 : j < 2
    · have e1 : j / 2 = 0 := by omega
      have e2 : j % 2 = j := by omega
      rw [e1, e2]
      match j, h3 with
      | 0, _ => rfl
      | 1, _ => rfl
    · have h' : j - 2 < ss.length * 2 := by simp at h; omega
      have ih := ats_at ss (j - 2) h'
      have e1 : j / 2 = (j - 2) / 2 + 1 := by omega
      have e2 : j % 2 = (j - 2) % 2 := by omega
      rw [e1, e2]
      simp only [ats, List.flatMap_cons] at ih ⊢
      rw [List.getElem?_append_right (by simp [encA]; omega)]
      simp only [encA, List.length_cons, List.length_nil] at ih ⊢
      rw [ih]
      simp
theorem ats_one (l : List At) : ∀ y ∈ ats l, y.oneCell' = true := by
  intro y hy
  obtain ⟨p, _, hp⟩ := List.mem_flatMap.1 hy
  exact encA_one p y hp
/-- A slice of attributes. -/
def TRow (w : World) (B : Nat) (A : Option Addr) (es : List At) : Prop :=
  0 < es.length → ∃ b off, A = some ⟨b, off, none⟩ ∧ b < B ∧ ∀ j, (hj : j < es.length) → w.cell? ⟨b, off + j * 2, none⟩ = some (.string es[j].1) ∧ w.cell? ⟨b, off + j * 2 + 1, none⟩ = some (.string es[j].2)
theorem trow_at {w : World} {B : Nat} {A : Option Addr} {es : List At} (h : TRow w B A es) {j : Nat} (hj : j < es.length) :
    ∃ b off p, A = some ⟨b, off, none⟩ ∧ b < B ∧ p = es[j] ∧ w.cell? ⟨b, off + j * 2, none⟩ = some (.string p.1) ∧ w.cell? ⟨b, off + j * 2 + 1, none⟩ = some (.string p.2) := by
  obtain ⟨b, off, hA, hb, hc⟩ := h (by omega)
  exact ⟨b, off, _, hA, hb, rfl, hc j hj⟩
theorem TRow.below {w w' : World} {B : Nat} {A : Option Addr} {es : List At} (h : TRow w B A es) (hb : Below B w w') : TRow w' B A es := by
  intro h0
  obtain ⟨b, off, hA, hlt, hc⟩ := h h0
  exact ⟨b, off, hA, hlt, fun j hj => ⟨(hb.cell (p := ⟨b, off + j * 2, none⟩) hlt).trans (hc j hj).1, (hb.cell (p := ⟨b, off + j * 2 + 1, none⟩) hlt).trans (hc j hj).2⟩⟩
theorem TRow.mono {w : World} {B B' : Nat} {A : Option Addr} {es : List At} (h : TRow w B A es) (hb : B ≤ B') : TRow w B' A es := by
  intro h0
  obtain ⟨b, off, hA, hlt, hc⟩ := h h0
  exact ⟨b, off, hA, by omega, hc⟩
theorem TRow.up {w w' : World} {A : Option Addr} {es : List At} (h : TRow w w.heap.size A es) (hb : Below w.heap.size w w') : TRow w' w'.heap.size A es := (h.below hb).mono hb.size
theorem TRow.nil (w : World) (B : Nat) (A : Option Addr) : TRow w B A [] := fun h => by simp at h
theorem TRow.drewN {w : World} {B : Nat} {A : Option Addr} {es : List At} (h : TRow w B A es) (n : Nat) : TRow (w.drewN n) B A es := h
theorem trow_take {w : World} {B : Nat} {A : Option Addr} {es : List At} (h : TRow w B A es) (t : Nat) : TRow w B A (es.take t) := by
  intro h0
  obtain ⟨b, off, hA, hb, hc⟩ := h (by simp at h0; omega)
  refine ⟨b, off, hA, hb, fun j hj => ?_⟩
  have hj2 : j < es.length := by simp at hj; omega
  have e : (es.take t)[j] = es[j] := by simp
  rw [e]
  exact hc j hj2
theorem trow_cut {w : World} {B b off : Nat} {es : List At} (h : TRow w B (some ⟨b, off, none⟩) es) (t : Nat) : TRow w B (some ⟨b, off + t * 2, none⟩) (es.drop t) := by
  intro h0
  have hlt : t < es.length := by simp at h0; omega
  obtain ⟨b', off', hA, hb, hc⟩ := h (by omega)
  obtain ⟨rfl, rfl⟩ : b = b' ∧ off = off' := by simpa using hA
  refine ⟨b, off + t * 2, rfl, hb, fun j hj => ?_⟩
  have := hc (t + j) (by simp at hj; omega)
  have e : (es.drop t)[j] = es[t + j]'(by simp at hj; omega) := by simp
  rw [e, show off + t * 2 + j * 2 = off + (t + j) * 2 by omega]
  exact this
theorem trow_none {w : World} {B : Nat} {es : List At} (h : TRow w B none es) : es = [] := by
  rcases Nat.eq_zero_or_pos es.length with h0 | h0
  · exact List.eq_nil_of_length_eq_zero h0
  · obtain ⟨_, _, h, _⟩ := h h0; cases h
theorem trow_own {w : World} {base e : Nat} {v : Value} {es : List At} (h : w.ownsRow base e 2 v es.length (ats es)) :
    ∃ A cap, v = .slice A es.length cap ∧ TRow w w.heap.size A es ∧ es.length ≤ cap ∧ cap ≤ maxLen ∧ (A = none → cap = 0) := by
  rcases h.2 with ⟨rfl, hn⟩ | ⟨g, cap, cur, rfl, _, hg, hnc, hcm, _, _⟩
  · exact ⟨none, 0, by rw [hn], fun h0 => by omega, by omega, by simp [maxLen], fun _ => rfl⟩
  · refine ⟨_, cap, rfl, fun _ => ⟨g, 0, rfl, (Array.getElem?_eq_some_iff.1 hg).1, fun j hj => ?_⟩, hnc, hcm, fun h => by cases h⟩
    have e : es.getD j noAt = es[j] := by simp [List.getD_eq_getElem?_getD, hj]
    have d0 : j * 2 / 2 = j := by omega
    have d1 : (j * 2 + 1) / 2 = j := by omega
    have m0 : j * 2 % 2 = 0 := by omega
    have m1 : (j * 2 + 1) % 2 = 1 := by omega
    rw [Nat.zero_add, World.ownsRow.cellAt h (j * 2) (by omega), World.ownsRow.cellAt h (j * 2 + 1) (by omega), ats_at es (j * 2) (by omega), ats_at es (j * 2 + 1) (by omega), d0, d1, m0, m1, e]
    exact ⟨rfl, rfl⟩
/-- What a call hands back that makes a slice of attributes. -/
def MadeT (w : World) (l : List At) (e : Ending) (w' : World) : Prop := ∃ A c, e = .returned (.slice A l.length c) ∧ TRow w' w'.heap.size A l ∧ l.length ≤ c ∧ c ≤ maxLen ∧ Below w.heap.size w w'

/-! The row of the sort's. -/
theorem flat_ats (l : List At) : (flatK encA 2 l.toArray).toList = ats l := by
  apply List.ext_getElem?
  intro j
  by_cases hj : j < l.length * 2
  · rw [ats_at l j hj, Array.getElem?_toList, Array.getElem?_eq_getElem (by simpa using hj)]
    congr 1
    have := get_flatK encA 2 l.toArray j (by simpa using hj)
    rw [getElem!_pos _ j (by simpa using hj)] at this
    rw [this]
    have hq : j / 2 < l.length := by omega
    have e1 : l.toArray[j / 2]! = l.getD (j / 2) noAt := by simp [List.getD_eq_getElem?_getD, hq]
    rw [e1]
    have h2 : j % 2 = 0 ∨ j % 2 = 1 := by omega
    rcases h2 with h2 | h2 <;> rw [h2] <;> rfl
  · rw [List.getElem?_eq_none (by simp; omega), List.getElem?_eq_none (by rw [ats_length]; omega)]
theorem SW.trow {w0 W : World} {blk off : Nat} {dk d0 : Array At} (h : SW w0 blk off dk W) (R : RK w0 blk off d0) (hs : dk.size = d0.size) : TRow W W.heap.size (some ⟨blk, off, none⟩) dk.toList := by
  intro h0
  refine ⟨blk, off, rfl, h.lt R.hblk, fun j hj => ?_⟩
  have hj' : j < dk.size := by simpa using hj
  have := (SW.cells h R hs j hj').1
  rw [getElem!_pos dk j hj'] at this
  simpa using this
theorem SW.below {w0 W : World} {blk off : Nat} {dk : Array At} (h : SW w0 blk off dk W) {B : Nat} (hB : B ≤ blk) (hs : B ≤ w0.heap.size) : Below B w0 W := by
  obtain ⟨n, os, rfl⟩ := h
  unfold sortWorldK
  refine ⟨rfl, rfl, rfl, ?_, fun k hk => ?_⟩
  · rw [size_grow, size_putRowK]; exact Nat.le_add_right _ _
  · rw [heap_grow_old _ _ (by rw [size_putRowK]; show k < w0.heap.size; omega)]
    have : blk ≠ k := by omega
    simp [putRowK, putRow, mapBlock, Sort.ahead, Array.getElem?_modify, this]
theorem setMany_set (d : Array At) (i : Nat) (x : At) (hi : i < d.size) : setMany (flatK encA 2 d) (i * 2) (encA x) = flatK encA 2 (d.setIfInBounds i x) := by
  refine ext_get! (by simp) fun t ht => ?_
  have ht' : t < d.size * 2 := by simpa using ht
  rw [get_setMany _ _ _ t (by simpa using ht'), get_flatK _ _ _ t ht', get_flatK _ _ _ t (by simpa using ht')]
  by_cases h : i * 2 ≤ t ∧ t < i * 2 + (encA x).length
  · rw [if_pos h]
    rw [encA_len] at h
    have e : t / 2 = i := by omega
    rw [e, getElem!_set_same d i x hi]
    congr 1
    omega
  · rw [if_neg h]
    rw [encA_len] at h
    have e : t / 2 ≠ i := by omega
    have : (d.setIfInBounds i x)[t / 2]! = d[t / 2]! := by
      have hq : t / 2 < d.size := by omega
      rw [getElem!_pos _ (t / 2) (by simpa using hq), getElem!_pos d (t / 2) hq, Array.getElem_setIfInBounds, if_neg (Ne.symm e)]
    rw [this]
theorem SW.set {w0 W : World} {blk off : Nat} {dk : Array At} (h : SW w0 blk off dk W) (hblk : blk < w0.heap.size) (i : Nat) (x : At) (hi : i < dk.size) :
    SW w0 blk off (dk.setIfInBounds i x) ((W.setCell ⟨blk, off + i * 2, none⟩ (.string x.1)).setCell ⟨blk, off + i * 2 + 1, none⟩ (.string x.2)) := by
  obtain ⟨n, os, rfl⟩ := h
  refine ⟨n, os, ?_⟩
  show (sortWorldK encA 2 w0 blk off n dk os).setCells blk (off + i * 2) (encA x) = _
  unfold sortWorldK
  rw [setCells_grow _ _ _ _ _ (by rw [size_putRowK]; exact hblk)]
  congr 1
  unfold putRowK
  rw [setCells_putRow _ _ _ _ _ _ (by rw [encA_len, size_flatK]; omega), setMany_set dk i x hi]
/-- clear on the end of a row. -/
theorem clear_run {w : World} (b o n c : Nat) (hn : 0 < n) (hc : ∀ j, j < n * 2 → (w.cell? ⟨b, o + j, none⟩).isSome = true) (hf : ∀ j, j < n * 2 → w.frozen? ⟨b, o + j, none⟩ = false) :
    ∃ vs : List Value, vs.length = n * 2 ∧ ∀ ty, (Builtin.clear_ #[22] ty #[.slice (some ⟨b, o, none⟩) n c]).run Try.prog w = .ok (.tuple #[]) (w.setCells b o vs) := by
  have hz : (Builtin.zeroCells #[Value.string ByteArray.empty, Value.string ByteArray.empty] n).toList.length = n * 2 := by simp [Builtin.zeroCells]
  refine ⟨_, hz, fun ty => ?_⟩
  have hst := run_storeCells_cells (P := Try.prog) b o _ 0 w (by rw [hz]; simpa using hc) (by rw [hz]; simpa using hf) (fun v hv => by
    simp only [Builtin.zeroCells, Array.toList_map] at hv
    obtain ⟨i, _, rfl⟩ := List.mem_map.1 hv
    have h2 : i % 2 = 0 ∨ i % 2 = 1 := by omega
    show (#[Value.string ByteArray.empty, Value.string ByteArray.empty][i % 2]!).oneCell' = true
    rcases h2 with h2 | h2 <;> rw [h2] <;> rfl)
  simp only [Nat.add_zero] at hst
  obtain ⟨m, rfl⟩ : ∃ m, n = m + 1 := ⟨n - 1, by omega⟩
  have hv : (zeroValue 56).run Try.prog w = .ok (.agg #[.string ByteArray.empty, .string ByteArray.empty]) w := by kernel_rfl
  have hcl : (Value.agg #[.string ByteArray.empty, .string ByteArray.empty]).cells = #[Value.string ByteArray.empty, Value.string ByteArray.empty] := rfl
  simp [Builtin.clear_, run_underlying Try.underlying22, hv, hcl, hst]
theorem below_setCells {B : Nat} {a : World} (b : Nat) (hb : B ≤ b) : ∀ (vs : List Value) (o : Nat) (w : World), Below B a w → Below B a (w.setCells b o vs)
  | [], o, w, h => h
  | v :: r, o, w, h => below_setCells b hb r (o + 1) _ (h.setCell hb v)
end Go.Proofs.Yteamnjaepgfcmaa
