/-
  A slice of attributes in memory, and a row that the call itself may write.
-/
import Derived.Test.YtlkdklpglmglkaaCmp
import Derived.Lib.SliceRun
import Derived.Deep.OwnRows
namespace Go.Proofs.Ytlkdklpglmglkaa
open Go.RowKit Go.Sort
set_option linter.unusedVariables false
set_option maxRecDepth 100000

def ats (l : List At) : List Value := l.flatMap encA
theorem ats_append (a b : List At) : ats (a ++ b) = ats a ++ ats b := by simp [ats]
theorem ats_length (l : List At) : (ats l).length = l.length * 2 := by
  induction l with
  | nil => rfl
  | cons p ps ih => simp only [ats, List.flatMap_cons, List.length_append, List.length_cons, encA, List.length_nil] at ih ⊢; omega
abbrev noAt : At := (ByteArray.empty, ByteArray.empty)
theorem ats_at : ∀ (l : List At) (j : Nat), j < l.length * 2 → (ats l)[j]? = some ((encA (l.getD (j / 2) noAt)).getD (j % 2) undef)
  | [], j, h => by simp at h
  | L :: ss, j, h => by
    by_cases h3 : j < 2
    · have e1 : j / 2 = 0 := by omega
      have e2 : j % 2 = j := by omega
      rw [e1, e2]
      match j, h3 with
      | 0, _ => rfl
      | 1, _ => rfl
    · have h' : j - 2 < ss.length * 2 := by simp at h; omega
      have ih := ats_at ss (j - 2) h'
      have e1 : j / 2 = (j - 2) / 2 + 1 := by omega
      have e2 : j % 2 = (j - 2) % 2 := by omega
      rw [e1, e2]
      simp only [ats, List.flatMap_cons] at ih ⊢
      rw [List.getElem?_append_right (by simp [encA]; omega)]
      simp only [encA, List.length_cons, List.length_nil] at ih ⊢
      rw [ih]
      simp
theorem ats_one (l : List At) : ∀ y ∈ ats l, y.oneCell' = true := by
  intro y hy
  obtain ⟨p, _, hp⟩ := List.mem_flatMap.1 hy
  exact encA_one p y hp
/-- A slice of attributes. -/
def TRow (w : World) (B : Nat) (A : Option Addr) (es : List At) : Prop :=
  0 < es.length → ∃ b off, A = some ⟨b, off, none⟩ ∧ b < B ∧ ∀ j, (hj : j < es.length) → w.cell? ⟨b, off + j * 2, none⟩ = some (.string es[j].1) ∧ w.cell? ⟨b, off + j * 2 + 1, none⟩ = some (.string es[j].2)
theorem trow_at {w : World} {B : Nat} {A : Option Addr} {es : List At} (h : TRow w B A es) {j : Nat} (hj : j < es.length) :
    ∃ b off p, A = some ⟨b, off, none⟩ ∧ b < B ∧ p = es[j] ∧ w.cell? ⟨b, off + j * 2, none⟩ = some (.string p.1) ∧ w.cell? ⟨b, off + j * 2 + 1, none⟩ = some (.string p.2) := by
  obtain ⟨b, off, hA, hb, hc⟩ := h (by omega)
  exact ⟨b, off, _, hA, hb, rfl, hc j hj⟩
theorem TRow.below {w w' : World} {B : Nat} {A : Option Addr} {es : List At} (h : TRow w B A es) (hb : Below B w w') : TRow w' B A es := by
  intro h0
  obtain ⟨b, off, hA, hlt, hc⟩ := h h0
  exact ⟨b, off, hA, hlt, fun j hj => ⟨(hb.cell (p := ⟨b, off + j * 2, none⟩) hlt).trans (hc j hj).1, (hb.cell (p := ⟨b, off + j * 2 + 1, none⟩) hlt).trans (hc j hj).2⟩⟩
theorem TRow.mono {w : World} {B B' : Nat} {A : Option Addr} {es : List At} (h : TRow w B A es) (hb : B ≤ B') : TRow w B' A es := by
  intro h0
  obtain ⟨b, off, hA, hlt, hc⟩ := h h0
  exact ⟨b, off, hA, by omega, hc⟩
theorem TRow.up {w w' : World} {A : Option Addr} {es : List At} (h : TRow w w.heap.size A es) (hb : Below w.heap.size w w') : TRow w' w'.heap.size A es := (h.below hb).mono hb.size
theorem TRow.nil (w : World) (B : Nat) (A : Option Addr) : TRow w B A [] := fun h => by simp at h
theorem TRow.drewN {w : World} {B : Nat} {A : Option Addr} {es : List At} (h : TRow w B A es) (n : Nat) : TRow (w.drewN n) B A es := h
theorem trow_take {w : World} {B : Nat} {A : Option Addr} {es : List At} (h : TRow w B A es) (t : Nat) : TRow w B A (es.take t) := by
  intro h0
  obtain ⟨b, off, hA, hb, hc⟩ := h (by simp at h0; omega)
  refine ⟨b, off, hA, hb, fun j hj => ?_⟩
  have hj2 : j < es.length := by simp at hj; omega
  have e : (es.take t)[j] = es[j] := by simp
  rw [e]
  exact hc j hj2
theorem trow_cut {w : World} {B b off : Nat} {es : List At} (h : TRow w B (some ⟨b, off, none⟩) es) (t : Nat) : TRow w B (some ⟨b, off + t * 2, none⟩) (es.drop t) := by
  intro h0
  have hlt : t < es.length := by simp at h0; omega
  obtain ⟨b', off', hA, hb, hc⟩ := h (by omega)
  obtain ⟨rfl, rfl⟩ : b = b' ∧ off = off' := by simpa using hA
  refine ⟨b, off + t * 2, rfl, hb, fun j hj => ?_⟩
  have := hc (t + j) (by simp at hj; omega)
  have e : (es.drop t)[j] = es[t + j]'(by simp at hj; omega) := by simp
  rw [e, show off + t * 2 + j * 2 = off + (t + j) * 2 by omega]
  exact this
theorem trow_none {w : World} {B : Nat} {es : List At} (h : TRow w B none es) : es = [] := by
  rcases Nat.eq_zero_or_pos es.length with h0 | h0
  · exact List.eq_nil_of_length_eq_zero h0
  · obtain ⟨_, _, h, _⟩ := h h0; cases h
theorem trow_own {w : World} {base e : Nat} {v : Value} {es : List At} (h : w.ownsRow base e 2 v es.length (ats es)) :
    ∃ A cap, v = .slice A es.length cap ∧ TRow w w.heap.size A es ∧ es.length ≤ cap ∧ cap ≤ maxLen ∧ (A = none → cap = 0) := by
  rcases h.2 with ⟨rfl, hn⟩ | ⟨g, cap, cur, rfl, _, hg, hnc, hcm, _, _⟩
  · exact ⟨none, 0, by rw [hn], fun h0 => by omega, by omega, by simp [maxLen], fun _ => rfl⟩
  · refine ⟨_, cap, rfl, fun _ => ⟨g, 0, rfl, (Array.getElem?_eq_some_iff.1 hg).1, fun j hj => ?_⟩, hnc, hcm, fun h => by cases h⟩
    have e : es.getD j noAt = es[j] := by simp [List.getD_eq_getElem?_getD, hj]
    have d0 : j * 2 / 2 = j := by omega
    have d1 : (j * 2 + 1) / 2 = j := by omega
    have m0 : j * 2 % 2 = 0 := by omega
    have m1 : (j * 2 + 1) % 2 = 1 := by omega
    rw [Nat.zero_add, World.ownsRow.cellAt h (j * 2) (by omega), World.ownsRow.cellAt h (j * 2 + 1) (by omega), ats_at es (j * 2) (by omega), ats_at es (j * 2 + 1) (by omega), d0, d1, m0, m1, e]
    exact ⟨rfl, rfl⟩
/-- What a call hands back that makes a slice of attributes. -/
def MadeT (w : World) (l : List At) (e : Ending) (w' : World) : Prop := ∃ A c, e = .returned (.slice A l.length c) ∧ TRow w' w'.heap.size A l ∧ l.length ≤ c ∧ c ≤ maxLen ∧ Below w.heap.size w w'

end Go.Proofs.Ytlkdklpglmglkaa
