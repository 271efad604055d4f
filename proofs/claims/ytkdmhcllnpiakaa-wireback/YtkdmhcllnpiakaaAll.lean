/-
  octet.All and tendrilref01.All and tendrilref01.Same: what they answer.
-/
import Derived.Test.YtkdmhcllnpiakaaRef
namespace Go.Proofs.Ytkdmhcllnpiakaa
open Go.RowKit
set_option linter.unusedVariables false

theorem tkLen_ok {bs : List Int} (h : tkErr bs = 0) : ∃ t : Nat, tkLen bs = t ∧ 1 ≤ t ∧ t ≤ bs.length := by
  have h1 := (tk_ok h).2
  have h2 := lead_le_len 10 bs
  have h3 : lead 10 bs ≠ bs.length := by
    intro e
    unfold tkErr at h
    rw [e] at h
    split at h
    · omega
    · rw [if_pos rfl] at h; omega
  exact ⟨lead 10 bs + 1, by omega, by omega, by omega⟩
theorem bytes_drop {bs : List Int} (h : Bytes bs) (k : Nat) : Bytes (bs.drop k) := by
  intro j hj
  have := h (k + j) (by simp at hj; omega)
  simpa [List.getD_eq_getElem?_getD, List.getElem?_drop] using this
theorem row_below {k : IntKind} {w w' : World} {B : Nat} {A : Option Addr} {zs : List Int} (h : Row k w B A zs) (hb : Below B w w') : Row k w' B A zs := by
  intro h0
  obtain ⟨b, off, hA, hlt, hc⟩ := h h0
  exact ⟨b, off, hA, hlt, fun j hj => (hb.cell (p := ⟨b, off + j, none⟩) hlt).trans (hc j hj)⟩
theorem row_cut {k : IntKind} {w : World} {B b off cap : Nat} {zs : List Int} (h : Row k w B (some ⟨b, off, none⟩) zs) (t : Nat) (hc : zs.length ≤ cap) :
    Row k w B (if cap = t then some ⟨b, off, none⟩ else some ⟨b, off + t, none⟩) (zs.drop t) := by
  intro h0
  have hlt : t < zs.length := by simp at h0; omega
  obtain ⟨b', off', hA, hb, hcell⟩ := h (by omega)
  obtain ⟨rfl, rfl⟩ : b = b' ∧ off = off' := by simpa using hA
  rw [if_neg (by omega)]
  refine ⟨b, off + t, rfl, hb, fun j hj => ?_⟩
  have := hcell (t + j) (by simp at hj; omega)
  rw [Nat.add_assoc, this]
  simp [List.getD_eq_getElem?_getD, List.getElem?_drop]

theorem row_own {k : IntKind} {w : World} {base : Nat} {e : TypeId} {v : Value} {zs : List Int} (h : w.ownsRow base e 1 v zs.length (zs.map (Value.int k))) :
    ∃ A cap, v = .slice A zs.length cap ∧ Row k w w.heap.size A zs ∧ zs.length ≤ cap ∧ cap ≤ maxLen := by
  rcases h.2 with ⟨rfl, hn⟩ | ⟨g, cap, cur, rfl, _, hg, hnc, hcm, _, _⟩
  · exact ⟨none, 0, by rw [hn], fun h0 => by omega, by omega, by simp [maxLen]⟩
  · refine ⟨_, cap, rfl, fun _ => ⟨g, 0, rfl, (Array.getElem?_eq_some_iff.1 hg).1, fun j hj => ?_⟩, hnc, hcm⟩
    rw [Nat.zero_add, h.cellAt j (by omega)]
    simp [List.getD_eq_getElem?_getD, List.getElem?_eq_getElem hj]

end Go.Proofs.Ytkdmhcllnpiakaa
