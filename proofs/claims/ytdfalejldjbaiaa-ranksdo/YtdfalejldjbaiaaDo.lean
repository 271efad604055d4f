/-
  tendrilplain.Long, tendrilplain.Texts, ranks.Do of strings: what they answer.
-/
import Derived.Test.YtdfalejldjbaiaaSame
namespace Go.Proofs.Ytdfalejldjbaiaa
open Go.RowKit
set_option linter.unusedVariables false

abbrev noStr : ByteArray := ByteArray.empty
def SRow (w : World) (B : Nat) (A : Option Addr) (ss : List ByteArray) : Prop :=
  0 < ss.length → ∃ b off, A = some ⟨b, off, none⟩ ∧ b < B ∧ ∀ j, j < ss.length → w.cell? ⟨b, off + j, none⟩ = some (.string (ss.getD j noStr))
theorem srow_at {w : World} {B : Nat} {A : Option Addr} {zs : List ByteArray} (h : SRow w B A zs) {j : Nat} (hj : j < zs.length) :
    ∃ b off x, A = some ⟨b, off, none⟩ ∧ b < B ∧ x = zs.getD j noStr ∧ w.cell? ⟨b, off + j, none⟩ = some (.string x) := by
  obtain ⟨b, off, hA, hb, hc⟩ := h (by omega)
  exact ⟨b, off, _, hA, hb, rfl, hc j hj⟩
theorem SRow.below {w w' : World} {B : Nat} {A : Option Addr} {zs : List ByteArray} (h : SRow w B A zs) (hb : Below B w w') : SRow w' B A zs := by
  intro h0
  obtain ⟨b, off, hA, hlt, hc⟩ := h h0
  exact ⟨b, off, hA, hlt, fun j hj => (hb.cell (p := ⟨b, off + j, none⟩) hlt).trans (hc j hj)⟩
theorem SRow.up {w w' : World} {A : Option Addr} {zs : List ByteArray} (h : SRow w w.heap.size A zs) (hb : Below w.heap.size w w') : SRow w' w'.heap.size A zs := by
  intro h0
  obtain ⟨b, off, hA, hlt, hc⟩ := (h.below hb) h0
  exact ⟨b, off, hA, by have := hb.size; omega, hc⟩
def Strs (ss : List ByteArray) : Prop := ∀ j, j < ss.length → (ss.getD j noStr).size ≤ maxLen

def LongPost (w : World) (ss : List ByteArray) (e : Ending) (w' : World) : Prop := ∃ r : Nat, e = .returned (.int .i64 r) ∧ r ≤ 5001 ∧ (r ≤ 5000 → ss.length ≤ 5000) ∧ w = w'
set_option maxHeartbeats 1000000 in
theorem long_any (A : Option Addr) (c : Nat) (ss : List ByteArray) (w : World) (h : SRow w w.heap.size A ss) (hs : Strs ss) (hm : ss.length ≤ maxLen) :
    Calls Try.prog 17 #[.slice A ss.length c, .int .i64 5000] w (LongPost w ss) := by
  unfold maxLen at hm
  go_enter Try.func17, Try.ntmps17
  go_wp2
  go_loop [5, 9] (fun n i => ∃ k m : Nat, k ≤ ss.length ∧ i = .int .i64 k ∧ n = .int .i64 m ∧ k ≤ m ∧ m ≤ 5000) (fun _ i => ss.length - (intOf i).toNat)
  case atStart => exact ⟨0, 0, by omega, rfl, rfl, by omega, by omega⟩
  case round =>
    obtain ⟨k, m, hk, rfl, rfl, hkm, hm5⟩ := hrel
    by_cases hlt : k < ss.length
    · obtain ⟨b, off, x, rfl, hb, hx, hc⟩ := srow_at h hlt
      have hxm := hs k hlt
      rw [← hx] at hxm
      unfold maxLen at hxm
      clear hx
      by_cases hbig : x.size ≤ 5001
      · have hmin : min (x.size : Int) 5001 = x.size := by omega
        by_cases hover : 5000 < m + 1 + x.size
        · have hover' : (5000 : Int) < m + 1 + x.size := by omega
          clear hmin
          go_wp2_with fail
          all_goals (go_ret; exact ⟨5001, rfl, by omega, fun h => by omega, rfl⟩)
        · have hover' : ¬ (5000 : Int) < m + 1 + x.size := by omega
          go_wp2_with fail
          all_goals exact ⟨⟨k + 1, m + 1 + x.size, by omega, by go_num, by go_num, by omega, by omega⟩, by simp [intOf]; omega⟩
      · have hmin : min (x.size : Int) 5001 = 5001 := by omega
        go_wp2_with fail
        all_goals (go_ret; exact ⟨5001, rfl, by omega, fun h => by omega, rfl⟩)
    · obtain rfl : k = ss.length := by omega
      go_wp2
      go_ret
      exact ⟨m, rfl, by omega, fun _ => by omega, rfl⟩
end Go.Proofs.Ytdfalejldjbaiaa
