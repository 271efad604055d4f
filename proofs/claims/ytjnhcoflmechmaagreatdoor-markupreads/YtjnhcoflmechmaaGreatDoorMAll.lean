/-
  markup's writer: some strings one after the other.
-/
import Derived.Test.YtjnhcoflmechmaaGreatDoorMCut
import Derived.Test.YtjnhcoflmechmaaGreatDoorDPrint
namespace Go.Proofs.YtjnhcoflmechmaaGreatDoor.M
open Go.RowKit Go.Sort
set_option linter.unusedVariables false
set_option maxRecDepth 100000
def catB (ps : List ByteArray) : Bytes := ps.flatMap fun p => p.data.toList
theorem catB_app (a b : List ByteArray) : catB (a ++ b) = catB a ++ catB b := by unfold catB; rw [List.flatMap_append]
theorem catB_one (p : ByteArray) : catB [p] = p.data.toList := by unfold catB; rw [List.flatMap_cons, List.flatMap_nil, List.append_nil]
theorem catB_take {ps : List ByteArray} {k : Nat} (hk : k < ps.length) : catB (ps.take (k + 1)) = catB (ps.take k) ++ ps[k].data.toList := by
  rw [List.take_succ_eq_append_getElem hk, catB_app, catB_one]
theorem catB_take_le (ps : List ByteArray) (k : Nat) : (catB (ps.take k)).length ≤ (catB ps).length := by
  have := congrArg (fun l => (catB l).length) (List.take_append_drop k ps)
  simp only [catB_app, List.length_append] at this
  omega
set_option maxHeartbeats 4000000 in
theorem writeAll_any (B b q : Nat) (l : Bytes) (ps : List ByteArray) (w : World) (h : BB w B b l) (hB : B ≤ w.heap.size) (hrow : w.heap[q]? = some (.cells (ps.map Value.string).toArray 9 (0, 0))) (hqb : q ≠ b) (hl : l.length + (catB ps).length ≤ 1000000000000) (hps : ps.length ≤ 100) :
    Calls Tryz.prog 59 #[.pointer (some ⟨b, 0, none⟩), .slice (some ⟨q, 0, none⟩) ps.length ps.length] w fun e w' => e = .returned (.tuple #[]) ∧ Wr B b (l ++ catB ps) w w' := by
  have HR := Lib.hid (show ∀ W, E.Stands b w W → ∀ j, (hj : j < ps.length) → W.cell? ⟨q, j, none⟩ = some (.string ps[j]) from fun W hW j hj => by
    have := hW _ _ _ _ hqb (by decide) hrow
    rw [cell_of_row _ _ _ _ _ (0, 0) this]
    simp [hj])
  have H0 := Lib.hid (show Wr B b l w w from .of h (Below.refl _ _) hB)
  obtain ⟨n, hn⟩ : ∃ n, n = ps.length := ⟨_, rfl⟩
  have HN := Lib.hid hn
  rw [← hn] at hps ⊢
  clear h hrow hn
  go_enter Tryz.func59, Tryz.ntmps59
  go_wp2_with fail
  go_loopg [5, 8] n (fun m s5 s8 wr => ∃ k : Nat, s8 = .int .i64 k ∧ k ≤ n ∧ n - k ≤ m ∧ RowKit.Hid (Wr B b (l ++ catB (ps.take k)) w wr))
  case atStart => exact ⟨0, rfl, by omega, by omega, Lib.hid (by simpa [catB] using H0.out)⟩
  case round =>
    obtain ⟨k, rfl, hk, hm, HW⟩ := hrel
    by_cases hlt : k < n
    · have h1 : (k : Int) < (n : Int) := by omega
      have hk' : k < ps.length := by rw [← HN.out]; exact hlt
      obtain ⟨p, hp⟩ : ∃ p, p = ps[k] := ⟨_, rfl⟩
      have hc := HR.out wr HW.out.2.2 k hk'
      rw [← hp] at hc
      obtain ⟨L, hL⟩ : ∃ L, L = l ++ catB (ps.take k) := ⟨_, rfl⟩
      have hwr := HW.out
      rw [← hL] at hwr
      have hsz : L.length + p.size ≤ 1000000000000 := by
        have h2 := catB_take_le ps (k + 1)
        rw [catB_take hk', List.length_append, ← hp] at h2
        have h3 := size_list p
        rw [hL, List.length_append]; omega
      have CW := Lib.hid (ws_any B b L p wr hwr.1 hsz (Nat.le_trans hB hwr.2.1.size))
      have HL := Lib.hid (show L ++ p.data.toList = l ++ catB (ps.take (k + 1)) by rw [hL, catB_take hk', hp, List.append_assoc])
      have HWR := Lib.hid hwr
      clear hp hL hwr hsz
      go_wp2_with fail
      refine CW.out.mono ?_
      rintro e w2 ⟨rfl, hw2⟩
      have HW2 := Lib.hid (show Wr B b (l ++ catB (ps.take (k + 1))) w w2 from by rw [← HL.out]; exact HWR.out.next hw2)
      clear hw2 CW hc
      go_wp2_with fail
      go_roundg (n - (k + 1))
      case measure => omega
      case rel => exact ⟨k + 1, by go_num, by omega, by omega, HW2⟩
    · have h1 : ¬ (k : Int) < (n : Int) := by omega
      have HF := Lib.hid (show Wr B b (l ++ catB ps) w wr from by
        have := HW.out
        rw [List.take_of_length_le (by rw [← HN.out]; omega)] at this
        exact this)
      go_wp2_with fail
      go_end0
      exact ⟨rfl, HF.out⟩
end Go.Proofs.YtjnhcoflmechmaaGreatDoor.M
