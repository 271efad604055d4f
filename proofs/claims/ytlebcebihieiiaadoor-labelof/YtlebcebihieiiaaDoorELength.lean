/-
  escape.Length: what it answers.
-/
import Derived.Test.YtlebcebihieiiaaDoorEBase
namespace Go.Proofs.YtlebcebihieiiaaDoor.E
open Go.RowKit
set_option linter.unusedVariables false

theorem ret_int {k : IntKind} {a b : Int} (h : a = b) : Ending.returned (.int k a) = .returned (.int k b) := by rw [h]
theorem take_esc (s : ByteArray) (k : Nat) (hk : k < s.size) {c : UInt8} (hc : s[k] = c) : escL (s.data.toList.take (k + 1)) = escL (s.data.toList.take k) ++ form c := by
  have hk' : k < s.data.toList.length := by simpa using hk
  rw [List.take_succ_eq_append_getElem hk', escL_append]
  have : s.data.toList[k] = c := by rw [← hc]; simp; rfl
  rw [this]; simp [escL]
theorem take_len (s : ByteArray) (k : Nat) (hk : k ≤ s.size) : (s.data.toList.take k).length = k := by
  rw [List.length_take]
  have : s.data.toList.length = s.size := by simp
  omega

def LenRel (s : ByteArray) (w : World) (t i : Value) (wr : World) : Prop :=
  ∃ k : Nat, k ≤ s.size ∧ i = .int .i64 k ∧ t = .int .i64 ((escL (s.data.toList.take k)).length : Int) ∧ Below w.heap.size w wr

def IntPost (w : World) (n : Int) (e : Ending) (w' : World) : Prop := e = .returned (.int .i64 n) ∧ Below w.heap.size w w'

set_option maxHeartbeats 1000000 in
theorem length_any (s : ByteArray) (w : World) (hs : s.size ≤ 900000) (hv : Vars w) : Calls Tryd.prog 46 #[.string s] w (IntPost w (escL s.data.toList).length) := by
  have h4 := hv.2.2.2
  go_enter Tryd.func46, Tryd.ntmps46
  go_wp2_with fail
  refine (formsOf_any s w).mono ?_
  rintro e w1 ⟨rfl, hw1⟩
  have hF : w1.cell? ⟨w.heap.size, 0, none⟩ = some (.string s) := by rw [← hw1]; simp
  have hb1 : Below w.heap.size w w1 := by rw [← hw1]; exact (Below.refl _ _).alloc (Nat.le_refl _) _
  have hsz1 : w.heap.size < w1.heap.size := by rw [← hw1]; simp
  clear hw1
  have HF := Lib.hid hF; clear hF
  go_wp2
  go_loopw [3, 10] (LenRel s w1) (fun _ i _ => s.size - (intOf i).toNat)
  case atStart => exact ⟨0, by omega, rfl, by simp [escL], Below.refl _ _⟩
  case round =>
    obtain ⟨k, hk, rfl, rfl, hbel⟩ := hrel
    have hel := escL_length (s.data.toList.take k)
    rw [take_len s k hk] at hel
    by_cases hlt : k < s.size
    · obtain ⟨c, hc⟩ : ∃ c, s[k] = c := ⟨_, rfl⟩
      have ht := take_esc s k hlt hc
      have HT := Lib.hid ht; clear ht
      have hfp := form_pos c
      have hF := (hbel.cell (p := ⟨w.heap.size, 0, none⟩) hsz1).trans HF.out
      have hb2 := hb1.trans (hbel.mono hb1.size)
      have CF := Lib.hid (form_any s k w.heap.size c wr hlt hc (by omega) hF (hv.below h4 hb2))
      clear hc hF
      have hss := str_size (form c)
      have HSS := Lib.hid hss; clear hss
      have hfs : (str (form c)).size ≤ 6 := by rw [HSS.out]; exact hfp.2
      go_wp2_with fail
      refine CF.out.mono ?_
      rintro e w2 ⟨rfl, hb3⟩
      go_wp2
      refine ⟨⟨k + 1, by omega, by go_num, ?_, hbel.trans (hb3.mono hbel.size)⟩, by simp [intOf]; omega⟩
      rw [HT.out, List.length_append, HSS.out]; go_num
    · obtain rfl : k = s.size := by omega
      have he : s.data.toList.take s.size = s.data.toList := List.take_of_length_le (by simp)
      rw [he]
      go_wp2
      go_ret
      exact ⟨rfl, hb1.trans (hbel.mono hb1.size)⟩
end Go.Proofs.YtlebcebihieiiaaDoor.E
