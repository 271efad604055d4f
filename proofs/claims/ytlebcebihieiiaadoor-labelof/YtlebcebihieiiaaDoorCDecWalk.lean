/-
  tendrilref02.Decimal: what it answers.
-/
import Derived.Test.YtlebcebihieiiaaDoorCNumMath
import Derived.Laws.BytesArg
namespace Go.Proofs.YtlebcebihieiiaaDoor.C
open Go.RowKit
set_option linter.unusedVariables false

def DRel (w : World) (sg : Int) (full : List UInt8) (n s : Value) (wr : World) : Prop :=
  ∃ (u : Nat) (x : ByteArray), u ≤ 9223372036854775808 ∧ n = .int .i64 (sg * u) ∧ s = .string x ∧ decD u ++ x.data.toList = full ∧ Below w.heap.size w wr

theorem conv_one (c : Int) (w : World) : (convert 81 9 (.slice (some ⟨w.heap.size, 0, none⟩) 1 1)).run Tryd.prog (w.alloc (.cells #[.int .u8 c] 5)) = .ok (.string (strOfNums [c])) (w.alloc (.cells #[.int .u8 c] 5)) := by
  refine run_convert_bytes_arg (P := Tryd.prog) _ 81 5 Tryd.underlying81 Tryd.underlying5 w.heap.size 0 1 1 [c] rfl (fun i hi => ?_) 9 Tryd.underlying9
  have : i = 0 := by omega
  subst this
  simp
theorem str_one (u : Nat) : (strOfNums [48 + (u : Int) % 10]).data.toList = [UInt8.ofNat (48 + u % 10)] := by
  have : (48 + (u : Int) % 10).toNat = 48 + u % 10 := by omega
  simp [strOfNums, this]
theorem app_list (a b : ByteArray) : (a ++ b).data.toList = a.data.toList ++ b.data.toList := Joins.data_append a b
theorem dec_len {u : Nat} {x : ByteArray} {m : Nat} (h : decD u ++ x.data.toList = decD m) (hm : m ≤ 9223372036854775808) : x.size ≤ 19 := by
  have h1 := congrArg List.length h
  rw [List.length_append, size_list] at h1
  have h2 : (decD m).length ≤ 19 := by
    unfold decD
    split
    · simp
    · exact (dec19 hm).2.2.2
  omega

set_option maxRecDepth 100000 in
set_option maxHeartbeats 2000000 in
theorem refDecimal_any (n : Int) (w : World) (hn : I64 n) : Calls Tryd.prog 33 #[.int .i64 n] w fun e w' => e = .returned (.string (str (Lib.itoa n))) ∧ Below w.heap.size w w' := by
  obtain ⟨hn1, hn2⟩ := hn
  rcases (show n = 0 ∨ 0 < n ∨ n < 0 by omega) with rfl | hp | hp
  · go_enter Tryd.func33, Tryd.ntmps33
    go_wp2
    go_ret
    exact ⟨by rw [itoa_zero]; rfl, Below.refl _ _⟩
  · have h0 : (n == 0) = false := by simp; omega
    have hneg : decide (n < 0) = false := by simp; omega
    have hit := itoa_pos hp
    have HIT := Lib.hid hit; clear hit
    have hnn : n.natAbs ≤ 9223372036854775808 := by omega
    go_enter Tryd.func33, Tryd.ntmps33
    go_wp2
    go_loopw [0, 3] (DRel w 1 (decD n.natAbs)) (fun n _ _ => (intOf n).natAbs)
    case atStart => exact ⟨n.natAbs, ⟨#[]⟩, by omega, by go_num, rfl, by simp, Below.refl _ _⟩
    case round =>
      obtain ⟨u, x, hu, rfl, rfl, hx, hbel⟩ := hrel
      have hxl := dec_len hx hnn
      have HX := Lib.hid hx; clear hx
      have hsz := hbel.size
      rw [Int.one_mul]
      by_cases hu0 : u = 0
      · subst hu0
        go_wp2
        go_ret
        refine ⟨?_, hbel⟩
        rw [HIT.out, ← HX.out]
        exact congrArg (fun b => Ending.returned (.string b)) (ext_toList (by rw [str_data]; simp [decD]))
      · have hu1 : ((u : Int) != 0) = true := by simp; omega
        have hst := decD_step hu0
        have HST := Lib.hid hst; clear hst
        have hcv := conv_one (48 + (u : Int) % 10) wr
        have hss : (strOfNums [48 + (u : Int) % 10]).size = 1 := rfl
        have hcat : ¬ 9223372036854775807 < 1 + x.size := by omega
        go_wp2
        refine ⟨⟨u / 10, strOfNums [48 + (u : Int) % 10] ++ x, by omega, by go_num, rfl, ?_, hbel.alloc hsz _⟩, by simp [intOf]; omega⟩
        rw [app_list, str_one, ← List.append_assoc, ← HST.out, HX.out]
  · have h0 : (n == 0) = false := by simp; omega
    have hneg : decide (n < 0) = true := by simp; omega
    have hit := itoa_neg hp
    have HIT := Lib.hid hit; clear hit
    have hnn : n.natAbs ≤ 9223372036854775808 := by omega
    go_enter Tryd.func33, Tryd.ntmps33
    go_wp2
    go_loopw [0, 3] (DRel w (-1) (decD n.natAbs)) (fun n _ _ => (intOf n).natAbs)
    case atStart => exact ⟨n.natAbs, ⟨#[]⟩, by omega, by go_num, rfl, by simp, Below.refl _ _⟩
    case round =>
      obtain ⟨u, x, hu, rfl, rfl, hx, hbel⟩ := hrel
      have hxl := dec_len hx hnn
      have HX := Lib.hid hx; clear hx
      have hsz := hbel.size
      rw [show (-1 : Int) * (u : Int) = -(u : Int) by omega]
      by_cases hu0 : u = 0
      · subst hu0
        have hcat : ¬ 9223372036854775807 < 1 + x.size := by omega
        go_wp2
        go_ret
        refine ⟨?_, hbel⟩
        rw [HIT.out, ← HX.out]
        exact congrArg (fun b => Ending.returned (.string b)) (ext_toList (by rw [str_data, app_list]; simp [decD]))
      · have hu1 : (-(u : Int) != 0) = true := by simp; omega
        have hst := decD_step hu0
        have HST := Lib.hid hst; clear hst
        have hcv := conv_one (48 + (u : Int) % 10) wr
        have hss : (strOfNums [48 + (u : Int) % 10]).size = 1 := rfl
        have hcat : ¬ 9223372036854775807 < 1 + x.size := by omega
        have hlt : -(u : Int) < 0 := by omega
        have hcv2 := conv_one (48 + -((u : Int) % 10)) wr
        have hss2 : (strOfNums [48 + -((u : Int) % 10)]).size = 1 := rfl
        go_wp2
        · refine ⟨⟨u / 10, strOfNums [48 + (u : Int) % 10] ++ x, by omega, by go_num, rfl, ?_, hbel.alloc hsz _⟩, by simp [intOf]; omega⟩
          rw [app_list, str_one, ← List.append_assoc, ← HST.out, HX.out]
        · have hz : (48 + -((u : Int) % 10)) = 48 + (u : Int) % 10 := by omega
          refine ⟨⟨u / 10, strOfNums [48 + -((u : Int) % 10)] ++ x, by omega, by go_num, rfl, ?_, hbel.alloc hsz _⟩, by simp [intOf]; omega⟩
          rw [hz, app_list, str_one, ← List.append_assoc, ← HST.out, HX.out]
end Go.Proofs.YtlebcebihieiiaaDoor.C
