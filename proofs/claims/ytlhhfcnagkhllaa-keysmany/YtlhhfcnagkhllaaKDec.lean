/-
  tendrilref02.Decimal for the numbers that the law KeysMany asks for; the labels of that law.
-/
import Derived.Test.YtlhhfcnagkhllaaKEq
import Derived.Laws.BytesArg
namespace Go.Proofs.Ytlhhfcnagkhllaa
open Go.RowKit
set_option linter.unusedVariables false

def val10 (acc : Nat) (l : List UInt8) : Nat := l.foldl (fun a c => a * 10 + (c.toNat - 48)) acc
theorem val10_append (acc : Nat) (a b : List UInt8) : val10 acc (a ++ b) = val10 (val10 acc a) b := by unfold val10; rw [List.foldl_append]
def decF : Nat → Nat → List UInt8
  | 0, _ => []
  | f + 1, u => if u = 0 then [] else decF f (u / 10) ++ [UInt8.ofNat (48 + u % 10)]
theorem decF_more : ∀ (f g u : Nat), u ≤ f → u ≤ g → decF f u = decF g u := by
  intro f
  induction f with
  | zero => intro g u h1 h2; obtain rfl : u = 0 := (by omega); cases g <;> simp [decF]
  | succ f ih =>
    intro g u h1 h2
    cases g with
    | zero => obtain rfl : u = 0 := (by omega); simp [decF]
    | succ g =>
      simp only [decF]
      by_cases h : u = 0
      · simp [h]
      · rw [if_neg h, if_neg h, ih g (u / 10) (by omega) (by omega)]
def decD (u : Nat) : List UInt8 := decF u u
theorem decD_zero : decD 0 = [] := rfl
theorem decD_step {u : Nat} (h : u ≠ 0) : decD u = decD (u / 10) ++ [UInt8.ofNat (48 + u % 10)] := by
  unfold decD
  obtain ⟨v, rfl⟩ : ∃ v, u = v + 1 := ⟨u - 1, by omega⟩
  simp only [decF]
  rw [if_neg h, decF_more v ((v + 1) / 10) ((v + 1) / 10) (by omega) (Nat.le_refl _)]
theorem digit_nat (d : Nat) (h : d < 10) : (UInt8.ofNat (48 + d)).toNat = 48 + d := by
  simp [UInt8.toNat_ofNat]; omega
theorem val_dec : ∀ (f u : Nat), u ≤ f → val10 0 (decD u) = u := by
  intro f
  induction f with
  | zero => intro u h; obtain rfl : u = 0 := (by omega); rfl
  | succ f ih =>
    intro u h
    by_cases h0 : u = 0
    · subst h0; rfl
    · rw [decD_step h0, val10_append, ih (u / 10) (by omega)]
      show u / 10 * 10 + ((UInt8.ofNat (48 + u % 10)).toNat - 48) = u
      rw [digit_nat _ (by omega)]
      omega
theorem dec_len : ∀ (f u : Nat), u ≤ f → (decD u).length ≤ u := by
  intro f
  induction f with
  | zero => intro u h; obtain rfl : u = 0 := (by omega); simp [decD_zero]
  | succ f ih =>
    intro u h
    by_cases h0 : u = 0
    · subst h0; simp [decD_zero]
    · rw [decD_step h0, List.length_append]
      have := ih (u / 10) (by omega)
      simp
      omega
def decS (u : Nat) : ByteArray := ⟨(if u = 0 then [48] else decD u).toArray⟩
theorem decS_inj {u v : Nat} (h : decS u = decS v) : u = v := by
  have h1 : (if u = 0 then [48] else decD u) = (if v = 0 then [48] else decD v) := by
    have := congrArg (fun b => b.data.toList) h
    simpa [decS] using this
  have e : ∀ u : Nat, val10 0 (if u = 0 then [48] else decD u) = u := by
    intro u
    by_cases h : u = 0
    · subst h; rfl
    · rw [if_neg h]; exact val_dec u u (Nat.le_refl _)
  rw [← e u, ← e v, h1]
theorem decS_size {u : Nat} (h : u ≤ 1000) : (decS u).size ≤ 1000 := by
  have h1 : (decS u).size = (if u = 0 then [48] else decD u).length := by simp [decS, ByteArray.size]
  rw [h1]
  split
  · simp
  · have := dec_len u u (Nat.le_refl _); omega

def DRel (w : World) (full : List UInt8) (n s : Value) (wr : World) : Prop :=
  ∃ (u : Nat) (x : ByteArray), u ≤ 1000 ∧ n = .int .i64 (u : Int) ∧ s = .string x ∧ decD u ++ x.data.toList = full ∧ Below w.heap.size w wr
theorem conv_one (c : Int) (w : World) : (convert 57 9 (.slice (some ⟨w.heap.size, 0, none⟩) 1 1)).run Try.prog (w.alloc (.cells #[.int .u8 c] 5)) = .ok (.string (strOfNums [c])) (w.alloc (.cells #[.int .u8 c] 5)) := by
  refine run_convert_bytes_arg (P := Try.prog) _ 57 5 Try.underlying57 Try.underlying5 w.heap.size 0 1 1 [c] rfl (fun i hi => ?_) 9 Try.underlying9
  have : i = 0 := by omega
  subst this
  simp
theorem str_one (u : Nat) : (strOfNums [48 + (u : Int) % 10]).data.toList = [UInt8.ofNat (48 + u % 10)] := by
  have : (48 + (u : Int) % 10).toNat = 48 + u % 10 := by omega
  simp [strOfNums, this]
theorem app_list (a b : ByteArray) : (a ++ b).data.toList = a.data.toList ++ b.data.toList := by simp [ByteArray.data_append]
theorem part_len {u : Nat} {x : ByteArray} {m : Nat} (h : decD u ++ x.data.toList = decD m) (hm : m ≤ 1000) : x.size ≤ 1000 := by
  have h1 := congrArg List.length h
  rw [List.length_append, size_list] at h1
  have := dec_len m m (Nat.le_refl _)
  omega
set_option maxHeartbeats 2000000 in
theorem dec_any (x : Int) (m : Nat) (w : World) (hx : x = m) (hm : m ≤ 1000) : Calls Try.prog 18 #[.int .i64 x] w fun e w' => e = .returned (.string (decS m)) ∧ Below w.heap.size w w' := by
  subst hx
  rcases Nat.eq_zero_or_pos m with rfl | hp
  · go_enter Try.func18, Try.ntmps18
    go_wp2
    go_ret
    exact ⟨rfl, Below.refl _ _⟩
  · have h0 : ((m : Int) == 0) = false := by simp; omega
    have h0' : (m == 0) = false := by simp; omega
    have hneg : decide ((m : Int) < 0) = false := by simp
    have HD := Lib.hid (show decS m = ⟨(decD m).toArray⟩ by unfold decS; rw [if_neg (by omega)])
    go_enter Try.func18, Try.ntmps18
    go_wp2
    go_loopw [0, 3] (DRel w (decD m)) (fun n _ _ => (intOf n).natAbs)
    case atStart => exact ⟨m, ⟨#[]⟩, hm, rfl, rfl, by simp, Below.refl _ _⟩
    case round =>
      obtain ⟨u, x, hu, rfl, rfl, hx, hbel⟩ := hrel
      have hxl := part_len hx hm
      have HX := Lib.hid hx; clear hx
      have hsz := hbel.size
      by_cases hu0 : u = 0
      · subst hu0
        go_wp2
        go_ret
        refine ⟨?_, hbel⟩
        rw [HD.out, ← HX.out]
        refine congrArg (fun b => Ending.returned (.string b)) ?_
        obtain ⟨⟨lx⟩⟩ := x
        simp [decD_zero]
      · have hu1 : ((u : Int) != 0) = true := by simp; omega
        have hst := decD_step hu0
        have HST := Lib.hid hst; clear hst
        have hcv := conv_one (48 + (u : Int) % 10) wr
        have hss : (strOfNums [48 + (u : Int) % 10]).size = 1 := rfl
        have hcat : ¬ 9223372036854775807 < 1 + x.size := by omega
        go_wp2
        refine ⟨⟨u / 10, strOfNums [48 + (u : Int) % 10] ++ x, by omega, by go_num, rfl, ?_, hbel.alloc hsz _⟩, by simp [intOf]; omega⟩
        rw [app_list, str_one, ← List.append_assoc, ← HST.out, HX.out]

/-- The labels of the law KeysMany. -/
def lm (i : Nat) : Lab := ⟨⟨#[116]⟩, decS (i / 3), (i : Int) % 3⟩
theorem lm_inj {i j : Nat} (h : lm i = lm j) : i = j := by
  have h1 := decS_inj (congrArg Lab.key h)
  have h2 : (i : Int) % 3 = (j : Int) % 3 := congrArg Lab.n h
  omega
theorem lm_wf {i : Nat} (h : i ≤ 2000) : LWf (lm i) := by
  refine ⟨by show (1 : Nat) ≤ maxLen; unfold maxLen; decide, ?_, ?_⟩
  · have := decS_size (u := i / 3) (by omega)
    show (decS (i / 3)).size ≤ maxLen
    unfold maxLen; omega
  · have := wf_nat (k := i % 3) (by omega)
    show wf64 ((i : Int) % 3)
    have e : (i : Int) % 3 = ((i % 3 : Nat) : Int) := by omega
    rw [e]; exact this
end Go.Proofs.Ytlhhfcnagkhllaa
