/-
  chars.Decimal, chars.Whole and the law's own 'same': what they answer. | Plain: numbers in tens, and the number that a text is. | tendrilref02.Decimal: what it answers.
-/
import Derived.Test.YtjnhcoflmechmaaGreatDoorVars
import Derived.WalkLawsBesides
import Derived.Outline
import Derived.Lib.Hide
import Derived.Test.YtjnhcoflmechmaaGreatDoorShelf
import Derived.Lib.SmallJoins
import Derived.Lib.AppendIntMem
import Derived.Laws.BytesArg
namespace Go.Proofs.YtjnhcoflmechmaaGreatDoor.C
open Go.RowKit
set_option linter.unusedVariables false

theorem str_list (r : ByteArray) : r.toList = r.data.toList := by obtain ⟨⟨l⟩⟩ := r; simp
theorem ext_toList {a b : ByteArray} (h : a.data.toList = b.data.toList) : a = b := by
  apply ByteArray.ext
  exact Array.toList_inj.1 h
theorem extract_list (s : ByteArray) (i j : Nat) : (s.extract i j).data.toList = (s.data.toList.drop i).take (j - i) := by simp
def I64 (n : Int) : Prop := -9223372036854775808 ≤ n ∧ n ≤ 9223372036854775807
def str (l : List UInt8) : ByteArray := ⟨l.toArray⟩
theorem str_data (l : List UInt8) : (str l).data.toList = l := rfl

theorem decimal_any (n : Int) (w : World) (hn : I64 n) (hv : Vars w) : Calls Tryz.prog 73 #[.int .i64 n] w fun e w' => e = .returned (.string (str (Lib.itoa n))) ∧ Below w.heap.size w w' := by
  have c := Tryz.strconv_Itoa n hn.1 hn.2 w hv.1
  have C := Lib.hid c; clear c
  go_enter Tryz.func73, Tryz.ntmps73
  go_wp2_with (go_at_call 112; refine C.out.mono ?_; rintro e w' ⟨rfl, k, os, rfl⟩)
  go_ret
  exact ⟨rfl, Lib.below_grow _ _ (Nat.le_refl _) _ _⟩

/-- The number that a text is, if it is one. -/
def wholeN (l : List UInt8) : Int × Bool :=
  match Lib.atoiAll l with
  | .ok v => if Lib.itoa v = l then (v, true) else (0, false)
  | _ => (0, false)
def whN (l : List UInt8) : Int × Bool := if 20 < l.length then (0, false) else wholeN l
def WholePost (w : World) (l : List UInt8) (e : Ending) (w' : World) : Prop := e = .returned (.tuple #[.int .i64 (whN l).1, .bool (whN l).2]) ∧ Below w.heap.size w w'
theorem wholePost_mk {w w' : World} {l : List UInt8} {n : Int} {b : Bool} (h : whN l = (n, b)) (hb : Below w.heap.size w w') : WholePost w l (.returned (.tuple #[.int .i64 n, .bool b])) w' := by
  unfold WholePost
  rw [h]
  exact ⟨rfl, hb⟩
theorem str_of {s : ByteArray} {l : List UInt8} (h : l = s.data.toList) : str l = s := ext_toList (by rw [str_data, h])
theorem below_or {w w1 : World} {t : TypeId} (h : w1 = w ∨ ∃ x, w1 = Lib.bytesWorld w t x) : Below w.heap.size w w1 := by
  rcases h with rfl | ⟨x, rfl⟩
  · exact Below.refl _ _
  · exact Joins.below_bytesWorld _ _ _ _ (Nat.le_refl _)

set_option maxHeartbeats 1000000 in
theorem whole_any (s : ByteArray) (w : World) (hs : s.size ≤ 1000000000) (hv : Vars w) : Calls Tryz.prog 80 #[.string s] w (WholePost w s.data.toList) := by
  by_cases h20 : 20 < s.size
  · have h20' : (20 : Int) < (s.size : Int) := by omega
    have hf : whN s.data.toList = (0, false) := if_pos (by rw [size_list]; exact h20)
    have HF := Lib.hid hf; clear hf
    go_enter Tryz.func80, Tryz.ntmps80
    go_wp2_with fail
    go_ret2
    exact wholePost_mk HF.out (Below.refl _ _)
  · have h20' : ¬ (20 : Int) < (s.size : Int) := by omega
    have hf : whN s.data.toList = wholeN s.data.toList := if_neg (by rw [size_list]; exact h20)
    have HF := Lib.hid hf; clear hf
    obtain ⟨hv1, ⟨t1, p1, hc1⟩, ⟨t2, p2, hc2⟩, hv4⟩ := id hv
    rcases hat : Lib.atoiAll s.data.toList with v | _ | _
    · have hb := Lib.atoiAll_bounds hat
      have ct := Tryz.strconv_Atoi_ok s (by omega) v hat w
      have CT := Lib.hid ct; clear ct
      by_cases he : Lib.itoa v = s.data.toList
      · have hw : wholeN s.data.toList = (v, true) := by simp [wholeN, hat, he]
        have HW := Lib.hid hw
        have HS := Lib.hid (str_of he); clear hw hat he
        have heq : (s.toList != s.toList) = false := by simp
        go_enter Tryz.func80, Tryz.ntmps80
        go_wp2_with fail
        refine CT.out.mono ?_
        rintro e w1 ⟨rfl, hor⟩
        have hb1 := below_or hor
        clear hor
        go_wp2_with fail
        refine (decimal_any v w1 hb (hv.belowC hb1)).mono ?_
        rintro e w2 ⟨rfl, hb2⟩
        rw [HS.out]
        go_wp2_with fail
        go_ret2
        exact wholePost_mk (HF.out.trans HW.out) (hb1.trans (hb2.mono hb1.size))
      · have hw : wholeN s.data.toList = (0, false) := by simp [wholeN, hat, he]
        have HW := Lib.hid hw
        have hne : ((str (Lib.itoa v)).toList != s.toList) = true := by rw [str_list, str_list, str_data]; simpa using he
        have hne2 : ((str (Lib.itoa v)).toList == s.toList) = false := by rw [str_list, str_list, str_data]; simpa using he
        clear hw hat he
        go_enter Tryz.func80, Tryz.ntmps80
        go_wp2_with fail
        refine CT.out.mono ?_
        rintro e w1 ⟨rfl, hor⟩
        have hb1 := below_or hor
        clear hor
        go_wp2_with fail
        refine (decimal_any v w1 hb (hv.belowC hb1)).mono ?_
        rintro e w2 ⟨rfl, hb2⟩
        go_wp2_with fail
        go_ret2
        exact wholePost_mk (HF.out.trans HW.out) (hb1.trans (hb2.mono hb1.size))
    · have hw : wholeN s.data.toList = (0, false) := by simp [wholeN, hat]
      have ct := Any.strconv_Atoi_syntax Tryz.laysC172 s (by omega) hat (.iface t1 p1) w hc1 (Or.inr ⟨_, _, rfl⟩)
      have CT := Lib.hid ct; clear ct
      have HW := Lib.hid hw; clear hw hat
      go_enter Tryz.func80, Tryz.ntmps80
      go_wp2_with fail
      refine CT.out.mono ?_
      rintro e w1 ⟨N, rfl, hN, hN2, hb⟩
      go_wp2_with fail
      go_ret2
      exact wholePost_mk (HF.out.trans HW.out) hb
    · have hw : wholeN s.data.toList = (0, false) := by simp [wholeN, hat]
      have ct := Any.strconv_Atoi_range Tryz.laysC172 s (by omega) hat (.iface t2 p2) w hc2 (Or.inr ⟨_, _, rfl⟩)
      have CT := Lib.hid ct; clear ct
      have HW := Lib.hid hw; clear hw hat
      go_enter Tryz.func80, Tryz.ntmps80
      go_wp2_with fail
      refine CT.out.mono ?_
      rintro e w1 ⟨N, rfl, hN, hN2, hb⟩
      go_wp2_with fail
      go_ret2
      exact wholePost_mk (HF.out.trans HW.out) hb

end Go.Proofs.YtjnhcoflmechmaaGreatDoor.C

namespace Go.Proofs.YtjnhcoflmechmaaGreatDoor.C
open Go.RowKit
set_option linter.unusedVariables false

def val10 (acc : Nat) (l : List UInt8) : Nat := l.foldl (fun a c => a * 10 + (c.toNat - 48)) acc
def Digit (c : UInt8) : Prop := 48 ≤ c.toNat ∧ c.toNat ≤ 57
theorem val10_append (acc : Nat) (a b : List UInt8) : val10 acc (a ++ b) = val10 (val10 acc a) b := by unfold val10; rw [List.foldl_append]
theorem val10_cons (acc : Nat) (c : UInt8) (l : List UInt8) : val10 acc (c :: l) = val10 (acc * 10 + (c.toNat - 48)) l := by unfold val10; rw [List.foldl_cons]
theorem val10_ge (l : List UInt8) : ∀ acc, acc ≤ val10 acc l := by
  induction l with
  | nil => intro acc; exact Nat.le_refl _
  | cons c l ih =>
    intro acc
    rw [val10_cons]
    have := ih (acc * 10 + (c.toNat - 48))
    omega
theorem digit_nat (d : Nat) (h : d < 10) : (UInt8.ofNat (48 + d)).toNat = 48 + d := by
  simp [UInt8.toNat_ofNat']; omega

theorem dec_step (u : Nat) : Lib.decDigits u = if u < 10 then [UInt8.ofNat (48 + u)] else Lib.decDigits (u / 10) ++ [UInt8.ofNat (48 + u % 10)] := by
  rw [Lib.decDigits]
  split <;> rfl
theorem dec_facts (n : Nat) : ∀ u, u < 10 ^ (n + 1) → (∀ c ∈ Lib.decDigits u, Digit c) ∧ val10 0 (Lib.decDigits u) = u ∧ 1 ≤ (Lib.decDigits u).length ∧ (Lib.decDigits u).length ≤ n + 1 := by
  induction n with
  | zero =>
    intro u hu
    simp at hu
    rw [dec_step, if_pos hu]
    have := digit_nat u hu
    refine ⟨fun c hc => ?_, ?_, by simp, by simp⟩
    · rw [List.mem_singleton] at hc; subst hc; unfold Digit; rw [this]; omega
    · simp only [val10, List.foldl_cons, List.foldl_nil]; rw [this]; omega
  | succ n ih =>
    intro u hu
    rw [dec_step]
    split
    · rename_i h
      have := digit_nat u h
      refine ⟨fun c hc => ?_, ?_, by simp, by simp⟩
      · rw [List.mem_singleton] at hc; subst hc; unfold Digit; rw [this]; omega
      · simp only [val10, List.foldl_cons, List.foldl_nil]; rw [this]; omega
    · obtain ⟨h1, h2, h3, h4⟩ := ih (u / 10) (by rw [Nat.pow_succ] at hu; omega)
      have := digit_nat (u % 10) (by omega)
      refine ⟨fun c hc => ?_, ?_, by simp, by simp; omega⟩
      · rcases List.mem_append.1 hc with h | h
        · exact h1 c h
        · rw [List.mem_singleton] at h; subst h; unfold Digit; rw [this]; omega
      · rw [val10_append, h2]
        simp only [val10, List.foldl_cons, List.foldl_nil]
        rw [this]; omega
theorem dec19 {u : Nat} (h : u ≤ 9223372036854775808) : (∀ c ∈ Lib.decDigits u, Digit c) ∧ val10 0 (Lib.decDigits u) = u ∧ 1 ≤ (Lib.decDigits u).length ∧ (Lib.decDigits u).length ≤ 19 :=
  dec_facts 18 u (by omega)

theorem parse_ok : ∀ (l : List UInt8) (acc : Nat), (∀ c ∈ l, Digit c) → val10 acc l ≤ 9223372036854775808 → Lib.parseUint10 acc l = .ok (val10 acc l) := by
  intro l
  induction l with
  | nil => intro acc _ _; rfl
  | cons c l ih =>
    intro acc hd hv
    have hc : 48 ≤ c.toNat ∧ c.toNat ≤ 57 := hd c (by simp)
    rw [val10_cons] at hv ⊢
    have hge := val10_ge l (acc * 10 + (c.toNat - 48))
    simp only [Lib.parseUint10]
    rw [if_pos hc, if_neg (by omega), if_neg (by omega)]
    exact ih _ (fun x hx => hd x (by simp [hx])) hv

/-- The text is the number v in tens. -/
def IsNum (l : List UInt8) (v : Int) : Prop := I64 v ∧ l = Lib.itoa v
/-- What stands behind a sign. -/
def tail_ (l : List UInt8) : List UInt8 := if 1 < l.length ∧ l.getD 0 0 = 45 then l.drop 1 else l
def neg_ (l : List UInt8) : Bool := decide (1 < l.length) && l.getD 0 0 == 45

theorem isNum_facts {l : List UInt8} {v : Int} (h : IsNum l v) : (∀ c ∈ tail_ l, Digit c) ∧ val10 0 (tail_ l) = v.natAbs ∧ 1 ≤ (tail_ l).length ∧ (tail_ l).length ≤ 19 ∧ neg_ l = decide (v < 0) ∧ l.length ≤ 20 ∧
    (v < 0 → l = 45 :: Lib.decDigits v.natAbs) ∧ (0 ≤ v → l = Lib.decDigits v.natAbs) ∧ tail_ l = Lib.decDigits v.natAbs := by
  obtain ⟨⟨h1, h2⟩, h⟩ := h
  obtain ⟨f1, f2, f3, f4⟩ := dec19 (u := v.natAbs) (by omega)
  unfold Lib.itoa at h
  by_cases hv : v < 0
  · rw [if_pos hv] at h
    have ht : tail_ l = Lib.decDigits v.natAbs := by
      unfold tail_
      rw [if_pos ⟨by rw [h]; simp; omega, by rw [h]; rfl⟩, h]; rfl
    rw [ht]
    refine ⟨f1, f2, f3, f4, ?_, by rw [h]; simp; omega, fun _ => h, fun h0 => by omega, rfl⟩
    unfold neg_
    rw [h]
    simp [hv]
    omega
  · rw [if_neg hv] at h
    have hn : v.toNat = v.natAbs := by omega
    rw [hn] at h
    have h45 : l.getD 0 0 ≠ 45 := by
      intro e
      rw [h] at e
      match hd : Lib.decDigits v.natAbs, f1, f3 with
      | [], _, f3 => simp at f3
      | c :: r, f1, _ =>
        rw [hd] at e
        simp at e
        have := f1 c (by simp)
        rw [e] at this
        exact absurd this.1 (by decide)
    have ht : tail_ l = Lib.decDigits v.natAbs := by
      unfold tail_
      rw [if_neg (fun e => h45 e.2), h]
    rw [ht]
    refine ⟨f1, f2, f3, f4, ?_, by rw [h]; omega, fun h0 => absurd h0 hv, fun _ => h, rfl⟩
    unfold neg_
    simp [hv]
    intro _
    simpa using h45

theorem atoi_num {l : List UInt8} {v : Int} (h : IsNum l v) : Lib.atoiAll l = .ok v := by
  obtain ⟨f1, f2, f3, f4, f5, f6, f7, f8, f9⟩ := isNum_facts h
  obtain ⟨⟨h1, h2⟩, hl⟩ := h
  rw [f9] at f1 f2 f3
  have hp := parse_ok (Lib.decDigits v.natAbs) 0 f1 (by rw [f2]; omega)
  rw [f2] at hp
  have hne : Lib.decDigits v.natAbs ≠ [] := by intro e; rw [e] at f3; simp at f3
  have hm : Lib.parseMag (Lib.decDigits v.natAbs) = .ok v.natAbs := by unfold Lib.parseMag; rw [if_neg hne, hp]
  by_cases hv : v < 0
  · rw [f7 hv]
    simp only [Lib.atoiAll]
    rw [if_pos (Or.inr (by decide)), hm]
    simp only
    rw [if_neg (by simp), if_neg (by intro e; omega), if_pos (by decide)]
    congr 1; omega
  · rw [f8 (by omega)]
    match hd : Lib.decDigits v.natAbs, hne, f1, hm with
    | [], hne, _, _ => exact absurd rfl hne
    | c :: r, _, f1, hm =>
      have hc := f1 c (by simp)
      have h43 : ¬ (c.toNat = 43 ∨ c.toNat = 45) := by unfold Digit at hc; omega
      have h45 : ¬ c.toNat = 45 := by omega
      simp only [Lib.atoiAll]
      rw [if_neg h43, hm]
      simp only
      rw [if_neg (by intro e; omega), if_neg (by intro e; exact h45 e.1), if_neg h45]
      congr 1; omega
theorem whN_num {l : List UInt8} {v : Int} (h : IsNum l v) : whN l = (v, true) := by
  have h1 := atoi_num h
  have h2 := (isNum_facts h).2.2.2.2.2.1
  unfold whN wholeN
  rw [if_neg (by omega), h1]
  simp only
  rw [if_pos h.2.symm]
theorem whN_none {l : List UInt8} (h : ∀ v, ¬ IsNum l v) : whN l = (0, false) := by
  unfold whN
  split
  · rfl
  · unfold wholeN
    rcases hat : Lib.atoiAll l with v | _ | _
    · simp only
      rw [if_neg]
      intro e
      exact h v ⟨Lib.atoiAll_bounds hat, e.symm⟩
    · rfl
    · rfl

/-- The digits of a number, none for 0. -/
def decD (u : Nat) : List UInt8 := if u = 0 then [] else Lib.decDigits u
theorem decD_step {u : Nat} (h : u ≠ 0) : decD u = decD (u / 10) ++ [UInt8.ofNat (48 + u % 10)] := by
  unfold decD
  rw [if_neg h, dec_step]
  split
  · rename_i h1
    rw [if_pos (by omega), Nat.mod_eq_of_lt h1]; rfl
  · rw [if_neg (by omega)]
theorem itoa_neg {n : Int} (h : n < 0) : Lib.itoa n = 45 :: decD n.natAbs := by
  unfold Lib.itoa decD
  rw [if_pos h, if_neg (by omega)]
theorem itoa_pos {n : Int} (h : 0 < n) : Lib.itoa n = decD n.natAbs := by
  unfold Lib.itoa decD
  rw [if_neg (by omega), if_neg (by omega)]
  congr 1; omega
theorem itoa_zero : Lib.itoa 0 = [48] := by
  have : Lib.decDigits 0 = [48] := by rw [Lib.decDigits_one (by omega)]; rfl
  simpa [Lib.itoa] using this
end Go.Proofs.YtjnhcoflmechmaaGreatDoor.C

namespace Go.Proofs.YtjnhcoflmechmaaGreatDoor.C
open Go.RowKit
set_option linter.unusedVariables false

def DRel (w : World) (sg : Int) (full : List UInt8) (n s : Value) (wr : World) : Prop :=
  ∃ (u : Nat) (x : ByteArray), u ≤ 9223372036854775808 ∧ n = .int .i64 (sg * u) ∧ s = .string x ∧ decD u ++ x.data.toList = full ∧ Below w.heap.size w wr

theorem conv_one (c : Int) (w : World) : (convert 41 9 (.slice (some ⟨w.heap.size, 0, none⟩) 1 1)).run Tryz.prog (w.alloc (.cells #[.int .u8 c] 5)) = .ok (.string (strOfNums [c])) (w.alloc (.cells #[.int .u8 c] 5)) := by
  refine run_convert_bytes_arg (P := Tryz.prog) _ 41 5 Tryz.underlying41 Tryz.underlying5 w.heap.size 0 1 1 [c] rfl (fun i hi => ?_) 9 Tryz.underlying9
  have : i = 0 := by omega
  subst this
  simp
theorem str_one (u : Nat) : (strOfNums [48 + (u : Int) % 10]).data.toList = [UInt8.ofNat (48 + u % 10)] := by
  have : (48 + (u : Int) % 10).toNat = 48 + u % 10 := by omega
  simp [strOfNums, this]
theorem app_list (a b : ByteArray) : (a ++ b).data.toList = a.data.toList ++ b.data.toList := Joins.data_append a b
theorem dec_len {u : Nat} {x : ByteArray} {m : Nat} (h : decD u ++ x.data.toList = decD m) (hm : m ≤ 9223372036854775808) : x.size ≤ 19 := by
  have h1 := congrArg List.length h
  rw [List.length_append, size_list] at h1
  have h2 : (decD m).length ≤ 19 := by
    unfold decD
    split
    · simp
    · exact (dec19 hm).2.2.2
  omega

set_option maxRecDepth 100000 in
set_option maxHeartbeats 2000000 in
theorem refDecimal_any (n : Int) (w : World) (hn : I64 n) : Calls Tryz.prog 50 #[.int .i64 n] w fun e w' => e = .returned (.string (str (Lib.itoa n))) ∧ Below w.heap.size w w' := by
  obtain ⟨hn1, hn2⟩ := hn
  rcases (show n = 0 ∨ 0 < n ∨ n < 0 by omega) with rfl | hp | hp
  · go_enter Tryz.func50, Tryz.ntmps50
    go_wp2
    go_ret
    exact ⟨by rw [itoa_zero]; rfl, Below.refl _ _⟩
  · have h0 : (n == 0) = false := by simp; omega
    have hneg : decide (n < 0) = false := by simp; omega
    have hit := itoa_pos hp
    have HIT := Lib.hid hit; clear hit
    have hnn : n.natAbs ≤ 9223372036854775808 := by omega
    go_enter Tryz.func50, Tryz.ntmps50
    go_wp2
    go_loopw [0, 3] (DRel w 1 (decD n.natAbs)) (fun n _ _ => (intOf n).natAbs)
    case atStart => exact ⟨n.natAbs, ⟨#[]⟩, by omega, by go_num, rfl, by simp, Below.refl _ _⟩
    case round =>
      obtain ⟨u, x, hu, rfl, rfl, hx, hbel⟩ := hrel
      have hxl := dec_len hx hnn
      have HX := Lib.hid hx; clear hx
      have hsz := hbel.size
      rw [Int.one_mul]
      by_cases hu0 : u = 0
      · subst hu0
        go_wp2
        go_ret
        refine ⟨?_, hbel⟩
        rw [HIT.out, ← HX.out]
        exact congrArg (fun b => Ending.returned (.string b)) (ext_toList (by rw [str_data]; simp [decD]))
      · have hu1 : ((u : Int) != 0) = true := by simp; omega
        have hst := decD_step hu0
        have HST := Lib.hid hst; clear hst
        have hcv := conv_one (48 + (u : Int) % 10) wr
        have hss : (strOfNums [48 + (u : Int) % 10]).size = 1 := rfl
        have hcat : ¬ 9223372036854775807 < 1 + x.size := by omega
        go_wp2
        refine ⟨⟨u / 10, strOfNums [48 + (u : Int) % 10] ++ x, by omega, by go_num, rfl, ?_, hbel.alloc hsz _⟩, by simp [intOf]; omega⟩
        rw [app_list, str_one, ← List.append_assoc, ← HST.out, HX.out]
  · have h0 : (n == 0) = false := by simp; omega
    have hneg : decide (n < 0) = true := by simp; omega
    have hit := itoa_neg hp
    have HIT := Lib.hid hit; clear hit
    have hnn : n.natAbs ≤ 9223372036854775808 := by omega
    go_enter Tryz.func50, Tryz.ntmps50
    go_wp2
    go_loopw [0, 3] (DRel w (-1) (decD n.natAbs)) (fun n _ _ => (intOf n).natAbs)
    case atStart => exact ⟨n.natAbs, ⟨#[]⟩, by omega, by go_num, rfl, by simp, Below.refl _ _⟩
    case round =>
      obtain ⟨u, x, hu, rfl, rfl, hx, hbel⟩ := hrel
      have hxl := dec_len hx hnn
      have HX := Lib.hid hx; clear hx
      have hsz := hbel.size
      rw [show (-1 : Int) * (u : Int) = -(u : Int) by omega]
      by_cases hu0 : u = 0
      · subst hu0
        have hcat : ¬ 9223372036854775807 < 1 + x.size := by omega
        go_wp2
        go_ret
        refine ⟨?_, hbel⟩
        rw [HIT.out, ← HX.out]
        exact congrArg (fun b => Ending.returned (.string b)) (ext_toList (by rw [str_data, app_list]; simp [decD]))
      · have hu1 : (-(u : Int) != 0) = true := by simp; omega
        have hst := decD_step hu0
        have HST := Lib.hid hst; clear hst
        have hcv := conv_one (48 + (u : Int) % 10) wr
        have hss : (strOfNums [48 + (u : Int) % 10]).size = 1 := rfl
        have hcat : ¬ 9223372036854775807 < 1 + x.size := by omega
        have hlt : -(u : Int) < 0 := by omega
        have hcv2 := conv_one (48 + -((u : Int) % 10)) wr
        have hss2 : (strOfNums [48 + -((u : Int) % 10)]).size = 1 := rfl
        go_wp2
        · refine ⟨⟨u / 10, strOfNums [48 + (u : Int) % 10] ++ x, by omega, by go_num, rfl, ?_, hbel.alloc hsz _⟩, by simp [intOf]; omega⟩
          rw [app_list, str_one, ← List.append_assoc, ← HST.out, HX.out]
        · have hz : (48 + -((u : Int) % 10)) = 48 + (u : Int) % 10 := by omega
          refine ⟨⟨u / 10, strOfNums [48 + -((u : Int) % 10)] ++ x, by omega, by go_num, rfl, ?_, hbel.alloc hsz _⟩, by simp [intOf]; omega⟩
          rw [hz, app_list, str_one, ← List.append_assoc, ← HST.out, HX.out]
end Go.Proofs.YtjnhcoflmechmaaGreatDoor.C
