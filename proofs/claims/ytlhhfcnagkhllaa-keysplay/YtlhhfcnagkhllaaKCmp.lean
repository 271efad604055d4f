/-
  The order of strings and of labels: strings.Compare, cmp.Compare, compare, Less, and the reference's.
-/
import Derived.Test.YtlhhfcnagkhllaaKCalls
import Derived.Lib.Bytealg
import Derived.Lib.Strings
namespace Go.Proofs.Ytlhhfcnagkhllaa
open Go.RowKit
set_option linter.unusedVariables false

/-- Byte j of a string, as a number. -/
def byte (s : ByteArray) (j : Nat) : Int := ((s.data.toList.getD j 0).toNat : Int)
theorem byte_eq (s : ByteArray) (j : Nat) (h : j < s.size) : ((s[j]'h).toNat : Int) = byte s j := by
  unfold byte
  have h' : j < s.data.toList.length := by simpa using h
  simp [List.getD_eq_getElem?_getD, List.getElem?_eq_getElem h']
  rfl
theorem byte_bounds (s : ByteArray) (j : Nat) : 0 ≤ byte s j ∧ byte s j ≤ 255 := by
  unfold byte
  have := (s.data.toList.getD j 0).toNat_lt
  omega

theorem byte_inj {a b : ByteArray} {i j : Nat} : byte a i = byte b j ↔ a.data.toList.getD i 0 = b.data.toList.getD j 0 := by
  unfold byte
  constructor
  · intro h; exact UInt8.toNat_inj.1 (by omega)
  · intro h; rw [h]
theorem size_list (a : ByteArray) : a.data.toList.length = a.size := by simp
def EqTo (a b : ByteArray) (k : Nat) : Prop := ∀ j, j < k → byte a j = byte b j
theorem eqTo_succ {a b : ByteArray} {k : Nat} (h : EqTo a b k) (e : byte a k = byte b k) : EqTo a b (k + 1) := by
  intro j hj
  rcases Nat.lt_or_ge j k with h1 | h1
  · exact h j h1
  · have : j = k := by omega
    subst this; exact e
def PreRel (a b : ByteArray) (w : World) (i : Value) (wr : World) : Prop := ∃ k n : Nat, k ≤ a.size ∧ k ≤ b.size ∧ i = .int .i64 k ∧ EqTo a b k ∧ wr = w.drewN n
theorem cmp_drop : ∀ (k : Nat) (a b : List UInt8), k ≤ a.length → k ≤ b.length → (∀ j, j < k → a.getD j 0 = b.getD j 0) → Lib.compareBytes a b = Lib.compareBytes (a.drop k) (b.drop k) := by
  intro k
  induction k with
  | zero => intro a b _ _ _; simp
  | succ k ih =>
    intro a b ha hb h
    match a, b, ha, hb, h with
    | x :: a, y :: b, ha, hb, h =>
      have h0 : x = y := by have := h 0 (by omega); simpa using this
      subst h0
      have hx : ¬ x < x := by simp
      have := ih a b (by simpa using ha) (by simpa using hb) (fun j hj => by have := h (j + 1) (by omega); simpa using this)
      simp [Lib.compareBytes, hx, this]
theorem cmp_neg : ∀ a b : List UInt8, Lib.compareBytes b a = - Lib.compareBytes a b := by
  intro a
  induction a with
  | nil => intro b; cases b <;> simp [Lib.compareBytes]
  | cons x a ih =>
    intro b
    cases b with
    | nil => simp [Lib.compareBytes]
    | cons y b =>
      simp only [Lib.compareBytes]
      by_cases h1 : x < y
      · have h2 : ¬ y < x := by rw [UInt8.lt_iff_toNat_lt] at h1 ⊢; omega
        simp [h1, h2]
      · by_cases h2 : y < x
        · simp [h1, h2]
        · simp [h1, h2, ih b]
theorem cmp_bounds : ∀ a b : List UInt8, -1 ≤ Lib.compareBytes a b ∧ Lib.compareBytes a b ≤ 1 := by
  intro a
  induction a with
  | nil => intro b; cases b <;> simp [Lib.compareBytes]
  | cons x a ih =>
    intro b
    cases b with
    | nil => simp [Lib.compareBytes]
    | cons y b =>
      simp only [Lib.compareBytes]
      have := ih b
      split
      · omega
      · split <;> omega
def cmpN (a b : ByteArray) : Int := Lib.compareBytes a.data.toList b.data.toList
theorem eqTo_list {a b : ByteArray} {k : Nat} (h : EqTo a b k) : ∀ j, j < k → a.data.toList.getD j 0 = b.data.toList.getD j 0 := fun j hj => byte_inj.1 (h j hj)
theorem drop_cons (s : ByteArray) (k : Nat) (h : k < s.size) : s.data.toList.drop k = s.data.toList.getD k 0 :: s.data.toList.drop (k + 1) := by
  have h' : k < s.data.toList.length := by rw [size_list]; exact h
  rw [List.drop_eq_getElem_cons h']
  simp [List.getD_eq_getElem?_getD, List.getElem?_eq_getElem h']
theorem lt_byte {a b : ByteArray} {k : Nat} : a.data.toList.getD k 0 < b.data.toList.getD k 0 ↔ byte a k < byte b k := by
  unfold byte; rw [UInt8.lt_iff_toNat_lt]; omega
theorem cmpN_lt {a b : ByteArray} {k : Nat} (ha : k < a.size) (hb : k < b.size) (h : EqTo a b k) (hl : byte a k < byte b k) : cmpN a b = -1 := by
  unfold cmpN
  rw [cmp_drop k _ _ (by rw [size_list]; omega) (by rw [size_list]; omega) (eqTo_list h), drop_cons a k ha, drop_cons b k hb]
  simp only [Lib.compareBytes]
  rw [if_pos (lt_byte.2 hl)]
theorem cmpN_gt {a b : ByteArray} {k : Nat} (ha : k < a.size) (hb : k < b.size) (h : EqTo a b k) (hl : byte b k < byte a k) : cmpN a b = 1 := by
  unfold cmpN
  rw [cmp_drop k _ _ (by rw [size_list]; omega) (by rw [size_list]; omega) (eqTo_list h), drop_cons a k ha, drop_cons b k hb]
  simp only [Lib.compareBytes]
  rw [if_neg (fun e => by have := lt_byte.1 e; omega), if_pos (lt_byte.2 hl)]
theorem cmpN_end {a b : ByteArray} {k : Nat} (ha : k ≤ a.size) (hb : k ≤ b.size) (h : EqTo a b k) (he : k = a.size ∨ k = b.size) : cmpN a b = if a.size < b.size then -1 else if b.size < a.size then 1 else 0 := by
  unfold cmpN
  rw [cmp_drop k _ _ (by rw [size_list]; omega) (by rw [size_list]; omega) (eqTo_list h)]
  have hla : (a.data.toList.drop k).length = a.size - k := by rw [List.length_drop, size_list]
  have hlb : (b.data.toList.drop k).length = b.size - k := by rw [List.length_drop, size_list]
  generalize a.data.toList.drop k = x at *
  generalize b.data.toList.drop k = y at *
  match x, y, hla, hlb with
  | [], [], h1, h2 => simp at h1 h2; simp only [Lib.compareBytes]; rw [if_neg (by omega), if_neg (by omega)]
  | [], c :: r, h1, h2 => simp at h1 h2; simp only [Lib.compareBytes]; rw [if_pos (by omega)]
  | c :: r, [], h1, h2 => simp at h1 h2; simp only [Lib.compareBytes]; rw [if_neg (by omega), if_pos (by omega)]
  | c :: r, d :: s, h1, h2 => simp at h1 h2; omega

set_option maxHeartbeats 1000000 in
theorem compareString_any (a b : ByteArray) (w : World) : Calls Try.prog 33 #[.string a, .string b] w fun e w' => e = .returned (.int .i64 (cmpN a b)) ∧ w = w' := by
  go_enter Try.func33, Try.ntmps33
  go_wp2
  rw [run_callFunc_extern Try.func37 (by kernel_rfl) (by kernel_rfl) (by kernel_rfl) (e := Extern.BytealgCompare.compare) (by kernel_rfl), Lib.run_compareString]
  simp only [Result.andThen]
  rw [Oper.upon_value]
  go_wp2
  go_ret
  exact ⟨rfl, rfl⟩
theorem strCompare_any (a b : ByteArray) (w : World) : Calls Try.prog 30 #[.string a, .string b] w fun e w' => e = .returned (.int .i64 (cmpN a b)) ∧ w = w' := by
  have C := Lib.hid (compareString_any a b w)
  go_enter Try.func30, Try.ntmps30
  go_wp2_with fail
  refine C.out.mono ?_
  rintro e w1 ⟨rfl, rfl⟩
  go_wp2
  go_ret
  exact ⟨rfl, rfl⟩
set_option maxHeartbeats 1000000 in
theorem refCompare_any (a b : ByteArray) (w : World) (ha : a.size ≤ 100000) (hb : b.size ≤ 100000) :
    Calls Try.prog 29 #[.string a, .string b] w fun e w' => e = .returned (.int .i64 (cmpN a b)) ∧ ∃ n, w' = w.drewN n := by
  go_enter Try.func29, Try.ntmps29
  go_wp2
  go_loopw [5] (PreRel a b w) (fun i _ => 100000 - (intOf i).toNat)
  case atStart => exact ⟨0, 0, by omega, by omega, rfl, fun j hj => by omega, rfl⟩
  case round =>
    obtain ⟨k, n, hka, hkb, rfl, heq, hwr⟩ := hrel
    have HQ := Lib.hid heq; clear heq
    have HW := Lib.hid hwr; clear hwr
    by_cases hlt : k < a.size ∧ k < b.size
    · obtain ⟨hla, hlb⟩ := hlt
      have ea := byte_eq a k hla
      have eb := byte_eq b k hlb
      rcases (show byte a k < byte b k ∨ byte b k < byte a k ∨ byte a k = byte b k by omega) with hx | hx | hx
      · have hr := cmpN_lt hla hlb HQ.out hx
        have HR := Lib.hid hr; clear hr
        go_wp2_with fail
        go_quiet (fail)
        go_wp2_with fail
        go_ret
        exact ⟨ret_int HR.out.symm, n + nq, by rw [HW.out, World.drewN_drewN]⟩
      · have hr := cmpN_gt hla hlb HQ.out hx
        have HR := Lib.hid hr; clear hr
        have hx' : decide (byte a k < byte b k) = false := by simp; omega
        go_wp2_with fail
        go_quiet (fail)
        go_wp2_with fail
        obtain ⟨w0, hw0⟩ : ∃ w0, w0 = wr.drewN nq := ⟨_, rfl⟩
        rw [← hw0]
        have HW0 := Lib.hid hw0; clear hw0
        have HQQ := Lib.hid (show ∃ q, w0 = w.drewN q from ⟨n + nq, by rw [HW0.out, HW.out, World.drewN_drewN]⟩)
        go_quiet (fail)
        go_wp2_with fail
        go_ret
        refine ⟨ret_int HR.out.symm, ?_⟩
        obtain ⟨q, hq⟩ := HQQ.out
        exact ⟨_, by rw [hq, World.drewN_drewN]⟩
      · have hx1 : decide (byte a k < byte b k) = false := by simp; omega
        have hx2 : decide (byte b k < byte a k) = false := by simp; omega
        have HX := Lib.hid hx; clear hx
        go_wp2_with fail
        go_quiet (fail)
        go_wp2_with fail
        obtain ⟨w0, hw0⟩ : ∃ w0, w0 = wr.drewN nq := ⟨_, rfl⟩
        rw [← hw0]
        have HW0 := Lib.hid hw0; clear hw0
        have HQQ := Lib.hid (show ∃ q, w0 = w.drewN q from ⟨n + nq, by rw [HW0.out, HW.out, World.drewN_drewN]⟩)
        go_quiet (fail)
        go_wp2_with fail
        refine ⟨?_, by simp [intOf]; omega⟩
        obtain ⟨q, hq⟩ := HQQ.out
        exact ⟨k + 1, q + nq, by omega, by omega, by go_num, eqTo_succ HQ.out HX.out, by rw [hq, World.drewN_drewN]⟩
    · have hr := cmpN_end hka hkb HQ.out (by omega)
      have HR := Lib.hid hr; clear hr
      have hex : (decide (k < a.size) = false) ∨ (decide (k < a.size) = true ∧ decide (k < b.size) = false) := by simp; omega
      have hsz : a.size < b.size ∨ b.size < a.size ∧ decide (a.size < b.size) = false ∨ decide (a.size < b.size) = false ∧ decide (b.size < a.size) = false := by simp; omega
      clear hlt
      rcases hex with hge | ⟨hla, hge⟩
      all_goals
        rcases hsz with hz | ⟨hz1, hz2⟩ | ⟨hz1, hz2⟩
        · go_wp2_with fail
          go_ret
          exact ⟨ret_int (by rw [HR.out, if_pos hz]), n, HW.out⟩
        · go_wp2_with fail
          go_ret
          exact ⟨ret_int (by rw [HR.out, if_neg (by omega), if_pos hz1]), n, HW.out⟩
        · go_wp2_with fail
          go_ret
          have h1 : ¬ a.size < b.size := by simpa using hz1
          have h2 : ¬ b.size < a.size := by simpa using hz2
          exact ⟨ret_int (by rw [HR.out, if_neg h1, if_neg h2]), n, HW.out⟩


def cmp3 (x y : Int) : Int := if x < y then -1 else if y < x then 1 else 0
theorem isNaN_any (x : Int) (w : World) : Calls Try.prog 34 #[.int .i64 x] w fun e w' => e = .returned (.bool false) ∧ w = w' := by
  go_enter Try.func34, Try.ntmps34
  go_wp2_with fail
  go_ret
  exact ⟨ret_bool (by simp), rfl⟩
set_option maxHeartbeats 1000000 in
theorem intCompare_any (x y : Int) (w : World) : Calls Try.prog 31 #[.int .i64 x, .int .i64 y] w fun e w' => e = .returned (.int .i64 (cmp3 x y)) ∧ w = w' := by
  go_enter Try.func31, Try.ntmps31
  go_wp2_with fail
  refine (isNaN_any x w).mono ?_
  rintro e w1 ⟨rfl, rfl⟩
  go_wp2_with fail
  refine (isNaN_any y w).mono ?_
  rintro e w1 ⟨rfl, rfl⟩
  by_cases h1 : x < y
  · go_wp2_with fail
    go_ret
    exact ⟨ret_int (by unfold cmp3; rw [if_pos h1]), rfl⟩
  · by_cases h2 : y < x
    · go_wp2_with fail
      go_ret
      exact ⟨ret_int (by unfold cmp3; rw [if_neg (by omega), if_pos h2]), rfl⟩
    · go_wp2_with fail
      go_ret
      exact ⟨ret_int (by unfold cmp3; rw [if_neg (by omega), if_neg (by omega)]), rfl⟩

/-! The order of labels. -/
def cmpLab (a b : Lab) : Int := if cmpN a.tag b.tag ≠ 0 then cmpN a.tag b.tag else if cmpN a.key b.key ≠ 0 then cmpN a.key b.key else cmp3 a.n b.n
theorem cb_zero : ∀ a b : List UInt8, Lib.compareBytes a b = 0 → a = b := by
  intro a
  induction a with
  | nil => intro b; cases b <;> simp [Lib.compareBytes]
  | cons x a ih =>
    intro b
    cases b with
    | nil => simp [Lib.compareBytes]
    | cons y b =>
      simp only [Lib.compareBytes]
      by_cases h1 : x < y
      · simp [h1]
      · by_cases h2 : y < x
        · simp [h1, h2]
        · have : x = y := by rw [UInt8.lt_iff_toNat_lt] at h1 h2; exact UInt8.toNat_inj.1 (by omega)
          subst this
          simp
          exact ih b
theorem cb_self : ∀ a : List UInt8, Lib.compareBytes a a = 0
  | [] => rfl
  | x :: a => by simp [Lib.compareBytes, cb_self a]
theorem cb_trans : ∀ a b c : List UInt8, Lib.compareBytes a b < 0 → Lib.compareBytes b c < 0 → Lib.compareBytes a c < 0 := by
  intro a
  induction a with
  | nil => intro b c; cases b <;> cases c <;> simp [Lib.compareBytes]
  | cons x a ih =>
    intro b c
    cases b with
    | nil => simp [Lib.compareBytes]
    | cons y b =>
      cases c with
      | nil => simp [Lib.compareBytes]
      | cons z c =>
        simp only [Lib.compareBytes, UInt8.lt_iff_toNat_lt]
        intro h1 h2
        by_cases a1 : x.toNat < y.toNat
        · by_cases a2 : y.toNat < z.toNat
          · rw [if_pos (by omega)]; omega
          · rw [if_neg a2] at h2
            by_cases a3 : z.toNat < y.toNat
            · rw [if_pos a3] at h2; omega
            · rw [if_pos (by omega)]; omega
        · rw [if_neg a1] at h1
          by_cases a2 : y.toNat < x.toNat
          · rw [if_pos a2] at h1; omega
          · rw [if_neg a2] at h1
            by_cases a3 : y.toNat < z.toNat
            · rw [if_pos (by omega)]; omega
            · rw [if_neg a3] at h2
              by_cases a4 : z.toNat < y.toNat
              · rw [if_pos a4] at h2; omega
              · rw [if_neg a4] at h2
                rw [if_neg (by omega), if_neg (by omega)]
                exact ih b c h1 h2
theorem cmpN_zero {a b : ByteArray} (h : cmpN a b = 0) : a = b := by
  have := cb_zero _ _ h
  obtain ⟨⟨la⟩⟩ := a
  obtain ⟨⟨lb⟩⟩ := b
  simp at this
  rw [this]
theorem cmpN_self (a : ByteArray) : cmpN a a = 0 := cb_self _
theorem cmpN_neg (a b : ByteArray) : cmpN b a = - cmpN a b := cmp_neg _ _
theorem cmpN_trans {a b c : ByteArray} (h1 : cmpN a b < 0) (h2 : cmpN b c < 0) : cmpN a c < 0 := cb_trans _ _ _ h1 h2
theorem cmpN_bounds (a b : ByteArray) : -1 ≤ cmpN a b ∧ cmpN a b ≤ 1 := cmp_bounds _ _
theorem cmp3_cases (x y : Int) : (x < y ∧ cmp3 x y = -1) ∨ (y < x ∧ cmp3 x y = 1) ∨ (x = y ∧ cmp3 x y = 0) := by
  unfold cmp3
  by_cases h1 : x < y
  · exact .inl ⟨h1, if_pos h1⟩
  · by_cases h2 : y < x
    · exact .inr (.inl ⟨h2, by rw [if_neg h1, if_pos h2]⟩)
    · exact .inr (.inr ⟨by omega, by rw [if_neg h1, if_neg h2]⟩)
theorem cmpLab_self (a : Lab) : cmpLab a a = 0 := by simp [cmpLab, cmpN_self, cmp3]
theorem cmpLab_zero {a b : Lab} (h : cmpLab a b = 0) : a = b := by
  unfold cmpLab at h
  split at h
  · exact absurd h ‹_›
  · rename_i h1
    split at h
    · exact absurd h ‹_›
    · rename_i h2
      have e1 := cmpN_zero (by simpa using h1)
      have e2 := cmpN_zero (by simpa using h2)
      rcases cmp3_cases a.n b.n with ⟨_, h3⟩ | ⟨_, h3⟩ | ⟨h3, _⟩
      · omega
      · omega
      · cases a; cases b; simp_all
theorem cmpLab_neg (a b : Lab) : cmpLab b a = - cmpLab a b := by
  unfold cmpLab
  rw [cmpN_neg a.tag b.tag, cmpN_neg a.key b.key]
  by_cases h1 : cmpN a.tag b.tag = 0
  · by_cases h2 : cmpN a.key b.key = 0
    · simp only [h1, h2]
      simp
      unfold cmp3
      split <;> split <;> omega
    · have : ¬ -cmpN a.key b.key = 0 := by omega
      simp [h1, h2, this]
  · have : ¬ -cmpN a.tag b.tag = 0 := by omega
    simp [h1, this]
theorem cmpLab_trans {a b c : Lab} (h1 : cmpLab a b < 0) (h2 : cmpLab b c < 0) : cmpLab a c < 0 := by
  unfold cmpLab at *
  by_cases a1 : cmpN a.tag b.tag = 0
  · have e1 := cmpN_zero a1
    rw [← e1] at h2
    simp only [a1, ne_eq, not_true_eq_false, if_false] at h1
    by_cases a2 : cmpN a.tag c.tag = 0
    · simp only [a2, ne_eq, not_true_eq_false, if_false] at h2 ⊢
      by_cases b1 : cmpN a.key b.key = 0
      · have e2 := cmpN_zero b1
        rw [← e2] at h2
        simp only [b1, not_true_eq_false, if_false] at h1
        by_cases b2 : cmpN a.key c.key = 0
        · simp only [b2, not_true_eq_false, if_false] at h2 ⊢
          rcases cmp3_cases a.n b.n with h3 | h3 | h3 <;> rcases cmp3_cases b.n c.n with h4 | h4 | h4 <;> rcases cmp3_cases a.n c.n with h5 | h5 | h5 <;> omega
        · simp only [b2, not_false_eq_true, if_true] at h2 ⊢
          exact h2
      · simp only [b1, not_false_eq_true, if_true] at h1
        by_cases b2 : cmpN b.key c.key = 0
        · have e2 := cmpN_zero b2
          rw [← e2]
          simp only [b1, not_false_eq_true, if_true]
          exact h1
        · simp only [b2, not_false_eq_true, if_true] at h2
          have h3 := cmpN_trans h1 h2
          simp only [show ¬ cmpN a.key c.key = 0 by omega, not_false_eq_true, if_true]
          exact h3
    · simp only [ne_eq, a2, not_false_eq_true, if_true] at h2 ⊢
      exact h2
  · simp only [ne_eq, a1, not_false_eq_true, if_true] at h1
    by_cases a2 : cmpN b.tag c.tag = 0
    · have e1 := cmpN_zero a2
      rw [← e1]
      simp only [ne_eq, a1, not_false_eq_true, if_true]
      exact h1
    · simp only [ne_eq, a2, not_false_eq_true, if_true] at h2
      have h3 := cmpN_trans h1 h2
      simp only [ne_eq, show ¬ cmpN a.tag c.tag = 0 by omega, not_false_eq_true, if_true]
      exact h3

theorem two_boxes (w : World) (a b : Lab) : (((w.alloc (.cells (labCells a) 30)).alloc (.cells (labCells b) 30)).cell? ⟨w.heap.size, 0, none⟩ = some (.string a.tag) ∧ ((w.alloc (.cells (labCells a) 30)).alloc (.cells (labCells b) 30)).cell? ⟨w.heap.size, 1, none⟩ = some (.string a.key) ∧ ((w.alloc (.cells (labCells a) 30)).alloc (.cells (labCells b) 30)).cell? ⟨w.heap.size, 2, none⟩ = some (.int .i64 a.n)) ∧
    (((w.alloc (.cells (labCells a) 30)).alloc (.cells (labCells b) 30)).cell? ⟨w.heap.size + 1, 0, none⟩ = some (.string b.tag) ∧ ((w.alloc (.cells (labCells a) 30)).alloc (.cells (labCells b) 30)).cell? ⟨w.heap.size + 1, 1, none⟩ = some (.string b.key) ∧ ((w.alloc (.cells (labCells a) 30)).alloc (.cells (labCells b) 30)).cell? ⟨w.heap.size + 1, 2, none⟩ = some (.int .i64 b.n)) := by
  have h1 := box_cells w a
  have h2 := box_cells (w.alloc (.cells (labCells a) 30)) b
  have hs : (w.alloc (.cells (labCells a) 30)).heap.size = w.heap.size + 1 := by simp
  rw [hs] at h2
  exact ⟨box_kept (S := fun _ => False) (kept_alloc _ _ _) (fun h => h) h1, h2⟩
set_option maxHeartbeats 2000000 in
theorem labCompare_any (a b : Lab) (w : World) : Calls Try.prog 27 #[labV a, labV b] w fun e w' => e = .returned (.int .i64 (cmpLab a b)) ∧ Below w.heap.size w w' := by
  obtain ⟨w1, hw1⟩ : ∃ w1, w1 = (w.alloc (.cells (labCells a) 30)).alloc (.cells (labCells b) 30) := ⟨_, rfl⟩
  have hb1 : Below w.heap.size w w1 := by rw [hw1]; exact ((Below.refl _ _).alloc (Nat.le_refl _) _).alloc (by simp) _
  obtain ⟨⟨a1, a2, a3⟩, b1, b2, b3⟩ := two_boxes w a b
  rw [← hw1] at a1 a2 a3 b1 b2 b3
  have C1 := Lib.hid (strCompare_any a.tag b.tag w1); have C2 := Lib.hid (strCompare_any a.key b.key w1); have C3 := Lib.hid (intCompare_any a.n b.n w1)
  have HCL := Lib.hid (show cmpLab a b = if cmpN a.tag b.tag ≠ 0 then cmpN a.tag b.tag else if cmpN a.key b.key ≠ 0 then cmpN a.key b.key else cmp3 a.n b.n from rfl)
  generalize cmpLab a b = r at HCL ⊢
  generalize cmpN a.tag b.tag = x at C1 HCL
  generalize cmpN a.key b.key = y at C2 HCL
  generalize cmp3 a.n b.n = z at C3 HCL
  have HW := Lib.hid hw1
  clear hw1
  by_cases h1 : x = 0
  · by_cases h2 : y = 0
    · have HR := Lib.hid (show r = z by rw [HCL.out]; simp [h1, h2])
      subst h1 h2
      go_enter Try.func27, Try.ntmps27
      go_wp2_with fail
      rw [← HW.out]
      refine C1.out.mono ?_
      rintro e w2 ⟨rfl, rfl⟩
      go_wp2_with fail
      refine C2.out.mono ?_
      rintro e w2 ⟨rfl, rfl⟩
      go_wp2_with fail
      refine C3.out.mono ?_
      rintro e w2 ⟨rfl, rfl⟩
      go_wp2_with fail
      go_ret
      exact ⟨ret_int HR.out.symm, hb1⟩
    · have HR := Lib.hid (show r = y by rw [HCL.out]; simp [h1, h2])
      have hd : (y != 0) = true := by simpa using h2
      subst h1
      go_enter Try.func27, Try.ntmps27
      go_wp2_with fail
      rw [← HW.out]
      refine C1.out.mono ?_
      rintro e w2 ⟨rfl, rfl⟩
      go_wp2_with fail
      refine C2.out.mono ?_
      rintro e w2 ⟨rfl, rfl⟩
      go_wp2_with fail
      go_ret
      exact ⟨ret_int HR.out.symm, hb1⟩
  · have HR := Lib.hid (show r = x by rw [HCL.out]; simp [h1])
    have hd : (x != 0) = true := by simpa using h1
    go_enter Try.func27, Try.ntmps27
    go_wp2_with fail
    rw [← HW.out]
    refine C1.out.mono ?_
    rintro e w2 ⟨rfl, rfl⟩
    go_wp2_with fail
    go_ret
    exact ⟨ret_int HR.out.symm, hb1⟩

def lessB (a b : Lab) : Bool := decide (cmpLab a b < 0)
set_option maxHeartbeats 2000000 in
theorem less_any (a b : Lab) (w : World) : Calls Try.prog 20 #[labV a, labV b] w fun e w' => e = .returned (.bool (lessB a b)) ∧ Below w.heap.size w w' := by
  obtain ⟨w1, hw1⟩ : ∃ w1, w1 = (w.alloc (.cells (labCells a) 30)).alloc (.cells (labCells b) 30) := ⟨_, rfl⟩
  have hb1 : Below w.heap.size w w1 := by rw [hw1]; exact ((Below.refl _ _).alloc (Nat.le_refl _) _).alloc (by simp) _
  obtain ⟨⟨a1, a2, a3⟩, b1, b2, b3⟩ := two_boxes w a b
  rw [← hw1] at a1 a2 a3 b1 b2 b3
  have C1 := Lib.hid (labCompare_any a b w1)
  have HL := Lib.hid (show lessB a b = decide (cmpLab a b < 0) from rfl)
  generalize lessB a b = r at HL ⊢
  generalize cmpLab a b = x at C1 HL
  have HW := Lib.hid hw1
  clear hw1
  go_enter Try.func20, Try.ntmps20
  go_wp2_with fail
  rw [← HW.out]
  go_wp2_with fail
  refine C1.out.mono ?_
  rintro e w2 ⟨rfl, hb2⟩
  go_wp2_with fail
  go_ret
  exact ⟨ret_bool HL.out.symm, hb1.trans (hb2.mono hb1.size)⟩
set_option maxRecDepth 100000 in
set_option maxHeartbeats 4000000 in
theorem refLess_any (a b : Lab) (w : World) (ha : a.tag.size ≤ 100000 ∧ a.key.size ≤ 100000) (hb : b.tag.size ≤ 100000 ∧ b.key.size ≤ 100000) : Calls Try.prog 22 #[labV a, labV b] w fun e w' => e = .returned (.bool (lessB a b)) ∧ Below w.heap.size w w' := by
  obtain ⟨w1, hw1⟩ : ∃ w1, w1 = (w.alloc (.cells (labCells a) 30)).alloc (.cells (labCells b) 30) := ⟨_, rfl⟩
  have hb1 : Below w.heap.size w w1 := by rw [hw1]; exact ((Below.refl _ _).alloc (Nat.le_refl _) _).alloc (by simp) _
  obtain ⟨⟨a1, a2, a3⟩, b1, b2, b3⟩ := two_boxes w a b
  rw [← hw1] at a1 a2 a3 b1 b2 b3
  have C1 := Lib.hid (refCompare_any a.tag b.tag w1 ha.1 hb.1); have C2 := Lib.hid (fun n => refCompare_any a.key b.key (w1.drewN n) ha.2 hb.2)
  have HL := Lib.hid (show lessB a b = decide ((if cmpN a.tag b.tag ≠ 0 then cmpN a.tag b.tag else if cmpN a.key b.key ≠ 0 then cmpN a.key b.key else cmp3 a.n b.n) < 0) from rfl)
  have B1 := cmpN_bounds a.tag b.tag
  have B2 := cmpN_bounds a.key b.key
  have B3 := cmp3_cases a.n b.n
  have HB3 := Lib.hid B3
  generalize lessB a b = r at HL ⊢
  generalize cmpN a.tag b.tag = x at C1 HL B1
  generalize cmpN a.key b.key = y at C2 HL B2
  generalize cmp3 a.n b.n = z at HL HB3
  have HW := Lib.hid hw1
  clear hw1 B3
  go_enter Try.func22, Try.ntmps22
  go_wp2_with fail
  rw [← HW.out]
  go_wp2_with fail
  refine C1.out.mono ?_
  rintro e w2 ⟨rfl, q1, rfl⟩
  go_wp2_with fail
  refine (C2.out q1).mono ?_
  rintro e w3 ⟨rfl, q2, rfl⟩
  have hb3 : Below w.heap.size w ((w1.drewN q1).drewN q2) := (hb1.trans (below_drewN _ _ _)).trans (below_drewN _ _ _)
  have d3 : ((w1.drewN q1).drewN q2).cell? ⟨w.heap.size, 2, none⟩ = some (.int .i64 a.n) := a3
  have d4 : ((w1.drewN q1).drewN q2).cell? ⟨w.heap.size + 1, 2, none⟩ = some (.int .i64 b.n) := b3
  generalize (w1.drewN q1).drewN q2 = w3 at hb3 d3 d4 ⊢
  clear a1 a2 a3 b1 b2 b3 hb1 C1 C2
  rcases (show x < 0 ∨ x = 0 ∨ 0 < x by omega) with h1 | h1 | h1
  · have HR := Lib.hid (show r = true by rw [HL.out]; simp [show ¬ x = 0 by omega, h1])
    have e1 : decide (x < 0) = true := by simpa using h1
    go_wp2_with fail
    go_ret
    exact ⟨ret_bool HR.out.symm, hb3⟩
  · subst h1
    rcases (show y < 0 ∨ y = 0 ∨ 0 < y by omega) with h2 | h2 | h2
    · have HR := Lib.hid (show r = true by rw [HL.out]; simp [show ¬ y = 0 by omega, h2])
      have e2 : decide (y < 0) = true := by simpa using h2
      go_wp2_with fail
      go_ret
      exact ⟨ret_bool HR.out.symm, hb3⟩
    · subst h2
      have HR := Lib.hid (show r = decide (a.n < b.n) by
        rw [HL.out]
        rcases HB3.out with h | h | h
        · simp [h.1, h.2]
        · simp [h.2]; omega
        · simp [h.1, h.2])
      go_wp2_with fail
      go_ret
      exact ⟨ret_bool HR.out.symm, hb3⟩
    · have HR := Lib.hid (show r = false by rw [HL.out]; simp [show ¬ y = 0 by omega]; omega)
      have e2 : decide (y < 0) = false := by simp; omega
      have e3 : (y == 0) = false := by simp; omega
      go_wp2_with fail
      go_ret
      exact ⟨ret_bool HR.out.symm, hb3⟩
  · have HR := Lib.hid (show r = false by rw [HL.out]; simp [show ¬ x = 0 by omega]; omega)
    have e1 : decide (x < 0) = false := by simp; omega
    have e3 : (x == 0) = false := by simp; omega
    go_wp2_with fail
    go_ret
    exact ⟨ret_bool HR.out.symm, hb3⟩
end Go.Proofs.Ytlhhfcnagkhllaa
