/-
  The first attribute of a name, and the first of a greater one: indexOf, placeOf, Find.
-/
import Derived.Test.YteamnjaepgfcmaaCheck2
import Derived.Test.YteamnjaepgfcmaaShelf
namespace Go.Proofs.Yteamnjaepgfcmaa
open Go.RowKit Go.Sort Go.Lib
set_option linter.unusedVariables false
def FirstAt (p : At → Prop) (l : List At) (r : Int) : Prop := (∃ k : Nat, ∃ hk : k < l.length, r = k ∧ p l[k] ∧ ∀ j, (hj : j < l.length) → j < k → ¬ p l[j]) ∨ (r = -1 ∧ ∀ x ∈ l, ¬ p x)
theorem get_bang {l : List At} {k : Nat} (h : k < l.length) : l[k]! = l[k] := getElem!_pos l k h
theorem idx_first (p : At → Bool) (l : List At) : FirstAt (fun x => p x = true) l (Lib.idxBy (fun _ y => p y) (l.take l.length) default) := by
  by_cases h : l.findIdx p < l.length
  · refine .inl ⟨l.findIdx p, h, ?_, List.findIdx_getElem, fun j hj hjk => by simpa using List.not_of_lt_findIdx hjk⟩
    rw [Lib.idxBy_hit (fun _ y => p y) l l.length (l.findIdx p) default h (Nat.le_refl _) (by show p l[l.findIdx p]! = true; rw [get_bang h]; exact List.findIdx_getElem) (fun j hj => by
      show p l[j]! = false
      have hj2 : j < l.length := by omega
      rw [get_bang hj2]; simpa using List.not_of_lt_findIdx hj)]
  · have hall : ∀ x ∈ l, ¬ p x = true := by
      intro x hx hp
      exact h (List.findIdx_lt_length_of_exists ⟨x, hx, hp⟩)
    refine .inr ⟨?_, hall⟩
    rw [Lib.idxBy_miss (fun _ y => p y) l l.length default (fun j hj => by
      show p l[j]! = false
      rw [get_bang hj]; simpa using hall l[j] (List.getElem_mem _))]
theorem less_cmp : ∀ a b : List UInt8, Op.bytesLess a b = decide (Lib.compareBytes a b < 0)
  | [], [] => rfl
  | [], _ :: _ => rfl
  | _ :: _, [] => rfl
  | x :: a, y :: b => by
    rw [Op.bytesLess, Lib.compareBytes, less_cmp a b]
    by_cases h1 : x < y
    · simp [h1]
    · by_cases h2 : y < x
      · have : ¬ x = y := fun e => by subst e; exact h1 h2
        simp [h1, h2, this]
      · have : x = y := by rw [UInt8.lt_iff_toNat_lt] at h1 h2; exact UInt8.toNat_inj.1 (by omega)
        simp [this]
theorem gtB (a b : ByteArray) : (!Op.bytesLess a.toList b.toList && !a.toList == b.toList) = decide (0 < cmpN a b) := by
  rw [eqB, less_cmp, Lib.toList_data, Lib.toList_data]
  show (!decide (cmpN a b < 0) && !decide (a = b)) = decide (0 < cmpN a b)
  by_cases h : a = b
  · subst h; simp [cmpN_self]
  · have : cmpN a b ≠ 0 := fun e => h (cmpN_zero e)
    by_cases h2 : cmpN a b < 0
    · simp [h, h2]; omega
    · have h3 : 0 < cmpN a b := by omega
      simp [h, h2, h3]
def eqN (n : ByteArray) (x : At) : Bool := decide (x.1 = n)
def gtN (n : ByteArray) (x : At) : Bool := decide (0 < cmpN x.1 n)
set_option maxHeartbeats 1000000 in
theorem isName_any (n : ByteArray) (B : Nat) (x : At) (w : World) (hc : w.cell? ⟨B, 0, none⟩ = some (.string n)) : Calls Try.prog 53 #[.agg #[.string x.1, .string x.2], .pointer (some ⟨B, 0, none⟩)] w fun e w' => e = .returned (.bool (eqN n x)) ∧ Below w.heap.size w w' := by
  have hb1 : Below w.heap.size w (w.alloc (.cells #[.string x.1, .string x.2] 56)) := (Below.refl _ _).alloc (Nat.le_refl _) _
  have hc1 : (w.alloc (.cells #[.string x.1, .string x.2] 56)).cell? ⟨B, 0, none⟩ = some (.string n) := by rw [hb1.cell (p := ⟨B, 0, none⟩) (World.block_lt_of_cell? w _ hc)]; exact hc
  clear hc
  go_enter Try.func53, Try.ntmps53
  go_wp2_with fail
  go_ret
  exact ⟨ret_bool (eqB _ _), hb1⟩
set_option maxHeartbeats 1000000 in
theorem isMore_any (n : ByteArray) (B : Nat) (x : At) (w : World) (hc : w.cell? ⟨B, 0, none⟩ = some (.string n)) : Calls Try.prog 54 #[.agg #[.string x.1, .string x.2], .pointer (some ⟨B, 0, none⟩)] w fun e w' => e = .returned (.bool (gtN n x)) ∧ Below w.heap.size w w' := by
  have hb1 : Below w.heap.size w (w.alloc (.cells #[.string x.1, .string x.2] 56)) := (Below.refl _ _).alloc (Nat.le_refl _) _
  have hc1 : (w.alloc (.cells #[.string x.1, .string x.2] 56)).cell? ⟨B, 0, none⟩ = some (.string n) := by rw [hb1.cell (p := ⟨B, 0, none⟩) (World.block_lt_of_cell? w _ hc)]; exact hc
  clear hc
  go_enter Try.func54, Try.ntmps54
  go_wp2_with fail
  go_ret
  exact ⟨ret_bool (gtB _ _), hb1⟩
set_option maxHeartbeats 1000000 in
theorem idxFunc_none (A : Option Addr) (c : Nat) (v : Value) (w : World) : Calls Try.prog 52 #[.slice A 0 c, v] w fun e w' => e = .returned (.int .i64 (-1)) ∧ w' = w := by
  go_enter Try.func52, Try.ntmps52
  go_wp2
  go_loopg [5, 8] 0 (fun _ _ s8 wr => s8 = .int .i64 0 ∧ wr = w)
  case atStart => exact ⟨rfl, rfl⟩
  case round =>
    obtain ⟨rfl, rfl⟩ := hrel
    go_wp2
    go_ret
    exact ⟨rfl, rfl⟩
theorem idxFunc_any (A : Option Addr) (c B g : Nat) (l : List At) (p : At → Bool) (w : World) (h : TRow w w.heap.size A l) (hl : l.length ≤ 1000000) (eg : ∀ args w, (callFunc g args).run Try.prog w = .ok (.enter g args) w)
    (hp : Go.Proofs.PredBelow Try.prog g #[.pointer (some ⟨B, 0, none⟩)] (fun x => .agg (encA x).toArray) p w) :
    Calls Try.prog 52 #[.slice A l.length c, .func (.func g) #[] #[.pointer (some ⟨B, 0, none⟩)]] w fun e w' => ∃ r, e = .returned (.int .i64 r) ∧ FirstAt (fun x => p x = true) l r ∧ Below w.heap.size w w' := by
  by_cases h0 : l = []
  · subst h0
    refine (idxFunc_none A c _ w).mono ?_
    rintro e w' ⟨rfl, rfl⟩
    exact ⟨-1, rfl, .inr ⟨rfl, fun x hx => by simp at hx⟩, Below.refl _ _⟩
  · obtain ⟨b, off, rfl, hb, hc⟩ := h (List.length_pos_iff.2 h0)
    have hcon := Go.Proofs.AnyQ.slices_IndexFunc (α := At) Try.layIdx 2 (fun w => by kernel_rfl) (fun w => by kernel_rfl) encA encA_len p g #[.pointer (some ⟨B, 0, none⟩)] eg b off l.length c l w hp (Nat.le_refl _) (by omega) hb (fun j hj i v hv => by
      rw [get_bang hj] at hv
      obtain ⟨k1, k2⟩ := hc j hj
      match i, hv with
      | 0, hv => simp [encA] at hv; rw [Nat.add_zero, k1, hv]
      | 1, hv => simp [encA] at hv; rw [k2, hv]
      | i + 2, hv => simp [encA] at hv)
    change Calls Try.prog 52 _ _ _ at hcon
    refine hcon.mono ?_
    rintro e w' ⟨rfl, hb'⟩
    exact ⟨_, rfl, idx_first p l, hb'⟩
theorem str_box (w : World) (n : ByteArray) : (w.alloc (.cells #[.string n] 9)).cell? ⟨w.heap.size, 0, none⟩ = some (.string n) := by simp
set_option maxHeartbeats 1000000 in
theorem indexOf_any (A : Option Addr) (c : Nat) (l : List At) (n : ByteArray) (w : World) (h : TRow w w.heap.size A l) (hl : l.length ≤ 1000000) :
    Calls Try.prog 35 #[.slice A l.length c, .string n] w fun e w' => ∃ r, e = .returned (.int .i64 r) ∧ FirstAt (fun x => x.1 = n) l r ∧ Below w.heap.size w w' := by
  obtain ⟨w1, hw1⟩ : ∃ w1, w1 = w.alloc (.cells #[.string n] 9) := ⟨_, rfl⟩
  have hb1 : Below w.heap.size w w1 := by rw [hw1]; exact (Below.refl _ _).alloc (Nat.le_refl _) _
  have hs1 : w.heap.size < w1.heap.size := by rw [hw1]; simp
  have hc1 : w1.cell? ⟨w.heap.size, 0, none⟩ = some (.string n) := by rw [hw1]; exact str_box w n
  have HC := Lib.hid (idxFunc_any A c w.heap.size 53 l (eqN n) w1 (h.up hb1) hl (enters_of Try.func53 (by kernel_rfl) rfl) (fun W x hW =>
    (isName_any n w.heap.size x W ((hW.cell (p := ⟨w.heap.size, 0, none⟩) hs1).trans hc1)).mono fun e w' hh => ⟨hh.1, hW.trans (hh.2.mono hW.size)⟩))
  have HW := Lib.hid hw1
  clear hw1 h hc1 hs1
  go_enter Try.func35, Try.ntmps35
  go_wp2_with fail
  rw [show w.alloc (.cells #[.string n] 9) = w1 from HW.out.symm]
  refine HC.out.mono ?_
  rintro e w2 ⟨r, rfl, hr, hb2⟩
  have HR := Lib.hid hr
  clear hr
  go_wp2_with fail
  go_ret
  refine ⟨r, rfl, ?_, hb1.trans (hb2.mono hb1.size)⟩
  have := HR.out
  simpa [FirstAt, eqN] using this
/-- Where a new name goes. -/
def PlaceAt (l : List At) (n : ByteArray) (t : Nat) : Prop := t ≤ l.length ∧ (∀ j, (hj : j < l.length) → j < t → ¬ 0 < cmpN l[j].1 n) ∧ ∀ h : t < l.length, 0 < cmpN l[t].1 n
set_option maxHeartbeats 1000000 in
theorem placeOf_any (A : Option Addr) (c : Nat) (l : List At) (n : ByteArray) (w : World) (h : TRow w w.heap.size A l) (hl : l.length ≤ 1000000) :
    Calls Try.prog 38 #[.slice A l.length c, .string n] w fun e w' => ∃ t : Nat, e = .returned (.int .i64 t) ∧ PlaceAt l n t ∧ Below w.heap.size w w' := by
  obtain ⟨w1, hw1⟩ : ∃ w1, w1 = w.alloc (.cells #[.string n] 9) := ⟨_, rfl⟩
  have hb1 : Below w.heap.size w w1 := by rw [hw1]; exact (Below.refl _ _).alloc (Nat.le_refl _) _
  have hs1 : w.heap.size < w1.heap.size := by rw [hw1]; simp
  have hc1 : w1.cell? ⟨w.heap.size, 0, none⟩ = some (.string n) := by rw [hw1]; exact str_box w n
  have HC := Lib.hid (idxFunc_any A c w.heap.size 54 l (gtN n) w1 (h.up hb1) hl (enters_of Try.func54 (by kernel_rfl) rfl) (fun W x hW =>
    (isMore_any n w.heap.size x W ((hW.cell (p := ⟨w.heap.size, 0, none⟩) hs1).trans hc1)).mono fun e w' hh => ⟨hh.1, hW.trans (hh.2.mono hW.size)⟩))
  have HW := Lib.hid hw1
  clear hw1 h hc1 hs1
  go_enter Try.func38, Try.ntmps38
  go_wp2_with fail
  rw [show w.alloc (.cells #[.string n] 9) = w1 from HW.out.symm]
  refine HC.out.mono ?_
  rintro e w2 ⟨r, rfl, hr, hb2⟩
  have HB2 := Lib.hid (hb1.trans (hb2.mono hb1.size))
  clear hb2
  rcases hr with ⟨k, hk, rfl, h1, h2⟩ | ⟨rfl, h1⟩
  · have HP := Lib.hid (show PlaceAt l n k from ⟨by omega, fun j hj hjk => by have := h2 j hj hjk; simpa [gtN] using this, fun _ => by simpa [gtN] using h1⟩)
    clear h1 h2
    have h3 : ¬ (k : Int) < 0 := by omega
    go_wp2_with fail
    go_ret
    exact ⟨k, rfl, HP.out, HB2.out⟩
  · have HP := Lib.hid (show PlaceAt l n l.length from ⟨by omega, fun j hj _ => by have := h1 _ (List.getElem_mem hj); simpa [gtN] using this, fun h => by omega⟩)
    clear h1
    go_wp2_with fail
    go_ret
    exact ⟨l.length, rfl, HP.out, HB2.out⟩
set_option maxHeartbeats 1000000 in
theorem find_any (A : Option Addr) (c : Nat) (l : List At) (n : ByteArray) (w : World) (h : TRow w w.heap.size A l) (hl : l.length ≤ 1000000) :
    Calls Try.prog 36 #[.slice A l.length c, .string n] w fun e w' => ∃ r, e = .returned (.int .i64 r) ∧ FirstAt (fun x => x.1 = n) l r ∧ w' = w := by
  have H := Lib.hid h
  clear h
  go_enter Try.func36, Try.ntmps36
  go_wp2
  go_loopg [5, 8] l.length (fun g _ s8 wr => ∃ k : Nat, s8 = .int .i64 k ∧ k ≤ l.length ∧ l.length - k ≤ g ∧ wr = w ∧ RowKit.Hid (∀ j, (hj : j < l.length) → j < k → ¬ l[j].1 = n))
  case atStart => exact ⟨0, rfl, by omega, by omega, rfl, Lib.hid (fun j _ hj => by omega)⟩
  case round =>
    obtain ⟨k, rfl, hk, hg, rfl, HA⟩ := hrel
    by_cases hlt : k < l.length
    · have h1 : (k : Int) < (l.length : Int) := by omega
      obtain ⟨b, off, x, rfl, hb, hx, c1, c2⟩ := trow_at H.out hlt
      have HX := Lib.hid hx
      clear hx
      by_cases he : x.1 = n
      · have hq : (x.1.toList == n.toList) = true := by rw [eqB]; exact decide_eq_true he
        have HE := Lib.hid he
        clear he
        go_wp2_with fail
        go_ret
        exact ⟨k, rfl, .inl ⟨k, hlt, rfl, by rw [← HX.out]; exact HE.out, HA.out⟩, rfl⟩
      · have hq : (x.1.toList == n.toList) = false := by rw [eqB]; exact decide_eq_false he
        have HE := Lib.hid he
        clear he
        go_wp2_with fail
        go_roundg (l.length - (k + 1))
        case measure => omega
        case rel =>
          refine ⟨k + 1, by go_num, by omega, by omega, rfl, Lib.hid (fun j hj hjk => ?_)⟩
          rcases Nat.lt_or_ge j k with h3 | h3
          · exact HA.out j hj h3
          · have : j = k := by omega
            subst this
            rw [← HX.out]; exact HE.out
    · have h1 : ¬ (k : Int) < (l.length : Int) := by omega
      go_wp2_with fail
      go_ret
      refine ⟨-1, rfl, .inr ⟨rfl, fun x hx => ?_⟩, rfl⟩
      obtain ⟨i, hi, rfl⟩ := List.getElem_of_mem hx
      exact HA.out i hi (by omega)
end Go.Proofs.Yteamnjaepgfcmaa
