/-
  The parser's values.
-/
import Derived.Test.YtjnhcoflmechmaaGreatDoorDGroup
namespace Go.Proofs.YtjnhcoflmechmaaGreatDoor
open Go.RowKit Go.Sort
set_option linter.unusedVariables false
set_option maxRecDepth 100000
theorem way (l : Bytes) : l = [] ∨ (∃ c r, l = c :: r ∧ lowC c = true) ∨ (∃ c r, l = c :: r ∧ lowC c = false ∧ numC c = true) ∨ (∃ r, l = 34 :: r) ∨ (∃ k5 r, l = openC k5 :: r) ∨ (∃ c r, l = c :: r ∧ lowC c = false ∧ numC c = false ∧ c ≠ 34 ∧ c ≠ 91 ∧ c ≠ 123) := by
  cases l with
  | nil => exact .inl rfl
  | cons c r =>
    rcases h1 : lowC c with _ | _
    · rcases h2 : numC c with _ | _
      · by_cases h3 : c = 34
        · subst h3; exact .inr (.inr (.inr (.inl ⟨r, rfl⟩)))
        · by_cases h4 : c = 91
          · subst h4; exact .inr (.inr (.inr (.inr (.inl ⟨false, r, rfl⟩))))
          · by_cases h5 : c = 123
            · subst h5; exact .inr (.inr (.inr (.inr (.inl ⟨true, r, rfl⟩))))
            · exact .inr (.inr (.inr (.inr (.inr ⟨c, r, rfl, h1, h2, h3, h4, h5⟩))))
      · exact .inr (.inr (.inl ⟨c, r, rfl, h1, h2⟩))
    · exact .inr (.inl ⟨c, r, rfl, h1⟩)
/-- What stands behind the token and what the value is: one way each. -/
def WayP (s : ByteArray) (a o : Nat) (tv : Value) (n : Nat) (R : Rd Dt) : Prop :=
  (tv = .iface 175 (.agg #[]) ∧ n = 0 ∧ R = .bad (s.size - a) 2) ∨
  (∃ t : ByteArray, tv = .iface 126 (.string t) ∧ n = t.size ∧ 1 ≤ n ∧ a + n ≤ s.size ∧ R = match constD t.data.toList with | some d => .ok d (restL s (a + n)) | none => .bad (s.size - a) 2) ∨
  (∃ t : ByteArray, tv = .iface 128 (.string t) ∧ n = t.size ∧ 1 ≤ n ∧ a + n ≤ s.size ∧ R = if (C.whN t.data.toList).2 then .ok (.mk 2 (C.whN t.data.toList).1 noB [] []) (restL s (a + n)) else .bad (s.size - a) 2) ∨
  (tv = .iface 130 (.int .u8 34) ∧ n = 1 ∧ a + 1 ≤ s.size ∧ R = textP (restL s (a + 1))) ∨
  (∃ k5, tv = .iface 130 (.int .u8 (if k5 then 123 else 91)) ∧ n = 1 ∧ a + 1 ≤ s.size ∧ R = grpP k5 o (restL s (a + 1))) ∨
  (∃ c : Int, tv = .iface 130 (.int .u8 c) ∧ n = 1 ∧ a + 1 ≤ s.size ∧ c ≠ 34 ∧ c ≠ 91 ∧ c ≠ 123 ∧ R = .bad (s.size - a) 2)
theorem u8_ne' {c d : UInt8} (h : c ≠ d) : (c.toNat : Int) ≠ (d.toNat : Int) := by have := E.nat_ne h; omega
theorem textP_er {r : Bytes} {n : Nat} {er : Int} (h : textP r = .bad n er) : er = 2 ∧ n ≤ r.length := by
  unfold textP at h
  split at h
  · cases h; exact ⟨rfl, Nat.sub_le _ _⟩
  · split at h
    · cases h
    · rename_i m e hb
      cases h
      have hl : (r.drop (E.spanN r)).length ≤ r.length := by rw [List.length_drop]; omega
      cases hd : r.drop (E.spanN r) with
      | nil => rw [hd] at hb; simp [byteP] at hb; omega
      | cons c q => rw [hd] at hb hl; simp only [byteP] at hb; split at hb
                    · cases hb
                    · cases hb; simp only [List.length_cons] at hl; exact ⟨rfl, hl⟩
theorem way_of (s : ByteArray) (a o : Nat) (ha : a ≤ s.size) : WayP s a o (tokV (restL s a)) (tokN (restL s a)) (valP o (restL s a)) := by
  have hlen := restL_len s a
  have htn := tokN_le (restL s a)
  rcases way (restL s a) with h | ⟨c, r, h, h1⟩ | ⟨c, r, h, h1, h2⟩ | ⟨r, h⟩ | ⟨k5, r, h⟩ | ⟨c, r, h, h1, h2, h3, h4, h5⟩
  · rw [h] at hlen ⊢
    refine .inl ⟨rfl, rfl, ?_⟩
    rw [valP]
    simp only [List.length_nil] at hlen
    rw [← hlen]
  · have hr := drop_takeW lowC s a
    rw [h] at hlen htn hr ⊢
    refine .inr (.inl ⟨strB ((c :: r).takeWhile lowC), by simp [tokV, h1], by simp only [tokN, h1, if_true]; rw [← size_list, strB_data], by simp [tokN, h1], by omega, ?_⟩)
    rw [valP_low o h1, strB_data, hr]
    simp only [tokN, h1, if_true]
    simp only [List.length_cons] at hlen
    rw [hlen]
    rfl
  · have hr := drop_takeW numC s a
    rw [h] at hlen htn hr ⊢
    refine .inr (.inr (.inl ⟨strB ((c :: r).takeWhile numC), by simp [tokV, h1, h2], by simp only [tokN, h1, h2, if_true]; rw [← size_list, strB_data]; simp, by simp [tokN, h1, h2], by omega, ?_⟩))
    rw [valP_num o h1 h2, strB_data, hr]
    simp only [tokN, h1, h2, if_true]
    simp only [List.length_cons] at hlen
    rw [hlen]
    rfl
  · have h1 : restL s (a + 1) = r := by rw [← restL_drop, h]; rfl
    rw [h] at hlen ⊢
    simp only [List.length_cons] at hlen
    exact .inr (.inr (.inr (.inl ⟨by simp [tokV, show lowC 34 = false by decide, show numC 34 = false by decide], by simp [tokN, show lowC 34 = false by decide, show numC 34 = false by decide], by omega, by rw [valP_quote, h1]⟩)))
  · have h1 : restL s (a + 1) = r := by rw [← restL_drop, h]; rfl
    rw [h] at hlen ⊢
    simp only [List.length_cons] at hlen
    refine .inr (.inr (.inr (.inr (.inl ⟨k5, ?_, ?_, by omega, by rw [valP_group, h1]⟩))))
    · cases k5 <;> rfl
    · cases k5 <;> rfl
  · rw [h] at hlen ⊢
    simp only [List.length_cons] at hlen
    refine .inr (.inr (.inr (.inr (.inr ⟨(c.toNat : Int), by simp [tokV, h1, h2], by simp [tokN, h1, h2], by omega, u8_ne' h3, u8_ne' h4, u8_ne' h5, ?_⟩))))
    rw [valP_other o h1 h2 h3 h4 h5, hlen]
/-- The state behind the token. -/
structure VaS (P : Nat) (s : ByteArray) (a o v : Nat) (w W : World) : Prop where
  p : P5 W P s a o v 0
  z : B5 W w.heap.size 46 (.int .i64 0) (.int .i64 0) (.string ⟨#[]⟩) (.slice none 0 0) (.slice none 0 0)
  x : B5 W (w.heap.size + 1) 46 (.int .i64 0) (.int .i64 0) (.string ⟨#[]⟩) (.slice none 0 0) (.slice none 0 0)
  k : Kept (· = P) w W
  v : Vars W
theorem VaS.below {P : Nat} {s : ByteArray} {a o v : Nat} {w W W' : World} (h : VaS P s a o v w W) (hb : Below W.heap.size W W') : VaS P s a o v w W' :=
  ⟨h.p.below hb h.p.lt, h.z.below hb h.z.lt, h.x.below hb h.x.lt, h.k.trans (kept_below hb _), h.v.belowC hb⟩
theorem VaS.two {P : Nat} {s : ByteArray} {a o v : Nat} {w W W' : World} (h : VaS P s a o v w W) (hP : P < w.heap.size) {v0 v1 v2 v3 v4 : Value} (hk : Kept (· = w.heap.size + 1) W W') (hx : B5 W' (w.heap.size + 1) 46 v0 v1 v2 v3 v4) : P5 W' P s a o v 0 ∧ B5 W' w.heap.size 46 (.int .i64 0) (.int .i64 0) (.string ⟨#[]⟩) (.slice none 0 0) (.slice none 0 0) ∧ Kept (· = P) w W' :=
  ⟨h.p.kept hk (by omega), h.z.kept hk (by omega), h.k.trans' hk (fun i hi h => by have h' : i = w.heap.size + 1 := h; omega)⟩
/-- The last steps of a value that is one: W holds it in the box. -/
theorem val_small {P : Nat} {s : ByteArray} {a n o v : Nat} {k m : Int} {t : ByteArray} {R : Rd Dt} {w W : World} (hR : R = .ok (.mk k m t [] []) (restL s (a + n))) (hn : 1 ≤ n) (hns : a + n ≤ s.size) (hva : v ≤ a) (hp : P5 W P s (a + n) o (v + 1) 0) (hk : Kept (· = P) w W) (hP : P < w.heap.size) :
    ValC P s o v R w (.returned (.tuple #[.agg #[.int .i64 k, .int .i64 m, .string t, .slice none 0 0, .slice none 0 0], .bool true])) (put5 W w.heap.size (.int .i64 k) (.int .i64 m) (.string t) (.slice none 0 0) (.slice none 0 0)) :=
  val_ok hR rfl (by rw [restL_len]; omega) (by rw [restL_len, show s.size - (s.size - (a + n)) = a + n by omega]; exact hp.kept (kept_put5 _ _ _ _ _ _ _) (by omega)) (by rw [cntD, cntL]) (by rw [restL_len]; omega) (fun _ => rfl) (x := ⟨none, 0, none, 0⟩) (din_zero _ _ _ _ _) (kept_boxP (Nat.le_refl _) hk (kept_put5 _ _ _ _ _ _ _))
theorem val_fail {P : Nat} {s : ByteArray} {a o v : Nat} {R : Rd Dt} {w W : World} (hR : R = .bad (s.size - a) 2) (ha : a ≤ s.size) (hp : P5 W P s a o (v + 1) 2) (hk : Kept (· = P) w W) (hP : P < w.heap.size) :
    ValC P s o v R w (.returned (.tuple #[zeroV, .bool false])) (zero5w W w.heap.size) :=
  val_bad hR (by omega) (by rw [show s.size - (s.size - a) = a by omega]; exact hp.kept (kept_put5 _ _ _ _ _ _ _) (by omega)) (.inl rfl) (kept_boxP (Nat.le_refl _) hk (kept_put5 _ _ _ _ _ _ _))
theorem as175_126 (v : Value) (w : World) : (Instr.typeAssert (.iface 175 v) 124 126 true).run Tryz.prog w = .ok (.tuple #[.string ⟨#[]⟩, .bool false]) w := by kernel_rfl
theorem as175_128 (v : Value) (w : World) : (Instr.typeAssert (.iface 175 v) 124 128 true).run Tryz.prog w = .ok (.tuple #[.string ⟨#[]⟩, .bool false]) w := by kernel_rfl
theorem as175_130 (v : Value) (w : World) : (Instr.typeAssert (.iface 175 v) 124 130 true).run Tryz.prog w = .ok (.tuple #[.int .u8 0, .bool false]) w := by kernel_rfl
theorem as126_126 (v : Value) (w : World) : (Instr.typeAssert (.iface 126 v) 124 126 true).run Tryz.prog w = .ok (.tuple #[v, .bool true]) w := by kernel_rfl
theorem as128_126 (v : Value) (w : World) : (Instr.typeAssert (.iface 128 v) 124 126 true).run Tryz.prog w = .ok (.tuple #[.string ⟨#[]⟩, .bool false]) w := by kernel_rfl
theorem as128_128 (v : Value) (w : World) : (Instr.typeAssert (.iface 128 v) 124 128 true).run Tryz.prog w = .ok (.tuple #[v, .bool true]) w := by kernel_rfl
theorem as130_126 (v : Value) (w : World) : (Instr.typeAssert (.iface 130 v) 124 126 true).run Tryz.prog w = .ok (.tuple #[.string ⟨#[]⟩, .bool false]) w := by kernel_rfl
theorem as130_128 (v : Value) (w : World) : (Instr.typeAssert (.iface 130 v) 124 128 true).run Tryz.prog w = .ok (.tuple #[.string ⟨#[]⟩, .bool false]) w := by kernel_rfl
theorem as130_130 (v : Value) (w : World) : (Instr.typeAssert (.iface 130 v) 124 130 true).run Tryz.prog w = .ok (.tuple #[v, .bool true]) w := by kernel_rfl
set_option maxHeartbeats 8000000 in
theorem value_step (P : Nat) (s : ByteArray) (a o v : Nat) (w : World) (h : P5 w P s a o v 0) (ha : a ≤ s.size) (hs : s.size ≤ 1000000000) (hva : v ≤ a) (hv : Vars w) (hP4 : 4 ≤ P) (ho : o ≤ 16) (ih : o < 16 → ∀ a', a + 1 ≤ a' → a' ≤ s.size → ValOk P s (o + 1) a') :
    Calls Tryz.prog 48 #[.pointer (some ⟨P, 0, none⟩)] w (ValC P s o v (valP o (restL s a)) w) := by
  obtain ⟨w1, hw1⟩ : ∃ w1, w1 = zeroW w := ⟨_, rfl⟩
  have hk1 : Kept (fun _ => False) w w1 := by rw [hw1]; exact kept_alloc _ _ _
  have hz1 : B5 w1 w.heap.size 46 (.int .i64 0) (.int .i64 0) (.string ⟨#[]⟩) (.slice none 0 0) (.slice none 0 0) := by rw [hw1]; exact B5.new _ _ _ _ _ _ _ _ rfl
  have hp1 := h.kept hk1 (fun h => h)
  have hs1 : w1.heap.size = w.heap.size + 1 := by rw [hw1]; simp
  have hPw : P < w.heap.size := h.lt
  have hkw1 : Kept (· = P) w w1 := hk1.mono (fun _ _ h => absurd h (fun h => h))
  obtain ⟨w2, hw2⟩ : ∃ w2, w2 = w1.setCell ⟨P, 3, none⟩ (.int .i64 ((v : Int) + 1)) := ⟨_, rfl⟩
  have hk2 : Kept (· = P) w1 w2 := by rw [hw2]; exact kept_setCell w1 ⟨P, 3, none⟩ _
  have hp2 : P5 w2 P s a o (v + 1) 0 := by unfold P5; rw [show ((v + 1 : Nat) : Int) = (v : Int) + 1 by omega, hw2]; exact hp1.set3 _
  have hs2 : w2.heap.size = w1.heap.size := by rw [hw2]; simp
  obtain ⟨w3, hw3⟩ : ∃ w3, w3 = zeroW w2 := ⟨_, rfl⟩
  have hk3 : Kept (fun _ => False) w2 w3 := by rw [hw3]; exact kept_alloc _ _ _
  have hp3 := hp2.kept hk3 (fun h => h)
  have hz3 := (hz1.kept hk2 (show ¬ w.heap.size = P by omega)).kept hk3 (fun h => h)
  have hx3 : B5 w3 (w.heap.size + 1) 46 (.int .i64 0) (.int .i64 0) (.string ⟨#[]⟩) (.slice none 0 0) (.slice none 0 0) := by rw [hw3]; exact B5.new _ _ _ _ _ _ _ _ (by omega)
  have hkw3 : Kept (· = P) w w3 := (hkw1.trans hk2).trans (hk3.mono (fun _ _ h => absurd h (fun h => h)))
  have CN := Lib.hid (next_any P s a o (v + 1) 0 w3 hp3 ha hs)
  have HZ3 := Lib.hid hz3; have HX3 := Lib.hid hx3; have HK3 := Lib.hid hkw3; have HV3 := Lib.hid (hv.keptP hP4 hkw3)
  have HW1 := Lib.hid hw1; have HW2 := Lib.hid hw2.symm; have HW3 := Lib.hid hw3
  obtain ⟨a0, a1, a2, a3, a4⟩ := hp1.cells
  have f3 := hp1.frozen 3
  obtain ⟨b0, b1, b2, b3, b4⟩ := hp2.cells
  have hwr : IntKind.i64.wrap ((v : Int) + 1) = (v : Int) + 1 := by rw [IntKind.wrap_i64]; omega
  have HWAY := Lib.hid (way_of s a o ha)
  obtain ⟨tv, htv⟩ : ∃ tv, tv = tokV (restL s a) := ⟨_, rfl⟩
  obtain ⟨n, hn⟩ : ∃ n, n = tokN (restL s a) := ⟨_, rfl⟩
  unfold NextP at CN
  rw [← htv, ← hn] at CN HWAY
  generalize valP o (restL s a) = R at HWAY ⊢
  have hB : w2.heap.size = w.heap.size + 1 := by omega
  have HIH := Lib.hid ih
  clear htv hn hw1 hk1 hz1 hp1 hw2 hk2 hp2 hw3 hk3 hp3 hz3 hx3 hkw3 hkw1 hs1 hs2 h hv ih
  go_enter Tryz.func48, Tryz.ntmps48
  go_upto_region 1 with (fail)
  rw [zeroW_out HW1]
  go_upto_region 2 with (fail)
  rw [HW2.out]
  go_upto_region 3 with (fail)
  rw [zeroW_out HW3]
  clear a0 a1 a2 a3 a4 f3 b0 b1 b2 b3 b4 HW1 HW2 HW3
  go_wp2_with fail
  refine CN.out.mono ?_
  rintro e w4 ⟨rfl, hp4, hk4⟩
  have HS := Lib.hid (show VaS P s (a + n) o (v + 1) w w4 from ⟨hp4, HZ3.out.kept hk4 (show ¬ w.heap.size = P by omega), HX3.out.kept hk4 (show ¬ w.heap.size + 1 = P by omega), HK3.out.trans hk4, HV3.out.keptP hP4 hk4⟩)
  clear hp4 hk4 CN HZ3 HX3 HK3 HV3
  have ta175_126 := as175_126
  have ta175_128 := as175_128
  have ta175_130 := as175_130
  have ta126_126 := as126_126
  have ta128_126 := as128_126
  have ta128_128 := as128_128
  have ta130_126 := as130_126
  have ta130_128 := as130_128
  have ta130_130 := as130_130
  rcases HWAY.out with ⟨rfl, rfl, hR⟩ | ⟨t, rfl, rfl, h1, h2, hR⟩ | ⟨t, rfl, rfl, h1, h2, hR⟩ | ⟨rfl, rfl, h2, hR⟩ | ⟨k5, rfl, rfl, h2, hR⟩ | ⟨c, rfl, rfl, h2, h3, h4, h5, hR⟩
  · have HR := Lib.hid hR
    have hpF := HS.out.p
    clear hR HWAY
    have CF := Lib.hid (fail_any P s (a + 0) o (v + 1) a 0 2 w4 hpF)
    clear hpF
    go_wp2_with fail
    refine CF.out.mono ?_
    rintro e w8 ⟨rfl, hp8, hk8⟩
    have hz8 := HS.out.z.kept hk8 (show ¬ w.heap.size = P by omega)
    have HF := Lib.hid (val_fail (v := v) (o := o) HR.out ha hp8 (HS.out.k.trans hk8) hPw)
    have HZ8 := Lib.hid (hz8.put (.int .i64 0) (.int .i64 0) (.string ⟨#[]⟩) (.slice none 0 0) (.slice none 0 0))
    obtain ⟨z0, z1, z2, z3, z4⟩ := hz8.cells
    have y0 := hz8.frozen 0; have y1 := hz8.frozen 1; have y2 := hz8.frozen 2; have y3 := hz8.frozen 3; have y4 := hz8.frozen 4
    clear hz8 hp8 hk8 CF
    go_wp2_with fail
    refine bodyPost_ret (res5 rfl _ _ w.heap.size _ _ _ _ _ _ rfl rfl HZ8.out) rfl ?_
    exact HF.out
  · have CC := Lib.hid (constant_any t w4)
    have HR0 := Lib.hid hR
    clear hR HWAY
    go_wp2_with fail
    refine CC.out.mono ?_
    rintro e w5 ⟨hc, hb5⟩
    clear CC
    have hS5 := HS.out.below hb5
    have HS5 := Lib.hid hS5
    obtain ⟨x0, x1, x2, x3, x4⟩ := hS5.x.cells
    have g0 := hS5.x.frozen 0; have g1 := hS5.x.frozen 1; have g2 := hS5.x.frozen 2; have g3 := hS5.x.frozen 3; have g4 := hS5.x.frozen 4
    rcases hc with ⟨k, m, hc, rfl⟩ | ⟨hc, rfl⟩
    · obtain ⟨w6, hw6⟩ : ∃ w6, w6 = put5 w5 (w.heap.size + 1) (.int .i64 k) (.int .i64 m) (.string ⟨#[]⟩) (.slice none 0 0) (.slice none 0 0) := ⟨_, rfl⟩
      have hx6 := hS5.x.put (.int .i64 k) (.int .i64 m) (.string ⟨#[]⟩) (.slice none 0 0) (.slice none 0 0)
      rw [← hw6] at hx6
      obtain ⟨q1, q2, q3⟩ := hS5.two hPw (show Kept (· = w.heap.size + 1) w5 w6 by rw [hw6]; exact kept_put5 _ _ _ _ _ _ _) hx6
      have HF := Lib.hid (val_small (w := w) (W := w6) (R := R) (o := o) (v := v) (k := k) (m := m) (t := ⟨#[]⟩) (by rw [HR0.out, hc]; rfl) h1 h2 hva q1 q3 hPw)
      have HW6 := Lib.hid hw6.symm
      have HZ := Lib.hid (q2.put (.int .i64 k) (.int .i64 m) (.string ⟨#[]⟩) (.slice none 0 0) (.slice none 0 0))
      clear hw6 hS5 hb5 hc HR0 HS HS5
      go_upto_region 19 with (fail)
      rw [show ((((w5.setCell ⟨w.heap.size + 1, 0, none⟩ (.int .i64 k)).setCell ⟨w.heap.size + 1, 1, none⟩ (.int .i64 m)).setCell ⟨w.heap.size + 1, 2, none⟩ (.string ⟨#[]⟩)).setCell ⟨w.heap.size + 1, 3, none⟩ (.slice none 0 0)).setCell ⟨w.heap.size + 1, 4, none⟩ (.slice none 0 0) = w6 from HW6.out]
      clear x0 x1 x2 x3 x4 g0 g1 g2 g3 g4
      obtain ⟨x0, x1, x2, x3, x4⟩ := hx6.cells
      obtain ⟨z0, z1, z2, z3, z4⟩ := q2.cells
      have y0 := q2.frozen 0; have y1 := q2.frozen 1; have y2 := q2.frozen 2; have y3 := q2.frozen 3; have y4 := q2.frozen 4
      clear q1 q2 q3 hx6
      go_wp2_with fail
      refine bodyPost_ret (res5 rfl _ _ w.heap.size _ _ _ _ _ _ rfl rfl HZ.out) rfl ?_
      exact HF.out
    · obtain ⟨w6, hw6⟩ : ∃ w6, w6 = put5 w5 (w.heap.size + 1) (.int .i64 0) (.int .i64 0) (.string ⟨#[]⟩) (.slice none 0 0) (.slice none 0 0) := ⟨_, rfl⟩
      have hx6 := hS5.x.put (.int .i64 0) (.int .i64 0) (.string ⟨#[]⟩) (.slice none 0 0) (.slice none 0 0)
      rw [← hw6] at hx6
      obtain ⟨hpF, q2, q3⟩ := hS5.two hPw (show Kept (· = w.heap.size + 1) w5 w6 by rw [hw6]; exact kept_put5 _ _ _ _ _ _ _) hx6
      have HR := Lib.hid (show R = .bad (s.size - a) 2 by rw [HR0.out, hc])
      have HW6 := Lib.hid hw6.symm
      have HQ2 := Lib.hid q2; have HQ3 := Lib.hid q3
      clear hw6 hS5 hb5 hc HR0 HS HS5 q2 q3 hx6
      go_upto_region 19 with (fail)
      rw [show ((((w5.setCell ⟨w.heap.size + 1, 0, none⟩ (.int .i64 0)).setCell ⟨w.heap.size + 1, 1, none⟩ (.int .i64 0)).setCell ⟨w.heap.size + 1, 2, none⟩ (.string ⟨#[]⟩)).setCell ⟨w.heap.size + 1, 3, none⟩ (.slice none 0 0)).setCell ⟨w.heap.size + 1, 4, none⟩ (.slice none 0 0) = w6 from HW6.out]
      clear x0 x1 x2 x3 x4 g0 g1 g2 g3 g4
      have CF := Lib.hid (fail_any P s (a + t.size) o (v + 1) a 0 2 w6 hpF)
      clear hpF
      go_wp2_with fail
      refine CF.out.mono ?_
      rintro e w8 ⟨rfl, hp8, hk8⟩
      have hz8 := HQ2.out.kept hk8 (show ¬ w.heap.size = P by omega)
      have HF := Lib.hid (val_fail (v := v) (o := o) HR.out ha hp8 (HQ3.out.trans hk8) hPw)
      have HZ8 := Lib.hid (hz8.put (.int .i64 0) (.int .i64 0) (.string ⟨#[]⟩) (.slice none 0 0) (.slice none 0 0))
      obtain ⟨z0, z1, z2, z3, z4⟩ := hz8.cells
      have y0 := hz8.frozen 0; have y1 := hz8.frozen 1; have y2 := hz8.frozen 2; have y3 := hz8.frozen 3; have y4 := hz8.frozen 4
      clear hz8 hp8 hk8 CF
      go_wp2_with fail
      refine bodyPost_ret (res5 rfl _ _ w.heap.size _ _ _ _ _ _ rfl rfl HZ8.out) rfl ?_
      exact HF.out
  · obtain ⟨w5, hw5⟩ : ∃ w5, w5 = w4.setCell ⟨w.heap.size + 1, 0, none⟩ (.int .i64 2) := ⟨_, rfl⟩
    have hk5 : Kept (· = w.heap.size + 1) w4 w5 := by rw [hw5]; exact kept_setCell w4 ⟨w.heap.size + 1, 0, none⟩ _
    have hx5 : B5 w5 (w.heap.size + 1) 46 (.int .i64 2) (.int .i64 0) (.string ⟨#[]⟩) (.slice none 0 0) (.slice none 0 0) := by rw [hw5]; exact HS.out.x.set0 _
    obtain ⟨q1, q2, q3⟩ := HS.out.two hPw hk5 hx5
    have hv5 : Vars w5 := HS.out.v.below (Nat.le_refl 4) (hk5.below HS.out.v.2.2.2 (fun k hk => by subst hk; omega))
    obtain ⟨n2, hn2⟩ : ∃ n2, n2 = (C.whN t.data.toList).1 := ⟨_, rfl⟩
    obtain ⟨r, hr⟩ : ∃ r, r = (C.whN t.data.toList).2 := ⟨_, rfl⟩
    have CW0 := C.whole_any t w5 (by omega) hv5
    unfold C.WholePost at CW0
    rw [← hn2, ← hr] at CW0 hR
    have CW := Lib.hid CW0
    have HR0 := Lib.hid hR
    obtain ⟨x0, x1, x2, x3, x4⟩ := HS.out.x.cells
    have g0 := HS.out.x.frozen 0
    have HW5 := Lib.hid hw5.symm; have HX5 := Lib.hid hx5; have HQ1 := Lib.hid q1; have HQ2 := Lib.hid q2; have HQ3 := Lib.hid q3
    clear hR HWAY hn2 hr CW0 hw5 hk5 hx5 q1 q2 q3 hv5 HS
    go_upto_region 10 with (fail)
    rw [HW5.out]
    clear x0 x1 x2 x3 x4 g0
    go_wp2_with fail
    refine CW.out.mono ?_
    rintro e w6 ⟨rfl, hb6⟩
    clear CW
    have hx6 := HX5.out.below hb6 HX5.out.lt
    have hp6 := HQ1.out.below hb6 HQ1.out.lt
    have hz6 := HQ2.out.below hb6 HQ2.out.lt
    have hkk6 := HQ3.out.trans (kept_below hb6 _)
    obtain ⟨x0, x1, x2, x3, x4⟩ := hx6.cells
    have g1 := hx6.frozen 1
    obtain ⟨w7, hw7⟩ : ∃ w7, w7 = w6.setCell ⟨w.heap.size + 1, 1, none⟩ (.int .i64 n2) := ⟨_, rfl⟩
    have hk7 : Kept (· = w.heap.size + 1) w6 w7 := by rw [hw7]; exact kept_setCell w6 ⟨w.heap.size + 1, 1, none⟩ _
    have hx7 : B5 w7 (w.heap.size + 1) 46 (.int .i64 2) (.int .i64 n2) (.string ⟨#[]⟩) (.slice none 0 0) (.slice none 0 0) := by rw [hw7]; exact hx6.set1 _
    have hp7 := hp6.kept hk7 (show ¬ P = w.heap.size + 1 by omega)
    have hz7 := hz6.kept hk7 (show ¬ w.heap.size = w.heap.size + 1 by omega)
    have hkk7 : Kept (· = P) w w7 := hkk6.trans' hk7 (fun i hi h => by have h' : i = w.heap.size + 1 := h; omega)
    have HW7 := Lib.hid hw7.symm; have HX7 := Lib.hid hx7; have HP7 := Lib.hid hp7; have HZ7 := Lib.hid hz7; have HK7 := Lib.hid hkk7
    clear hb6 hx6 hp6 hz6 hkk6 hw7 hk7 hx7 hp7 hz7 hkk7 HX5 HQ1 HQ2 HQ3 HW5
    go_upto_region 19 with (fail)
    rw [HW7.out]
    clear x0 x1 x2 x3 x4 g1 HW7
    cases r with
    | true =>
      obtain ⟨x0, x1, x2, x3, x4⟩ := HX7.out.cells
      obtain ⟨z0, z1, z2, z3, z4⟩ := HZ7.out.cells
      have y0 := HZ7.out.frozen 0; have y1 := HZ7.out.frozen 1; have y2 := HZ7.out.frozen 2; have y3 := HZ7.out.frozen 3; have y4 := HZ7.out.frozen 4
      have HF := Lib.hid (val_small (w := w) (W := w7) (R := R) (o := o) (v := v) (k := 2) (m := n2) (t := ⟨#[]⟩) (by rw [HR0.out]; rfl) h1 h2 hva HP7.out HK7.out hPw)
      have HZ := Lib.hid (HZ7.out.put (.int .i64 2) (.int .i64 n2) (.string ⟨#[]⟩) (.slice none 0 0) (.slice none 0 0))
      clear HX7 HP7 HZ7 HK7 HR0
      go_wp2_with fail
      refine bodyPost_ret (res5 rfl _ _ w.heap.size _ _ _ _ _ _ rfl rfl HZ.out) rfl ?_
      exact HF.out
    | false =>
      have HR := Lib.hid (show R = .bad (s.size - a) 2 by rw [HR0.out]; rfl)
      have hpF := HP7.out
      clear HR0 HX7
      have CF := Lib.hid (fail_any P s (a + t.size) o (v + 1) a 0 2 w7 hpF)
      clear hpF
      go_wp2_with fail
      refine CF.out.mono ?_
      rintro e w8 ⟨rfl, hp8, hk8⟩
      have hz8 := HZ7.out.kept hk8 (show ¬ w.heap.size = P by omega)
      have HF := Lib.hid (val_fail (v := v) (o := o) HR.out ha hp8 (HK7.out.trans hk8) hPw)
      have HZ8 := Lib.hid (hz8.put (.int .i64 0) (.int .i64 0) (.string ⟨#[]⟩) (.slice none 0 0) (.slice none 0 0))
      obtain ⟨z0, z1, z2, z3, z4⟩ := hz8.cells
      have y0 := hz8.frozen 0; have y1 := hz8.frozen 1; have y2 := hz8.frozen 2; have y3 := hz8.frozen 3; have y4 := hz8.frozen 4
      clear hz8 hp8 hk8 CF
      go_wp2_with fail
      refine bodyPost_ret (res5 rfl _ _ w.heap.size _ _ _ _ _ _ rfl rfl HZ8.out) rfl ?_
      exact HF.out
  · have CT := Lib.hid (text_any P s (a + 1) o (v + 1) w4 HS.out.p h2 hs HS.out.v hP4)
    rw [← hR] at CT
    have HR := Lib.hid hR
    clear hR HWAY
    cases R with
    | bad n er =>
      obtain ⟨rfl, hnl⟩ := textP_er HR.out.symm
      rw [restL_len] at hnl
      go_wp2_with fail
      refine CT.out.mono ?_
      rintro e w5 ⟨⟨rfl, hn5, hp5⟩, hk5⟩
      have hz5 := HS.out.z.kept hk5 (show ¬ w.heap.size = P by omega)
      have HF := Lib.hid (val_bad (R := .bad n 2) (s := s) (o := o) (v := v) (o' := o) (v' := v + 1) (w := w) (w' := zero5w w5 w.heap.size) rfl hn5 (hp5.kept (kept_put5 _ _ _ _ _ _ _) (show ¬ P = w.heap.size by omega)) (.inl rfl) (kept_boxP (Nat.le_refl _) (HS.out.k.trans hk5) (kept_put5 _ _ _ _ _ _ _)))
      have HZ := Lib.hid (hz5.put (.int .i64 0) (.int .i64 0) (.string ⟨#[]⟩) (.slice none 0 0) (.slice none 0 0))
      obtain ⟨z0, z1, z2, z3, z4⟩ := hz5.cells
      have y0 := hz5.frozen 0; have y1 := hz5.frozen 1; have y2 := hz5.frozen 2; have y3 := hz5.frozen 3; have y4 := hz5.frozen 4
      clear hz5 hk5 hp5 CT
      go_wp2_with fail
      refine bodyPost_ret (res5 rfl _ _ w.heap.size _ _ _ _ _ _ rfl rfl HZ.out) rfl ?_
      exact HF.out
    | ok d l =>
      obtain ⟨hsf, hll, tt, rfl, -⟩ := textP_ok HR.out.symm
      rw [restL_len] at hll
      clear hsf
      go_wp2_with fail
      refine CT.out.mono ?_
      rintro e w5 ⟨⟨rfl, hn5, hp5⟩, hk5⟩
      have hz5 := HS.out.z.kept hk5 (show ¬ w.heap.size = P by omega)
      have HF := Lib.hid (val_ok (R := .ok (.mk 3 0 (strB tt) [] []) l) (d' := .mk 3 0 (strB tt) [] []) (x := ⟨none, 0, none, 0⟩) (s := s) (o := o) (v := v) (v' := v + 1) (w := w) (w' := put5 w5 w.heap.size (.int .i64 3) (.int .i64 0) (.string (strB tt)) (.slice none 0 0) (.slice none 0 0)) rfl rfl hn5 (hp5.kept (kept_put5 _ _ _ _ _ _ _) (show ¬ P = w.heap.size by omega)) (by rw [cntD, cntL]) (by omega) (fun _ => rfl) (din_zero _ _ _ _ _) (kept_boxP (Nat.le_refl _) (HS.out.k.trans hk5) (kept_put5 _ _ _ _ _ _ _)))
      have HZ := Lib.hid (hz5.put (.int .i64 3) (.int .i64 0) (.string (strB tt)) (.slice none 0 0) (.slice none 0 0))
      obtain ⟨z0, z1, z2, z3, z4⟩ := hz5.cells
      have y0 := hz5.frozen 0; have y1 := hz5.frozen 1; have y2 := hz5.frozen 2; have y3 := hz5.frozen 3; have y4 := hz5.frozen 4
      clear hz5 hk5 hp5 CT HR
      go_wp2_with fail
      refine bodyPost_ret (res5 rfl _ _ w.heap.size _ _ _ _ _ _ rfl rfl HZ.out) rfl ?_
      exact HF.out
  · have CG := Lib.hid (group_any k5 P s a o v w4 HS.out.p (by omega) hs hva HS.out.v hP4 ho HIH.out)
    rw [← hR] at CG
    clear hR HWAY
    have hw4s : w.heap.size + 2 ≤ w4.heap.size := HS.out.x.lt
    cases k5
    all_goals
      go_wp2_with fail
      refine CG.out.mono ?_
      rintro e w5 hpost
      rcases R with ⟨d, l⟩ | ⟨n, er⟩
      · obtain ⟨⟨d', x, v', rfl, hl, hp5, hv', hle, hdd, hdi⟩, hk5⟩ := hpost
        have hz5 := HS.out.z.kept hk5 (show ¬ w.heap.size = P by omega)
        have hdW := (hdi.kept (kept_put5 w5 w.heap.size (.int .i64 d'.kind) (.int .i64 d'.num) (.string d'.text) (.slice x.A d'.names.length x.ca) (.slice x.K d'.list.length x.ck)) (fun b hb _ e => by have e' : b = w.heap.size := e; have hb' : w4.heap.size ≤ b := hb; omega)).mono (S' := fun b => w.heap.size ≤ b) (fun b hb _ => by have hb' : w4.heap.size ≤ b := hb; omega)
        have HF := Lib.hid (val_ok (R := .ok d l) (d' := d') (x := x) (s := s) (o := o) (v := v) (v' := v') (w := w) rfl rfl hl (hp5.kept (kept_put5 w5 w.heap.size (.int .i64 d'.kind) (.int .i64 d'.num) (.string d'.text) (.slice x.A d'.names.length x.ca) (.slice x.K d'.list.length x.ck)) (show ¬ P = w.heap.size by omega)) hv' hle hdd hdW (kept_boxP (Nat.le_refl _) (HS.out.k.trans hk5) (kept_put5 _ _ _ _ _ _ _)))
        have HZ := Lib.hid (hz5.put (.int .i64 d'.kind) (.int .i64 d'.num) (.string d'.text) (.slice x.A d'.names.length x.ca) (.slice x.K d'.list.length x.ck))
        obtain ⟨z0, z1, z2, z3, z4⟩ := hz5.cells
        have y0 := hz5.frozen 0; have y1 := hz5.frozen 1; have y2 := hz5.frozen 2; have y3 := hz5.frozen 3; have y4 := hz5.frozen 4
        clear hz5 hk5 hp5 CG hdW hdi hdd hle hv' hl
        go_wp2_with fail
        refine bodyPost_ret (res5 rfl _ _ w.heap.size _ _ _ _ _ _ rfl rfl HZ.out) rfl ?_
        exact HF.out
      · obtain ⟨⟨o', v', rfl, hn, hp5, her⟩, hk5⟩ := hpost
        have hz5 := HS.out.z.kept hk5 (show ¬ w.heap.size = P by omega)
        have HF := Lib.hid (val_bad (R := .bad n er) (s := s) (o := o) (v := v) (w := w) (w' := zero5w w5 w.heap.size) rfl hn (hp5.kept (kept_put5 _ _ _ _ _ _ _) (show ¬ P = w.heap.size by omega)) her (kept_boxP (Nat.le_refl _) (HS.out.k.trans hk5) (kept_put5 _ _ _ _ _ _ _)))
        have HZ := Lib.hid (hz5.put (.int .i64 0) (.int .i64 0) (.string ⟨#[]⟩) (.slice none 0 0) (.slice none 0 0))
        obtain ⟨z0, z1, z2, z3, z4⟩ := hz5.cells
        have y0 := hz5.frozen 0; have y1 := hz5.frozen 1; have y2 := hz5.frozen 2; have y3 := hz5.frozen 3; have y4 := hz5.frozen 4
        clear hz5 hk5 hp5 CG her hn
        go_wp2_with fail
        refine bodyPost_ret (res5 rfl _ _ w.heap.size _ _ _ _ _ _ rfl rfl HZ.out) rfl ?_
        exact HF.out
  · have HR := Lib.hid hR
    have hpF := HS.out.p
    have c34 : (c == 34) = false := by simpa using h3
    have c91 : (c == 91) = false := by simpa using h4
    have c123 : (c == 123) = false := by simpa using h5
    clear hR HWAY h3 h4 h5
    have CF := Lib.hid (fail_any P s (a + 1) o (v + 1) a 0 2 w4 hpF)
    clear hpF
    go_wp2_with fail
    refine CF.out.mono ?_
    rintro e w8 ⟨rfl, hp8, hk8⟩
    have hz8 := HS.out.z.kept hk8 (show ¬ w.heap.size = P by omega)
    have HF := Lib.hid (val_fail (v := v) (o := o) HR.out ha hp8 (HS.out.k.trans hk8) hPw)
    have HZ8 := Lib.hid (hz8.put (.int .i64 0) (.int .i64 0) (.string ⟨#[]⟩) (.slice none 0 0) (.slice none 0 0))
    obtain ⟨z0, z1, z2, z3, z4⟩ := hz8.cells
    have y0 := hz8.frozen 0; have y1 := hz8.frozen 1; have y2 := hz8.frozen 2; have y3 := hz8.frozen 3; have y4 := hz8.frozen 4
    clear hz8 hp8 hk8 CF
    go_wp2_with fail
    refine bodyPost_ret (res5 rfl _ _ w.heap.size _ _ _ _ _ _ rfl rfl HZ8.out) rfl ?_
    exact HF.out
end Go.Proofs.YtjnhcoflmechmaaGreatDoor
