/-
  strings.IndexRune of a rune beyond ASCII in the text of the three signs: it finds none. | strings.IndexAny for the three signs, escape.Span and tendrilref03.Span: what they answer.
-/
import Derived.Test.YtjnhcoflmechmaaGreatDoorEEscape
import Derived.Laws.RangeAny
import Derived.Laws.RangeString
import Derived.Laws.Runes
import Derived.LoopN
import Derived.Test.YtjnhcoflmechmaaGreatDoorESpanM
import Derived.Lib.OthersKept
import Derived.Deep.LoopGhost
namespace Go.Proofs.YtjnhcoflmechmaaGreatDoor.E
open Go.RowKit
set_option linter.unusedVariables false

def MinusPost (w : World) (e : Ending) (w' : World) : Prop := e = .returned (.int .i64 (-1)) ∧ Below w.heap.size w w'

set_option maxRecDepth 100000 in
set_option maxHeartbeats 1000000 in
theorem rune_bad (r : Int) (w : World) (h : 128 ≤ r) (hv : Lib.validRune r = false) (hne : r ≠ 65533) : Calls Tryz.prog 168 #[.string { data := #[60, 62, 34] }, .int .i32 r] w (MinusPost w) := by
  have c41 := Tryz.utf8_ValidRune r w
  rw [hv] at c41
  have C41 := Lib.hid c41; clear c41
  have h1 : decide (r < 128) = false := by simp; omega
  have h0 : decide (0 ≤ r) = true := by simp; omega
  have h2 : (r == 65533) = false := by simpa using hne
  clear hne hv
  go_enter Tryz.func168, Tryz.ntmps168
  go_wp2_with (go_at_call 186; refine C41.out.mono ?_; rintro e w' ⟨rfl, hw⟩; subst hw)
  go_ret
  exact ⟨rfl, Below.refl _ _⟩

def k3 : ByteArray := { data := #[60, 62, 34] }
set_option maxRecDepth 100000 in
set_option maxHeartbeats 1000000 in
theorem rune_err (w : World) : Calls Tryz.prog 168 #[.string { data := #[60, 62, 34] }, .int .i32 65533] w (MinusPost w) := by
  have n0 := fun ty => run_next_ascii (P := Tryz.prog) w { data := #[60, 62, 34] } 0 ty (by decide) (by decide)
  have n1 := fun ty => run_next_ascii (P := Tryz.prog) w { data := #[60, 62, 34] } 1 ty (by decide) (by decide)
  have n2 := fun ty => run_next_ascii (P := Tryz.prog) w { data := #[60, 62, 34] } 2 ty (by decide) (by decide)
  have n3 := fun ty => run_next_end (P := Tryz.prog) w { data := #[60, 62, 34] } 3 ty (by decide)
  go_enter Tryz.func168, Tryz.ntmps168
  go_wp2
  refine wp_loop_rounds 4 ?_
  rw [rounds_succ]
  go_wp2
  rw [rounds_succ]
  go_wp2
  rw [rounds_succ]
  go_wp2
  rw [rounds_succ]
  go_wp2
  go_ret
  exact ⟨rfl, (Below.refl _ _).alloc (Nat.le_refl _) _⟩

set_option maxRecDepth 100000 in
set_option maxHeartbeats 1000000 in
theorem rune_ok (r : Int) (w : World) (h : 128 ≤ r) (hv : Lib.validRune r = true) (hne : r ≠ 65533) : Calls Tryz.prog 168 #[.string { data := #[60, 62, 34] }, .int .i32 r] w (MinusPost w) := by
  have c41 := Tryz.utf8_ValidRune r w
  have hv2 : Utf8.valid r = true := by
    unfold Lib.validRune at hv
    simp [Utf8.valid] at hv ⊢
    omega
  rw [hv] at c41
  have d41 : Calls Tryz.prog 186 #[.int .i32 r] w fun e w' => e = .returned (.bool true) ∧ w = w' := c41.mono (fun e w' h => ⟨h.1, h.2.symm⟩)
  have C41 := Lib.hid d41; clear c41 d41
  have h1 : decide (r < 128) = false := by simp; omega
  have h0 : decide (0 ≤ r) = true := by simp; omega
  have h2 : (r == 65533) = false := by simpa using hne
  obtain ⟨e1, e2, e3⟩ := encode_facts r hv2 h
  obtain ⟨t, ht⟩ : ∃ t, Utf8.encode r = t := ⟨_, rfl⟩
  rw [ht] at e1 e2
  have e4 : ∀ h : t.size - 1 < t.size, 128 ≤ (t[t.size - 1]'h).toNat := by subst ht; exact e3
  clear hne hv e3
  rcases (show t.size = 2 ∨ t.size = 3 ∨ t.size = 4 by omega) with hz | hz | hz
  · obtain ⟨b, hb⟩ : ∃ b, t[1]'(by omega) = b := ⟨_, rfl⟩
    have hb128 : 128 ≤ b.toNat := by
      have := e4 (by omega)
      have e : t[t.size - 1]'(by omega) = t[1]'(by omega) := by simp [hz]
      rw [e, hb] at this
      exact this
    have hbl := b.toNat_lt
    have q1 : ((62 : Int) != (b.toNat : Int)) = true := by simp; omega
    have q2 : ((62 : Int) == (b.toNat : Int)) = false := by simp; omega
    have k1 : ({ data := #[60, 62, 34] } : ByteArray)[1]'(by decide) = 62 := by decide
    clear e1 e2 e4
    go_enter Tryz.func168, Tryz.ntmps168
    go_wp2_with (go_at_call 186; refine C41.out.mono ?_; rintro e w' ⟨rfl, rfl⟩)
    go_step3
    go_wp2
    refine wp_loop_rounds 1 ?_
    rw [rounds_succ]
    go_wp2
    go_step3
    go_wp2
    go_quiet (fail)
    obtain ⟨w1, hw1⟩ : ∃ w1, w1 = w.drewN nq := ⟨_, rfl⟩
    rw [← hw1]
    have hbw : Below w.heap.size w w1 := by rw [hw1]; exact ⟨rfl, rfl, rfl, Nat.le_refl _, fun _ _ => rfl⟩
    clear hw1
    have C25 : ∀ n, Calls Tryz.prog 172 #[.string (({ data := #[60, 62, 34] } : ByteArray).extract 2 3), .int .u8 (b.toNat : Int)] (w1.drewN n) fun e w' => e = .returned (.int .i64 (-1)) ∧ w' = w1.drewN n := fun n =>
      (Tryz.strings_IndexByte _ _ _).mono (fun e w' h => ⟨h.1.trans (by
        have e1 : (({ data := #[60, 62, 34] } : ByteArray).extract 2 3).data.toList = [34] := by decide
        have e2 : ((b.toNat : Int)).toNat.toUInt8 = b := by simp
        have e3 : ((34 : UInt8) == b) = false := by
          simp
          intro h
          rw [← h] at hb128
          exact absurd hb128 (by decide)
        rw [e1, e2]
        simp [Lib.indexByte, e3]), h.2⟩)
    have HC25 := Lib.hid C25; clear C25
    go_wp2
    go_quiet ((go_at_call 172; exact Calls.quiet_of_same (HC25.out _)))
    go_wp2
    try rw [Exit.noGoto_ret]
    go_ret
    exact ⟨rfl, hbw.trans ⟨rfl, rfl, rfl, Nat.le_refl _, fun _ _ => rfl⟩⟩
  · obtain ⟨b, hb⟩ : ∃ b, t[2]'(by omega) = b := ⟨_, rfl⟩
    have hb128 : 128 ≤ b.toNat := by
      have := e4 (by omega)
      have e : t[t.size - 1]'(by omega) = t[2]'(by omega) := by simp [hz]
      rw [e, hb] at this
      exact this
    have hbl := b.toNat_lt
    have q1 : ((34 : Int) != (b.toNat : Int)) = true := by simp; omega
    have q2 : ((34 : Int) == (b.toNat : Int)) = false := by simp; omega
    have k1 : ({ data := #[60, 62, 34] } : ByteArray)[2]'(by decide) = 34 := by decide
    clear e1 e2 e4
    go_enter Tryz.func168, Tryz.ntmps168
    go_wp2_with (go_at_call 186; refine C41.out.mono ?_; rintro e w' ⟨rfl, rfl⟩)
    go_step3
    go_wp2
    refine wp_loop_rounds 1 ?_
    rw [rounds_succ]
    go_wp2
    go_step3
    go_wp2
    go_quiet (fail)
    obtain ⟨w1, hw1⟩ : ∃ w1, w1 = w.drewN nq := ⟨_, rfl⟩
    rw [← hw1]
    have hbw : Below w.heap.size w w1 := by rw [hw1]; exact ⟨rfl, rfl, rfl, Nat.le_refl _, fun _ _ => rfl⟩
    clear hw1
    have C25 : ∀ n, Calls Tryz.prog 172 #[.string (({ data := #[60, 62, 34] } : ByteArray).extract 3 3), .int .u8 (b.toNat : Int)] (w1.drewN n) fun e w' => e = .returned (.int .i64 (-1)) ∧ w' = w1.drewN n := fun n =>
      (Tryz.strings_IndexByte _ _ _).mono (fun e w' h => ⟨h.1.trans (by
        have e1 : (({ data := #[60, 62, 34] } : ByteArray).extract 3 3).data.toList = [] := by decide
        have e2 : ((b.toNat : Int)).toNat.toUInt8 = b := by simp
        rw [e1, e2]
        simp [Lib.indexByte]), h.2⟩)
    have HC25 := Lib.hid C25; clear C25
    go_wp2
    go_quiet ((go_at_call 172; exact Calls.quiet_of_same (HC25.out _)))
    go_wp2
    try rw [Exit.noGoto_ret]
    go_ret
    exact ⟨rfl, hbw.trans ⟨rfl, rfl, rfl, Nat.le_refl _, fun _ _ => rfl⟩⟩
  · go_enter Tryz.func168, Tryz.ntmps168
    go_wp2_with (go_at_call 186; refine C41.out.mono ?_; rintro e w' ⟨rfl, rfl⟩)
    go_step3
    go_wp2
    refine wp_loop_rounds 1 ?_
    rw [rounds_succ]
    go_wp2
    try rw [Exit.noGoto_ret]
    go_ret
    exact ⟨rfl, Below.refl _ _⟩

theorem rune_high (r : Int) (w : World) (h : 128 ≤ r) : Calls Tryz.prog 168 #[.string { data := #[60, 62, 34] }, .int .i32 r] w (MinusPost w) := by
  by_cases he : r = 65533
  · subst he; exact rune_err w
  · cases hv : Lib.validRune r
    · exact rune_bad r w h hv he
    · exact rune_ok r w h hv he
end Go.Proofs.YtjnhcoflmechmaaGreatDoor.E

namespace Go.Proofs.YtjnhcoflmechmaaGreatDoor.E
open Go.RowKit
set_option linter.unusedVariables false

theorem get_list (s : ByteArray) (j : Nat) (b : UInt8) (h : s.data.toList[j]? = some b) : s.get! j = b := by
  have hj : j < s.data.size := by simpa using (List.getElem?_eq_some_iff.1 h).1
  have h2 : s.data[j]? = some b := by simpa using h
  rw [Array.getElem?_eq_getElem hj] at h2
  show s.data[j]! = b
  rw [getElem!_pos s.data j hj]
  exact Option.some.inj h2

theorem decode_span (s : ByteArray) (pos : Nat) (h : pos < s.size) (ha : 128 ≤ (s.get! pos).toNat) :
    pos + (Utf8.decode s pos).2 ≤ s.size ∧ ∀ k, k < (Utf8.decode s pos).2 → 128 ≤ (s.get! (pos + k)).toNat := by
  have hn : ¬ (s.get! (pos + 0)).toNat < 128 := by simpa using ha
  simp only [Utf8.decode, hn, if_false]
  split
  · rename_i h1
    simp at h1
    split
    · refine ⟨by omega, fun k hk => ?_⟩
      match k, hk with
      | 0, _ => simpa using ha
      | 1, _ => omega
    · refine ⟨by omega, fun k hk => ?_⟩
      match k, hk with
      | 0, _ => simpa using ha
  · split
    · rename_i h1
      simp at h1
      split
      · refine ⟨by omega, fun k hk => ?_⟩
        match k, hk with
        | 0, _ => simpa using ha
        | 1, _ => omega
        | 2, _ => omega
      · refine ⟨by omega, fun k hk => ?_⟩
        match k, hk with
        | 0, _ => simpa using ha
    · split
      · rename_i h1
        simp at h1
        split
        · refine ⟨by omega, fun k hk => ?_⟩
          match k, hk with
          | 0, _ => simpa using ha
          | 1, _ => omega
          | 2, _ => omega
          | 3, _ => omega
        · refine ⟨by omega, fun k hk => ?_⟩
          match k, hk with
          | 0, _ => simpa using ha
      · refine ⟨by omega, fun k hk => ?_⟩
        match k, hk with
        | 0, _ => simpa using ha

theorem signs_ascii {b : UInt8} (h : 128 ≤ b.toNat) : signs.contains b = false := by
  simp [signs]
  refine ⟨fun e => ?_, fun e => ?_, fun e => ?_⟩ <;> (rw [e] at h; exact absurd h (by decide))
theorem noAny_more {l : List UInt8} {i k : Nat} (h : Lib.NoAny l signs i) (hk : ∀ j b, i ≤ j → j < i + k → l[j]? = some b → 128 ≤ b.toNat) : Lib.NoAny l signs (i + k) := by
  intro j b hj hb
  rcases Nat.lt_or_ge j i with h1 | h1
  · exact h j b h1 hb
  · exact signs_ascii (hk j b h1 hj hb)

def AnyRel (s : ByteArray) (w : World) (g : Nat) (wx : World) : Prop :=
  ∃ i : Nat, i ≤ s.size ∧ i + g = s.size ∧ wx.heap[w.heap.size]? = some (.stringIter s i) ∧ Lib.NoAny s.data.toList signs i ∧ Below w.heap.size w wx

set_option maxRecDepth 100000 in
set_option maxHeartbeats 2000000 in
theorem any_short (s : ByteArray) (w : World) (h8 : s.size ≤ 8) : Calls Tryz.prog 148 #[.string s, .string { data := #[60, 62, 34] }] w (IntPost w (Lib.indexAny s.data.toList signs)) := by
  have h8z : decide ((8 : Int) < (s.size : Int)) = false := by simp; omega
  have hsl : s.data.toList.length = s.size := by simp
  have HSL := Lib.hid hsl; clear hsl
  have c31 := Tryz.strings_shouldUseASCIISet (s.size : Int) w
  rw [h8z] at c31
  have d31 : Calls Tryz.prog 169 #[.int .i64 (s.size : Int)] w fun e w' => e = .returned (.bool false) ∧ w = w' := c31.mono (fun e w' h => ⟨h.1, h.2.symm⟩)
  have C31 := Lib.hid d31; clear c31 d31
  go_enter Tryz.func148, Tryz.ntmps148
  go_wp2_with (go_at_call 169; refine C31.out.mono ?_; rintro e w' ⟨rfl, rfl⟩)
  go_loopg [9, 10] s.size (fun g _ _ wx => AnyRel s w g wx)
  case atStart => exact ⟨0, by omega, by omega, World.iter_heap w s 0, Lib.NoAny.zero _ _, (Below.refl _ _).alloc (Nat.le_refl _) _⟩
  case round =>
    obtain ⟨i, hi, hig, hit, hno, hbel⟩ := hrel
    have HN := Lib.hid hno; clear hno
    have HIT := Lib.hid hit; clear hit
    by_cases hlt : i < s.size
    · obtain ⟨x, hx⟩ : ∃ x : UInt8, s[i]'hlt = x := ⟨_, rfl⟩
      have hxl : s.data.toList[i]? = some x := by rw [← hx]; exact Lib.data_getElem? s i hlt
      have hgx := get_list s i x hxl
      have HXL := Lib.hid hxl; clear hxl
      by_cases hasc : x.toNat < 128
      · have hnx := fun ty => Lib.run_next_ascii_at (P := Tryz.prog) wr w.heap.size s i ty HIT.out hlt (by rw [hx]; exact hasc)
        rw [hx] at hnx
        obtain ⟨w1, hw1⟩ : ∃ w1, w1 = wr.iterAt w.heap.size s (i + 1) := ⟨_, rfl⟩
        rw [← hw1] at hnx
        have hit1 : w1.heap[w.heap.size]? = some (.stringIter s (i + 1)) := by rw [hw1]; exact Lib.iterAt_heap wr w.heap.size s i (i + 1) HIT.out
        have hb1 : Below w.heap.size w w1 := by rw [hw1]; exact Lib.below_iterAt hbel (Nat.le_refl _) s (i + 1)
        have cr := Tryz.strings_IndexRune_ascii { data := #[60, 62, 34] } (x.toNat : Int) w1 (by omega) (by omega)
        have hback : ((x.toNat : Int)).toNat.toUInt8 = x := by simp
        have hcon := Lib.contains_iff_indexByte signs x
        clear hx hw1 hgx
        cases hin : signs.contains x
        · rw [hin] at hcon
          have hlt0 : Lib.indexByte signs x < 0 := by
            have := of_decide_eq_false hcon.symm
            omega
          obtain ⟨y, hy⟩ : ∃ y, y = Lib.indexByte signs x := ⟨_, rfl⟩
          rw [← hy] at hlt0
          have CR : Calls Tryz.prog 168 #[.string { data := #[60, 62, 34] }, .int .i32 (x.toNat : Int)] w1 fun e w' => e = .returned (.int .i64 y) ∧ w1 = w' := cr.mono (fun e w' h => ⟨h.1.trans (by rw [hback, hy]; rfl), h.2.symm⟩)
          have HCR := Lib.hid CR
          have HNO := Lib.hid (HN.out.succ HXL.out hin)
          clear CR cr hback hcon hin hy
          go_wp2_with (go_at_call 168; refine HCR.out.mono ?_; rintro e w' ⟨rfl, rfl⟩)
          go_roundg (gk - 1)
          case measure => omega
          case rel => exact ⟨i + 1, by omega, by omega, hit1, HNO.out, hb1⟩
        · rw [hin] at hcon
          have hge0 : 0 ≤ Lib.indexByte signs x := of_decide_eq_true hcon.symm
          obtain ⟨y, hy⟩ : ∃ y, y = Lib.indexByte signs x := ⟨_, rfl⟩
          rw [← hy] at hge0
          have CR : Calls Tryz.prog 168 #[.string { data := #[60, 62, 34] }, .int .i32 (x.toNat : Int)] w1 fun e w' => e = .returned (.int .i64 y) ∧ w1 = w' := cr.mono (fun e w' h => ⟨h.1.trans (by rw [hback, hy]; rfl), h.2.symm⟩)
          have HCR := Lib.hid CR
          have HRES := Lib.hid (Lib.indexAny_hit HN.out HXL.out hin)
          clear CR cr hback hcon hin hy
          go_wp2_with (go_at_call 168; refine HCR.out.mono ?_; rintro e w' ⟨rfl, rfl⟩)
          go_ret
          exact ⟨ret_int HRES.out.symm, hb1⟩
      · have hhi : 128 ≤ x.toNat := by omega
        have hnx := fun ty => Lib.run_next_any_at (P := Tryz.prog) wr w.heap.size s i ty HIT.out hlt
        obtain ⟨r, hr⟩ : ∃ r : Nat, r = (Utf8.decode s i).1 := ⟨_, rfl⟩
        obtain ⟨k, hk⟩ : ∃ k : Nat, k = (Utf8.decode s i).2 := ⟨_, rfl⟩
        have hd := decode_high s i hlt (by rw [hx]; exact hhi)
        have hsp := decode_span s i hlt (by rw [hgx]; exact hhi)
        rw [← hr, ← hk] at hd
        rw [← hk] at hsp
        rw [← hr, ← hk] at hnx
        obtain ⟨hr1, hk1⟩ := hd
        obtain ⟨hs1, hs2⟩ := hsp
        have hno2 : Lib.NoAny s.data.toList signs (i + k) := noAny_more HN.out (fun j b hj1 hj2 hb => by
          have h1 := hs2 (j - i) (by omega)
          rw [show i + (j - i) = j by omega, get_list s j b hb] at h1
          exact h1)
        have HNO := Lib.hid hno2
        obtain ⟨w1, hw1⟩ : ∃ w1, w1 = wr.iterAt w.heap.size s (i + k) := ⟨_, rfl⟩
        rw [← hw1] at hnx
        have hit1 : w1.heap[w.heap.size]? = some (.stringIter s (i + k)) := by rw [hw1]; exact Lib.iterAt_heap wr w.heap.size s i (i + k) HIT.out
        have hb1 : Below w.heap.size w w1 := by rw [hw1]; exact Lib.below_iterAt hbel (Nat.le_refl _) s (i + k)
        have HCR := Lib.hid (rune_high (r : Int) w1 (by omega))
        clear hx hw1 hgx hr hk hs2 hno2
        go_wp2_with (go_at_call 168; refine HCR.out.mono ?_; rintro e w2 ⟨rfl, hb2⟩)
        go_roundg (gk - k)
        case measure => omega
        case rel => exact ⟨i + k, by omega, by omega, (hb2.block _ (Array.getElem?_eq_some_iff.1 hit1).1).trans hit1, HNO.out, hb1.trans (hb2.mono hb1.size)⟩
    · obtain rfl : i = s.size := by omega
      have hnx := fun ty => Lib.run_next_end_at (P := Tryz.prog) wr w.heap.size s s.size ty HIT.out (by omega)
      have hres : Lib.indexAny s.data.toList signs = -1 := Lib.indexAny_none (by rw [HSL.out]; exact HN.out)
      have HRES := Lib.hid hres; clear hres
      go_wp2
      go_ret
      exact ⟨ret_int HRES.out.symm, hbel⟩

theorem h193 : (Tryz.prog.info? 193).map (fun i => (i.zero, i.size)) = some (some (.agg (Array.replicate 256 (.bool false))), 256) := by kernel_rfl
theorem zero193 (w : World) : (zeroValue 193).run Tryz.prog w = .ok (.agg (Array.replicate 256 (.bool false))) w := (zero_of_info h193).1 w
theorem any_all (s : ByteArray) (w : World) (hs : s.size ≤ 1000000000) : Calls Tryz.prog 148 #[.string s, .string { data := #[60, 62, 34] }] w (IntPost w (Lib.indexAny s.data.toList signs)) := by
  by_cases h8 : s.size ≤ 8
  · exact any_short s w h8
  · refine (Tryz.strings_IndexAny_long zero193 s { data := #[60, 62, 34] } w (by decide) (by omega) (by omega) (by decide) (fun j b hb => ?_)).mono ?_
    · have hm : b ∈ ([60, 62, 34] : List UInt8) := List.mem_of_getElem? hb
      have hall : ([60, 62, 34] : List UInt8).all (fun b => decide (b.toNat < 128)) = true := by decide
      simpa using List.all_eq_true.1 hall b hm
    · rintro e w' ⟨rfl, rfl⟩
      exact ⟨rfl, ((Below.refl _ _).alloc (Nat.le_refl _) _).alloc (by simp) _⟩

theorem indexAny_span : ∀ l : List UInt8, Lib.indexAny l signs = if spanN l < l.length then (spanN l : Int) else -1
  | [] => by simp [Lib.indexAny, spanN]
  | b :: l => by
    have ih := indexAny_span l
    have hle := spanN_le l
    unfold Lib.indexAny spanN
    rw [List.length_cons]
    by_cases hb : signs.contains b = true
    · rw [if_pos hb, if_pos hb, if_pos (by omega)]; rfl
    · rw [if_neg hb, if_neg hb, ih]
      by_cases h : spanN l < l.length
      · have h2 : spanN l + 1 < l.length + 1 := by omega
        have : ((spanN l : Int) == -1) = false := by simp
        simp only [h, h2, this, if_true]
        simp
      · have h2 : ¬ spanN l + 1 < l.length + 1 := by omega
        simp only [h, h2, if_false]
        simp

set_option maxHeartbeats 1000000 in
theorem span_any (s : ByteArray) (p : Int) (w : World) (hs : s.size ≤ 1000000000) (hp0 : -9223372036854775808 ≤ p) (hp1 : p ≤ 9223372036854775807) : Calls Tryz.prog 118 #[.string s, .int .i64 p] w (IntPost w (spanI s.data.toList p)) := by
  have hsl : s.data.toList.length = s.size := by simp
  by_cases hneg : p < 0
  · have e : spanI s.data.toList p = 0 := by unfold spanI; rw [if_pos (.inl hneg)]
    have E := Lib.hid e; clear e hsl
    go_enter Tryz.func118, Tryz.ntmps118
    go_wp2
    go_ret
    exact ⟨ret_int E.out.symm, Below.refl _ _⟩
  · obtain ⟨k, rfl⟩ := Int.eq_ofNat_of_zero_le (show 0 ≤ p by omega)
    by_cases hge : s.size ≤ k
    · have e : spanI s.data.toList k = 0 := by unfold spanI; rw [hsl, if_pos (.inr (by omega))]
      have E := Lib.hid e; clear e hsl
      have hd : decide (s.size ≤ k) = true := by simpa using hge
      go_enter Tryz.func118, Tryz.ntmps118
      go_wp2
      go_ret
      exact ⟨ret_int E.out.symm, Below.refl _ _⟩
    · have hd : decide (s.size ≤ k) = false := by simpa using hge
      have e : spanI s.data.toList k = spanN (s.data.toList.drop k) := by unfold spanI; rw [hsl, if_neg (by omega), Int.toNat_natCast]
      obtain ⟨t, ht⟩ : ∃ t, t = s.extract k s.size := ⟨_, rfl⟩
      have hdl : (s.data.toList.drop k).length = s.size - k := by rw [List.length_drop, hsl]
      have htl : t.data.toList = s.data.toList.drop k := by
        rw [ht, Lib.extract_data, List.take_of_length_le (by rw [hdl]; omega)]
      have hts : t.size ≤ 1000000000 := by rw [Lib.size_eq, htl, hdl]; omega
      have ca := any_all t w hts
      rw [htl, indexAny_span, hdl] at ca
      have hle := spanN_le (s.data.toList.drop k)
      rw [hdl] at hle
      obtain ⟨n, hn⟩ : ∃ n, n = spanN (s.data.toList.drop k) := ⟨_, rfl⟩
      rw [← hn] at ca hle e
      have HT := Lib.hid ht
      have E := Lib.hid e
      clear ht htl hts hdl hn e hsl
      by_cases hlt : n < s.size - k
      · rw [if_pos hlt] at ca
        have CA := Lib.hid ca; clear ca
        go_enter Tryz.func118, Tryz.ntmps118
        go_wp2_with fail
        rw [← HT.out]
        refine CA.out.mono ?_
        rintro e w1 ⟨rfl, hb1⟩
        go_wp2
        go_ret
        exact ⟨ret_int E.out.symm, hb1⟩
      · rw [if_neg hlt] at ca
        have CA := Lib.hid ca; clear ca
        go_enter Tryz.func118, Tryz.ntmps118
        go_wp2_with fail
        rw [← HT.out]
        refine CA.out.mono ?_
        rintro e w1 ⟨rfl, hb1⟩
        go_wp2
        go_ret
        exact ⟨ret_int (by rw [E.out]; omega), hb1⟩
end Go.Proofs.YtjnhcoflmechmaaGreatDoor.E
