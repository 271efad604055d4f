/-
  strings.IndexAny for the three signs, escape.Span and tendrilref03.Span: what they answer.
-/
import Derived.Test.YtlebcebihieiiaaDoorERune
import Derived.Test.YtlebcebihieiiaaDoorELength
import Derived.Lib.OthersKept
import Derived.Deep.LoopGhost
namespace Go.Proofs.YtlebcebihieiiaaDoor.E
open Go.RowKit
set_option linter.unusedVariables false

theorem get_list (s : ByteArray) (j : Nat) (b : UInt8) (h : s.data.toList[j]? = some b) : s.get! j = b := by
  have hj : j < s.data.size := by simpa using (List.getElem?_eq_some_iff.1 h).1
  have h2 : s.data[j]? = some b := by simpa using h
  rw [Array.getElem?_eq_getElem hj] at h2
  show s.data[j]! = b
  rw [getElem!_pos s.data j hj]
  exact Option.some.inj h2

theorem decode_span (s : ByteArray) (pos : Nat) (h : pos < s.size) (ha : 128 ≤ (s.get! pos).toNat) :
    pos + (Utf8.decode s pos).2 ≤ s.size ∧ ∀ k, k < (Utf8.decode s pos).2 → 128 ≤ (s.get! (pos + k)).toNat := by
  have hn : ¬ (s.get! (pos + 0)).toNat < 128 := by simpa using ha
  simp only [Utf8.decode, hn, if_false]
  split
  · rename_i h1
    simp at h1
    split
    · refine ⟨by omega, fun k hk => ?_⟩
      match k, hk with
      | 0, _ => simpa using ha
      | 1, _ => omega
    · refine ⟨by omega, fun k hk => ?_⟩
      match k, hk with
      | 0, _ => simpa using ha
  · split
    · rename_i h1
      simp at h1
      split
      · refine ⟨by omega, fun k hk => ?_⟩
        match k, hk with
        | 0, _ => simpa using ha
        | 1, _ => omega
        | 2, _ => omega
      · refine ⟨by omega, fun k hk => ?_⟩
        match k, hk with
        | 0, _ => simpa using ha
    · split
      · rename_i h1
        simp at h1
        split
        · refine ⟨by omega, fun k hk => ?_⟩
          match k, hk with
          | 0, _ => simpa using ha
          | 1, _ => omega
          | 2, _ => omega
          | 3, _ => omega
        · refine ⟨by omega, fun k hk => ?_⟩
          match k, hk with
          | 0, _ => simpa using ha
      · refine ⟨by omega, fun k hk => ?_⟩
        match k, hk with
        | 0, _ => simpa using ha

def signs : List UInt8 := [35, 58]
theorem signs_ascii {b : UInt8} (h : 128 ≤ b.toNat) : signs.contains b = false := by
  simp [signs]
  refine ⟨fun e => ?_, fun e => ?_⟩ <;> (rw [e] at h; exact absurd h (by decide))
theorem noAny_more {l : List UInt8} {i k : Nat} (h : Lib.NoAny l signs i) (hk : ∀ j b, i ≤ j → j < i + k → l[j]? = some b → 128 ≤ b.toNat) : Lib.NoAny l signs (i + k) := by
  intro j b hj hb
  rcases Nat.lt_or_ge j i with h1 | h1
  · exact h j b h1 hb
  · exact signs_ascii (hk j b h1 hj hb)

def AnyRel (s : ByteArray) (w : World) (g : Nat) (wx : World) : Prop :=
  ∃ i : Nat, i ≤ s.size ∧ i + g = s.size ∧ wx.heap[w.heap.size]? = some (.stringIter s i) ∧ Lib.NoAny s.data.toList signs i ∧ Below w.heap.size w wx

set_option maxRecDepth 100000 in
set_option maxRecDepth 100000 in
set_option maxHeartbeats 2000000 in
theorem any_short (s : ByteArray) (w : World) (h8 : s.size ≤ 8) : Calls Tryd.prog 23 #[.string s, .string { data := #[35, 58] }] w (IntPost w (Lib.indexAny s.data.toList signs)) := by
  have h8z : decide ((8 : Int) < (s.size : Int)) = false := by simp; omega
  have hsl : s.data.toList.length = s.size := by simp
  have HSL := Lib.hid hsl; clear hsl
  have c31 := Tryd.strings_shouldUseASCIISet (s.size : Int) w
  rw [h8z] at c31
  have d31 : Calls Tryd.prog 37 #[.int .i64 (s.size : Int)] w fun e w' => e = .returned (.bool false) ∧ w = w' := c31.mono (fun e w' h => ⟨h.1, h.2.symm⟩)
  have C31 := Lib.hid d31; clear c31 d31
  go_enter Tryd.func23, Tryd.ntmps23
  go_wp2_with (go_at_call 37; refine C31.out.mono ?_; rintro e w' ⟨rfl, rfl⟩)
  go_loopg [9, 10] s.size (fun g _ _ wx => AnyRel s w g wx)
  case atStart => exact ⟨0, by omega, by omega, World.iter_heap w s 0, Lib.NoAny.zero _ _, (Below.refl _ _).alloc (Nat.le_refl _) _⟩
  case round =>
    obtain ⟨i, hi, hig, hit, hno, hbel⟩ := hrel
    have HN := Lib.hid hno; clear hno
    have HIT := Lib.hid hit; clear hit
    by_cases hlt : i < s.size
    · obtain ⟨x, hx⟩ : ∃ x : UInt8, s[i]'hlt = x := ⟨_, rfl⟩
      have hxl : s.data.toList[i]? = some x := by rw [← hx]; exact Lib.data_getElem? s i hlt
      have hgx := get_list s i x hxl
      have HXL := Lib.hid hxl; clear hxl
      by_cases hasc : x.toNat < 128
      · have hnx := fun ty => Lib.run_next_ascii_at (P := Tryd.prog) wr w.heap.size s i ty HIT.out hlt (by rw [hx]; exact hasc)
        rw [hx] at hnx
        obtain ⟨w1, hw1⟩ : ∃ w1, w1 = wr.iterAt w.heap.size s (i + 1) := ⟨_, rfl⟩
        rw [← hw1] at hnx
        have hit1 : w1.heap[w.heap.size]? = some (.stringIter s (i + 1)) := by rw [hw1]; exact Lib.iterAt_heap wr w.heap.size s i (i + 1) HIT.out
        have hb1 : Below w.heap.size w w1 := by rw [hw1]; exact Lib.below_iterAt hbel (Nat.le_refl _) s (i + 1)
        have cr := Tryd.strings_IndexRune_ascii { data := #[35, 58] } (x.toNat : Int) w1 (by omega) (by omega)
        have hback : ((x.toNat : Int)).toNat.toUInt8 = x := by simp
        have hcon := Lib.contains_iff_indexByte signs x
        clear hx hw1 hgx
        cases hin : signs.contains x
        · rw [hin] at hcon
          have hlt0 : Lib.indexByte signs x < 0 := by
            have := of_decide_eq_false hcon.symm
            omega
          obtain ⟨y, hy⟩ : ∃ y, y = Lib.indexByte signs x := ⟨_, rfl⟩
          rw [← hy] at hlt0
          have CR : Calls Tryd.prog 36 #[.string { data := #[35, 58] }, .int .i32 (x.toNat : Int)] w1 fun e w' => e = .returned (.int .i64 y) ∧ w1 = w' := cr.mono (fun e w' h => ⟨h.1.trans (by rw [hback, hy]; rfl), h.2.symm⟩)
          have HCR := Lib.hid CR
          have HNO := Lib.hid (HN.out.succ HXL.out hin)
          clear CR cr hback hcon hin hy
          go_wp2_with (go_at_call 36; refine HCR.out.mono ?_; rintro e w' ⟨rfl, rfl⟩)
          go_roundg (gk - 1)
          case measure => omega
          case rel => exact ⟨i + 1, by omega, by omega, hit1, HNO.out, hb1⟩
        · rw [hin] at hcon
          have hge0 : 0 ≤ Lib.indexByte signs x := of_decide_eq_true hcon.symm
          obtain ⟨y, hy⟩ : ∃ y, y = Lib.indexByte signs x := ⟨_, rfl⟩
          rw [← hy] at hge0
          have CR : Calls Tryd.prog 36 #[.string { data := #[35, 58] }, .int .i32 (x.toNat : Int)] w1 fun e w' => e = .returned (.int .i64 y) ∧ w1 = w' := cr.mono (fun e w' h => ⟨h.1.trans (by rw [hback, hy]; rfl), h.2.symm⟩)
          have HCR := Lib.hid CR
          have HRES := Lib.hid (Lib.indexAny_hit HN.out HXL.out hin)
          clear CR cr hback hcon hin hy
          go_wp2_with (go_at_call 36; refine HCR.out.mono ?_; rintro e w' ⟨rfl, rfl⟩)
          go_ret
          exact ⟨ret_int HRES.out.symm, hb1⟩
      · have hhi : 128 ≤ x.toNat := by omega
        have hnx := fun ty => Lib.run_next_any_at (P := Tryd.prog) wr w.heap.size s i ty HIT.out hlt
        obtain ⟨r, hr⟩ : ∃ r : Nat, r = (Utf8.decode s i).1 := ⟨_, rfl⟩
        obtain ⟨k, hk⟩ : ∃ k : Nat, k = (Utf8.decode s i).2 := ⟨_, rfl⟩
        have hd := decode_high s i hlt (by rw [hx]; exact hhi)
        have hsp := decode_span s i hlt (by rw [hgx]; exact hhi)
        rw [← hr, ← hk] at hd
        rw [← hk] at hsp
        rw [← hr, ← hk] at hnx
        obtain ⟨hr1, hk1⟩ := hd
        obtain ⟨hs1, hs2⟩ := hsp
        have hno2 : Lib.NoAny s.data.toList signs (i + k) := noAny_more HN.out (fun j b hj1 hj2 hb => by
          have h1 := hs2 (j - i) (by omega)
          rw [show i + (j - i) = j by omega, get_list s j b hb] at h1
          exact h1)
        have HNO := Lib.hid hno2
        obtain ⟨w1, hw1⟩ : ∃ w1, w1 = wr.iterAt w.heap.size s (i + k) := ⟨_, rfl⟩
        rw [← hw1] at hnx
        have hit1 : w1.heap[w.heap.size]? = some (.stringIter s (i + k)) := by rw [hw1]; exact Lib.iterAt_heap wr w.heap.size s i (i + k) HIT.out
        have hb1 : Below w.heap.size w w1 := by rw [hw1]; exact Lib.below_iterAt hbel (Nat.le_refl _) s (i + k)
        have HCR := Lib.hid (rune_high (r : Int) w1 (by omega))
        clear hx hw1 hgx hr hk hs2 hno2
        go_wp2_with (go_at_call 36; refine HCR.out.mono ?_; rintro e w2 ⟨rfl, hb2⟩)
        go_roundg (gk - k)
        case measure => omega
        case rel => exact ⟨i + k, by omega, by omega, (hb2.block _ (Array.getElem?_eq_some_iff.1 hit1).1).trans hit1, HNO.out, hb1.trans (hb2.mono hb1.size)⟩
    · obtain rfl : i = s.size := by omega
      have hnx := fun ty => Lib.run_next_end_at (P := Tryd.prog) wr w.heap.size s s.size ty HIT.out (by omega)
      have hres : Lib.indexAny s.data.toList signs = -1 := Lib.indexAny_none (by rw [HSL.out]; exact HN.out)
      have HRES := Lib.hid hres; clear hres
      go_wp2
      go_ret
      exact ⟨ret_int HRES.out.symm, hbel⟩

theorem h73 : (Tryd.prog.info? 73).map (fun i => (i.zero, i.size)) = some (some (.agg (Array.replicate 256 (.bool false))), 256) := by kernel_rfl
theorem zero73 (w : World) : (zeroValue 73).run Tryd.prog w = .ok (.agg (Array.replicate 256 (.bool false))) w := (zero_of_info h73).1 w
set_option maxRecDepth 100000 in
theorem any_all (s : ByteArray) (w : World) (hs : s.size ≤ 900000) : Calls Tryd.prog 23 #[.string s, .string { data := #[35, 58] }] w (IntPost w (Lib.indexAny s.data.toList signs)) := by
  by_cases h8 : s.size ≤ 8
  · exact any_short s w h8
  · refine (Tryd.strings_IndexAny_long zero73 s { data := #[35, 58] } w (by decide) (by omega) (by omega) (by decide) (fun j b hb => ?_)).mono ?_
    · have hm : b ∈ ([35, 58] : List UInt8) := List.mem_of_getElem? hb
      have hall : ([35, 58] : List UInt8).all (fun b => decide (b.toNat < 128)) = true := by decide
      simpa using List.all_eq_true.1 hall b hm
    · rintro e w' ⟨rfl, rfl⟩
      exact ⟨rfl, ((Below.refl _ _).alloc (Nat.le_refl _) _).alloc (by simp) _⟩

end Go.Proofs.YtlebcebihieiiaaDoor.E
