/-
  octet.Put, octet.Size and tendrilref01.Put: what they answer.
-/
import Derived.Test.YtkdmhcllnpiakaaAll
import Derived.Test.YtkdmhcllnpiakaaPutMath
import Derived.Test.YtkdmhcllnpiakaaShelf
import Derived.Test.YtkdmhcllnpiakaaAid
namespace Go.Proofs.Ytkdmhcllnpiakaa
open Go.RowKit
set_option linter.unusedVariables false

theorem length_any (x : Int) (w : World) (h0 : 0 ≤ x) (h1 : x < 18446744073709551616) :
    Calls Try.prog 32 #[.int .u64 x] w fun e w' => e = .returned (.int .i64 (nlen x.toNat)) ∧ w = w' := by
  have hb := Lib.bitLen_le x.toNat 64 (by omega) (by simpa using (show x.toNat < 18446744073709551616 by omega))
  obtain ⟨m, hm⟩ : ∃ m, m = Lib.bitLen x.toNat := ⟨_, rfl⟩
  have c := Try.bits_Len64 x w h0 (by omega)
  rw [← hm] at c hb
  have C := Lib.hid c; clear c
  have HM := Lib.hid hm; clear hm
  go_enter Try.func32, Try.ntmps32
  go_wp2_with (go_at_call 34; refine C.out.mono ?_; rintro e w' ⟨rfl, rfl⟩)
  all_goals (go_ret; refine ⟨ret_int ?_, rfl⟩; unfold nlen; rw [← HM.out]; omega)

set_option maxHeartbeats 1000000 in
theorem size_any (A : Option Addr) (cap : Nat) (ns : List Int) (B : Nat) (w : World) (hrow : Row .u64 w B A ns) (hw : Words ns) (hl : ns.length ≤ 1000000) :
    Calls Try.prog 29 #[.slice A ns.length cap] w fun e w' => e = .returned (.int .i64 (sizes ns)) ∧ w = w' := by
  go_enter Try.func29, Try.ntmps29
  go_wp2
  go_loop [3, 8] (fun t i => ∃ k : Nat, k ≤ ns.length ∧ i = .int .i64 k ∧ t = .int .i64 (sizes (ns.take k))) (fun _ i => ns.length - (intOf i).toNat)
  case atStart => exact ⟨0, by omega, rfl, by simp [sizes]⟩
  case round =>
    obtain ⟨k, hk, rfl, rfl⟩ := hrel
    have hsz := sizes_le ns hw k hk
    by_cases hlt : k < ns.length
    · obtain ⟨b, off, x, rfl, hb, hx, hc⟩ := row_at hrow hlt
      have hxb := hw k hlt
      have hst := sizes_take_succ ns k hlt
      have hsz' := sizes_le ns hw (k + 1) hlt
      rw [← hx] at hxb hst
      have c := length_any x w hxb.1 hxb.2
      have C := Lib.hid c; clear c
      have HS := Lib.hid hst; clear hst
      have hn10 := nlen_le x.toNat (by omega)
      clear hx
      go_wp2_with (go_at_call 32; refine C.out.mono ?_; rintro e w' ⟨rfl, rfl⟩)
      refine ⟨⟨k + 1, by omega, by go_num, by rw [HS.out]; go_num⟩, by simp [intOf]; omega⟩
    · have e : ns.take k = ns := List.take_of_length_le (by omega)
      go_wp2
      go_ret
      exact ⟨rfl, rfl⟩

theorem Try.info5 : (Try.prog.info? 5).map (fun i => (i.zero, i.size, i.bytes)) = some (some (.int .u8 0), 1, 1) := by kernel_rfl

def OwnB (w : World) (base : Nat) (v : Value) (bs : List Int) : Prop := w.ownsRow base 5 1 v bs.length (bs.map (Value.int .u8))

def ANRel (base : Nat) (w : World) (xs : List Int) (x0 : Nat) (out x i : Value) (wr : World) : Prop :=
  ∃ (k y : Nat) (pre : List Int), i = .int .i64 k ∧ x = .int .u64 y ∧ y < 18446744073709551616 ∧ k + nlen y = nlen x0 ∧ pre.length = k ∧ pre ++ enc y = enc x0 ∧ OwnB wr base out (xs ++ pre) ∧ Below base w wr
def ANPost (base : Nat) (w : World) (bs : List Int) (e : Ending) (w' : World) : Prop := ∃ v, e = .returned v ∧ OwnB w' base v bs ∧ Below base w w'

set_option maxHeartbeats 1000000 in
theorem appendNumber_any (base : Nat) (v : Value) (xs : List Int) (x : Nat) (w : World) (hB : base ≤ w.heap.size) (hown : OwnB w base v xs) (hx : x < 18446744073709551616) (hl : xs.length ≤ 100000000) :
    Calls Try.prog 30 #[v, .int .u64 x] w (ANPost base w (xs ++ enc x)) := by
  obtain ⟨i0, hi, hz0, hz1, hz2⟩ := info_parts Try.info5
  have c := length_any x w (by omega) (by omega)
  rw [Int.toNat_natCast] at c
  have C := Lib.hid c; clear c
  have hn1 := nlen_pos x
  have hn10 := nlen_le x hx
  go_enter Try.func30, Try.ntmps30
  go_wp2_with (go_at_call 32; refine C.out.mono ?_; rintro e w' ⟨rfl, rfl⟩)
  go_loopw [0, 1, 8] (ANRel base w xs x) (fun _ _ i _ => 10 - (intOf i).toNat)
  case atStart => exact ⟨0, x, [], rfl, rfl, hx, by omega, rfl, rfl, by simpa using hown, Below.refl _ _⟩
  case round =>
    obtain ⟨k, y, pre, rfl, rfl, hy, hky, hpl, heq, hown', hbel⟩ := hrel
    have HEQ := Lib.hid heq; clear heq
    by_cases hlt : (k : Int) < (nlen x : Int) - 1
    · have hy128 := big_of_nlen (x := y) (by omega)
      have hlen := nlen_big hy128 hy
      have HL := Lib.hid hlen; clear hlen
      have HK := Lib.hid hky; clear hky
      have HP := Lib.hid hpl; clear hpl
      unfold OwnB at hown'
      have hpb : pre.length ≤ 10 := by have := HP.out; omega
      have hsz := hbel.size
      go_wp2_with (at_builtin; refine wpList_app1 rfl _ _ 26 rfl base 5 i0 (.int .u8 0) 1 Try.underlying26 hi hz0 hz1 hz2 rfl _ _ _ rfl hown' (.int .u8 ((y : Int) % 128 + 128)) rfl rfl (by simp; omega) (by simp [maxLen]; omega) (by omega) ?_; intro v' w1 hown1 hbel1)
      refine ⟨⟨k + 1, y / 128, pre ++ [((y % 128 + 128 : Nat) : Int)], by go_num, by go_num, by omega, ?_, ?_, ?_, ?_, hbel.trans hbel1⟩, by simp [intOf]; omega⟩
      · have := HL.out; have := HK.out; omega
      · simp; exact HP.out
      · rw [List.append_assoc]
        have := enc_big hy128 hy
        rw [← HEQ.out, this]; rfl
      · unfold OwnB
        simpa [Nat.add_assoc] using hown1
    · have hy1 : nlen y = 1 := by have := nlen_pos y; omega
      have hys := small_of_nlen hy1 hy
      have henc := enc_small hys
      rw [henc] at HEQ
      have hk10 : k ≤ 10 := by omega
      clear henc hy1
      have HK := Lib.hid hky; clear hky
      have HP := Lib.hid hpl; clear hpl
      unfold OwnB at hown'
      have hpb : pre.length ≤ 10 := by have := HP.out; omega
      have hsz := hbel.size
      go_wp2_with (at_builtin; refine wpList_app1 rfl _ _ 26 rfl base 5 i0 (.int .u8 0) 1 Try.underlying26 hi hz0 hz1 hz2 rfl _ _ _ rfl hown' (.int .u8 (y : Int)) rfl rfl (by simp; omega) (by simp [maxLen]; omega) (by omega) ?_; intro v' w1 hown1 hbel1)
      go_ret
      refine ⟨_, rfl, ?_, hbel.trans hbel1⟩
      unfold OwnB
      rw [← HEQ.out]
      simpa [Nat.add_assoc] using hown1

def PutPost (w : World) (bs : List Int) (e : Ending) (w' : World) : Prop := ∃ v, e = .returned v ∧ OwnB w' w.heap.size v bs ∧ Below w.heap.size w w'
def PutRel (w : World) (ns : List Int) (out i : Value) (wr : World) : Prop :=
  ∃ k : Nat, k ≤ ns.length ∧ i = .int .i64 k ∧ OwnB wr w.heap.size out (encs (ns.take k)) ∧ Below w.heap.size w wr

set_option maxHeartbeats 1000000 in
theorem put_any (A : Option Addr) (cap : Nat) (ns : List Int) (B : Nat) (w : World) (hB : B ≤ w.heap.size) (hrow : Row .u64 w B A ns) (hw : Words ns) (hl : ns.length ≤ 1000000) :
    Calls Try.prog 23 #[.slice A ns.length cap] w (PutPost w (encs ns)) := by
  obtain ⟨i0, hi, hz0, hz1, hz2⟩ := info_parts Try.info5
  have c := size_any A cap ns B w hrow hw hl
  have C := Lib.hid c; clear c
  have hs := sizes_le ns hw ns.length (Nat.le_refl _)
  rw [List.take_length] at hs
  go_enter Try.func23, Try.ntmps23
  go_wp2_with (first
    | (go_at_call 29; refine C.out.mono ?_; rintro e w' ⟨rfl, rfl⟩)
    | (at_make; refine wpList_make_own _ rfl _ _ 26 rfl w.heap.size 5 i0 (.int .u8 0) 1 Try.underlying26 hi hz0 hz1 .i64 .i64 _ (sizes ns) rfl rfl rfl (by rw [hz2]; omega) (by unfold maxLen; omega) (Nat.le_refl _) ?_; intro w0 hown0 hgrow0))
  go_loopw [3, 11] (PutRel w ns) (fun _ i _ => ns.length - (intOf i).toNat)
  case atStart => exact ⟨0, by omega, rfl, by simpa [OwnB, encs] using hown0, (Below.refl _ _).grown hgrow0 (Nat.le_refl _) (fun k hk => by cases hk)⟩
  case round =>
    obtain ⟨k, hk, rfl, hown, hbel⟩ := hrel
    have hsz := hbel.size
    by_cases hlt : k < ns.length
    · obtain ⟨b, off, x, rfl, hb, hx, hc⟩ := row_at (row_below hrow (hbel.mono hB)) hlt
      have hxb := hw k hlt
      have hst := encs_take_succ ns k hlt
      have hel := encs_length ns hw k hk
      have hsl := sizes_le ns hw k hk
      rw [← hx] at hxb hst
      obtain ⟨y, rfl⟩ := Int.eq_ofNat_of_zero_le hxb.1
      rw [Int.toNat_natCast] at hst
      have c := appendNumber_any w.heap.size u3 (encs (ns.take k)) y wr hsz hown (by omega) (by omega)
      rw [← hst] at c
      have C2 := Lib.hid c; clear c hst hx hel
      clear hown hown0 hgrow0
      go_wp2_with (go_at_call 30; refine C2.out.mono ?_; rintro e w' ⟨v2, rfl, hown2, hbel2⟩)
      exact ⟨⟨k + 1, by omega, by go_num, hown2, hbel.trans hbel2⟩, by simp [intOf]; omega⟩
    · have e : ns.take k = ns := List.take_of_length_le (by omega)
      rw [e] at hown
      clear e hown0
      go_wp2
      go_ret
      exact ⟨_, rfl, hown, hbel⟩

def RefPutIn (w : World) (xs : List Int) (x0 : Nat) (out x : Value) (wr : World) : Prop :=
  ∃ (y : Nat) (pre : List Int), x = .int .u64 y ∧ y < 18446744073709551616 ∧ pre.length ≤ 10 ∧ pre ++ enc y = enc x0 ∧ OwnB wr w.heap.size out (xs ++ pre) ∧ Below w.heap.size w wr

set_option maxHeartbeats 1000000 in
theorem refPut_any (A : Option Addr) (cap : Nat) (ns : List Int) (B : Nat) (w : World) (hB : B ≤ w.heap.size) (hrow : Row .u64 w B A ns) (hw : Words ns) (hl : ns.length ≤ 1000000) :
    Calls Try.prog 24 #[.slice A ns.length cap] w (PutPost w (encs ns)) := by
  obtain ⟨i0, hi, hz0, hz1, hz2⟩ := info_parts Try.info5
  go_enter Try.func24, Try.ntmps24
  go_wp2
  go_loopw [3, 8] (PutRel w ns) (fun _ i _ => ns.length - (intOf i).toNat)
  case atStart => exact ⟨0, by omega, rfl, World.ownsRow_nil _ _ _ _, Below.refl _ _⟩
  case round =>
    obtain ⟨k, hk, rfl, hown, hbel⟩ := hrel
    by_cases hlt : k < ns.length
    · obtain ⟨b, off, x, rfl, hb, hx, hc⟩ := row_at (row_below hrow (hbel.mono hB)) hlt
      have hxb := hw k hlt
      have hst := encs_take_succ ns k hlt
      have hel := encs_length ns hw k hk
      have hsl := sizes_le ns hw k hk
      rw [← hx] at hxb hst
      obtain ⟨x0, rfl⟩ := Int.eq_ofNat_of_zero_le hxb.1
      rw [Int.toNat_natCast] at hst
      have HST := Lib.hid hst; clear hst hx
      have hel' : (encs (ns.take k)).length ≤ 10 * k := by omega
      have hx64 : x0 < 18446744073709551616 := by omega
      have hn10 := nlen_le x0 hx64
      have hxl := enc_length hx64
      have hxl' : (enc x0).length ≤ 10 := by omega
      clear hel hxl hxb
      go_wp2
      go_loopw [3, 5] (RefPutIn w (encs (ns.take k)) x0) (fun _ x _ => (intOf x).toNat)
      case atStart => exact ⟨x0, [], rfl, hx64, by simp, rfl, by simpa using hown, hbel⟩
      case round =>
        clear hown hbel hc
        obtain ⟨y, pre, rfl, hy, hpl, heq, hown', hbel⟩ := hrel
        have hsz := hbel.size
        have HEQ := Lib.hid heq
        have hpe : pre.length + (enc y).length ≤ 10 := by rw [← List.length_append, heq]; exact hxl'
        clear heq
        unfold OwnB at hown'
        by_cases h128 : 127 < y
        · have hey := enc_big (by omega) hy
          rw [hey] at hpe HEQ
          simp only [List.length_cons] at hpe
          clear hey
          go_wp2_with (at_builtin; refine wpList_app1 rfl _ _ 26 rfl w.heap.size 5 i0 (.int .u8 0) 1 Try.underlying26 hi hz0 hz1 hz2 rfl _ _ _ rfl hown' (.int .u8 ((y : Int) % 128 + 128)) rfl rfl (by simp; omega) (by simp [maxLen]; omega) (by omega) ?_; intro v' w1 hown1 hbel1)
          refine ⟨⟨y / 128, pre ++ [((y % 128 + 128 : Nat) : Int)], by go_num, by omega, by simp; omega, ?_, ?_, hbel.trans hbel1⟩, by simp [intOf]; omega⟩
          · rw [List.append_assoc, ← HEQ.out]; rfl
          · unfold OwnB
            simpa [Nat.add_assoc] using hown1
        · have hey := enc_small (x := y) (by omega)
          rw [hey] at HEQ
          clear hey
          go_wp2_with (at_builtin; refine wpList_app1 rfl _ _ 26 rfl w.heap.size 5 i0 (.int .u8 0) 1 Try.underlying26 hi hz0 hz1 hz2 rfl _ _ _ rfl hown' (.int .u8 (y : Int)) rfl rfl (by simp; omega) (by simp [maxLen]; omega) (by omega) ?_; intro v' w1 hown1 hbel1)
          refine ⟨⟨k + 1, by omega, by go_num, ?_, hbel.trans hbel1⟩, by simp [intOf]; omega⟩
          rw [HST.out, ← HEQ.out]
          unfold OwnB
          simpa [Nat.add_assoc] using hown1
    · have e : ns.take k = ns := List.take_of_length_le (by omega)
      rw [e] at hown
      clear e
      go_wp2
      go_ret
      exact ⟨_, rfl, hown, hbel⟩
end Go.Proofs.Ytkdmhcllnpiakaa
