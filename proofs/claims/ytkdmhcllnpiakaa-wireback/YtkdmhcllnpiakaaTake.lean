/-
  octet.Take and octet.checkLast: what they answer.
-/
import Derived.Test.YtkdmhcllnpiakaaProg
import Derived.Test.YtkdmhcllnpiakaaMath
import Derived.WalkKit
import Derived.WalkLawsBesides
import Derived.Outline
import Derived.Below
import Derived.Lib.Hide
import Derived.BigQuiet
import Derived.Deep.QuietTactic
namespace Go.Proofs.Ytkdmhcllnpiakaa
open Go.RowKit

/-- A slice that reads as the numbers zs (of kind k), lying below block B; nil let in where there are none. -/
def Row (k : IntKind) (w : World) (B : Nat) (A : Option Addr) (zs : List Int) : Prop :=
  0 < zs.length → ∃ b off, A = some ⟨b, off, none⟩ ∧ b < B ∧ ∀ j, j < zs.length → w.cell? ⟨b, off + j, none⟩ = some (.int k (zs.getD j 0))

theorem ret_int {k : IntKind} {a b : Int} (h : a = b) : Ending.returned (.int k a) = .returned (.int k b) := by rw [h]
theorem checkLast_any (i b : Int) (w : World) (h0 : 0 ≤ i) (h1 : i ≤ 100) (hb : 0 ≤ b) (hb' : b ≤ 255) :
    Calls Try.prog 33 #[.int .i64 i, .int .u8 b] w fun e w' => e = .returned (.int .i64 (lastErr i b)) ∧ w = w' := by
  go_enter Try.func33, Try.ntmps33
  go_wp2
  all_goals go_ret
  all_goals (refine ⟨ret_int ?_, rfl⟩; unfold lastErr; (try simp only [beq_iff_eq, beq_eq_false_iff_ne, ne_eq] at *); (repeat' split) <;> omega)

def TakeRel (bs : List Int) (n i : Value) : Prop :=
  ∃ (k : Nat) (m : Int), k ≤ bs.length ∧ k ≤ 10 ∧ i = .int .i64 k ∧ n = .int .u64 m ∧ AllBig k bs ∧ (k ≤ 9 → m = val (bs.take k))

theorem row_at {k : IntKind} {w : World} {B : Nat} {A : Option Addr} {zs : List Int} (h : Row k w B A zs) {j : Nat} (hj : j < zs.length) :
    ∃ b off x, A = some ⟨b, off, none⟩ ∧ b < B ∧ x = zs.getD j 0 ∧ w.cell? ⟨b, off + j, none⟩ = some (.int k x) := by
  obtain ⟨b, off, hA, hb, hc⟩ := h (by omega)
  exact ⟨b, off, _, hA, hb, rfl, hc j hj⟩

theorem ret_tk {bs : List Int} {n l e : Int} {w : World} (hn : n = tkNum bs) (hl : l = tkLen bs) (he : e = tkErr bs) :
    Ending.returned (.tuple #[.int .u64 n, .int .i64 l, .int .i64 e]) = .returned (.tuple #[.int .u64 (tkNum bs), .int .i64 (tkLen bs), .int .i64 (tkErr bs)]) ∧ w = w := by
  rw [hn, hl, he]; exact ⟨rfl, rfl⟩

set_option maxHeartbeats 1000000 in
theorem take_any (A : Option Addr) (cap : Nat) (bs : List Int) (B : Nat) (w : World) (hrow : Row .u8 w B A bs) (hby : Bytes bs) (hl : bs.length ≤ 1000000000) :
    Calls Try.prog 31 #[.slice A bs.length cap] w fun e w' => e = .returned (.tuple #[.int .u64 (tkNum bs), .int .i64 (tkLen bs), .int .i64 (tkErr bs)]) ∧ w = w' := by
  go_enter Try.func31, Try.ntmps31
  go_wp2
  all_goals
    go_loop [5, 11] (TakeRel bs) (fun _ i => 10 - (intOf i).toNat)
    case atStart => exact ⟨0, 0, by omega, by omega, rfl, rfl, fun j hj => by omega, fun _ => by simp [val]⟩
    case round =>
      obtain ⟨k, m, hk, hk10, rfl, rfl, hbig, hm⟩ := hrel
      have HM := Lib.hid hm; clear hm
      by_cases hlt : k < 10 ∧ k < bs.length
      · obtain ⟨hlt1, hlt2⟩ := hlt
        obtain ⟨b, off, x, rfl, hb, hx, hc⟩ := row_at hrow hlt2
        have hxb := hby k (by omega)
        rw [← hx] at hxb
        obtain ⟨hx0, hx1⟩ := hxb
        have HX := Lib.hid hx; clear hx
        by_cases h128 : 128 ≤ x
        · go_wp2_with fail
          refine ⟨⟨k + 1, _, by omega, by omega, by go_num, rfl, allBig_succ hbig (by rw [← HX.out]; exact h128), fun h9 => ?_⟩, by simp [intOf]; omega⟩
          rw [HM.out (by omega), or_step (by omega) hlt2 HX.out hx0 hx1 (by omega)]
        · have hts := tk_stop (by omega) hlt2 hbig HX.out (by omega)
          have HT := Lib.hid hts; clear hts
          have c := checkLast_any k x w (by omega) (by omega) hx0 hx1
          rcases lastErr_cases k x with ⟨he, -⟩ | he | ⟨he, h9⟩
          · have hF := tk_fail (bs := bs) (by rw [HT.out.1, he]; omega)
            have HE := Lib.hid (HT.out.1.trans he)
            have HF := Lib.hid hF; clear hF
            rw [he] at c; clear he
            have C := Lib.hid c; clear c
            go_wp2_with (go_at_call 33; refine C.out.mono ?_; rintro e w' ⟨rfl, rfl⟩)
            go_ret3
            exact ret_tk HF.out.1.symm HF.out.2.symm HE.out.symm
          · have hF := tk_fail (bs := bs) (by rw [HT.out.1, he]; omega)
            have HE := Lib.hid (HT.out.1.trans he)
            have HF := Lib.hid hF; clear hF
            rw [he] at c; clear he
            have C := Lib.hid c; clear c
            go_wp2_with (go_at_call 33; refine C.out.mono ?_; rintro e w' ⟨rfl, rfl⟩)
            go_ret3
            exact ret_tk HF.out.1.symm HF.out.2.symm HE.out.symm
          · have hF := tk_ok (bs := bs) (by rw [HT.out.1, he])
            have HE := Lib.hid (HT.out.1.trans he)
            have HF := Lib.hid hF; clear hF
            rw [he] at c; clear he
            have C := Lib.hid c; clear c
            have H9 := Lib.hid h9; clear h9
            go_wp2_with (go_at_call 33; refine C.out.mono ?_; rintro e w' ⟨rfl, rfl⟩)
            go_ret3
            refine ret_tk ?_ ?_ HE.out.symm
            · rw [HF.out.1, HT.out.2, HM.out (by omega)]
              exact or_step (by omega) hlt2 HX.out hx0 hx1 (fun h => H9.out (by omega))
            · rw [HF.out.2, HT.out.2]
      · by_cases h10 : 10 ≤ bs.length
        · have hk' : k = 10 := by omega
          have he := tk_long h10 (hk' ▸ hbig)
          have HE := Lib.hid he
          have HF := Lib.hid (tk_fail (bs := bs) (by omega)); clear he
          obtain rfl := hk'
          go_wp2_with fail
          all_goals (go_ret3; exact ret_tk HF.out.1.symm HF.out.2.symm HE.out.symm)
        · have hk' : k = bs.length := by omega
          have he := tk_short (by omega) (hk' ▸ hbig)
          have HE := Lib.hid he
          have HF := Lib.hid (tk_fail (bs := bs) (by omega)); clear he
          obtain rfl := hk'
          go_wp2_with fail
          all_goals (go_ret3; exact ret_tk HF.out.1.symm HF.out.2.symm HE.out.symm)
end Go.Proofs.Ytkdmhcllnpiakaa
