/-
  The document's own Take (tendrilref01.Take): what it answers.
-/
import Derived.Test.YtkdmhcllnpiakaaTake
namespace Go.Proofs.Ytkdmhcllnpiakaa
open Go.RowKit

/-- The value from byte j on. -/
def valFrom (bs : List Int) (k j : Nat) : Int := val ((bs.take (k + 1)).drop j)

theorem valFrom_step {bs : List Int} {k j : Nat} {x : Int} (hj : j < k) (hk : k < bs.length) (hx : x = bs.getD j 0) : valFrom bs k j = x % 128 + 128 * valFrom bs k (j + 1) := by
  unfold valFrom
  have hl : j < (bs.take (k + 1)).length := by simp; omega
  rw [List.drop_eq_getElem_cons hl]
  simp only [val]
  have : (bs.take (k + 1))[j] = x := by
    rw [List.getElem_take, hx]; simp [List.getD_eq_getElem?_getD, List.getElem?_eq_getElem (show j < bs.length by omega)]
  rw [this]
theorem valFrom_last {bs : List Int} {k : Nat} {x : Int} (hk : k < bs.length) (hx : x = bs.getD k 0) (h0 : 0 ≤ x) (h1 : x < 128) : valFrom bs k k = x := by
  unfold valFrom
  rw [take_succ_getD bs k hk, List.drop_append_of_le_length (by simp; omega)]
  have : (bs.take k).drop k = [] := by simp
  rw [this, ← hx]
  simp [val]; omega
theorem valFrom_nonneg (bs : List Int) (k j : Nat) : 0 ≤ valFrom bs k j := val_nonneg _
theorem valFrom_lt {bs : List Int} {k j : Nat} {x : Int} (hj : j ≤ k) (hk : k < bs.length) (hk9 : k ≤ 9) (hx : x = bs.getD k 0) (h0 : 0 ≤ x) (h9 : k = 9 → x ≤ 1) : valFrom bs k j < 18446744073709551616 := by
  unfold valFrom
  rw [take_succ_getD bs k hk, List.drop_append_of_le_length (by simp; omega), val_append, ← hx]
  have h1 := val_lt ((bs.take k).drop j)
  have hlen : ((bs.take k).drop j).length = k - j := by simp; omega
  rw [hlen] at h1 ⊢
  have hy : x % 128 ≤ 127 := by omega
  have hy9 : k = 9 → x % 128 ≤ 1 := fun h => by have := h9 h; omega
  have hy0 : 0 ≤ x % 128 := by omega
  generalize x % 128 = y at *
  generalize val ((bs.take k).drop j) = v at *
  have hd : k - j ≤ 9 := by omega
  have hd9 : k - j = 9 → y ≤ 1 := fun h => hy9 (by omega)
  generalize k - j = d at *
  clear hx h0 h9 hy9 hlen hk hj hk9
  rcases (show d = 0 ∨ d = 1 ∨ d = 2 ∨ d = 3 ∨ d = 4 ∨ d = 5 ∨ d = 6 ∨ d = 7 ∨ d = 8 ∨ d = 9 by omega) with rfl | rfl | rfl | rfl | rfl | rfl | rfl | rfl | rfl | rfl <;> simp at h1 hd9 ⊢ <;> omega

def RefKRel (bs : List Int) (i : Value) : Prop := ∃ k : Nat, k ≤ bs.length ∧ k ≤ 10 ∧ i = .int .i64 k ∧ AllBig k bs
def RefNRel (bs : List Int) (k : Nat) (n i : Value) : Prop := ∃ j : Nat, j ≤ k ∧ i = .int .i64 ((j : Int) - 1) ∧ n = .int .u64 (valFrom bs k j)

set_option maxHeartbeats 1000000 in
theorem refTake_any (A : Option Addr) (cap : Nat) (bs : List Int) (B : Nat) (w : World) (hrow : Row .u8 w B A bs) (hby : Bytes bs) (hl : bs.length ≤ 1000000000) :
    Calls Try.prog 28 #[.slice A bs.length cap] w fun e w' => e = .returned (.tuple #[.int .u64 (tkNum bs), .int .i64 (tkLen bs), .int .i64 (tkErr bs)]) ∧ w = w' := by
  go_enter Try.func28, Try.ntmps28
  go_wp2
  go_loop [5] (RefKRel bs) (fun i => 10 - (intOf i).toNat)
  case atStart => exact ⟨0, by omega, by omega, rfl, fun j hj => by omega⟩
  case round =>
    obtain ⟨k, hk, hk10, rfl, hbig⟩ := hrel
    by_cases hlt : k < bs.length
    · by_cases hlt1 : k < 10
      · obtain ⟨b, off, x, rfl, hb, hx, hc⟩ := row_at hrow hlt
        have hxb := hby k (by omega)
        rw [← hx] at hxb
        obtain ⟨hx0, hx1⟩ := hxb
        have HX := Lib.hid hx; clear hx
        by_cases h128 : 127 < x
        · go_wp2_with fail
          exact ⟨⟨k + 1, by omega, by omega, by go_num, allBig_succ hbig (by rw [← HX.out]; omega)⟩, by simp [intOf]; omega⟩
        · have hts := tk_stop (by omega) hlt hbig HX.out (by omega)
          have HT := Lib.hid hts; clear hts
          have hn10 : ((k : Int) == 10) = false := by simp; omega
          have hnl : ((k : Int) == (bs.length : Int)) = false := by simp; omega
          by_cases hf5 : k = 9 ∧ 1 < x
          · obtain ⟨rfl, hx2⟩ := hf5
            have he5 : lastErr ((9 : Nat) : Int) x = 5 := by simp [lastErr, hx2]
            have HE := Lib.hid (HT.out.1.trans he5)
            have HF := Lib.hid (tk_fail (bs := bs) (by rw [HE.out]; omega)); clear he5
            go_wp2_with fail
            all_goals (go_ret3; exact ret_tk HF.out.1.symm HF.out.2.symm HE.out.symm)
          · have h9 : k = 9 → x ≤ 1 := fun h => by omega
            have H9 := Lib.hid h9; clear h9
            by_cases hf2 : 0 < k ∧ x = 0
            · obtain ⟨hk0, rfl⟩ := hf2
              have he2 : lastErr k 0 = 2 := by simp [lastErr]; omega
              have HE := Lib.hid (HT.out.1.trans he2)
              have HF := Lib.hid (tk_fail (bs := bs) (by rw [HE.out]; omega)); clear he2 hf5
              by_cases hk9 : k = 9
              · obtain rfl := hk9
                go_wp2_with fail
                all_goals (go_ret3; exact ret_tk HF.out.1.symm HF.out.2.symm HE.out.symm)
              · have hn9 : ((k : Int) == 9) = false := by simp; omega
                go_wp2_with fail
                all_goals (go_ret3; exact ret_tk HF.out.1.symm HF.out.2.symm HE.out.symm)
            · have he0 : lastErr k x = 0 := by unfold lastErr; rw [if_neg (by omega), if_neg (by omega)]
              have HE := Lib.hid (HT.out.1.trans he0)
              have HF := Lib.hid (tk_ok (bs := bs) HE.out); clear he0
              have hn9 : k = 9 ∨ ((k : Int) == 9) = false := by simp; omega
              have hx00 : k = 0 ∨ 0 < k ∧ (x == 0) = false := by simp; omega
              have HB := Lib.hid hbig
              have HV := Lib.hid (valFrom_last hlt HX.out hx0 (by omega))
              have HL := Lib.hid (fun j hj => valFrom_lt (j := j) hj hlt (by omega) HX.out hx0 H9.out)
              clear hf2 hf5 hbig
              obtain ⟨kk, hkk⟩ : ∃ kk, kk = k := ⟨k, rfl⟩
              rw [← hkk] at HT HV HL HB
              have hkl : kk < bs.length := by omega
              have HK := Lib.hid hkk; clear hkk
              have hend : (kk : Int) - 1 < 100 := by have := HK.out; omega
              have hgo : ∀ a : Prop, ((k = 9 ∧ ((x == 0) = false) ∧ decide (1 < x) = false → a) ∧ (k = 0 ∧ ((k : Int) == 9) = false → a) ∧ (((k : Int) == 9) = false ∧ 0 < k ∧ (x == 0) = false → a)) → a := by
                intro a ⟨h1, h2, h3⟩
                rcases hn9 with h | h
                · exact h1 ⟨h, by rcases hx00 with h' | h' <;> first | omega | exact h'.2, by have := H9.out h; simp; omega⟩
                · rcases hx00 with h' | h'
                  · exact h2 ⟨h', h⟩
                  · exact h3 ⟨h, h'.1, h'.2⟩
              clear hn9 hx00
              refine hgo _ ⟨fun h => ?_, fun h => ?_, fun h => ?_⟩
              all_goals clear hgo
              all_goals first
                | (have hxb := h.2.2; have hxa := h.2.1; obtain ⟨rfl, -⟩ := h; go_wp2_with fail)
                | (obtain ⟨rfl, hxa⟩ := h; rw [Nat.add_zero] at hc; go_wp2_with fail)
                | (obtain ⟨hka, hkb, hxa⟩ := h; go_wp2_with fail)
              all_goals
                go_loop [6, 7] (RefNRel bs kk) (fun _ i => (intOf i + 1).toNat)
                case atStart => exact ⟨kk, Nat.le_refl _, by have := HK.out; go_num, by rw [HV.out]⟩
                case round =>
                  obtain ⟨j, hj, rfl, rfl⟩ := hrel
                  have hvn := valFrom_nonneg bs kk j
                  have hvl := HL.out j hj
                  rcases j with _ | j
                  · go_wp2_with fail
                    go_ret3
                    refine ret_tk ?_ ?_ HE.out.symm
                    · rw [HF.out.1, HT.out.2]; rfl
                    · have := HK.out; rw [HF.out.2, HT.out.2]; omega
                  · obtain ⟨b', off', y, hA, hb', hy, hcy⟩ := row_at hrow (show j < bs.length by omega)
                    have hst := valFrom_step (by omega) hkl hy
                    have hyb := hby j (by omega)
                    have hyg := HB.out j (by omega)
                    rw [← hy] at hyb hyg
                    have hl0 := HL.out j (by omega)
                    have e1 : ((j + 1 : Nat) : Int) - 1 = (j : Int) := by omega
                    rw [e1]
                    have hw : valFrom bs kk j = 128 * valFrom bs kk (j + 1) + (y - 128) := by rw [hst]; omega
                    have HW := Lib.hid hw; clear hw hst hy e1
                    obtain ⟨hy0, hy1⟩ := hyb
                    have hsum : 128 * valFrom bs kk (j + 1) + (y - 128) < 18446744073709551616 := by rw [← HW.out]; exact hl0
                    obtain ⟨rfl, rfl⟩ : b' = b ∧ off' = off := by simpa using hA.symm
                    clear hA
                    go_wp2_with fail
                    refine ⟨⟨j, by omega, by go_num, ?_⟩, by simp [intOf]⟩
                    rw [HW.out]
      · have hk' : k = 10 := by omega
        have he := tk_long (by omega) (hk' ▸ hbig)
        have HE := Lib.hid he
        have HF := Lib.hid (tk_fail (bs := bs) (by omega)); clear he
        obtain rfl := hk'
        go_wp2_with fail
        all_goals (go_ret3; exact ret_tk HF.out.1.symm HF.out.2.symm HE.out.symm)
    · by_cases h10 : k = 10
      · have he := tk_long (by omega) (h10 ▸ hbig)
        have HE := Lib.hid he
        have HF := Lib.hid (tk_fail (bs := bs) (by omega)); clear he
        obtain rfl := h10
        go_wp2_with fail
        all_goals (go_ret3; exact ret_tk HF.out.1.symm HF.out.2.symm HE.out.symm)
      · have hk' : k = bs.length := by omega
        have he := tk_short (by omega) (hk' ▸ hbig)
        have HE := Lib.hid he
        have HF := Lib.hid (tk_fail (bs := bs) (by omega)); clear he
        have hn10 : ((bs.length : Int) == 10) = false := by simp; omega
        obtain rfl := hk'
        go_wp2_with fail
        all_goals (go_ret3; exact ret_tk HF.out.1.symm HF.out.2.symm HE.out.symm)
end Go.Proofs.Ytkdmhcllnpiakaa
