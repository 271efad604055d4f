/-
  Plain: the bytes of the number that some bytes begin with are those bytes.
-/
import Derived.Test.YtkdmhcllnpiakaaRef
import Derived.Test.YtkdmhcllnpiakaaPutMath
import Derived.Laws.BytesArg
namespace Go.Proofs.Ytkdmhcllnpiakaa
open Go.RowKit
set_option linter.unusedVariables false

/-- Bytes as a number's encoding has them. -/
def Canon : List Int → Prop
  | [] => False
  | b :: r => if r = [] then 0 ≤ b ∧ b < 128 else 128 ≤ b ∧ b ≤ 255 ∧ val r ≠ 0 ∧ Canon r

theorem enc_val : ∀ l : List Int, Canon l → val l < 18446744073709551616 → enc (val l).toNat = l := by
  intro l
  induction l with
  | nil => intro h; exact h.elim
  | cons b r ih =>
    intro h hlt
    simp only [Canon] at h
    split at h
    · rename_i hr
      subst hr
      have e : val [b] = b := by simp [val]; omega
      rw [e, enc_small (by omega)]
      simp; omega
    · obtain ⟨h1, h2, h3, h4⟩ := h
      have hv := val_nonneg r
      have e : val (b :: r) = (b - 128) + 128 * val r := by simp only [val]; omega
      rw [e] at hlt ⊢
      rw [enc_big (by omega) (by omega)]
      have e1 : ((b - 128) + 128 * val r).toNat / 128 = (val r).toNat := by omega
      rw [e1, ih h4 (by omega)]
      congr 1
      omega
theorem val_pos_of : ∀ (k : Nat) (bs : List Int), k < bs.length → 0 < bs.getD k 0 → bs.getD k 0 < 128 → 0 < val (bs.take (k + 1)) := by
  intro k bs hk h0 h1
  rw [take_succ_getD bs k hk, val_append]
  have := val_nonneg (bs.take k)
  have hp : (0 : Int) < 128 ^ (bs.take k).length := Int.pow_pos (by omega)
  have he : bs.getD k 0 % 128 = bs.getD k 0 := by omega
  rw [he]
  have := Int.mul_pos hp h0
  omega
theorem canon_take : ∀ (k : Nat) (bs : List Int), k < bs.length → Bytes bs → AllBig k bs → bs.getD k 0 < 128 → (0 < k → bs.getD k 0 ≠ 0) → Canon (bs.take (k + 1)) := by
  intro k
  induction k with
  | zero =>
    intro bs hk hb _ hs _
    cases bs with
    | nil => simp at hk
    | cons b r =>
      have := hb 0 (by simp)
      simp at this hs
      simp [Canon]; omega
  | succ k ih =>
    intro bs hk hb hbig hs hne
    cases bs with
    | nil => simp at hk
    | cons b r =>
      have h0 := hb 0 (by simp)
      have h1 := hbig 0 (by omega)
      have hk' : k < r.length := by simpa using hk
      have hs' : r.getD k 0 < 128 := by simpa using hs
      have hne' : r.getD k 0 ≠ 0 := by have := hne (by omega); simpa using this
      have hbr : Bytes r := fun j hj => by have := hb (j + 1) (by simp; omega); simpa using this
      have hc := ih r hk' hbr (fun j hj => by have := hbig (j + 1) (by omega); simpa using this) hs' (fun _ => hne')
      simp at h0 h1
      simp only [List.take_succ_cons, Canon]
      have hv := val_pos_of k r hk' (by have := hbr k hk'; omega) hs'
      rw [if_neg (by intro e; have := congrArg List.length e; simp at this; rcases this with h | h <;> simp_all)]
      exact ⟨h1, h0.2, by omega, hc⟩

theorem tk_ok_facts {bs : List Int} (h : tkErr bs = 0) : lead 10 bs < 10 ∧ lead 10 bs < bs.length ∧ (lead 10 bs = 9 → bs.getD 9 0 ≤ 1) ∧ (0 < lead 10 bs → bs.getD (lead 10 bs) 0 ≠ 0) := by
  have h1 := lead_le 10 bs
  have h2 := lead_le_len 10 bs
  unfold tkErr at h
  split at h
  · omega
  · split at h
    · omega
    · split at h
      · omega
      · split at h
        · omega
        · refine ⟨by omega, by omega, fun h9 => ?_, fun h0 hz => ?_⟩
          · omega
          · simp_all
/-- A number has no other bytes than its own. -/
theorem enc_tk {bs : List Int} (hb : Bytes bs) (h : tkErr bs = 0) : ∃ t : Nat, tkLen bs = t ∧ 1 ≤ t ∧ t ≤ bs.length ∧ 0 ≤ tkNum bs ∧ tkNum bs < 18446744073709551616 ∧ encs [tkNum bs] = bs.take t := by
  obtain ⟨h1, h2, h3, h4⟩ := tk_ok_facts h
  obtain ⟨hn, hl⟩ := tk_ok h
  have hs := lead_small 10 bs h1 h2
  have hb1 := hb _ h2
  have hlt : val (bs.take (lead 10 bs + 1)) < 18446744073709551616 := by
    have := valFrom_lt (bs := bs) (k := lead 10 bs) (j := 0) (by omega) h2 (by omega) rfl hb1.1 (fun h9 => by rw [h9]; exact h3 h9)
    simpa [valFrom] using this
  refine ⟨lead 10 bs + 1, by rw [hl]; omega, by omega, by omega, by rw [hn]; exact val_nonneg _, by rw [hn]; exact hlt, ?_⟩
  simp only [encs, List.append_nil, hn]
  exact enc_val _ (canon_take _ bs h2 hb (lead_big 10 bs) hs h4) hlt

/-- string(b) of a row of bytes. -/
theorem conv_row {P : Program} {w : World} {B : Nat} {A : Option Addr} {zs : List Int} (src e dst : TypeId) (hs : P.underlying src = some (.slice e)) (he : P.underlying e = some (.int .u8)) (hd : P.underlying dst = some .string)
    (h : Row .u8 w B A zs) (cap : Nat) : (convert src dst (.slice A zs.length cap)).run P w = .ok (.string (strOfNums zs)) w := by
  rcases Nat.eq_zero_or_pos zs.length with h0 | h0
  · have hz : zs = [] := List.eq_nil_of_length_eq_zero h0
    subst hz
    cases A with
    | none => exact run_convert_bytes_nil w src e hs he 0 cap dst hd
    | some ad =>
      simp only [List.length_nil]
      rw [run_convert_bytes_string w src dst e _ 0 cap hs he hd, run_bytesToString w ad 0 cap [] (by simp [loadCells, loadCellsFrom])]
      rfl
  · obtain ⟨b, off, rfl, _, hc⟩ := h h0
    exact run_convert_bytes_arg w src e hs he b off zs.length cap zs rfl hc dst hd
end Go.Proofs.Ytkdmhcllnpiakaa
