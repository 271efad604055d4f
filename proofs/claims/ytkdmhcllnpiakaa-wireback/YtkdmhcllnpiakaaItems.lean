/-
  Numbers and strings as they are written one behind the other, and read back: plain mathematics.
-/
import Derived.Test.YtkdmhcllnpiakaaReads
namespace Go.Proofs.Ytkdmhcllnpiakaa
open Go.RowKit
set_option linter.unusedVariables false

/-- An item: is it a string; its number; its string. -/
abbrev Item3 := Bool × Int × ByteArray
def noItem : Item3 := (false, 0, ByteArray.empty)
def ib (x : Item3) : List Int := if x.1 = true then tx x.2.2 else encs [x.2.1]
def ibs : List Item3 → List Int
  | [] => []
  | x :: r => ib x ++ ibs r
theorem ibs_append (a b : List Item3) : ibs (a ++ b) = ibs a ++ ibs b := by
  induction a with
  | nil => rfl
  | cons x r ih => simp [ibs, ih]
def Good (x : Item3) : Prop := 0 ≤ x.2.1 ∧ x.2.1 < 18446744073709551616 ∧ x.2.2.size ≤ 70000

theorem encs1 {n : Int} (h0 : 0 ≤ n) : encs [n] = enc n.toNat := by simp [encs]
theorem encs1_length {n : Int} (h0 : 0 ≤ n) (h1 : n < 18446744073709551616) : (encs [n]).length ≤ 10 ∧ 1 ≤ (encs [n]).length := by
  rw [encs1 h0, enc_length (by omega)]
  exact ⟨nlen_le _ (by omega), nlen_pos _⟩
theorem tx_length {s : ByteArray} (hs : s.size ≤ 1000000) : (tx s).length ≤ s.size + 10 ∧ 1 ≤ (tx s).length := by
  have := encs1_length (n := (s.size : Int)) (by omega) (by omega)
  simp [tx, sb_length]; omega
theorem ib_length {x : Item3} (h : Good x) : (ib x).length ≤ 70010 ∧ 1 ≤ (ib x).length := by
  obtain ⟨h0, h1, h2⟩ := h
  unfold ib
  split
  · have := tx_length (s := x.2.2) (by omega); omega
  · have := encs1_length h0 h1; omega
theorem ibs_length : ∀ l : List Item3, (∀ x ∈ l, Good x) → (ibs l).length ≤ 70010 * l.length
  | [], _ => by simp [ibs]
  | x :: r, h => by
    have h1 := ib_length (h x (by simp))
    have h2 := ibs_length r (fun y hy => h y (by simp [hy]))
    simp [ibs]; omega
theorem bytes_sb (s : ByteArray) : Bytes (sb s) := by
  intro j hj
  rw [sb_length] at hj
  have hj' : j < s.data.size := hj
  simp [sb, List.getD_eq_getElem?_getD, Array.getElem?_eq_getElem hj']
  have := s.data[j].toNat_lt
  omega
theorem bytes_encs1 {n : Int} (h0 : 0 ≤ n) (h1 : n < 18446744073709551616) : Bytes (encs [n]) := by rw [encs1 h0]; exact bytes_enc (by omega)
theorem bytes_ib {x : Item3} (h : Good x) : Bytes (ib x) := by
  obtain ⟨h0, h1, h2⟩ := h
  unfold ib
  split
  · exact bytes_append (bytes_encs1 (by omega) (by omega)) (bytes_sb _)
  · exact bytes_encs1 h0 h1
theorem bytes_ibs : ∀ l : List Item3, (∀ x ∈ l, Good x) → Bytes (ibs l)
  | [], _ => fun j hj => by simp [ibs] at hj
  | x :: r, h => bytes_append (bytes_ib (h x (by simp))) (bytes_ibs r (fun y hy => h y (by simp [hy])))
theorem str_sb (s : ByteArray) : strOfNums (sb s) = s := by
  have h : (strOfNums (sb s)).data.toList = s.data.toList := by
    rw [strOfNums_data, sb, List.map_map]
    conv => rhs; rw [← List.map_id s.data.toList]
    apply List.map_congr_left
    intro c _
    simp
  have h2 : (strOfNums (sb s)).data = s.data := Array.toList_inj.1 h
  cases s; simp_all [strOfNums]

theorem tk_encs {n : Int} (rest : List Int) (h0 : 0 ≤ n) (h1 : n < 18446744073709551616) : tkErr (encs [n] ++ rest) = 0 ∧ tkNum (encs [n] ++ rest) = n ∧ tkLen (encs [n] ++ rest) = (encs [n]).length := by
  have := tk_enc (x := n.toNat) rest (by omega)
  rw [encs1 h0, enc_length (by omega)]
  refine ⟨this.1, this.2.1.trans (by omega), this.2.2⟩
theorem num_back {n : Int} (rest : List Int) (h0 : 0 ≤ n) (h1 : n < 18446744073709551616) : rNumE (encs [n] ++ rest) 0 n = 0 ∧ rNumV (encs [n] ++ rest) 0 n = n ∧ rNumR (encs [n] ++ rest) 0 n = rest := by
  obtain ⟨e1, e2, e3⟩ := tk_encs rest h0 h1
  have e : rNumE (encs [n] ++ rest) 0 n = 0 := by simp [rNumE, tkE, e1, e2]
  refine ⟨e, by simp [rNumV, e, e2], ?_⟩
  simp only [rNumR, e, e3]
  simp
theorem txt_back {s : ByteArray} (rest : List Int) (hs : s.size ≤ 1000000) : rTxtE (tx s ++ rest) 0 s.size = 0 ∧ rTxtV (tx s ++ rest) 0 s.size = sb s ∧ rTxtR (tx s ++ rest) 0 s.size = rest := by
  have hl := sb_length s
  obtain ⟨e1, e2, e3⟩ := tk_encs (n := (s.size : Int)) (sb s ++ rest) (by omega) (by omega)
  have ha : tx s ++ rest = encs [(s.size : Int)] ++ (sb s ++ rest) := by simp [tx]
  have e : rTxtE (encs [(s.size : Int)] ++ (sb s ++ rest)) 0 s.size = 0 := by
    simp only [rTxtE, tkE, e1, e2, e3]
    simp [hl]
    omega
  rw [ha]
  refine ⟨e, ?_, ?_⟩
  · simp only [rTxtV, e, e2, e3]
    simp [hl]
  · simp only [rTxtR, e, e2, e3]
    simp [hl]
end Go.Proofs.Ytkdmhcllnpiakaa
