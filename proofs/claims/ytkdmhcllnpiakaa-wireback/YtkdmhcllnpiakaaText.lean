/-
  wire's Writer: Text.
-/
import Derived.Test.YtkdmhcllnpiakaaWriter
import Derived.Laws.IdiomStrings
namespace Go.Proofs.Ytkdmhcllnpiakaa
open Go.RowKit
set_option linter.unusedVariables false

/-- The bytes of a string, as numbers. -/
def sb (s : ByteArray) : List Int := s.data.toList.map (fun c => (c.toNat : Int))
theorem sb_length (s : ByteArray) : (sb s).length = s.size := by simp [sb]
/-- The bytes that a string is written as. -/
def tx (s : ByteArray) : List Int := encs [(s.size : Int)] ++ sb s

theorem row_lit {k : IntKind} {w : World} (e : TypeId) (zs : List Int) : Row k (w.alloc (.cells (zs.map (Value.int k)).toArray e)) (w.heap.size + 1) (some ⟨w.heap.size, 0, none⟩) zs := by
  intro _
  refine ⟨w.heap.size, 0, rfl, by omega, fun j hj => ?_⟩
  have : (w.alloc (.cells (zs.map (Value.int k)).toArray e)).cell? ⟨w.heap.size, 0 + j, none⟩ = (zs.map (Value.int k)).toArray[0 + j]? := cell_of_row _ _ _ _ _ (0, 0) (heap_alloc_new w _)
  rw [this]
  simp [List.getD_eq_getElem?_getD, List.getElem?_eq_getElem hj]
theorem words1 {x : Int} (h0 : 0 ≤ x) (h1 : x < 18446744073709551616) : Words [x] := by
  intro j hj
  match j, hj with
  | 0, _ => exact ⟨h0, h1⟩

theorem conv_sb (s : ByteArray) (w : World) : ∃ c w', (convert 9 26 (.string s)).run Try.prog w = .ok (.slice (some ⟨w.heap.size, 0, none⟩) s.size c) w' ∧ Below w.heap.size w w' ∧ Row .u8 w' w'.heap.size (some ⟨w.heap.size, 0, none⟩) (sb s) := by
  refine ⟨_, _, run_bytes_of_string (P := Try.prog) w 9 26 5 s Try.underlying9 Try.underlying26 Try.underlying5, (Below.refl _ _).drew.alloc (Nat.le_refl _) _, ?_⟩
  intro h0
  refine ⟨w.heap.size, 0, rfl, by simp, fun j hj => ?_⟩
  rw [sb_length] at hj
  have hc := cell_of_row (w.drew.alloc (Obj.cells (bytesRow s (grownCap w s.size 0 5)) 5 ((bytesRow s (grownCap w s.size 0 5)).size, (bytesRow s (grownCap w s.size 0 5)).size + 1))) w.heap.size (0 + j) _ _ _ (heap_alloc_new w.drew _)
  rw [hc, Nat.zero_add, bytesRow_at s _ j hj]
  have hj' : j < s.data.size := hj
  simp [sb, List.getD_eq_getElem?_getD, Array.getElem?_eq_getElem hj']

def TxRel (p : Nat) (v : Value) (bs : List Int) (s : ByteArray) (w : World) (i : Value) (wr : World) : Prop :=
  (i = .int .i64 0 ∧ wr = w) ∨ (i = .int .i64 1 ∧ ∃ v', Wr wr p v' (bs ++ tx s) ∧ Kept (fun k => k = p ∨ v.ownBlock = some k) w wr ∧ Fresh w v v')

set_option maxHeartbeats 1000000 in
theorem text_any (p : Nat) (v : Value) (bs : List Int) (b off c : Nat) (s : ByteArray) (w : World) (hw : Wr w p v bs) (hr : w.cell? ⟨b, off, none⟩ = some (.string s)) (hl : bs.length ≤ 10000000000) (hs : s.size ≤ 1000000) :
    Calls Try.prog 8 #[.pointer (some ⟨p, 0, none⟩), .slice (some ⟨b, off, none⟩) 1 c] w (WrPost p v (bs ++ tx s) w) := by
  have HW := Lib.hid hw; clear hw
  have HR := Lib.hid hr; clear hr
  go_enter Try.func8, Try.ntmps8
  go_wp2
  go_loopw [10] (TxRel p v bs s w) (fun i _ => 1 - (intOf i).toNat)
  case atStart => exact .inl ⟨rfl, rfl⟩
  case round =>
    rcases hrel with ⟨rfl, rfl⟩ | ⟨rfl, v', hw', hk', hf'⟩
    · have hc := HR.out
      go_wp2_with fail
      have hb0 : Below wr.heap.size wr (wr.alloc (.cells #[.int .u64 (s.size : Int)] 27)) := (Below.refl _ _).alloc (Nat.le_refl _) _
      refine (num_any p v bs (some ⟨wr.heap.size, 0, none⟩) 1 [(s.size : Int)] _ (HW.out.below hb0) (by simpa using row_lit (k := .u64) (w := wr) 27 [(s.size : Int)]) (words1 (by omega) (by omega)) (by omega) (by simp)).mono ?_
      rintro e w1 ⟨v1, rfl, hw1, hk1, hf1⟩
      obtain ⟨hc1, hfr1, ho1⟩ := hw1
      clear hc
      have hel : (encs [(s.size : Int)]).length ≤ 10 := by
        have h1 := encs_length [(s.size : Int)] (words1 (by omega) (by omega)) 1 (Nat.le_refl _)
        have h2 := sizes_le [(s.size : Int)] (words1 (by omega) (by omega)) 1 (Nat.le_refl _)
        simp at h1 h2; omega
      have hsl := sb_length s
      obtain ⟨cb, w2, hrun, hb2, hr2⟩ := conv_sb s w1
      have hw2 : Wr w2 p v1 (bs ++ encs [(s.size : Int)]) := Wr.below ⟨hc1, hfr1, ho1⟩ hb2
      have c2 := add_any p v1 _ _ cb _ (sb s) w2 hw2 hr2 (fun h => by cases h) (by simp; omega)
      rw [hsl] at c2
      have C2 := Lib.hid c2
      clear c2 hsl hel hr2 hw2 hc1 hfr1 ho1 hb0
      go_wp2_with fail
      refine C2.out.mono ?_
      rintro e w3 ⟨v3, rfl, hw3, hk3, hf3⟩
      go_wp2
      have hsz : wr.heap.size ≤ (wr.alloc (.cells #[.int .u64 (s.size : Int)] 27)).heap.size := by simp
      have hka : Kept (fun k => k = p ∨ v.ownBlock = some k) wr w1 := (kept_alloc wr _ _).trans hk1
      refine ⟨.inr ⟨rfl, v3, ?_, ?_, ?_⟩, by simp [intOf]⟩
      · rw [List.append_assoc] at hw3; exact hw3
      · exact ((hka.trans (kept_below hb2 _)).trans' hk3 (hf1.then hsz))
      · exact (hf1.trans hf3 (Nat.le_trans hk1.size hb2.size)).imp id (fun g k hk => Nat.le_trans hsz (g k hk))
    · go_wp2
      go_end0
      exact ⟨v', rfl, hw', hk', hf'⟩
end Go.Proofs.Ytkdmhcllnpiakaa
