/-
  Of: an index of labels; and the law's own example.
-/
import Derived.Test.YtlhhfcnagkhllaaKCmp
namespace Go.Proofs.Ytlhhfcnagkhllaa
open Go.RowKit
set_option linter.unusedVariables false

/-- A slice of labels. -/
abbrev noLab : Lab := ⟨ByteArray.empty, ByteArray.empty, 0⟩
def LRow (w : World) (B : Nat) (A : Option Addr) (ls : List Lab) : Prop :=
  0 < ls.length → ∃ b off, A = some ⟨b, off, none⟩ ∧ b < B ∧ ∀ j, (hj : j < ls.length) → w.cell? ⟨b, off + j * 3, none⟩ = some (.string ls[j].tag) ∧ w.cell? ⟨b, off + j * 3 + 1, none⟩ = some (.string ls[j].key) ∧ w.cell? ⟨b, off + j * 3 + 2, none⟩ = some (.int .i64 ls[j].n)
theorem lrow_at {w : World} {B : Nat} {A : Option Addr} {ls : List Lab} (h : LRow w B A ls) {j : Nat} (hj : j < ls.length) :
    ∃ b off L, A = some ⟨b, off, none⟩ ∧ b < B ∧ L = ls[j] ∧ w.cell? ⟨b, off + j * 3, none⟩ = some (.string L.tag) ∧ w.cell? ⟨b, off + j * 3 + 1, none⟩ = some (.string L.key) ∧ w.cell? ⟨b, off + j * 3 + 2, none⟩ = some (.int .i64 L.n) := by
  obtain ⟨b, off, hA, hb, hc⟩ := h (by omega)
  exact ⟨b, off, _, hA, hb, rfl, hc j hj⟩
theorem LRow.below {w w' : World} {B : Nat} {A : Option Addr} {ls : List Lab} (h : LRow w B A ls) (hb : Below B w w') : LRow w' B A ls := by
  intro h0
  obtain ⟨b, off, hA, hlt, hc⟩ := h h0
  exact ⟨b, off, hA, hlt, fun j hj => ⟨(hb.cell (p := ⟨b, off + j * 3, none⟩) hlt).trans (hc j hj).1, (hb.cell (p := ⟨b, off + j * 3 + 1, none⟩) hlt).trans (hc j hj).2.1, (hb.cell (p := ⟨b, off + j * 3 + 2, none⟩) hlt).trans (hc j hj).2.2⟩⟩
theorem LRow.mono {w : World} {B B' : Nat} {A : Option Addr} {ls : List Lab} (h : LRow w B A ls) (hb : B ≤ B') : LRow w B' A ls := by
  intro h0
  obtain ⟨b, off, hA, hlt, hc⟩ := h h0
  exact ⟨b, off, hA, by omega, hc⟩
theorem LRow.up {w w' : World} {A : Option Addr} {ls : List Lab} (h : LRow w w.heap.size A ls) (hb : Below w.heap.size w w') : LRow w' w'.heap.size A ls := (h.below hb).mono hb.size

/-- Each label with the place at which it stands first, of the first k. -/
def ofL (ls : List Lab) : Nat → List (Lab × Int)
  | 0 => []
  | k + 1 => if (ls.getD k noLab) ∈ (ofL ls k).map Prod.fst then ofL ls k else ofL ls k ++ [(ls.getD k noLab, (k : Int))]
theorem ofL_len (ls : List Lab) (k : Nat) : (ofL ls k).length ≤ k := by
  induction k with
  | zero => simp [ofL]
  | succ k ih =>
    simp only [ofL]
    split
    · omega
    · simp; omega
theorem ofL_old {ls : List Lab} {k : Nat} (hk : k < ls.length) (h : ls[k] ∈ (ofL ls k).map Prod.fst) : ofL ls (k + 1) = ofL ls k := by
  have e : ls.getD k noLab = ls[k] := by simp [List.getD_eq_getElem?_getD, hk]
  simp only [ofL, e]
  rw [if_pos h]
theorem ofL_new {ls : List Lab} {k : Nat} (hk : k < ls.length) (h : ls[k] ∉ (ofL ls k).map Prod.fst) : ofL ls (k + 1) = ofL ls k ++ [(ls[k], (k : Int))] := by
  have e : ls.getD k noLab = ls[k] := by simp [List.getD_eq_getElem?_getD, hk]
  simp only [ofL, e]
  rw [if_neg h]
theorem wf_nat {k : Nat} (h : k ≤ 1000000) : wf64 (k : Int) := by
  unfold wf64
  simp [Lit.wf, IntKind.min, IntKind.max, IntKind.signed, IntKind.bits]
  omega
def IxMade (w : World) (es : List (Lab × Int)) (e : Ending) (w' : World) : Prop := ∃ X bm, e = .returned (.pointer (some ⟨X, 0, none⟩)) ∧ Ix w' w.heap.size X bm es ∧ Below w.heap.size w w'
def OfRel (w : World) (X bm : Nat) (ls : List Lab) (i : Value) (wr : World) : Prop := ∃ k : Nat, k ≤ ls.length ∧ i = .int .i64 k ∧ Ix wr w.heap.size X bm (ofL ls k) ∧ Below w.heap.size w wr

set_option maxRecDepth 100000 in
set_option maxHeartbeats 4000000 in
theorem of_any (A : Option Addr) (c : Nat) (ls : List Lab) (w : World) (hr : LRow w w.heap.size A ls) (hl : ls.length ≤ 1000000) (hwf : ∀ L ∈ ls, LWf L) :
    Calls Try.prog 17 #[.slice A ls.length c] w (IxMade w (ofL ls ls.length)) := by
  have HF := Lib.hid hwf
  clear hwf
  go_enter Try.func17, Try.ntmps17
  go_wp2_with fail
  refine (new_any _ w).mono ?_
  rintro e w1 ⟨X, bm, rfl, hix, hb1⟩
  go_wp2_with fail
  go_loopw [11] (OfRel w X bm ls) (fun i _ => ls.length - (intOf i).toNat)
  case atStart => exact ⟨0, by omega, rfl, hix, hb1⟩
  case round =>
    clear hix hb1
    obtain ⟨k, hk, rfl, hix, hbel⟩ := hrel
    have hol := ofL_len ls k
    by_cases hlt : k < ls.length
    · obtain ⟨b, off, L, rfl, hb, hL, d1, d2, d3⟩ := lrow_at (hr.below hbel) hlt
      have hLw : LWf L := by rw [hL]; exact HF.out _ (List.getElem_mem _)
      obtain ⟨w2, hw2⟩ : ∃ w2, w2 = wr.alloc (.cells (labCells L) 30) := ⟨_, rfl⟩
      have hb2 : Below wr.heap.size wr w2 := by rw [hw2]; exact lit_below _ _
      have h2 := hix.below hb2
      obtain ⟨k1, k2, k3⟩ := box_cells wr L
      rw [← hw2] at k1 k2 k3
      have hbw2 : Below w.heap.size w w2 := hbel.trans (hb2.mono hbel.size)
      have HL := Lib.hid hL; have HW := Lib.hid hw2; have H2 := Lib.hid h2; have HIX := Lib.hid hix
      clear hL hw2 h2 hix hb2
      by_cases hm : L ∈ (ofL ls k).map Prod.fst
      · obtain ⟨p, hp, hpe⟩ := List.mem_map.1 hm
        obtain ⟨pl, pm⟩ := p
        have hpe' : pl = L := hpe
        subst hpe'
        have HS := Lib.hid (ofL_old hlt (by rw [← HL.out]; exact hm))
        clear hpe hm
        go_wp2_with fail
        rw [← HW.out]
        refine (put_old w.heap.size X bm (ofL ls k) pl (k : Int) pm w2 H2.out hLw hp).mono ?_
        rintro e w3 ⟨rfl, hb3⟩
        go_wp2_with fail
        exact ⟨⟨k + 1, by omega, by go_num, by rw [HS.out]; exact H2.out.below hb3, hbw2.trans (hb3.mono hbw2.size)⟩, by simp [intOf]; omega⟩
      · have HS := Lib.hid (ofL_new hlt (by rw [← HL.out]; exact hm))
        go_wp2_with fail
        rw [← HW.out]
        refine (put_new w.heap.size X bm (ofL ls k) (ofL ls k ++ [(L, (k : Int))]) L (k : Int) w2 H2.out hLw (wf_nat (by omega)) hm (by omega) (List.perm_append_singleton _ _)).mono ?_
        rintro e w3 ⟨rfl, h3, hk3⟩
        go_wp2_with fail
        exact ⟨⟨k + 1, by omega, by go_num, by rw [HS.out, ← HL.out]; exact h3, hbw2.trans (hk3.below hbw2.size (fun j hj => by have : j = bm := hj; rw [this]; exact H2.out.loM))⟩, by simp [intOf]; omega⟩
    · obtain rfl : k = ls.length := by omega
      have HIX := Lib.hid hix
      clear hix
      go_wp2_with fail
      go_ret
      exact ⟨X, bm, rfl, HIX.out, hbel⟩

/-! The law's own example. -/
def sA : Lab := ⟨⟨#[97]⟩, ⟨#[]⟩, 0⟩
def sB : Lab := ⟨⟨#[97]⟩, ⟨#[107]⟩, 0⟩
theorem sA_wf : LWf sA := ⟨by unfold maxLen; decide, by unfold maxLen; decide, wf0⟩
theorem sB_wf : LWf sB := ⟨by unfold maxLen; decide, by unfold maxLen; decide, wf0⟩
theorem sAB : sA ≠ sB := by
  intro h
  have := congrArg (fun L => L.key.size) h
  exact absurd this (by decide)
theorem s_of : ofL [sA, sB, sA] [sA, sB, sA].length = [(sA, 0), (sB, 1)] := by
  have h1 : ofL [sA, sB, sA] 1 = [(sA, 0)] := by rw [ofL_new (k := 0) (by simp) (by simp [ofL])]; simp [ofL]
  have h2 : ofL [sA, sB, sA] 2 = [(sA, 0), (sB, 1)] := by
    rw [ofL_new (k := 1) (by simp) (by rw [h1]; simp; exact fun e => sAB e.symm), h1]; simp
  rw [show [sA, sB, sA].length = 2 + 1 from rfl, ofL_old (k := 2) (by simp) (by rw [h2]; simp), h2]
theorem s_less : lessB sA sB = true := by decide

theorem lit_lrow (W : World) (a b c : Lab) (B : Nat) (hB : B = W.heap.size) : LRow (W.alloc (.cells #[.string a.tag, .string a.key, .int .i64 a.n, .string b.tag, .string b.key, .int .i64 b.n, .string c.tag, .string c.key, .int .i64 c.n] 30)) (W.alloc (.cells #[.string a.tag, .string a.key, .int .i64 a.n, .string b.tag, .string b.key, .int .i64 b.n, .string c.tag, .string c.key, .int .i64 c.n] 30)).heap.size (some ⟨B, 0, none⟩) [a, b, c] := by
  subst hB
  intro _
  have hc : ∀ j, (W.alloc (.cells #[.string a.tag, .string a.key, .int .i64 a.n, .string b.tag, .string b.key, .int .i64 b.n, .string c.tag, .string c.key, .int .i64 c.n] 30)).cell? ⟨W.heap.size, j, none⟩ = (#[.string a.tag, .string a.key, .int .i64 a.n, .string b.tag, .string b.key, .int .i64 b.n, .string c.tag, .string c.key, .int .i64 c.n] : Array Value)[j]? := fun j => cell_of_row _ _ _ _ _ (0, 0) (heap_alloc_new W _)
  refine ⟨W.heap.size, 0, rfl, by simp, fun j hj => ?_⟩
  rw [hc, hc, hc]
  match j, hj with
  | 0, _ => exact ⟨rfl, rfl, rfl⟩
  | 1, _ => exact ⟨rfl, rfl, rfl⟩
  | 2, _ => exact ⟨rfl, rfl, rfl⟩
set_option maxRecDepth 100000 in
set_option maxHeartbeats 4000000 in
theorem same_law (w : World) : Calls Try.prog 8 #[] w fun e w' => e = .returned (.bool true) ∧ Below w.heap.size w w' := by
  obtain ⟨w1, hw1⟩ : ∃ w1, w1 = (w.alloc (.cells (labCells sA) 30)).alloc (.cells (labCells sB) 30) := ⟨_, rfl⟩
  have hb1 : Below w.heap.size w w1 := by rw [hw1]; exact ((Below.refl _ _).alloc (Nat.le_refl _) _).alloc (by simp) _
  obtain ⟨⟨a1, a2, a3⟩, b1, b2, b3⟩ := two_boxes w sA sB
  have hsz : w1.heap.size = w.heap.size + 1 + 1 := by rw [hw1]; simp
  rw [← hw1] at a1 a2 a3 b1 b2 b3
  have HW := Lib.hid hw1; have HS := Lib.hid hsz
  clear hw1 hsz
  go_enter Try.func8, Try.ntmps8
  go_wp2_with fail
  have c1 := of_any (some ⟨w.heap.size + 1 + 1, 0, none⟩) 3 [sA, sB, sA] _ (lit_lrow w1 sA sB sA (w.heap.size + 1 + 1) HS.out.symm) (by simp) (fun L hL => by
    simp at hL
    rcases hL with rfl | rfl | rfl
    · exact sA_wf
    · exact sB_wf
    · exact sA_wf)
  rw [s_of] at c1
  obtain ⟨w2, hw2⟩ : ∃ w2, w2 = w1.alloc (.cells #[.string sA.tag, .string sA.key, .int .i64 sA.n, .string sB.tag, .string sB.key, .int .i64 sB.n, .string sA.tag, .string sA.key, .int .i64 sA.n] 30) := ⟨_, rfl⟩
  have hb2 : Below w1.heap.size w1 w2 := by rw [hw2]; exact lit_below _ _
  rw [← hw2] at c1
  have e1 := hw2
  rw [HW.out] at e1
  have E1 := Lib.hid e1
  have C1 := Lib.hid c1
  clear e1 hw2 c1
  refine (show Calls Try.prog 17 _ _ _ from by
    have h := C1.out
    rw [E1.out] at h
    exact h.mono (R' := fun e w' => IxMade w2 [(sA, 0), (sB, 1)] e w') (fun e w' hh => by rw [E1.out]; exact hh)).mono ?_
  rintro e w3 ⟨X, bm, rfl, hix, hb3⟩
  have hb13 : Below w1.heap.size w1 w3 := hb2.trans (hb3.mono hb2.size)
  have hb03 := hb1.trans (hb13.mono hb1.size)
  have f1 := hb13.cell (p := ⟨w.heap.size, 0, none⟩) (by show w.heap.size < w1.heap.size; rw [HS.out]; omega)
  have f2 := hb13.cell (p := ⟨w.heap.size, 1, none⟩) (by show w.heap.size < w1.heap.size; rw [HS.out]; omega)
  have f3 := hb13.cell (p := ⟨w.heap.size, 2, none⟩) (by show w.heap.size < w1.heap.size; rw [HS.out]; omega)
  have g1 := hb13.cell (p := ⟨w.heap.size + 1, 0, none⟩) (by show w.heap.size + 1 < w1.heap.size; rw [HS.out]; omega)
  have g2 := hb13.cell (p := ⟨w.heap.size + 1, 1, none⟩) (by show w.heap.size + 1 < w1.heap.size; rw [HS.out]; omega)
  have g3 := hb13.cell (p := ⟨w.heap.size + 1, 2, none⟩) (by show w.heap.size + 1 < w1.heap.size; rw [HS.out]; omega)
  rw [a1] at f1
  rw [a2] at f2
  rw [a3] at f3
  rw [b1] at g1
  rw [b2] at g2
  rw [b3] at g3
  clear a1 a2 a3 b1 b2 b3 hb1 hb2 hb3 hb13 E1 C1 HW HS
  have C2 := Lib.hid (get_any _ X bm _ sA 0 true w3 hix sA_wf ⟨fun _ => by simp, (fun h => by cases h)⟩)
  generalize hq1 : sA.tag = ta at f1
  generalize hq2 : sA.key = ka at f2
  generalize hq3 : sA.n = na at f3
  generalize hr1 : sB.tag = tb at g1
  generalize hr2 : sB.key = kb at g2
  generalize hr3 : sB.n = nb at g3
  have C2' := Lib.hid (show Calls Try.prog 13 #[.pointer (some ⟨X, 0, none⟩), .agg #[.string ta, .string ka, .int .i64 na]] w3 fun e w' => e = .returned (.tuple #[.int .i64 0, .bool true]) ∧ Below w3.heap.size w3 w' by rw [← hq1, ← hq2, ← hq3]; exact C2.out)
  have C3 := Lib.hid (fun (w4 : World) (h4 : Below w3.heap.size w3 w4) => show Calls Try.prog 13 #[.pointer (some ⟨X, 0, none⟩), .agg #[.string tb, .string kb, .int .i64 nb]] w4 fun e w' => e = .returned (.tuple #[.int .i64 1, .bool true]) ∧ Below w4.heap.size w4 w' by rw [← hr1, ← hr2, ← hr3]; exact get_any _ X bm _ sB 1 true w4 (hix.below h4) sB_wf ⟨fun _ => by simp, (fun h => by cases h)⟩)
  have C4 := Lib.hid (fun (w4 : World) (h4 : Below w3.heap.size w3 w4) => len_any _ X bm _ w4 (hix.below h4))
  have C5 := Lib.hid (fun (w4 : World) => show Calls Try.prog 20 #[.agg #[.string ta, .string ka, .int .i64 na], .agg #[.string tb, .string kb, .int .i64 nb]] w4 fun e w' => e = .returned (.bool true) ∧ Below w4.heap.size w4 w' by rw [← hq1, ← hq2, ← hq3, ← hr1, ← hr2, ← hr3, ← s_less]; exact less_any sA sB w4)
  clear hq1 hq2 hq3 hr1 hr2 hr3 C2 hix
  go_wp2_with fail
  refine C2'.out.mono ?_
  rintro e w4 ⟨rfl, hb4⟩
  have hc4 := (fun (p : Addr) (v : Value) (h : w3.cell? p = some v) => (hb4.cell (World.block_lt_of_cell? w3 _ h)).trans h)
  have f1' := hc4 _ _ f1
  have f2' := hc4 _ _ f2
  have f3' := hc4 _ _ f3
  have g1' := hc4 _ _ g1
  have g2' := hc4 _ _ g2
  have g3' := hc4 _ _ g3
  clear hc4 f1 f2 f3 g1 g2 g3
  go_wp2_with fail
  refine (C3.out w4 hb4).mono ?_
  rintro e w5 ⟨rfl, hb5⟩
  have hc5 := (fun (p : Addr) (v : Value) (h : w4.cell? p = some v) => (hb5.cell (World.block_lt_of_cell? w4 _ h)).trans h)
  have f1 := hc5 _ _ f1'
  have f2 := hc5 _ _ f2'
  have f3 := hc5 _ _ f3'
  have g1 := hc5 _ _ g1'
  have g2 := hc5 _ _ g2'
  have g3 := hc5 _ _ g3'
  have hb35 := below_trans hb4 hb5
  clear hc5 f1' f2' f3' g1' g2' g3' hb4 hb5
  go_wp2_with fail
  refine (C4.out w5 hb35).mono ?_
  rintro e w6 ⟨rfl, rfl⟩
  simp only [List.length_cons, List.length_nil]
  go_wp2_with fail
  refine (C5.out w5).mono ?_
  rintro e w7 ⟨rfl, hb7⟩
  go_wp2_with fail
  go_ret
  exact ⟨rfl, (hb03.trans (hb35.mono hb03.size)).trans (hb7.mono (Nat.le_trans hb03.size hb35.size))⟩
end Go.Proofs.Ytlhhfcnagkhllaa
