/-
  markup's parser: its escaped strings and keys.
-/
import Derived.Test.YtjnhcoflmechmaaGreatDoorMWord
namespace Go.Proofs.YtjnhcoflmechmaaGreatDoor.M
open Go.RowKit Go.Sort
set_option linter.unusedVariables false
set_option maxRecDepth 100000
structure MxS (P : Nat) (s : ByteArray) (a b : Nat) (w W : World) : Prop where
  p : P3 W P s a b
  k : Kept (· = P) w W
  v : Vars W
theorem MxS.below {P : Nat} {s : ByteArray} {a b : Nat} {w W W' : World} (h : MxS P s a b w W) (hb : Below W.heap.size W W') : MxS P s a b w W' :=
  ⟨h.p.below hb h.p.lt, h.k.trans (kept_below hb _), h.v.belowC hb⟩
theorem MxS.all {P : Nat} {s : ByteArray} {a b : Nat} {w W : World} (h : MxS P s a b w W) : W.cell? ⟨P, 0, none⟩ = some (.string s) ∧ W.cell? ⟨P, 1, none⟩ = some (.int .i64 a) ∧ MxS P s a b w W := ⟨h.p.cells.1, h.p.cells.2.1, h⟩
theorem MxS.hd {P : Nat} {s : ByteArray} {a b : Nat} {w W : World} (h : RowKit.Hid (MxS P s a b w W)) : MxS P s a b w W.drew := h.out.below (below_drewN _ _ _ : Below _ W (W.drewN 1))
theorem keepM {P : Nat} {s : ByteArray} {a b : Nat} {w W W' : World} (hb : Below W.heap.size W W') (h : W.cell? ⟨P, 0, none⟩ = some (.string s) ∧ W.cell? ⟨P, 1, none⟩ = some (.int .i64 a) ∧ MxS P s a b w W) : W'.cell? ⟨P, 0, none⟩ = some (.string s) ∧ W'.cell? ⟨P, 1, none⟩ = some (.int .i64 a) ∧ MxS P s a b w W' := (h.2.2.below hb).all
set_option maxHeartbeats 4000000 in
theorem mescaped_any (P : Nat) (s : ByteArray) (a b : Nat) (w : World) (h : P3 w P s a b) (ha : a ≤ s.size) (hs : s.size ≤ 1000000000) (hv : Vars w) : Calls Tryz.prog 136 #[.pointer (some ⟨P, 0, none⟩)] w (MStep P s b Value.string (txtP (restL s a)) w) := by
  obtain ⟨n, hn⟩ : ∃ n, n = E.spanN (restL s a) := ⟨_, rfl⟩
  have hns : n ≤ s.size - a := by rw [hn, ← restL_len]; exact E.spanN_le _
  have CS := Lib.hid (show ∀ W, Calls Tryz.prog 118 #[.string s, .int .i64 a] W (E.IntPost W n) from fun W => by
    have := E.span_any s a W hs (by omega) (by omega)
    have e : E.spanI s.data.toList a = (n : Int) := by
      unfold E.spanI
      by_cases h1 : a = s.size
      · rw [if_pos (by right; rw [size_list]; omega), hn, restL_nil (by omega)]; rfl
      · rw [if_neg (by rw [size_list]; omega), hn, Int.toNat_natCast]; rfl
    rw [e] at this; exact this)
  obtain ⟨t, ht⟩ : ∃ t, t = s.extract a (a + n) := ⟨_, rfl⟩
  have htl : t.data.toList = (restL s a).take n := by rw [ht]; exact ext_mid s a n
  obtain ⟨pl, hpl⟩ : ∃ pl, pl = strB (E.unesc ((restL s a).take n)).1 := ⟨_, rfl⟩
  obtain ⟨q, hq⟩ : ∃ q, q = (E.unesc ((restL s a).take n)).2.1 := ⟨_, rfl⟩
  obtain ⟨er, her⟩ : ∃ er, er = (E.unesc ((restL s a).take n)).2.2 := ⟨_, rfl⟩
  have CU := Lib.hid (show ∀ W, Vars W → Calls Tryz.prog 119 #[.string t] W (fun e w' => e = .returned (.tuple #[.string pl, .int .i64 q, .int .i64 er]) ∧ Below W.heap.size W w') from fun W hvW => by
    have := E.unescape_any t W (by rw [← size_list, htl, List.length_take, restL_len]; omega) hvW
    rw [htl] at this
    rw [hpl, hq, her]; exact this)
  have hqn : q ≤ n ∧ (er = 0 ∨ er = 2) := by
    have h1 := E.unesc_only ((restL s a).take n)
    rw [← hq, ← her, List.length_take] at h1
    rcases h1 with h1 | h1 <;> omega
  have HT1 := Lib.hid (show MxS P s a b w w from ⟨h, Kept.refl _ _, hv⟩)
  have hts' : s.extract a (a + n) = t := ht.symm
  have htp : txtP (restL s a) = if er ≠ 0 then .bad (s.size - a - q) 2 else .ok pl (restL s (a + n)) := by
    unfold txtP
    rw [← hn, ← her, ← hq, ← hpl, restL_len, restL_drop]
  rw [htp]
  obtain ⟨R, hR⟩ : ∃ R : Rd ByteArray, R = if er ≠ 0 then .bad (s.size - a - q) 2 else .ok pl (restL s (a + n)) := ⟨_, rfl⟩
  rw [← hR]
  have hai : (a : Int) ≤ (s.size : Int) := by omega
  have ha0 : (0 : Int) ≤ (a : Int) := by omega
  have hwr : IntKind.i64.wrap ((a : Int) + (n : Int)) = (a : Int) + (n : Int) := by rw [IntKind.wrap_i64]; omega
  have HRR := Lib.hid hR
  clear hR htp ht htl hpl hq her h hv hn
  go_enter Tryz.func136, Tryz.ntmps136
  go_wp2_with fail
  go_region_held3 (fun W => W.cell? ⟨P, 0, none⟩ = some (.string s) ∧ W.cell? ⟨P, 1, none⟩ = some (.int .i64 a) ∧ MxS P s a b w W)
    (first | assumption | exact (MxS.hd HT1).all)
    ((go_at_call 118; refine (CS.out _).mono ?_; rintro e w7 ⟨rfl, hb7⟩; have hfin := keepM hb7 (by assumption)))
  have HT2 := Lib.hid hfin.2.2
  obtain ⟨b0, b1, -⟩ := hfin
  have hni : (0 : Int) ≤ (n : Int) := by omega
  have han : (a : Int) + (n : Int) ≤ (s.size : Int) := by omega
  have htn : ((a : Int) + (n : Int)).toNat = a + n := by omega
  have hle2 : (a : Int) ≤ (a : Int) + (n : Int) := by omega
  clear HT1 CS
  go_wp2_with fail
  go_region_held3 (fun W => W.cell? ⟨P, 0, none⟩ = some (.string s) ∧ W.cell? ⟨P, 1, none⟩ = some (.int .i64 a) ∧ MxS P s a b w W)
    (first | assumption | exact (MxS.hd HT2).all)
    ((go_at_call 119; refine (CU.out _ (MxS.v (And.right (And.right (by assumption : _ ∧ _ ∧ MxS P s a b w _))))).mono ?_; rintro e w8 ⟨rfl, hb8⟩; have hfin2 := keepM hb8 (by assumption)))
  have hT3 := hfin2.2.2
  have HT3 := Lib.hid hT3
  obtain ⟨c0, c1, -⟩ := hfin2
  have f1 := hT3.p.frozen 1
  clear HT2 b0 b1 CU hT3
  rcases hqn with ⟨hqn, rfl | rfl⟩
  · have hp9 : P3 (w8.setCell ⟨P, 1, none⟩ (.int .i64 ((a : Int) + (n : Int)))) P s (a + n) b := by
      have := HT3.out.p.set1 (a + n)
      rw [show ((a + n : Nat) : Int) = (a : Int) + (n : Int) by omega] at this
      exact this
    have HF := Lib.hid (show MStep P s b Value.string R w (.returned (.string pl)) (w8.setCell ⟨P, 1, none⟩ (.int .i64 ((a : Int) + (n : Int)))) from mok (by rw [HRR.out]; rfl) (by omega) hp9 (HT3.out.k.trans (kept_setCell _ ⟨P, 1, none⟩ _)))
    clear hp9
    go_wp2_with fail
    go_ret
    exact HF.out
  · have hwq : IntKind.i64.wrap ((a : Int) + (q : Int)) = (a : Int) + (q : Int) := by rw [IntKind.wrap_i64]; omega
    obtain ⟨w9, hw9⟩ : ∃ w9, w9 = w8.setCell ⟨P, 1, none⟩ (.int .i64 ((a : Int) + (q : Int))) := ⟨_, rfl⟩
    have hp9 : P3 w9 P s (a + q) b := by
      have := HT3.out.p.set1 (a + q)
      rw [show ((a + q : Nat) : Int) = (a : Int) + (q : Int) by omega, ← hw9] at this
      exact this
    have CX := Lib.hid (mfail_any P s (a + q) b w9 hp9)
    have HF := Lib.hid (show MStep P s b Value.string R w (PanE (a + q)) w9 from mbad (n := s.size - a - q) (er := 2) (by rw [HRR.out]; rfl) (by omega) (by omega) (by rw [hw9]; exact HT3.out.k.trans (kept_setCell _ ⟨P, 1, none⟩ _)))
    have HW9 := Lib.hid hw9.symm
    clear hp9 hw9
    go_wp2_with fail
    rw [HW9.out]
    refine CX.out.mono ?_
    rintro e w10 ⟨rfl, rfl⟩
    exact ⟨rfl, HF.out⟩
end Go.Proofs.YtjnhcoflmechmaaGreatDoor.M
