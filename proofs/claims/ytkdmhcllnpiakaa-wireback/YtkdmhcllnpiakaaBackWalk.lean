/-
  tendrillaw04.WireBack: it answers true.
-/
import Derived.Test.YtkdmhcllnpiakaaSame
import Derived.Test.YtkdmhcllnpiakaaRefW
namespace Go.Proofs.Ytkdmhcllnpiakaa
open Go.RowKit
set_option linter.unusedVariables false

/-- A slice of items that lies below block B. -/
def Its (w : World) (B : Nat) (A : Option Addr) (l : List Item3) : Prop :=
  0 < l.length → ∃ b off, A = some ⟨b, off, none⟩ ∧ b < B ∧ ∀ j, j < l.length → w.cell? ⟨b, off + j * 3, none⟩ = some (.bool (l.getD j noItem).1) ∧ w.cell? ⟨b, off + j * 3 + 1, none⟩ = some (.int .u64 (l.getD j noItem).2.1) ∧ w.cell? ⟨b, off + j * 3 + 2, none⟩ = some (.string (l.getD j noItem).2.2)
def ItWf (l : List Item3) : Prop := ∀ j, j < l.length → 0 ≤ (l.getD j noItem).2.1 ∧ (l.getD j noItem).2.1 < 18446744073709551616 ∧ (l.getD j noItem).2.2.size ≤ maxLen

theorem Its.below {w w' : World} {B : Nat} {A : Option Addr} {l : List Item3} (h : Its w B A l) (hb : Below B w w') : Its w' B A l := by
  intro h0
  obtain ⟨b, off, hA, hlt, hc⟩ := h h0
  exact ⟨b, off, hA, hlt, fun j hj => ⟨(hb.cell (p := ⟨b, _, none⟩) hlt).trans (hc j hj).1, (hb.cell (p := ⟨b, _, none⟩) hlt).trans (hc j hj).2.1, (hb.cell (p := ⟨b, _, none⟩) hlt).trans (hc j hj).2.2⟩⟩
theorem its_at {w : World} {B : Nat} {A : Option Addr} {l : List Item3} (h : Its w B A l) (hwf : ItWf l) {j : Nat} (hj : j < l.length) :
    ∃ b off x y z, A = some ⟨b, off, none⟩ ∧ b < B ∧ w.cell? ⟨b, off + j * 3, none⟩ = some (.bool x) ∧ w.cell? ⟨b, off + j * 3 + 1, none⟩ = some (.int .u64 y) ∧ w.cell? ⟨b, off + j * 3 + 2, none⟩ = some (.string z) ∧ (0 ≤ y ∧ y < 18446744073709551616 ∧ z.size ≤ maxLen) ∧ l.getD j noItem = (x, y, z) := by
  obtain ⟨b, off, hA, hb, hc⟩ := h (by omega)
  exact ⟨b, off, _, _, _, hA, hb, (hc j hj).1, (hc j hj).2.1, (hc j hj).2.2, hwf j hj, rfl⟩

def Apart (p : Nat) (held want : Value) : Prop := ∀ b, want.ownBlock = some b → b ≠ p ∧ held.ownBlock ≠ some b

theorem after_write {w w2 : World} {p base : Nat} {held held' want : Value} {pre : List Int} (ho : OwnB w base want pre) (ha : Apart p held want) (hk : Kept (fun k => k = p ∨ held.ownBlock = some k) w w2) (hf : Fresh w held held') :
    OwnB w2 base want pre ∧ Apart p held' want := by
  refine ⟨hk.own ho (fun k hk' hs => ?_), fun b hb => ⟨(ha b hb).1, fun hh => ?_⟩⟩
  · have := ha k hk'
    rcases hs with hs | hs
    · exact this.1 hs
    · exact this.2 hs
  · rcases hf with hf | hf
    · exact (ha b hb).2 (hf ▸ hh)
    · have h1 := hf b hh
      have h2 := (ho.lt b hb).2
      omega
theorem after_app {w w2 : World} {p : Nat} {held want want' : Value} {pre : List Int} (hw : Wr w p held pre) (ha : Apart p held want) (hk : Kept (fun k => want.ownBlock = some k) w w2) (hf : Fresh w want want') :
    Wr w2 p held pre ∧ Apart p held want' := by
  obtain ⟨hc, hfr, ho⟩ := hw
  have hp := World.block_lt_of_cell? w _ hc
  refine ⟨⟨hk.cellOf hc (fun h => (ha p h).1 rfl), (hk.frozen hp (fun h => (ha p h).1 rfl)).trans hfr, hk.own ho (fun k hk' hs => (ha k hs).2 hk')⟩, fun b hb => ?_⟩
  rcases hf with hf | hf
  · exact ha b (hf ▸ hb)
  · have h1 := hf b hb
    refine ⟨fun h => ?_, fun h => ?_⟩
    · have h2 : p < w.heap.size := hp
      omega
    · have h2 := (ho.lt b h).2
      omega

def L1 (W : World) (p : Nat) (l : List Item3) (want i : Value) (wr : World) : Prop :=
  ∃ (k : Nat) (held : Value), k ≤ l.length ∧ i = .int .i64 k ∧ (∀ x ∈ l.take k, Good x) ∧ Wr wr p held (ibs (l.take k)) ∧ OwnB wr W.heap.size want (ibs (l.take k)) ∧ Apart p held want ∧ Below W.heap.size W wr

theorem ibs_take_succ {l : List Item3} {k : Nat} {x : Item3} (hk : k < l.length) (hx : l.getD k noItem = x) : ibs (l.take (k + 1)) = ibs (l.take k) ++ ib x := by
  have h : l.take (k + 1) = l.take k ++ [x] := by
    rw [List.take_succ_eq_append_getElem hk, ← hx]
    simp [List.getD_eq_getElem?_getD, List.getElem?_eq_getElem hk]
  rw [h, ibs_append]; simp [ibs]
theorem good_succ {l : List Item3} {k : Nat} {x : Item3} (hk : k < l.length) (hx : l.getD k noItem = x) (h : ∀ y ∈ l.take k, Good y) (hg : Good x) : ∀ y ∈ l.take (k + 1), Good y := by
  have h' : l.take (k + 1) = l.take k ++ [x] := by
    rw [List.take_succ_eq_append_getElem hk, ← hx]
    simp [List.getD_eq_getElem?_getD, List.getElem?_eq_getElem hk]
  rw [h']
  intro y hy
  simp at hy
  rcases hy with hy | rfl
  · exact h y hy
  · exact hg

def L2 (W : World) (q : Nat) (l : List Item3) (i : Value) (wr : World) : Prop :=
  ∃ (k : Nat) (A : Option Addr) (c : Nat), k ≤ l.length ∧ i = .int .i64 k ∧ Rd wr q q A c (ibs (l.drop k)) 0 ∧ Below W.heap.size W wr
theorem ibs_drop {l : List Item3} {k : Nat} {x : Item3} (hk : k < l.length) (hx : l.getD k noItem = x) : ibs (l.drop k) = ib x ++ ibs (l.drop (k + 1)) := by
  rw [List.drop_eq_getElem_cons hk, ← hx]
  simp [ibs, List.getD_eq_getElem?_getD, List.getElem?_eq_getElem hk]
theorem good_at {l : List Item3} {k : Nat} {x : Item3} (h : ∀ y ∈ l, Good y) (hk : k < l.length) (hx : l.getD k noItem = x) : Good x := by
  apply h
  rw [← hx]
  simp [List.getD_eq_getElem?_getD, List.getElem?_eq_getElem hk]

set_option maxRecDepth 100000 in
set_option maxHeartbeats 4000000 in
theorem back_any (A : Option Addr) (c : Nat) (l : List Item3) (w : World) (hl : Its w w.heap.size A l) (hwf : ItWf l) (hlc : l.length ≤ c) (hlm : c ≤ maxLen) :
    Calls Try.prog 3 #[.slice A l.length c] w fun e w' => e = .returned (.bool true) ∧ Below w.heap.size w w' := by
  obtain ⟨i0, hi, hz0, hz1, hz2⟩ := info_parts Try.info5
  unfold maxLen at hlm
  by_cases h1 : 60 < l.length
  · have h1' : (60 : Int) < l.length := by omega
    go_enter Try.func3, Try.ntmps3
    go_wp2_with fail
    refine (same_law _).mono ?_
    rintro e w1 ⟨rfl, hb1⟩
    go_wp2
    go_ret
    exact ⟨rfl, hb1⟩
  · have h1' : ¬ (60 : Int) < l.length := by omega
    go_enter Try.func3, Try.ntmps3
    go_wp2_with fail
    refine (new_any w).mono ?_
    rintro e w1 ⟨rfl, hw1, hb1, -⟩
    go_wp2
    go_loopw [4, 20] (L1 w w.heap.size l) (fun _ i _ => l.length - (intOf i).toNat)
    case atStart => exact ⟨0, _, by omega, rfl, by simp, hw1, World.ownsRow_nil _ _ _ _, fun b hb => by simp [Value.ownBlock] at hb, hb1⟩
    case round =>
      obtain ⟨k, held, hk, rfl, hgood, hwr, hown, hap, hbel⟩ := hrel
      clear hw1 hb1
      have hpl := ibs_length _ hgood
      rw [List.length_take] at hpl
      have hpl' : (ibs (l.take k)).length ≤ 5000000 := by omega
      clear hpl
      by_cases hlt : k < l.length
      · obtain ⟨b, off, x, y, z, rfl, hbB, hcx, hcy, hcz, ⟨hy0, hy1, hzm⟩, hx⟩ := its_at (hl.below hbel) hwf hlt
        have HX := Lib.hid hx; clear hx
        unfold maxLen at hzm
        by_cases hz : 70000 < z.size
        · go_wp2_with fail
          refine (same_law _).mono ?_
          rintro e w9 ⟨rfl, hb9⟩
          go_wp2
          go_ret
          exact ⟨rfl, hbel.trans (hb9.mono hbel.size)⟩
        · have hst := ibs_take_succ hlt HX.out
          have hgs := good_succ hlt HX.out hgood ⟨hy0, hy1, by show z.size ≤ 70000; omega⟩
          cases x with
          | true =>
            have HST := Lib.hid (show ibs (l.take (k + 1)) = ibs (l.take k) ++ tx z from hst); clear hst
            have htl := (tx_length (s := z) (by omega)).1
            have hb0 : Below wr.heap.size wr (wr.alloc (.cells #[.string z] 9)) := (Below.refl _ _).alloc (Nat.le_refl _) _
            have hwr0 := hwr.below hb0
            have hown0 : OwnB (wr.alloc (.cells #[.string z] 9)) w.heap.size u4 (ibs (l.take k)) := hown.alloc _
            go_wp2_with fail
            refine (text_any w.heap.size held _ wr.heap.size 0 1 z _ hwr0 (by simp) (by omega) (by omega)).mono ?_
            rintro e w2 ⟨held2, rfl, hwr2, hk2, hf2⟩
            obtain ⟨hown2, hap2⟩ := after_write hown0 hap hk2 hf2
            have hbw : Below w.heap.size wr w2 := (hb0.mono hbel.size).trans (hk2.below (Nat.le_trans hbel.size hb0.size) (wr_ge hwr0))
            have hc2 := (hbw.cell (p := ⟨b, _, none⟩) hbB).trans hcz
            have hbel2 := hbel.trans hbw
            clear hcx hcy hcz hown hown0 hwr hwr0 hk2 hf2 hbw hb0
            go_wp2_with fail
            refine (xtextw_any z w2 (by omega)).mono ?_
            rintro e w3 ⟨v3, rfl, ho3, hb3⟩
            obtain ⟨A3, c3, rfl, hn3, hr3⟩ := row_of_own ho3
            have hwr3 := hwr2.below hb3
            have hown3 : OwnB w3 w.heap.size u4 (ibs (l.take k)) := (kept_below hb3 Never).own hown2 (fun _ _ h => h)
            unfold OwnB at hown3
            have hbel3 := hbel2.trans (hb3.mono hbel2.size)
            clear ho3 hc2
            go_wp2_with (at_builtin; refine wpList_appRow rfl _ _ 26 rfl w.heap.size 5 i0 (.int .u8 0) Try.underlying26 hi hz0 hz1 hz2 rfl _ _ _ rfl hown3 .u8 _ A3 c3 (tx z) rfl hr3 hn3 (by omega) hbel3.size ?_; intro v4 w4 ho4 hk4 hf4)
            obtain ⟨hwr4, hap4⟩ := after_app hwr3 hap2 hk4 hf4
            refine ⟨⟨k + 1, held2, by omega, by go_num, hgs, by rw [HST.out]; exact hwr4, ?_, hap4, hbel3.trans (hk4.below hbel3.size (fun j hj => (hown3.lt j hj).1))⟩, by simp [intOf]; omega⟩
            rw [HST.out]
            unfold OwnB
            simpa using ho4
          | false =>
            have HST := Lib.hid (show ibs (l.take (k + 1)) = ibs (l.take k) ++ encs [y] from hst); clear hst
            have htl := (encs1_length hy0 hy1).1
            have hb0 : Below wr.heap.size wr (wr.alloc (.cells #[.int .u64 y] 27)) := (Below.refl _ _).alloc (Nat.le_refl _) _
            have hwr0 := hwr.below hb0
            have hown0 : OwnB (wr.alloc (.cells #[.int .u64 y] 27)) w.heap.size u4 (ibs (l.take k)) := hown.alloc _
            go_wp2_with fail
            refine (num_any w.heap.size held _ (some ⟨wr.heap.size, 0, none⟩) 1 [y] _ hwr0 (by simpa using row_lit (k := .u64) (w := wr) 27 [y]) (words1 hy0 hy1) (by omega) (by simp)).mono ?_
            rintro e w2 ⟨held2, rfl, hwr2, hk2, hf2⟩
            obtain ⟨hown2, hap2⟩ := after_write hown0 hap hk2 hf2
            have hbw : Below w.heap.size wr w2 := (hb0.mono hbel.size).trans (hk2.below (Nat.le_trans hbel.size hb0.size) (wr_ge hwr0))
            have hc2 := (hbw.cell (p := ⟨b, _, none⟩) hbB).trans hcy
            have hbel2 := hbel.trans hbw
            clear hcx hcy hcz hown hown0 hwr hwr0 hk2 hf2 hbw hb0
            go_wp2_with fail
            refine (xnumw_any y w2 hy0 hy1).mono ?_
            rintro e w3 ⟨v3, rfl, ho3, hb3⟩
            obtain ⟨A3, c3, rfl, hn3, hr3⟩ := row_of_own ho3
            have hwr3 := hwr2.below hb3
            have hown3 : OwnB w3 w.heap.size u4 (ibs (l.take k)) := (kept_below hb3 Never).own hown2 (fun _ _ h => h)
            unfold OwnB at hown3
            have hbel3 := hbel2.trans (hb3.mono hbel2.size)
            clear ho3 hc2
            go_wp2_with (at_builtin; refine wpList_appRow rfl _ _ 26 rfl w.heap.size 5 i0 (.int .u8 0) Try.underlying26 hi hz0 hz1 hz2 rfl _ _ _ rfl hown3 .u8 _ A3 c3 (encs [y]) rfl hr3 hn3 (by omega) hbel3.size ?_; intro v4 w4 ho4 hk4 hf4)
            obtain ⟨hwr4, hap4⟩ := after_app hwr3 hap2 hk4 hf4
            refine ⟨⟨k + 1, held2, by omega, by go_num, hgs, by rw [HST.out]; exact hwr4, ?_, hap4, hbel3.trans (hk4.below hbel3.size (fun j hj => (hown3.lt j hj).1))⟩, by simp [intOf]; omega⟩
            rw [HST.out]
            unfold OwnB
            simpa using ho4
      · obtain rfl : k = l.length := by omega
        rw [List.take_length] at hgood hwr hown hpl'
        obtain ⟨Aw, cw, rfl, hnw, hrw⟩ := row_of_own hown
        clear hown hap
        go_wp2_with fail
        refine (bytes_any w.heap.size held _ wr hwr (by omega)).mono ?_
        rintro e w2 ⟨v2, rfl, ho2, hb2⟩
        obtain ⟨A2, c2, rfl, hn2, hr2⟩ := row_of_own ho2
        have hrw2 := row_below hrw hb2
        have hcv1 := conv_row (P := Try.prog) 26 5 9 Try.underlying26 Try.underlying5 Try.underlying9 hr2 c2
        have hcv2 := conv_row (P := Try.prog) 26 5 9 Try.underlying26 Try.underlying5 Try.underlying9 hrw2 cw
        have c13 := len_any w.heap.size held _ w2 (hwr.below hb2) (by omega)
        have C13 := Lib.hid c13; clear c13
        have hbel2 := hbel.trans (hb2.mono hbel.size)
        have HR2 := Lib.hid hr2
        clear hr2 hrw hrw2 ho2 hwr hb2
        go_wp2_with (go_at_call 13; refine C13.out.mono ?_; rintro e w' ⟨rfl, rfl⟩)
        refine (read_any A2 c2 _ (ibs l) w2 HR2.out hn2 (bytes_ibs l hgood) (by omega)).mono ?_
        rintro e w3 ⟨q, A3, c3, rfl, hq, -, hrd3, hb3⟩
        have hbel3 := hbel2.trans (hb3.mono hbel2.size)
        have hqw : w.heap.size ≤ q := Nat.le_trans hbel2.size hq
        clear hcv1 hcv2 C13 HR2 hn2 hnw
        go_wp2
        go_loopw [87] (L2 w q l) (fun i _ => l.length - (intOf i).toNat)
        case atStart => exact ⟨0, A3, c3, by omega, rfl, by simpa using hrd3, hbel3⟩
        case round =>
          obtain ⟨k, A4, c4, hk, rfl, hrd, hbelr⟩ := hrel
          clear hrd3 hbel3 hbel2 hbel hb3
          by_cases hlt : k < l.length
          · obtain ⟨b, off, x, y, z, rfl, hbB, hcx, hcy, hcz, ⟨hy0, hy1, hzm⟩, hx⟩ := its_at (hl.below hbelr) hwf hlt
            obtain ⟨R, hR⟩ : ∃ R, R = ibs (l.drop (k + 1)) := ⟨_, rfl⟩
            have hg := good_at hgood hlt hx
            have hd := ibs_drop hlt hx
            rw [← hR] at hd
            have HR := Lib.hid hR; clear hR hx
            have hz7 : z.size ≤ 70000 := hg.2.2
            clear hg hzm
            cases x with
            | true =>
              have HD := Lib.hid (show ibs (l.drop k) = tx z ++ R from hd); clear hd
              have hrd' : Rd wr q q A4 c4 (tx z ++ R) 0 := by rw [HD.out] at hrd; exact hrd
              clear hrd
              obtain ⟨L, hL⟩ : ∃ L : Nat, L = (tx z ++ R).length := ⟨_, rfl⟩
              have hL1 : 1 ≤ L := by rw [hL, List.length_append]; have := (tx_length (s := z) (by omega)).2; omega
              have c15 := left_any wr q q _ _ _ _ hrd'
              have c16 := end_any wr q q _ _ _ _ hrd'
              rw [← hL] at c15
              rw [show rEnd (tx z ++ R) 0 = 2 by unfold rEnd; rw [if_pos ⟨rfl, by omega⟩]] at c16
              have hL2 : (L == 0) = false := by simp; omega
              have hL3 : ((L : Int) == 0) = false := by simp; omega
              have C15 := Lib.hid c15
              have C16 := Lib.hid c16
              clear c15 c16 hL
              go_wp2_with (first
                | (go_at_call 15; refine C15.out.mono ?_; rintro e w' ⟨rfl, rfl⟩)
                | (go_at_call 16; refine C16.out.mono ?_; rintro e w' ⟨rfl, rfl⟩))
              refine (rtxt_any wr q q _ _ _ 0 z.size hrd' (by omega) (by omega)).mono ?_
              rintro e w5 ⟨A5, c5, rfl, hrd5, hk5⟩
              rw [(txt_back R (show z.size ≤ 1000000 by omega)).1, (txt_back R (show z.size ≤ 1000000 by omega)).2.2] at hrd5
              rw [(txt_back R (show z.size ≤ 1000000 by omega)).1, (txt_back R (show z.size ≤ 1000000 by omega)).2.1, str_sb]
              have hbw : Below w.heap.size wr w5 := hk5.below hbelr.size (fun j hj => by have : j = q := hj; omega)
              have hc5 := (hbw.cell (p := ⟨b, _, none⟩) hbB).trans hcz
              clear hcx hcy hcz
              go_wp2
              refine ⟨⟨k + 1, A5, c5, by omega, by go_num, by rw [← HR.out]; exact hrd5, hbelr.trans hbw⟩, by simp [intOf]; omega⟩
            | false =>
              have HD := Lib.hid (show ibs (l.drop k) = encs [y] ++ R from hd); clear hd
              have hrd' : Rd wr q q A4 c4 (encs [y] ++ R) 0 := by rw [HD.out] at hrd; exact hrd
              clear hrd
              obtain ⟨L, hL⟩ : ∃ L : Nat, L = (encs [y] ++ R).length := ⟨_, rfl⟩
              have hL1 : 1 ≤ L := by rw [hL, List.length_append]; have := (encs1_length hy0 hy1).2; omega
              have c15 := left_any wr q q _ _ _ _ hrd'
              have c16 := end_any wr q q _ _ _ _ hrd'
              rw [← hL] at c15
              rw [show rEnd (encs [y] ++ R) 0 = 2 by unfold rEnd; rw [if_pos ⟨rfl, by omega⟩]] at c16
              have hL2 : (L == 0) = false := by simp; omega
              have hL3 : ((L : Int) == 0) = false := by simp; omega
              have C15 := Lib.hid c15
              have C16 := Lib.hid c16
              clear c15 c16 hL
              go_wp2_with (first
                | (go_at_call 15; refine C15.out.mono ?_; rintro e w' ⟨rfl, rfl⟩)
                | (go_at_call 16; refine C16.out.mono ?_; rintro e w' ⟨rfl, rfl⟩))
              refine (rnum_any wr q q _ _ _ 0 y hrd' hy0 hy1).mono ?_
              rintro e w5 ⟨A5, c5, rfl, hrd5, hk5⟩
              rw [(num_back R hy0 hy1).1, (num_back R hy0 hy1).2.2] at hrd5
              rw [(num_back R hy0 hy1).1, (num_back R hy0 hy1).2.1]
              have hbw : Below w.heap.size wr w5 := hk5.below hbelr.size (fun j hj => by have : j = q := hj; omega)
              have hc5 := (hbw.cell (p := ⟨b, _, none⟩) hbB).trans hcy
              clear hcx hcy hcz
              go_wp2
              refine ⟨⟨k + 1, A5, c5, by omega, by go_num, by rw [← HR.out]; exact hrd5, hbelr.trans hbw⟩, by simp [intOf]; omega⟩
          · have hnil : ibs (l.drop k) = [] := by rw [List.drop_eq_nil_of_le (by omega)]; rfl
            rw [hnil] at hrd
            clear hnil
            have c15 := left_any wr q q _ _ _ _ hrd
            have c16 := end_any wr q q _ _ _ _ hrd
            rw [show rEnd [] 0 = 0 by decide] at c16
            have C15 := Lib.hid c15
            have C16 := Lib.hid c16
            clear c15 c16
            obtain rfl : k = l.length := by omega
            go_wp2_with (first
              | (go_at_call 15; refine C15.out.mono ?_; rintro e w' ⟨rfl, rfl⟩)
              | (go_at_call 16; refine C16.out.mono ?_; rintro e w' ⟨rfl, rfl⟩)
              | (go_at_call 6; refine (same_law _).mono ?_; rintro e w9 ⟨rfl, hb9⟩))
            go_ret
            exact ⟨rfl, hbelr.trans (hb9.mono hbelr.size)⟩
end Go.Proofs.Ytkdmhcllnpiakaa
