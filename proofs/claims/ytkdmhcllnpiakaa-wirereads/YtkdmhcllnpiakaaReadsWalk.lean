/-
  tendrillaw04.WireReads: it answers true.
-/
import Derived.Test.YtkdmhcllnpiakaaSame
import Derived.Test.YtkdmhcllnpiakaaRefR
namespace Go.Proofs.Ytkdmhcllnpiakaa
open Go.RowKit
set_option linter.unusedVariables false

/-- What is asked: the kind, the number, the limit. -/
abbrev Ask3 := Int × Int × Int
/-- A slice of asks that lies below block B. -/
def Asks (w : World) (B : Nat) (A : Option Addr) (l : List Ask3) : Prop :=
  0 < l.length → ∃ b off, A = some ⟨b, off, none⟩ ∧ b < B ∧ ∀ j, j < l.length → w.cell? ⟨b, off + j * 3, none⟩ = some (.int .i64 (l.getD j (0, 0, 0)).1) ∧ w.cell? ⟨b, off + j * 3 + 1, none⟩ = some (.int .u64 (l.getD j (0, 0, 0)).2.1) ∧ w.cell? ⟨b, off + j * 3 + 2, none⟩ = some (.int .i64 (l.getD j (0, 0, 0)).2.2)
def AskWf (l : List Ask3) : Prop := ∀ j, j < l.length → (0 ≤ (l.getD j (0, 0, 0)).2.1 ∧ (l.getD j (0, 0, 0)).2.1 < 18446744073709551616) ∧ (-9223372036854775808 ≤ (l.getD j (0, 0, 0)).2.2 ∧ (l.getD j (0, 0, 0)).2.2 ≤ 9223372036854775807)

theorem Asks.below {w w' : World} {B : Nat} {A : Option Addr} {l : List Ask3} (h : Asks w B A l) (hb : Below B w w') : Asks w' B A l := by
  intro h0
  obtain ⟨b, off, hA, hlt, hc⟩ := h h0
  exact ⟨b, off, hA, hlt, fun j hj => ⟨(hb.cell (p := ⟨b, _, none⟩) hlt).trans (hc j hj).1, (hb.cell (p := ⟨b, _, none⟩) hlt).trans (hc j hj).2.1, (hb.cell (p := ⟨b, _, none⟩) hlt).trans (hc j hj).2.2⟩⟩
theorem asks_at {w : World} {B : Nat} {A : Option Addr} {l : List Ask3} (h : Asks w B A l) (hwf : AskWf l) {j : Nat} (hj : j < l.length) :
    ∃ b off x y z, A = some ⟨b, off, none⟩ ∧ b < B ∧ w.cell? ⟨b, off + j * 3, none⟩ = some (.int .i64 x) ∧ w.cell? ⟨b, off + j * 3 + 1, none⟩ = some (.int .u64 y) ∧ w.cell? ⟨b, off + j * 3 + 2, none⟩ = some (.int .i64 z) ∧ (0 ≤ y ∧ y < 18446744073709551616) ∧ (-9223372036854775808 ≤ z ∧ z ≤ 9223372036854775807) := by
  obtain ⟨b, off, hA, hb, hc⟩ := h (by omega)
  exact ⟨b, off, _, _, _, hA, hb, (hc j hj).1, (hc j hj).2.1, (hc j hj).2.2, (hwf j hj).1, (hwf j hj).2⟩

def RdRel (W : World) (q q2 n : Nat) (i : Value) (wr : World) : Prop :=
  ∃ (k : Nat) (bs : List Int) (err : Int) (A : Option Addr) (c : Nat) (A2 : Option Addr) (c2 : Nat), k ≤ n ∧ i = .int .i64 k ∧ Rd wr q q A c bs err ∧ Rd wr q2 W.heap.size A2 c2 bs err ∧ Below W.heap.size W wr

set_option maxRecDepth 100000 in
set_option maxHeartbeats 4000000 in
theorem reads_any (A : Option Addr) (c : Nat) (bs : List Int) (A' : Option Addr) (c' : Nat) (l : List Ask3) (w : World) (hr : Row .u8 w w.heap.size A bs) (hc0 : A = none → c = 0) (hcap : bs.length ≤ c) (hcm : c ≤ maxLen) (hb : Bytes bs)
    (hl : Asks w w.heap.size A' l) (hwf : AskWf l) (hlc : l.length ≤ c') (hlm : c' ≤ maxLen) :
    Calls Try.prog 4 #[.slice A bs.length c, .slice A' l.length c'] w fun e w' => e = .returned (.bool true) ∧ Below w.heap.size w w' := by
  unfold maxLen at hcm hlm
  by_cases h1 : 2000 < bs.length
  · have h1' : (2000 : Int) < bs.length := by omega
    go_enter Try.func4, Try.ntmps4
    go_wp2_with fail
    refine (same_law _).mono ?_
    rintro e w1 ⟨rfl, hb1⟩
    go_wp2
    go_ret
    exact ⟨rfl, hb1⟩
  · by_cases h2 : 100 < l.length
    · have h1' : ¬ (2000 : Int) < bs.length := by omega
      have h2' : (100 : Int) < l.length := by omega
      go_enter Try.func4, Try.ntmps4
      go_wp2_with fail
      refine (same_law _).mono ?_
      rintro e w1 ⟨rfl, hb1⟩
      go_wp2
      go_ret
      exact ⟨rfl, hb1⟩
    · have h1' : ¬ (2000 : Int) < bs.length := by omega
      have h2' : ¬ (100 : Int) < l.length := by omega
      go_enter Try.func4, Try.ntmps4
      go_wp2_with fail
      refine (read_any A c _ bs w hr hc0 hb (by omega)).mono ?_
      rintro e w1 ⟨q, A1, c1, rfl, hq, hq1, hrd1, hb1⟩
      have hrow1 := row_below hr hb1
      have HQ := Lib.hid hq1; clear hq1
      go_wp2
      go_loopw [32] (RdRel w q w1.heap.size l.length) (fun i _ => l.length - (intOf i).toNat)
      case atStart =>
        have hbw : Below w.heap.size w (w1.alloc (.cells #[.slice A bs.length c, .int .i64 0] 48)) := hb1.alloc hb1.size _
        refine ⟨0, bs, 0, A1, c1, A, c, by omega, rfl, ?_, ⟨?_, ?_, ?_, ?_, ?_, hcap, by unfold maxLen; exact hcm, hc0, hb, by omega, hb1.size⟩, hbw⟩
        · exact hrd1.kept (S := Never) (kept_alloc _ _ _) (fun _ _ h => h)
        · simp
        · simp
        · simp
        · simp
        · exact row_below hr hbw
      case round =>
        obtain ⟨k, bs', err, A2, c2, A3, c3, hk, rfl, hrd, hxd, hbel⟩ := hrel
        have hqw : q < w1.heap.size := by have := HQ.out; omega
        clear hrow1 hrd1
        by_cases hlt : k < l.length
        · obtain ⟨b, off, x, y, z, rfl, hbB, hcx, hcy, hcz, ⟨hy0, hy1⟩, hz0, hz1⟩ := asks_at (hl.below hbel) hwf hlt
          by_cases hx0 : x = 0
          · subst hx0
            go_wp2_with fail
            refine (rnum_any wr q _ _ _ _ _ y hrd hy0 hy1).mono ?_
            rintro e w2 ⟨A4, c4, rfl, hrd2, hk2⟩
            have hxd2 := hxd.kept hk2 (fun j hj => by have : j ≠ q := by omega
                                                      exact this)
            have hcy2 := hk2.cellOf hcy (by show ¬ (b = q); omega)
            clear hcx hcz
            go_wp2_with fail
            refine (xnum_any w2 w1.heap.size _ _ _ _ _ y hxd2 hy0 hy1).mono ?_
            rintro e w3 ⟨A5, c5, rfl, hxd3, hk3⟩
            have hrd3 := hrd2.kept hk3 (fun j hj => by have : j ≠ w1.heap.size := by omega
                                                       exact this)
            go_wp2_with fail
            have c16 : ∀ n, Calls Try.prog 16 #[.pointer (some ⟨q, 0, none⟩)] (w3.drewN n) fun e w' => e = .returned (.int .i64 _) ∧ w' = w3.drewN n := fun n => (end_any _ q _ _ _ _ _ (hrd3.drew n)).mono (fun e w' h => ⟨h.1, h.2.symm⟩)
            have c21 : ∀ n, Calls Try.prog 21 #[.pointer (some ⟨w1.heap.size, 0, none⟩)] (w3.drewN n) fun e w' => e = .returned (.int .i64 _) ∧ w' = w3.drewN n := fun n => (xend_any _ w1.heap.size _ _ _ _ _ (hxd3.drew n)).mono (fun e w' h => ⟨h.1, h.2.symm⟩)
            have c15 : ∀ n, Calls Try.prog 15 #[.pointer (some ⟨q, 0, none⟩)] (w3.drewN n) fun e w' => e = .returned (.int .i64 _) ∧ w' = w3.drewN n := fun n => (left_any _ q _ _ _ _ _ (hrd3.drew n)).mono (fun e w' h => ⟨h.1, h.2.symm⟩)
            have hx0 := hxd3.rest
            have C16 := Lib.hid c16
            have C21 := Lib.hid c21
            have C15 := Lib.hid c15
            clear c16 c21 c15
            go_quiet ((first | (go_at_call 16; exact Calls.quiet_of_same (C16.out _)) | (go_at_call 21; exact Calls.quiet_of_same (C21.out _)) | (go_at_call 15; exact Calls.quiet_of_same (C15.out _))))
            go_wp2
            have hbq : Below w.heap.size w w3 := (hbel.trans (hk2.below hbel.size (fun k hk => by have : k = q := hk; omega))).trans (hk3.below (Nat.le_trans hbel.size hk2.size) (fun k hk => by have : k = w1.heap.size := hk; omega))
            exact ⟨⟨k + 1, _, _, _, _, _, _, by omega, by go_num, hrd3.drew nq, hxd3.drew nq, hbq.trans ((kept_drewN _ _ Never).below hbq.size (fun _ h => h.elim))⟩, by simp [intOf]; omega⟩
          · have hx0' : (x == 0) = false := by simpa using hx0
            by_cases hx1 : x = 1
            · subst hx1
              go_wp2_with fail
              refine (rtxt_any wr q _ _ _ _ _ z hrd hz0 hz1).mono ?_
              rintro e w2 ⟨A4, c4, rfl, hrd2, hk2⟩
              have hxd2 := hxd.kept hk2 (fun j hj => by have : j ≠ q := by omega
                                                        exact this)
              have hcz2 := hk2.cellOf hcz (by show ¬ (b = q); omega)
              clear hcx hcy
              go_wp2_with fail
              refine (xtxt_any w2 w1.heap.size _ _ _ _ _ z hxd2 hz0 hz1).mono ?_
              rintro e w3 ⟨A5, c5, rfl, hxd3, hk3⟩
              have hrd3 := hrd2.kept hk3 (fun j hj => by have : j ≠ w1.heap.size := by omega
                                                         exact this)
              go_wp2_with fail
              have c16 : ∀ n, Calls Try.prog 16 #[.pointer (some ⟨q, 0, none⟩)] (w3.drewN n) fun e w' => e = .returned (.int .i64 _) ∧ w' = w3.drewN n := fun n => (end_any _ q _ _ _ _ _ (hrd3.drew n)).mono (fun e w' h => ⟨h.1, h.2.symm⟩)
              have c21 : ∀ n, Calls Try.prog 21 #[.pointer (some ⟨w1.heap.size, 0, none⟩)] (w3.drewN n) fun e w' => e = .returned (.int .i64 _) ∧ w' = w3.drewN n := fun n => (xend_any _ w1.heap.size _ _ _ _ _ (hxd3.drew n)).mono (fun e w' h => ⟨h.1, h.2.symm⟩)
              have c15 : ∀ n, Calls Try.prog 15 #[.pointer (some ⟨q, 0, none⟩)] (w3.drewN n) fun e w' => e = .returned (.int .i64 _) ∧ w' = w3.drewN n := fun n => (left_any _ q _ _ _ _ _ (hrd3.drew n)).mono (fun e w' h => ⟨h.1, h.2.symm⟩)
              have hx0 := hxd3.rest
              have C16 := Lib.hid c16
              have C21 := Lib.hid c21
              have C15 := Lib.hid c15
              clear c16 c21 c15
              go_quiet ((first | (go_at_call 16; exact Calls.quiet_of_same (C16.out _)) | (go_at_call 21; exact Calls.quiet_of_same (C21.out _)) | (go_at_call 15; exact Calls.quiet_of_same (C15.out _))))
              go_wp2
              have hbq : Below w.heap.size w w3 := (hbel.trans (hk2.below hbel.size (fun k hk => by have : k = q := hk; omega))).trans (hk3.below (Nat.le_trans hbel.size hk2.size) (fun k hk => by have : k = w1.heap.size := hk; omega))
              exact ⟨⟨k + 1, _, _, _, _, _, _, by omega, by go_num, hrd3.drew nq, hxd3.drew nq, hbq.trans ((kept_drewN _ _ Never).below hbq.size (fun _ h => h.elim))⟩, by simp [intOf]; omega⟩
            · have hx1' : (x == 1) = false := by simpa using hx1
              go_wp2_with fail
              have c16 : ∀ n, Calls Try.prog 16 #[.pointer (some ⟨q, 0, none⟩)] (wr.drewN n) fun e w' => e = .returned (.int .i64 _) ∧ w' = wr.drewN n := fun n => (end_any _ q _ _ _ _ _ (hrd.drew n)).mono (fun e w' h => ⟨h.1, h.2.symm⟩)
              have c21 : ∀ n, Calls Try.prog 21 #[.pointer (some ⟨w1.heap.size, 0, none⟩)] (wr.drewN n) fun e w' => e = .returned (.int .i64 _) ∧ w' = wr.drewN n := fun n => (xend_any _ w1.heap.size _ _ _ _ _ (hxd.drew n)).mono (fun e w' h => ⟨h.1, h.2.symm⟩)
              have c15 : ∀ n, Calls Try.prog 15 #[.pointer (some ⟨q, 0, none⟩)] (wr.drewN n) fun e w' => e = .returned (.int .i64 _) ∧ w' = wr.drewN n := fun n => (left_any _ q _ _ _ _ _ (hrd.drew n)).mono (fun e w' h => ⟨h.1, h.2.symm⟩)
              have hx0 := hxd.rest
              have C16 := Lib.hid c16
              have C21 := Lib.hid c21
              have C15 := Lib.hid c15
              clear c16 c21 c15
              go_quiet ((first | (go_at_call 16; exact Calls.quiet_of_same (C16.out _)) | (go_at_call 21; exact Calls.quiet_of_same (C21.out _)) | (go_at_call 15; exact Calls.quiet_of_same (C15.out _))))
              go_wp2
              have hbq : Below w.heap.size w wr := hbel
              exact ⟨⟨k + 1, _, _, _, _, _, _, by omega, by go_num, hrd.drew nq, hxd.drew nq, hbq.trans ((kept_drewN _ _ Never).below hbq.size (fun _ h => h.elim))⟩, by simp [intOf]; omega⟩
        · have hke : k = l.length := by omega
          have HK := Lib.hid hke; clear hke
          go_wp2_with fail
          refine (same_law _).mono ?_
          rintro e w9 ⟨rfl, hb9⟩
          go_wp2
          go_ret
          exact ⟨rfl, hbel.trans (hb9.mono hbel.size)⟩
end Go.Proofs.Ytkdmhcllnpiakaa
