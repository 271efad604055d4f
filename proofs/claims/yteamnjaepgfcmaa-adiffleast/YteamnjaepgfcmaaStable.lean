/-
  slices.SortStableFunc at attributes: sorted by name, the order of equals kept.
-/
import Derived.Test.YteamnjaepgfcmaaStMath
import Derived.Test.YteamnjaepgfcmaaSymC
import Derived.Test.YteamnjaepgfcmaaShelf
namespace Go.Proofs.Yteamnjaepgfcmaa
open Go.RowKit Go.Sort Go.Lib
set_option linter.unusedVariables false

theorem ins_any (blk off cap a b : Nat) (d0 d : Array At) (w0 w : World) (R : RK w0 blk off d0) (hs : d.size = d0.size) (S : SW w0 blk off d w) (hsz : d0.size < 4611686018427387904)
    (P X Z : List At) (hd : d.toList = P ++ X ++ Z) (ha : P.length = a) (hb : a + X.length = b) :
    Calls Try.prog 63 #[.slice (some ⟨blk, off, none⟩) d0.size cap, .int .i64 a, .int .i64 b, cmpV] w fun e w' => e = .returned (.tuple #[]) ∧ ∃ (d' : Array At) (T : List At), d'.toList = P ++ T ++ Z ∧ T.length = X.length ∧ Srt T ∧ Stb X T ∧ SW w0 blk off d' w' := by
  have hbs : b ≤ d.size := by rw [size_list' hd]; simp; omega
  have hH := S.holds R.hblk R.hH hs
  have hc := Go.Proofs.AnyQ.insertionSortCmpFunc (α := At) Try.layIns 2 (fun w => by kernel_rfl) (fun w => by kernel_rfl) encA encA_len encA_one cfA 42 #[] blk off cap a b d w (enters_of Try.func42 (by kernel_rfl) rfl) (cmpLays blk off d.size w) hH (S.lt R.hblk) (by omega) hbs (by omega)
  change Calls Try.prog 63 _ _ _ at hc
  rw [hs] at hc
  refine hc.mono ?_
  rintro e w' ⟨rfl, n, os, rfl⟩
  obtain ⟨T, h1, h2, h3, h4⟩ := ins_list hd ha hb
  refine ⟨rfl, _, T, h1, h2, h3, h4, S.on R.hblk n _ os ?_⟩
  rw [size_list' h1, size_list' hd]; simp [h2]

def St1 (w0 : World) (blk off : Nat) (d : Array At) (a : Nat) (wr : World) : Prop := ∃ (dk : Array At) (Q r : List At), dk.size = d.size ∧ dk.toList = Q ++ r ∧ Q.length = a ∧ Full 20 Q ∧ Stb d.toList dk.toList ∧ SW w0 blk off dk wr
def St2 (w0 : World) (blk off : Nat) (d : Array At) (bs : Nat) (wr : World) : Prop := ∃ dk : Array At, dk.size = d.size ∧ Blk bs dk.toList ∧ Stb d.toList dk.toList ∧ SW w0 blk off dk wr
def St3 (w0 : World) (blk off : Nat) (d : Array At) (bs a : Nat) (wr : World) : Prop := ∃ (dk : Array At) (Q r : List At), dk.size = d.size ∧ dk.toList = Q ++ r ∧ Q.length = a ∧ Full (2 * bs) Q ∧ Blk bs r ∧ Stb d.toList dk.toList ∧ SW w0 blk off dk wr
section
variable {blk off cap : Nat} {d0 d : Array At} {w0 wr : World}
theorem st1_step (R : RK w0 blk off d0) (hs : d.size = d0.size) (hsz : d0.size < 4611686018427387904) {a : Nat} (h : St1 w0 blk off d a wr) (ha : a + 20 ≤ d0.size) :
    Calls Try.prog 63 #[.slice (some ⟨blk, off, none⟩) d0.size cap, .int .i64 a, .int .i64 ((a : Int) + 20), cmpV] wr fun e w' => e = .returned (.tuple #[]) ∧ St1 w0 blk off d (a + 20) w' := by
  obtain ⟨dk, Q, r, h1, h2, h3, h4, h5, h6⟩ := h
  have hr : 20 ≤ r.length := by have := size_list' h2; simp at this; omega
  have hc := ins_any blk off cap a (a + 20) d0 dk w0 wr R (by omega) h6 hsz Q (r.take 20) (r.drop 20) (by rw [h2]; simp) h3 (by simp; omega)
  rw [show ((a + 20 : Nat) : Int) = (a : Int) + 20 by omega] at hc
  refine hc.mono ?_
  rintro e w' ⟨rfl, d', T, g1, g2, g3, g4, g5⟩
  refine ⟨rfl, d', Q ++ T, r.drop 20, ?_, g1, by simp [g2]; omega, .snoc Q T h4 (by rw [g2]; simp; omega) g3, h5.trans ?_, g5⟩
  · rw [← h1, size_list' g1, size_list' h2]; simp [g2]; omega
  · rw [h2, g1]
    have := ((Stb.refl Q).append g4).append (Stb.refl (r.drop 20))
    simpa using this
theorem st1_last (R : RK w0 blk off d0) (hs : d.size = d0.size) (hsz : d0.size < 4611686018427387904) {a : Nat} (h : St1 w0 blk off d a wr) (ha : a ≤ d0.size) (hl : d0.size ≤ a + 20) :
    Calls Try.prog 63 #[.slice (some ⟨blk, off, none⟩) d0.size cap, .int .i64 a, .int .i64 d0.size, cmpV] wr fun e w' => e = .returned (.tuple #[]) ∧ St2 w0 blk off d 20 w' := by
  obtain ⟨dk, Q, r, h1, h2, h3, h4, h5, h6⟩ := h
  have hr : a + r.length = d0.size := by have := size_list' h2; simp at this; omega
  have hc := ins_any blk off cap a d0.size d0 dk w0 wr R (by omega) h6 hsz Q r [] (by rw [h2]; simp) h3 hr
  refine hc.mono ?_
  rintro e w' ⟨rfl, d', T, g1, g2, g3, g4, g5⟩
  refine ⟨rfl, d', ?_, ?_, h5.trans ?_, g5⟩
  · rw [← h1, size_list' g1, size_list' h2]; simp [g2]
  · rw [g1, List.append_nil]; exact h4.blk (.last T (by omega) g3)
  · rw [h2, g1, List.append_nil]; exact (Stb.refl Q).append g4
theorem st3_start {bs : Nat} (h : St2 w0 blk off d bs wr) : St3 w0 blk off d bs 0 wr := by
  obtain ⟨dk, h1, h2, h3, h4⟩ := h
  exact ⟨dk, [], dk.toList, h1, by simp, rfl, .nil, h2, h3, h4⟩
theorem st3_step (R : RK w0 blk off d0) (hs : d.size = d0.size) (hsz : d0.size < 4611686018427387904) {bs a : Nat} (hbs : 0 < bs) (h : St3 w0 blk off d bs a wr) (ha : a + 2 * bs ≤ d0.size) :
    Calls Try.prog 64 #[.slice (some ⟨blk, off, none⟩) d0.size cap, .int .i64 a, .int .i64 ((a : Int) + bs), .int .i64 ((a : Int) + 2 * bs), cmpV] wr fun e w' => e = .returned (.tuple #[]) ∧ St3 w0 blk off d bs (a + 2 * bs) w' := by
  obtain ⟨dk, Q, r, h1, h2, h3, h4, h5, h6, h7⟩ := h
  have hr : a + r.length = d0.size := by have := size_list' h2; simp at this; omega
  obtain ⟨X, r1, rfl, x1, x2, x3⟩ := h5.split (by omega)
  obtain ⟨Y, r2, rfl, y1, y2, y3⟩ := x3.split (by simp at hr; omega)
  have hc := sym_any blk off cap d0 w0 R hsz (2 * bs) a (a + bs) (a + 2 * bs) dk wr Q X Y r2 (by omega) (by omega) h7 (by rw [h2]; simp) h3 (by omega) (by omega) (by omega) (by omega) x2 y2
  rw [show ((a + bs : Nat) : Int) = (a : Int) + bs by omega, show ((a + 2 * bs : Nat) : Int) = (a : Int) + 2 * bs by omega] at hc
  refine hc.mono ?_
  rintro e w' ⟨rfl, d', T, g1, g2, g3, g4, g5⟩
  refine ⟨rfl, d', Q ++ T, r2, ?_, g1, by simp [g2]; omega, .snoc Q T h4 (by omega) g3, y3, h6.trans ?_, g5⟩
  · rw [← h1, size_list' g1, size_list' h2]; simp [g2]; omega
  · rw [h2, g1]
    have := ((Stb.refl Q).append g4).append (Stb.refl r2)
    simpa using this
theorem st3_last (R : RK w0 blk off d0) (hs : d.size = d0.size) (hsz : d0.size < 4611686018427387904) {bs a : Nat} (hbs : 0 < bs) (h : St3 w0 blk off d bs a wr) (ha : a + bs < d0.size) (hl : d0.size < a + 2 * bs) :
    Calls Try.prog 64 #[.slice (some ⟨blk, off, none⟩) d0.size cap, .int .i64 a, .int .i64 ((a : Int) + bs), .int .i64 d0.size, cmpV] wr fun e w' => e = .returned (.tuple #[]) ∧ St2 w0 blk off d (2 * bs) w' := by
  obtain ⟨dk, Q, r, h1, h2, h3, h4, h5, h6, h7⟩ := h
  have hr : a + r.length = d0.size := by have := size_list' h2; simp at this; omega
  obtain ⟨X, Y, rfl, x1, x2, x3⟩ := h5.split (by omega)
  have y2 : Srt Y := x3.small (by simp at hr; omega)
  have hc := sym_any blk off cap d0 w0 R hsz (2 * bs) a (a + bs) d0.size dk wr Q X Y [] (by omega) (by omega) h7 (by rw [h2]; simp) h3 (by omega) (by simp at hr; omega) (by omega) (by simp at hr; omega) x2 y2
  rw [show ((a + bs : Nat) : Int) = (a : Int) + bs by omega] at hc
  refine hc.mono ?_
  rintro e w' ⟨rfl, d', T, g1, g2, g3, g4, g5⟩
  refine ⟨rfl, d', ?_, ?_, h6.trans ?_, g5⟩
  · rw [← h1, size_list' g1, size_list' h2]; simp [g2]
  · rw [g1, List.append_nil]; exact h4.blk (.last T (by simp at hr; omega) g3)
  · rw [h2, g1, List.append_nil]; exact (Stb.refl Q).append g4
theorem st3_none (hs : d.size = d0.size) {bs a : Nat} (h : St3 w0 blk off d bs a wr) (ha : d0.size ≤ a + bs) : St2 w0 blk off d (2 * bs) wr := by
  obtain ⟨dk, Q, r, h1, h2, h3, h4, h5, h6, h7⟩ := h
  have hr : a + r.length = d0.size := by have := size_list' h2; simp at this; omega
  exact ⟨dk, h1, by rw [h2]; exact h4.blk (.last r (by omega) (h5.small (by omega))), h6, h7⟩
end
/-- What a stable sort leaves. -/
def StabPost (w0 : World) (blk off : Nat) (d : Array At) (e : Ending) (w' : World) : Prop := e = .returned (.tuple #[]) ∧ ∃ d' : Array At, d'.size = d.size ∧ Srt d'.toList ∧ Stb d.toList d'.toList ∧ SW w0 blk off d' w'
set_option maxHeartbeats 4000000 in
set_option maxRecDepth 1000000 in
theorem stable_any (blk off cap : Nat) (d : Array At) (w0 : World) (R : RK w0 blk off d) (hsz : d.size < 4611686018427387904) :
    Calls Try.prog 56 #[.slice (some ⟨blk, off, none⟩) d.size cap, .int .i64 d.size, cmpV] w0 (StabPost w0 blk off d) := by
  have S0 := Lib.hid (show St1 w0 blk off d 0 w0 from ⟨d, [], d.toList, rfl, by simp, rfl, .nil, Stb.refl _, SWK.start R.hH⟩)
  go_enter Try.func56, Try.ntmps56
  go_wp2
  go_loopg [7, 8] d.size (fun g s7 s8 wr => ∃ a : Nat, s7 = .int .i64 a ∧ s8 = .int .i64 ((a : Int) + 20) ∧ a ≤ d.size ∧ d.size - a ≤ g ∧ RowKit.Hid (St1 w0 blk off d a wr))
  case atStart => exact ⟨0, rfl, rfl, by omega, by omega, S0⟩
  case round =>
    clear S0
    obtain ⟨a, rfl, rfl, ha, hg, S1⟩ := hrel
    by_cases hlt : a + 20 ≤ d.size
    · have h1 : (a : Int) + 20 ≤ (d.size : Int) := by omega
      have HC := Lib.hid (st1_step (cap := cap) R rfl hsz S1.out hlt)
      clear S1
      go_wp2_with (go_at_call 63; refine HC.out.mono ?_; rintro e w1 ⟨rfl, S2⟩)
      go_roundg (d.size - (a + 20))
      case measure => omega
      case rel => exact ⟨a + 20, by go_num, by go_num, by omega, by omega, S2⟩
    · have h1 : ¬ (a : Int) + 20 ≤ (d.size : Int) := by omega
      have HC := Lib.hid (st1_last (cap := cap) R rfl hsz S1.out ha (by omega))
      clear S1
      go_wp2_with (go_at_call 63; refine HC.out.mono ?_; rintro e w1 ⟨rfl, S2⟩)
      have HS2 := Lib.hid S2
      clear S2 HC h1
      go_loopg [6, 7, 8, 9] d.size (fun g s6 _ _ _ wr => ∃ bs : Nat, s6 = .int .i64 bs ∧ 0 < bs ∧ d.size - bs ≤ g ∧ RowKit.Hid (St2 w0 blk off d bs wr))
      case atStart => exact ⟨20, rfl, by omega, by omega, HS2⟩
      case round =>
        clear HS2
        obtain ⟨bs, rfl, hbs, hg2, S2⟩ := hrel
        by_cases hlt2 : bs < d.size
        · have h2 : (bs : Int) < (d.size : Int) := by omega
          have S3 := Lib.hid (st3_start S2.out)
          clear S2
          go_wp2_with fail
          go_loopg [7, 8] d.size (fun g s7 s8 wr2 => ∃ a : Nat, s7 = .int .i64 a ∧ s8 = .int .i64 ((a : Int) + 2 * bs) ∧ a ≤ d.size ∧ d.size - a ≤ g ∧ RowKit.Hid (St3 w0 blk off d bs a wr2))
          case atStart => exact ⟨0, rfl, by simp, by omega, by omega, S3⟩
          case round =>
            clear S3
            obtain ⟨a, rfl, rfl, ha, hg3, S3⟩ := hrel
            by_cases hlt3 : a + 2 * bs ≤ d.size
            · have h3 : (a : Int) + 2 * (bs : Int) ≤ (d.size : Int) := by omega
              have HC := Lib.hid (st3_step (cap := cap) R rfl hsz hbs S3.out hlt3)
              clear S3
              go_wp2_with (go_at_call 64; refine HC.out.mono ?_; rintro e w1 ⟨rfl, S4⟩)
              go_roundg (d.size - (a + 2 * bs))
              case measure => omega
              case rel => exact ⟨a + 2 * bs, by go_num, by go_num, by omega, by omega, S4⟩
            · have h3 : ¬ (a : Int) + 2 * (bs : Int) ≤ (d.size : Int) := by omega
              by_cases hlt4 : a + bs < d.size
              · have h4 : (a : Int) + (bs : Int) < (d.size : Int) := by omega
                have HC := Lib.hid (st3_last (cap := cap) R rfl hsz hbs S3.out hlt4 (by omega))
                clear S3
                go_wp2_with (go_at_call 64; refine HC.out.mono ?_; rintro e w1 ⟨rfl, S4⟩)
                go_roundg (d.size - 2 * bs)
                case measure => omega
                case rel => exact ⟨2 * bs, by go_num, by omega, by omega, S4⟩
              · have h4 : ¬ (a : Int) + (bs : Int) < (d.size : Int) := by omega
                have S4 := Lib.hid (st3_none rfl S3.out (by omega))
                clear S3
                go_wp2_with fail
                go_roundg (d.size - 2 * bs)
                case measure => omega
                case rel => exact ⟨2 * bs, by go_num, by omega, by omega, S4⟩
        · have h2 : ¬ (bs : Int) < (d.size : Int) := by omega
          go_wp2_with fail
          go_end0
          obtain ⟨dk, k1, k2, k3, k4⟩ := S2.out
          exact ⟨rfl, dk, k1, k2.small (by rw [Array.length_toList]; omega), k3, k4⟩
end Go.Proofs.Yteamnjaepgfcmaa
