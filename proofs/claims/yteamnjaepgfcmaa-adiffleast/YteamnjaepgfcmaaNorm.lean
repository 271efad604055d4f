/-
  Clone, Reverse, SortStableFunc at attributes, and attrs.Norm.
-/
import Derived.Test.YteamnjaepgfcmaaCompact
import Derived.Test.YteamnjaepgfcmaaStable
import Derived.Test.YteamnjaepgfcmaaApp
namespace Go.Proofs.Yteamnjaepgfcmaa
open Go.RowKit Go.Sort Go.Lib
set_option linter.unusedVariables false

/-- What a call hands back that makes a slice of attributes; a nil one has no room. -/
def MadeN (w : World) (l : List At) (e : Ending) (w' : World) : Prop := ∃ A c, e = .returned (.slice A l.length c) ∧ TRow w' w'.heap.size A l ∧ l.length ≤ c ∧ c ≤ maxLen ∧ (A = none → c = 0) ∧ Below w.heap.size w w'
theorem MadeA.madeN {w w' : World} {es : List At} {e : Ending} (h : MadeA w es e w') : MadeN w es e w' := by
  obtain ⟨v, rfl, hown, hb⟩ := h
  obtain ⟨A, c, rfl, h1, h2, h3, h4⟩ := trow_own hown
  exact ⟨A, c, rfl, h1, h2, h3, h4, hb⟩
/-- A row of the call's own, above B. -/
def OwnA (B : Nat) (w : World) (A : Option Addr) (l : List At) : Prop := l ≠ [] → ∃ g, A = some ⟨g, 0, none⟩ ∧ B ≤ g ∧ RK w g 0 l.toArray
theorem rk_own {w : World} {base g cap : Nat} {l : List At} (h : w.ownsRow base 56 2 (.slice (some ⟨g, 0, none⟩) l.length cap) l.length (ats l)) : base ≤ g ∧ RK w g 0 l.toArray := by
  rcases h.2 with ⟨hn, _⟩ | ⟨g', cap', cur, he, hg, hh, h1, h2, hs, ht⟩
  · cases hn
  · simp at he
    obtain ⟨rfl, rfl⟩ := he
    refine ⟨hg, encA_len, encA_one, ?_, (Array.getElem?_eq_some_iff.1 hh).1⟩
    intro j hj
    rw [size_flatK] at hj
    have hj' : j < l.length * 2 := by simpa using hj
    have e : (ats l)[j]? = some (flatK encA 2 l.toArray)[j]! := by
      rw [← flat_ats, Array.getElem?_toList, Array.getElem?_eq_getElem (by simpa using hj'), getElem!_pos _ j (by simpa using hj')]
    rw [Nat.zero_add]
    exact ⟨(World.ownsRow.cellAt h j (by omega)).trans e, World.ownsRow.frozenAt h j⟩
theorem own_of {w w' : World} {l : List At} {v : Value} (hown : w'.ownsRow w.heap.size 56 2 v l.length (ats l)) : ∃ A c, v = .slice A l.length c ∧ OwnA w.heap.size w' A l ∧ l.length ≤ c ∧ c ≤ maxLen ∧ (A = none → c = 0) := by
  obtain ⟨A', c', rfl, hr, h1, h2, h3⟩ := trow_own hown
  refine ⟨A', c', rfl, fun hne => ?_, h1, h2, h3⟩
  obtain ⟨g, off', hg, _, _⟩ := hr (List.length_pos_iff.2 hne)
  subst hg
  rcases hown.2 with ⟨hn, _⟩ | ⟨g', cap', cur, he, hg, hh, k1, k2, hs, ht⟩
  · cases hn
  · simp at he
    obtain ⟨⟨rfl, rfl⟩, rfl⟩ := he
    obtain ⟨r1, r2⟩ := rk_own hown
    exact ⟨g, rfl, r1, r2⟩
set_option maxHeartbeats 2000000 in
theorem clone_own (A : Option Addr) (c : Nat) (l : List At) (w : World) (h : TRow w w.heap.size A l) (hl : l.length ≤ 1000000) (hc0 : A = none → c = 0) : Calls Try.prog 37 #[.slice A l.length c] w (MadeA w l) := by
  obtain ⟨i0, hi, hz0, hz1, hz2⟩ := info_parts Try.info56
  have q22 : ∀ (w : World) (a : Option Addr) (n c n' c' : Nat), (binOp .eql 22 (.slice a n c) (.slice none n' c')).run Try.prog w = .ok (.bool a.isNone) w := fun w a n c n' c' => Lib.run_eql_slice_nil w _ _ a n c n' c' Try.underlying22
  cases A with
  | none =>
    have hn := trow_none h
    subst hn
    obtain rfl := hc0 rfl
    go_enter Try.func37, Try.ntmps37
    go_wp2
    go_ret
    exact ⟨_, rfl, ⟨rfl, .inl ⟨rfl, rfl⟩⟩, Below.refl _ _⟩
  | some ad =>
    have H := Lib.hid h
    go_enter Try.func37, Try.ntmps37
    go_wp2_with (at_builtin; refine wpList_appT rfl _ _ 22 rfl w.heap.size 56 i0 _ Try.underlying22 hi hz0 hz1 hz2 rfl _ _ _ rfl (World.ownsRow_made w #[] 0 (Nat.le_refl _) (Nat.zero_le _) (by simp)) (some ad) l.length c l rfl rfl (H.out.up ((Below.refl _ w).alloc (Nat.le_refl _) _)) (fun h => by cases h) (by omega) (by simp) ?_; intro v1 w1 hown hb)
    go_ret
    exact ⟨_, rfl, own_ats hown (by simp) (by simp), ((Below.refl _ w).alloc (Nat.le_refl _) _).trans hb⟩
theorem rk_sw {w0 W : World} {blk off : Nat} {d0 dk : Array At} (R : RK w0 blk off d0) (S : SW w0 blk off dk W) (hs : dk.size = d0.size) : RK W blk off dk :=
  ⟨encA_len, encA_one, S.holds R.hblk R.hH hs, S.lt R.hblk⟩
theorem rev_any (blk off cap : Nat) (d : Array At) (w : World) (R : RK w blk off d) (hsz : d.size < 4611686018427387904) :
    Calls Try.prog 40 #[.slice (some ⟨blk, off, none⟩) d.size cap] w fun e w' => e = .returned (.tuple #[]) ∧ SW w blk off d.reverse w' := by
  have hc := Go.Proofs.AnyQ.slices_Reverse (α := At) Try.layRev 2 (fun w => by kernel_rfl) (fun w => by kernel_rfl) encA encA_len encA_one blk off cap d w R.hH (by omega)
  change Calls Try.prog 40 _ _ _ at hc
  refine hc.mono ?_
  rintro e w' ⟨rfl, n, rfl⟩
  exact ⟨rfl, n, #[], by unfold sortWorldK; rw [grow_empty]⟩
theorem rev_none (A : Option Addr) (cap : Nat) (w : World) : Calls Try.prog 40 #[.slice A 0 cap] w fun e w' => e = .returned (.tuple #[]) ∧ w' = w := by
  have hc := Go.Proofs.AnyQ.slices_Reverse_empty Try.layRev A cap w
  change Calls Try.prog 40 _ _ _ at hc
  exact hc
set_option maxHeartbeats 1000000 in
theorem sortStable_any (blk off cap : Nat) (d : Array At) (w0 : World) (R : RK w0 blk off d) (hsz : d.size < 4611686018427387904) :
    Calls Try.prog 41 #[.slice (some ⟨blk, off, none⟩) d.size cap, cmpV] w0 (StabPost w0 blk off d) := by
  have HC := Lib.hid (stable_any blk off cap d w0 R hsz)
  go_enter Try.func41, Try.ntmps41
  go_wp2_with (go_at_call 56; refine HC.out.mono ?_; rintro e w1 ⟨rfl, h⟩)
  go_end0
  exact ⟨rfl, h⟩
set_option maxHeartbeats 1000000 in
theorem ins_none (A : Option Addr) (cap : Nat) (w : World) : Calls Try.prog 63 #[.slice A 0 cap, .int .i64 0, .int .i64 0, cmpV] w fun e w' => e = .returned (.tuple #[]) ∧ w' = w := by
  go_enter Try.func63, Try.ntmps63
  go_wp2
  go_loopg [8] 0 (fun _ s8 wr => s8 = .int .i64 1 ∧ wr = w)
  case atStart => exact ⟨rfl, rfl⟩
  case round =>
    obtain ⟨rfl, rfl⟩ := hrel
    go_wp2
    go_end0
    exact ⟨rfl, rfl⟩
set_option maxHeartbeats 1000000 in
theorem stable_none (A : Option Addr) (cap : Nat) (w : World) : Calls Try.prog 56 #[.slice A 0 cap, .int .i64 0, cmpV] w fun e w' => e = .returned (.tuple #[]) ∧ w' = w := by
  have HC := Lib.hid (ins_none A cap w)
  go_enter Try.func56, Try.ntmps56
  go_wp2
  go_loopg [7, 8] 0 (fun _ s7 s8 wr => s7 = .int .i64 0 ∧ s8 = .int .i64 20 ∧ wr = w)
  case atStart => exact ⟨rfl, rfl, rfl⟩
  case round =>
    obtain ⟨rfl, rfl, rfl⟩ := hrel
    go_wp2_with (go_at_call 63; refine HC.out.mono ?_; rintro e w1 ⟨rfl, rfl⟩)
    go_loopg [6, 7, 8, 9] 0 (fun _ s6 s7 s8 s9 wr => s6 = .int .i64 20 ∧ wr = w1)
    case atStart => exact ⟨rfl, rfl⟩
    case round =>
      obtain ⟨rfl, rfl⟩ := hrel
      go_wp2
      go_end0
      exact ⟨rfl, rfl⟩
set_option maxHeartbeats 1000000 in
theorem sortStable_none (A : Option Addr) (cap : Nat) (w : World) : Calls Try.prog 41 #[.slice A 0 cap, cmpV] w fun e w' => e = .returned (.tuple #[]) ∧ w' = w := by
  have HC := Lib.hid (stable_none A cap w)
  go_enter Try.func41, Try.ntmps41
  go_wp2_with (go_at_call 56; refine HC.out.mono ?_; rintro e w1 ⟨rfl, rfl⟩)
  go_end0
  exact ⟨rfl, rfl⟩
set_option maxHeartbeats 1000000 in
theorem compact_none (A : Option Addr) (cap : Nat) (w : World) : Calls Try.prog 43 #[.slice A 0 cap, sameV] w fun e w' => e = .returned (.slice A 0 cap) ∧ w' = w := by
  go_enter Try.func43, Try.ntmps43
  go_wp2
  go_ret
  exact ⟨rfl, rfl⟩
set_option maxHeartbeats 2000000 in
theorem norm_any (A : Option Addr) (c : Nat) (l : List At) (w : World) (h : TRow w w.heap.size A l) (hl : l.length ≤ 1000000) (hc0 : A = none → c = 0) : Calls Try.prog 21 #[.slice A l.length c] w (MadeN w (normL l)) := by
  have HC := Lib.hid (clone_own A c l w h hl hc0)
  clear h
  go_enter Try.func21, Try.ntmps21
  go_wp2_with fail
  refine HC.out.mono ?_
  rintro e w1 ⟨v, rfl, hown, hb1⟩
  obtain ⟨A', c', rfl, hO, k1, k2, k3⟩ := own_of hown
  clear hown HC
  by_cases h0 : l = []
  · subst h0
    have HB := Lib.hid hb1
    clear hb1 hO
    go_wp2_with fail
    refine (rev_none A' c' w1).mono ?_
    rintro e w2 ⟨rfl, rfl⟩
    go_wp2_with fail
    refine (sortStable_none A' c' w2).mono ?_
    rintro e w3 ⟨rfl, rfl⟩
    go_wp2_with fail
    refine (compact_none A' c' w3).mono ?_
    rintro e w4 ⟨rfl, rfl⟩
    go_wp2_with fail
    go_ret
    exact ⟨A', c', rfl, TRow.nil _ _ _, by simp [normL], k2, k3, HB.out⟩
  · obtain ⟨g, rfl, hg, R⟩ := hO h0
    have HB := Lib.hid hb1; have HR := Lib.hid R
    have e0 : l.toArray.size = l.length := by simp
    have er : l.toArray.reverse.size = l.length := by simp
    have C1 := Lib.hid (rev_any g 0 c' l.toArray w1 R (by rw [e0]; omega))
    rw [e0] at C1
    clear hb1 hO R
    go_wp2_with fail
    refine C1.out.mono ?_
    rintro e w2 ⟨rfl, S2⟩
    have R2 := rk_sw HR.out S2 (by rw [e0, er])
    have HB2 := Lib.hid (HB.out.trans (S2.below hg (HB.out.size)))
    have C2 := Lib.hid (sortStable_any g 0 c' l.toArray.reverse w2 R2 (by rw [er]; omega))
    rw [er] at C2
    have HR2 := Lib.hid R2
    clear R2 S2 C1
    go_wp2_with fail
    refine C2.out.mono ?_
    rintro e w3 ⟨rfl, d3, hd3, hs3, ht3, S3⟩
    have R3 := rk_sw HR2.out S3 hd3
    have HB3 := Lib.hid (HB2.out.trans (S3.below hg (HB2.out.size)))
    have e3 : d3.size = l.length := by rw [hd3, er]
    have C3 := Lib.hid (compact_any g 0 c' d3 w3 R3 (by rw [e3]; omega) (by rw [e3]; exact k1) k2)
    rw [e3] at C3
    have HN := Lib.hid (show compL d3.toList = normL l from comp_norm hs3 (by simpa using ht3))
    clear R3 S3 C2 hs3 ht3 hd3
    go_wp2_with fail
    refine C3.out.mono ?_
    rintro e w4 ⟨rfl, hr4, hb4⟩
    have HR4 := Lib.hid hr4
    have HB4 := Lib.hid (HB3.out.trans (hb4 w.heap.size hg HB3.out.size))
    have hle := Lib.hid (compL_le d3.toList)
    clear hr4 hb4 C3
    rw [HN.out] at HR4 hle
    rw [HN.out]
    go_wp2_with fail
    go_ret
    refine ⟨_, c', rfl, HR4.out, ?_, k2, (fun h => by cases h), HB4.out⟩
    have := hle.out
    simp at this
    omega
end Go.Proofs.Yteamnjaepgfcmaa
