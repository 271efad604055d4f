/-
  slices.Clone at attributes and at nodes.
-/
import Derived.Test.YtlkdklpglmglkaaBoxN
namespace Go.Proofs.Ytlkdklpglmglkaa
open Go.RowKit Go.Sort Go.Lib
set_option linter.unusedVariables false
set_option maxRecDepth 100000
def CloneA (w : World) (l : List At) (e : Ending) (w' : World) : Prop := ∃ v, e = .returned v ∧ w'.ownsRow w.heap.size 74 2 v l.length (ats l) ∧ Below w.heap.size w w'
set_option maxHeartbeats 2000000 in
theorem cloneA_any (A : Option Addr) (c : Nat) (l : List At) (w : World) (h : TRow w w.heap.size A l) (hl : l.length ≤ 1000000) (hc0 : A = none → c = 0) : Calls Try.prog 60 #[.slice A l.length c] w (CloneA w l) := by
  obtain ⟨i0, hi, hz0, hz1, hz2⟩ := info_parts Try.info74
  have q22 : ∀ (w : World) (a : Option Addr) (n c n' c' : Nat), (binOp .eql 22 (.slice a n c) (.slice none n' c')).run Try.prog w = .ok (.bool a.isNone) w := fun w a n c n' c' => Lib.run_eql_slice_nil w _ _ a n c n' c' Try.underlying22
  cases A with
  | none =>
    obtain rfl := trow_none h
    obtain rfl := hc0 rfl
    clear h
    go_enter Try.func60, Try.ntmps60
    go_wp2_with fail
    go_ret
    exact ⟨_, rfl, World.ownsRow_nil _ _ _ _, Below.refl _ _⟩
  | some ad =>
    have H := Lib.hid (show TRow (w.alloc (.cells #[] 74)) (w.alloc (.cells #[] 74)).heap.size (some ad) l from h.up ((Below.refl _ _).alloc (Nat.le_refl _) _))
    have HO := Lib.hid (own_empty w 74 2)
    have hbs : w.heap.size ≤ (w.alloc (.cells #[] 74)).heap.size := by simp
    clear h
    go_enter Try.func60, Try.ntmps60
    go_wp2_with (at_builtin; refine wpList_appT rfl _ _ 22 rfl w.heap.size 74 i0 (.agg #[.string ⟨#[]⟩, .string ⟨#[]⟩]) Try.underlying22 hi hz0 hz1 hz2 rfl _ 0 [] rfl HO.out (some ad) l.length c l rfl rfl H.out (fun h => by cases h) (by omega) hbs ?_; intro v4 w4 hown4 hb4)
    go_ret
    exact ⟨v4, rfl, by simpa using hown4, ((Below.refl _ w).alloc (Nat.le_refl _) _).trans hb4⟩
/-- A slice of nodes, each with the places of its two slices. -/
def KRow (w : World) (A : Option Addr) (ps : List KV) : Prop := 0 < ps.length → ∃ b off, A = some ⟨b, off, none⟩ ∧ ∀ j, (h : j < ps.length) → KidCells w b (off + j * 5) ps[j].1 ps[j].2
theorem krow_src {w : World} {ad : Addr} {ps : List KV} (hr : KRow w (some ad) ps) : ∀ j y, (nds ps)[j]? = some y → w.cell? (ad.add j) = some y := by
  intro j y hj
  have hjl : j < ps.length * 5 := by have := (List.getElem?_eq_some_iff.1 hj).1; rw [nds_length] at this; exact this
  obtain ⟨b, off, hA, hc⟩ := hr (by omega)
  obtain rfl : ad = ⟨b, off, none⟩ := by simpa using hA
  have hq : j / 5 < ps.length := by omega
  have e : j = j / 5 * 5 + j % 5 := by omega
  rw [e, nds_at ps (j / 5) hq (j % 5) (by omega)] at hj
  rw [Addr.add_lit, ← hj, show off + j = off + j / 5 * 5 + j % 5 by omega]
  obtain ⟨c0, c1, c2, c3, c4⟩ := hc (j / 5) hq
  have h5 : j % 5 = 0 ∨ j % 5 = 1 ∨ j % 5 = 2 ∨ j % 5 = 3 ∨ j % 5 = 4 := by omega
  rcases h5 with h5 | h5 | h5 | h5 | h5 <;> rw [h5]
  · exact c0
  · exact c1
  · exact c2
  · exact c3
  · exact c4
def CloneN (w : World) (ps : List KV) (e : Ending) (w' : World) : Prop := ∃ v, e = .returned v ∧ w'.ownsRow w.heap.size 25 5 v ps.length (nds ps) ∧ Below w.heap.size w w'
set_option maxHeartbeats 2000000 in
theorem cloneN_any (A : Option Addr) (c : Nat) (ps : List KV) (w : World) (h : KRow w A ps) (hl : ps.length ≤ 1000000) (hc0 : A = none → c = 0) : Calls Try.prog 76 #[.slice A ps.length c] w (CloneN w ps) := by
  obtain ⟨i0, hi, hz0, hz1, hz2⟩ := info_parts Try.info25
  have q22 : ∀ (w : World) (a : Option Addr) (n c n' c' : Nat), (binOp .eql 23 (.slice a n c) (.slice none n' c')).run Try.prog w = .ok (.bool a.isNone) w := fun w a n c n' c' => Lib.run_eql_slice_nil w _ _ a n c n' c' Try.underlying23
  cases A with
  | none =>
    have hn : ps = [] := by
      rcases Nat.eq_zero_or_pos ps.length with h0 | h0
      · exact List.eq_nil_of_length_eq_zero h0
      · obtain ⟨_, _, h, _⟩ := h h0; cases h
    subst hn
    obtain rfl := hc0 rfl
    clear h
    go_enter Try.func76, Try.ntmps76
    go_wp2_with fail
    go_ret
    exact ⟨_, rfl, World.ownsRow_nil _ _ _ _, Below.refl _ _⟩
  | some ad =>
    have H := Lib.hid (show KRow (w.alloc (.cells #[] 25)) (some ad) ps from fun h0 => by
      obtain ⟨b, off, hA, hc⟩ := h h0
      exact ⟨b, off, hA, fun j hj => (hc j hj).kept (kept_alloc w _ (fun _ => False)) (fun h => h)⟩)
    have HO := Lib.hid (own_empty w 25 5)
    have hbs : w.heap.size ≤ (w.alloc (.cells #[] 25)).heap.size := by simp
    have hbl : Below w.heap.size w (w.alloc (.cells #[] 25)) := (Below.refl _ w).alloc (Nat.le_refl _) _
    clear h
    go_enter Try.func76, Try.ntmps76
    go_wp2_with (at_builtin; refine wpList_append_own _ rfl _ _ 23 rfl w.heap.size 25 i0 (.agg #[.string ⟨#[]⟩, .string ⟨#[]⟩, .string ⟨#[]⟩, .slice none 0 0, .slice none 0 0]) 5 96 Try.underlying23 hi hz0 hz1 hz2 rfl (by omega) _ 0 [] rfl HO.out ad ps.length c (nds ps) rfl (nds_length ps) (krow_src H.out) (nds_one ps) (by unfold maxLen; omega) (by omega) hbs ?_; intro v4 w4 hown4 hgr4 _)
    go_ret
    refine ⟨v4, rfl, by simpa using hown4, hbl.trans ((kept_grown hgr4).below hbs (fun k h => ?_))⟩
    have : some k = some w.heap.size := h
    simp at this
    omega
end Go.Proofs.Ytlkdklpglmglkaa
