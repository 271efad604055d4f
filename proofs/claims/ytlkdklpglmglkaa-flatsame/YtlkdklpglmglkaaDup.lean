/-
  slices.Clone at attributes and at nodes. | vtree.duplicate: a tree in new memory, its two rows the call's own.
-/
import Derived.Test.YtlkdklpglmglkaaTwin
namespace Go.Proofs.Ytlkdklpglmglkaa
open Go.RowKit Go.Sort Go.Lib
set_option linter.unusedVariables false
set_option maxRecDepth 100000
def CloneA (w : World) (l : List At) (e : Ending) (w' : World) : Prop := ∃ v, e = .returned v ∧ w'.ownsRow w.heap.size 74 2 v l.length (ats l) ∧ Below w.heap.size w w'
set_option maxHeartbeats 2000000 in
theorem cloneA_any (A : Option Addr) (c : Nat) (l : List At) (w : World) (h : TRow w w.heap.size A l) (hl : l.length ≤ 1000000) (hc0 : A = none → c = 0) : Calls Try.prog 60 #[.slice A l.length c] w (CloneA w l) := by
  obtain ⟨i0, hi, hz0, hz1, hz2⟩ := info_parts Try.info74
  have q22 : ∀ (w : World) (a : Option Addr) (n c n' c' : Nat), (binOp .eql 22 (.slice a n c) (.slice none n' c')).run Try.prog w = .ok (.bool a.isNone) w := fun w a n c n' c' => Lib.run_eql_slice_nil w _ _ a n c n' c' Try.underlying22
  cases A with
  | none =>
    obtain rfl := trow_none h
    obtain rfl := hc0 rfl
    clear h
    go_enter Try.func60, Try.ntmps60
    go_wp2_with fail
    go_ret
    exact ⟨_, rfl, World.ownsRow_nil _ _ _ _, Below.refl _ _⟩
  | some ad =>
    have H := Lib.hid (show TRow (w.alloc (.cells #[] 74)) (w.alloc (.cells #[] 74)).heap.size (some ad) l from h.up ((Below.refl _ _).alloc (Nat.le_refl _) _))
    have HO := Lib.hid (own_empty w 74 2)
    have hbs : w.heap.size ≤ (w.alloc (.cells #[] 74)).heap.size := by simp
    clear h
    go_enter Try.func60, Try.ntmps60
    go_wp2_with (at_builtin; refine wpList_appT rfl _ _ 22 rfl w.heap.size 74 i0 (.agg #[.string ⟨#[]⟩, .string ⟨#[]⟩]) Try.underlying22 hi hz0 hz1 hz2 rfl _ 0 [] rfl HO.out (some ad) l.length c l rfl rfl H.out (fun h => by cases h) (by omega) hbs ?_; intro v4 w4 hown4 hb4)
    go_ret
    exact ⟨v4, rfl, by simpa using hown4, ((Below.refl _ w).alloc (Nat.le_refl _) _).trans hb4⟩
/-- A slice of nodes, each with the places of its two slices. -/
def KRow (w : World) (A : Option Addr) (ps : List KV) : Prop := 0 < ps.length → ∃ b off, A = some ⟨b, off, none⟩ ∧ ∀ j, (h : j < ps.length) → KidCells w b (off + j * 5) ps[j].1 ps[j].2
theorem krow_src {w : World} {ad : Addr} {ps : List KV} (hr : KRow w (some ad) ps) : ∀ j y, (nds ps)[j]? = some y → w.cell? (ad.add j) = some y := by
  intro j y hj
  have hjl : j < ps.length * 5 := by have := (List.getElem?_eq_some_iff.1 hj).1; rw [nds_length] at this; exact this
  obtain ⟨b, off, hA, hc⟩ := hr (by omega)
  obtain rfl : ad = ⟨b, off, none⟩ := by simpa using hA
  have hq : j / 5 < ps.length := by omega
  have e : j = j / 5 * 5 + j % 5 := by omega
  rw [e, nds_at ps (j / 5) hq (j % 5) (by omega)] at hj
  rw [Addr.add_lit, ← hj, show off + j = off + j / 5 * 5 + j % 5 by omega]
  obtain ⟨c0, c1, c2, c3, c4⟩ := hc (j / 5) hq
  have h5 : j % 5 = 0 ∨ j % 5 = 1 ∨ j % 5 = 2 ∨ j % 5 = 3 ∨ j % 5 = 4 := by omega
  rcases h5 with h5 | h5 | h5 | h5 | h5 <;> rw [h5]
  · exact c0
  · exact c1
  · exact c2
  · exact c3
  · exact c4
def CloneN (w : World) (ps : List KV) (e : Ending) (w' : World) : Prop := ∃ v, e = .returned v ∧ w'.ownsRow w.heap.size 25 5 v ps.length (nds ps) ∧ Below w.heap.size w w'
set_option maxHeartbeats 2000000 in
theorem cloneN_any (A : Option Addr) (c : Nat) (ps : List KV) (w : World) (h : KRow w A ps) (hl : ps.length ≤ 1000000) (hc0 : A = none → c = 0) : Calls Try.prog 76 #[.slice A ps.length c] w (CloneN w ps) := by
  obtain ⟨i0, hi, hz0, hz1, hz2⟩ := info_parts Try.info25
  have q22 : ∀ (w : World) (a : Option Addr) (n c n' c' : Nat), (binOp .eql 23 (.slice a n c) (.slice none n' c')).run Try.prog w = .ok (.bool a.isNone) w := fun w a n c n' c' => Lib.run_eql_slice_nil w _ _ a n c n' c' Try.underlying23
  cases A with
  | none =>
    have hn : ps = [] := by
      rcases Nat.eq_zero_or_pos ps.length with h0 | h0
      · exact List.eq_nil_of_length_eq_zero h0
      · obtain ⟨_, _, h, _⟩ := h h0; cases h
    subst hn
    obtain rfl := hc0 rfl
    clear h
    go_enter Try.func76, Try.ntmps76
    go_wp2_with fail
    go_ret
    exact ⟨_, rfl, World.ownsRow_nil _ _ _ _, Below.refl _ _⟩
  | some ad =>
    have H := Lib.hid (show KRow (w.alloc (.cells #[] 25)) (some ad) ps from fun h0 => by
      obtain ⟨b, off, hA, hc⟩ := h h0
      exact ⟨b, off, hA, fun j hj => (hc j hj).kept (kept_alloc w _ (fun _ => False)) (fun h => h)⟩)
    have HO := Lib.hid (own_empty w 25 5)
    have hbs : w.heap.size ≤ (w.alloc (.cells #[] 25)).heap.size := by simp
    have hbl : Below w.heap.size w (w.alloc (.cells #[] 25)) := (Below.refl _ w).alloc (Nat.le_refl _) _
    clear h
    go_enter Try.func76, Try.ntmps76
    go_wp2_with (at_builtin; refine wpList_append_own _ rfl _ _ 23 rfl w.heap.size 25 i0 (.agg #[.string ⟨#[]⟩, .string ⟨#[]⟩, .string ⟨#[]⟩, .slice none 0 0, .slice none 0 0]) 5 96 Try.underlying23 hi hz0 hz1 hz2 rfl (by omega) _ 0 [] rfl HO.out ad ps.length c (nds ps) rfl (nds_length ps) (krow_src H.out) (nds_one ps) (by unfold maxLen; omega) (by omega) hbs ?_; intro v4 w4 hown4 hgr4 _)
    go_ret
    refine ⟨v4, rfl, by simpa using hown4, hbl.trans ((kept_grown hgr4).below hbs (fun k h => ?_))⟩
    have : some k = some w.heap.size := h
    simp at this
    omega
end Go.Proofs.Ytlkdklpglmglkaa

namespace Go.Proofs.Ytlkdklpglmglkaa
open Go.RowKit Go.Sort Go.Lib
set_option linter.unusedVariables false
set_option maxRecDepth 100000
theorem TreeAt.krow {w : World} {B : Nat} {t : Tr} {x : NV} (h : TreeAt w B t x) : ∃ ps : List KV, ps.map Prod.fst = t.kids ∧ KRow w x.K ps := by
  cases h with
  | mk X att h1 h2 h3 h4 h5 h6 row sub =>
    refine ⟨t.kids.mapIdx (fun j k => (k, X j)), ?_, fun h0 => ?_⟩
    · apply List.ext_getElem (by simp)
      intro i h1 h2
      simp
    · obtain ⟨b, off, hK, _, hc⟩ := row (by simpa using h0)
      refine ⟨b, off, hK, fun j hj => ?_⟩
      have hj' : j < t.kids.length := by simpa using hj
      simpa using hc j hj'
theorem own_lower {w : World} {base base' : Nat} {e k : Nat} {v : Value} {n : Nat} {xs : List Value} (h : w.ownsRow base e k v n xs) (hb : base' ≤ base) : w.ownsRow base' e k v n xs := by
  refine ⟨h.1, ?_⟩
  rcases h.2 with hn | ⟨g, cap, cur, hv, hg, r⟩
  · exact .inl hn
  · exact .inr ⟨g, cap, cur, hv, Nat.le_trans hb hg, r⟩
def putK (W : World) (g o : Nat) (t : Tr) (x : NV) : World := ((((W.setCell ⟨g, o, none⟩ (.string t.tag)).setCell ⟨g, o + 1, none⟩ (.string t.key)).setCell ⟨g, o + 2, none⟩ (.string t.text)).setCell ⟨g, o + 3, none⟩ (.slice x.A t.as.length x.ca)).setCell ⟨g, o + 4, none⟩ (.slice x.K t.kids.length x.ck)
theorem kept_putK (W : World) (g o : Nat) (t : Tr) (x : NV) : Kept (· = g) W (putK W g o t x) := by
  unfold putK
  exact ((((kept_setCell W ⟨g, o, none⟩ _).trans (kept_setCell _ ⟨g, o + 1, none⟩ _)).trans (kept_setCell _ ⟨g, o + 2, none⟩ _)).trans (kept_setCell _ ⟨g, o + 3, none⟩ _)).trans (kept_setCell _ ⟨g, o + 4, none⟩ _)
theorem nds_set (ps : List KV) (k : Nat) (p : KV) (hk : k < ps.length) : (((((nds ps).set (k * 5) (.string p.1.tag)).set (k * 5 + 1) (.string p.1.key)).set (k * 5 + 2) (.string p.1.text)).set (k * 5 + 3) (.slice p.2.A p.1.as.length p.2.ca)).set (k * 5 + 4) (.slice p.2.K p.1.kids.length p.2.ck) = nds (ps.set k p) := by
  apply List.ext_getElem?
  intro j
  by_cases hj : j < ps.length * 5
  · have hq : j / 5 < ps.length := by omega
    have e : j = j / 5 * 5 + j % 5 := by omega
    have hq' : j / 5 < (ps.set k p).length := by simpa using hq
    have hr : (nds (ps.set k p))[j]? = (nodeCells (ps.set k p)[j / 5].1 (ps.set k p)[j / 5].2)[j % 5]? := by
      conv => lhs; rw [e]
      exact nds_at (ps.set k p) (j / 5) (by simpa using hq) (j % 5) (by omega)
    have hl : (nds ps)[j]? = (nodeCells ps[j / 5].1 ps[j / 5].2)[j % 5]? := by
      conv => lhs; rw [e]
      exact nds_at ps (j / 5) hq (j % 5) (by omega)
    rw [hr]
    have hlen := nds_length ps
    by_cases hk5 : j / 5 = k
    · subst hk5
      simp only [List.getElem?_set, List.length_set, hlen, List.getElem_set_self]
      have h5 : j % 5 = 0 ∨ j % 5 = 1 ∨ j % 5 = 2 ∨ j % 5 = 3 ∨ j % 5 = 4 := by omega
      rcases h5 with h5 | h5 | h5 | h5 | h5
      · rw [if_neg (by omega), if_neg (by omega), if_neg (by omega), if_neg (by omega), if_pos (by omega), if_pos (by omega), h5]; rfl
      · rw [if_neg (by omega), if_neg (by omega), if_neg (by omega), if_pos (by omega), if_pos (by omega), h5]; rfl
      · rw [if_neg (by omega), if_neg (by omega), if_pos (by omega), if_pos (by omega), h5]; rfl
      · rw [if_neg (by omega), if_pos (by omega), if_pos (by omega), h5]; rfl
      · rw [if_pos (by omega), if_pos (by omega), h5]; rfl
    · rw [List.getElem?_set_ne (by omega), List.getElem?_set_ne (by omega), List.getElem?_set_ne (by omega), List.getElem?_set_ne (by omega), List.getElem?_set_ne (by omega), hl, List.getElem_set_ne (Ne.symm hk5)]
  · rw [List.getElem?_eq_none (by simp [nds_length]; omega), List.getElem?_eq_none (by simp [nds_length]; omega)]
theorem own_putK {w : World} {base g n cap : Nat} {ps : List KV} (h : w.ownsRow base 25 5 (.slice (some ⟨g, 0, none⟩) n cap) n (nds ps)) (hn : ps.length = n) (k : Nat) (hk : k < ps.length) (t : Tr) (x : NV) : (putK w g (k * 5) t x).ownsRow base 25 5 (.slice (some ⟨g, 0, none⟩) n cap) n (nds (ps.set k (t, x))) := by
  rw [← nds_set ps k (t, x) hk]
  unfold putK
  exact (((((h.stored (k * 5) _).1.stored (k * 5 + 1) _).1.stored (k * 5 + 2) _).1.stored (k * 5 + 3) _).1.stored (k * 5 + 4) _).1
def DupPost (t : Tr) (w : World) (e : Ending) (w' : World) : Prop := ∃ x' ps, e = .returned (nodeV t x') ∧ TreeIn w' (NewIn w w') t x' ∧ w'.ownsRow w.heap.size 74 2 (.slice x'.A t.as.length x'.ca) t.as.length (ats t.as) ∧ w'.ownsRow w.heap.size 25 5 (.slice x'.K t.kids.length x'.ck) ps.length (nds ps) ∧ ps.map Prod.fst = t.kids ∧ Below w.heap.size w w'
set_option maxHeartbeats 8000000 in
set_option maxRecDepth 100000 in
theorem dup_any : ∀ t : Tr, ∀ (x : NV) (w : World), TreeAt w w.heap.size t x → GoodT t → Calls Try.prog 65 #[nodeV t x] w (DupPost t w) := by
  refine tr_ind (fun t ih => ?_)
  intro x w htree hgood
  obtain ⟨s1, s2, s3, s4, s5, s6⟩ := hgood.sizes
  obtain ⟨q1, q2, q3, q4, q5, q6⟩ := htree.caps
  obtain ⟨w3, hw3⟩ : ∃ w3, w3 = triW w t x := ⟨_, rfl⟩
  obtain ⟨bx1, bx2, bx3, hsz3⟩ := triW_boxes w t x
  have hb3 : Below w.heap.size w w3 := by rw [hw3]; exact triW_below w t x
  rw [← hw3] at bx1 bx2 bx3 hsz3
  have ht3 := htree.up hb3
  have nf : ¬ (False : Prop) := fun h => h
  have C1 := Lib.hid (cloneA_any x.A x.ca t.as w3 ht3.att s4 q3)
  have HIH := Lib.hid ih; have HT := Lib.hid htree; have HG := Lib.hid hgood; have HW3 := Lib.hid hw3; have HB3 := Lib.hid hb3
  have HX1 := Lib.hid bx1; have HX2 := Lib.hid bx2; have HX3 := Lib.hid bx3
  obtain ⟨c0, c1, c2, c3, c4⟩ := bx1.cells
  clear ih htree hgood hw3 hb3 ht3
  go_enter Try.func65, Try.ntmps65
  go_wp2_with fail
  rw [tri_out HW3]
  refine C1.out.mono ?_
  rintro e w4 ⟨vA, rfl, hoA, hb4⟩
  obtain ⟨A', ca', rfl, hrA, hA1, hA2, hA3⟩ := own_trowp hoA
  have hk4 := kept_below hb4 (fun _ => False)
  have by1 := HX1.out.kept hk4 nf
  have by2 := HX2.out.kept hk4 nf
  have by3 := HX3.out.kept hk4 nf
  obtain ⟨w5, hw5⟩ : ∃ w5, w5 = w4.setCell ⟨w.heap.size + 1 + 1, 3, none⟩ (.slice A' t.as.length ca') := ⟨_, rfl⟩
  have hk45 : Kept (· = w.heap.size + 1 + 1) w4 w5 := by rw [hw5]; exact kept_setCell _ ⟨w.heap.size + 1 + 1, 3, none⟩ _
  have bz3 : BoxN w5 (w.heap.size + 1 + 1) (.string t.tag) (.string t.key) (.string t.text) (.slice A' t.as.length ca') (.slice x.K t.kids.length x.ck) := by rw [hw5]; exact by3.set3 _
  have bz1 := by1.kept hk45 (by omega)
  have bz2 := by2.kept hk45 (by omega)
  have hlA : ∀ b, OwnB (.slice A' t.as.length ca') b → w3.heap.size ≤ b ∧ b < w4.heap.size := fun b hb => hoA.lt b hb
  have hoA5 := hk45.own hoA (fun b hb h => by have := hlA b hb; have h' : b = w.heap.size + 1 + 1 := h; omega)
  have hb5 : Below w.heap.size w w5 := (HB3.out.trans (hb4.mono HB3.out.size)).trans (hk45.below (Nat.le_trans HB3.out.size hb4.size) (fun k h => by omega))
  have hs35 : w3.heap.size ≤ w5.heap.size := Nat.le_trans hb4.size hk45.size
  obtain ⟨ps0, hps0, hkr0⟩ := (HT.out.keepB hb5).krow
  have hpl0 : ps0.length = t.kids.length := by rw [← hps0]; simp
  have C2 := Lib.hid (cloneN_any x.K x.ck ps0 w5 hkr0 (by omega) q6)
  rw [hpl0] at C2
  have HOA5 := Lib.hid hoA5; have HRA := Lib.hid hrA; have HB5 := Lib.hid hb5; have HLA := Lib.hid hlA; have HW5 := Lib.hid hw5
  have HY1 := Lib.hid bz1; have HY2 := Lib.hid bz2; have HY3 := Lib.hid bz3; have HPS0 := Lib.hid hps0
  have z3 := by3.frozen 3
  have e3 := by3.cells.2.2.2.1
  have g4 := bz1.cells.2.2.2.2
  rw [hw5] at g4
  have hs45 := hk45.size
  clear hoA hb4 hrA hk4 by1 by2 by3 hw5 hk45 bz1 bz2 bz3 hoA5 hb5 hkr0 hps0 hlA C1 c0 c1 c2 c3 c4 bx1 bx2 bx3
  go_wp2_with fail
  rw [show w4.setCell ⟨w.heap.size + 1 + 1, 3, none⟩ (.slice A' t.as.length ca') = w5 from HW5.out.symm]
  refine C2.out.mono ?_
  rintro e w6 ⟨vK, rfl, hoK, hb6⟩
  obtain ⟨K', ck', rfl⟩ := row_form hoK
  rw [hpl0] at hoK
  rw [hpl0]
  have hk6 := kept_below hb6 (fun _ => False)
  have by1 := HY1.out.kept hk6 nf
  have by2 := HY2.out.kept hk6 nf
  have by3 := HY3.out.kept hk6 nf
  obtain ⟨w7, hw7⟩ : ∃ w7, w7 = w6.setCell ⟨w.heap.size + 1 + 1, 4, none⟩ (.slice K' t.kids.length ck') := ⟨_, rfl⟩
  have hk67 : Kept (· = w.heap.size + 1 + 1) w6 w7 := by rw [hw7]; exact kept_setCell _ ⟨w.heap.size + 1 + 1, 4, none⟩ _
  have bz3 : BoxN w7 (w.heap.size + 1 + 1) (.string t.tag) (.string t.key) (.string t.text) (.slice A' t.as.length ca') (.slice K' t.kids.length ck') := by rw [hw7]; exact by3.set4 _
  have bz1 := by1.kept hk67 (by omega)
  have bz2 := by2.kept hk67 (by omega)
  have hlK : ∀ b, OwnB (.slice K' t.kids.length ck') b → w5.heap.size ≤ b ∧ b < w6.heap.size := fun b hb => hoK.lt b hb
  have hoK7 := hk67.own hoK (fun b hb h => by have := hlK b hb; have h' : b = w.heap.size + 1 + 1 := h; omega)
  have hoA7 := hk67.own (hk6.own HOA5.out (fun _ _ => nf)) (fun b hb h => by have := HLA.out b hb; have h' : b = w.heap.size + 1 + 1 := h; omega)
  have hb7 : Below w.heap.size w w7 := (HB5.out.trans (hb6.mono HB5.out.size)).trans (hk67.below (Nat.le_trans HB5.out.size hb6.size) (fun k h => by omega))
  have HZ1 := Lib.hid bz1; have HZ2 := Lib.hid bz2; have HZ3 := Lib.hid bz3; have HOK7 := Lib.hid hoK7; have HOA7 := Lib.hid hoA7; have HB7 := Lib.hid hb7; have HW7 := Lib.hid hw7
  have HLK := Lib.hid hlK
  have z4 := by3.frozen 4
  have e4 := by3.cells.2.2.2.2
  have hs67 := hk67.size
  have hs56 := hb6.size
  have f4 := bz1.cells.2.2.2.2
  rw [hw7] at f4
  clear hoK hb6 hk6 by1 by2 by3 hw7 hk67 bz1 bz2 bz3 hoK7 hoA7 hb7 hlK C2 z3 e3 g4
  go_wp2_with fail
  rw [show w6.setCell ⟨w.heap.size + 1 + 1, 4, none⟩ (.slice K' t.kids.length ck') = w7 from HW7.out.symm]
  clear f4 z4 e4
  go_loopg [18] t.kids.length (fun g s18 wr => ∃ (k : Nat) (qs : List KV), s18 = .int .i64 k ∧ k ≤ t.kids.length ∧ t.kids.length - k ≤ g ∧ qs.length = t.kids.length ∧ RowKit.Hid (qs.map Prod.fst = t.kids) ∧ RowKit.Hid (wr.ownsRow w5.heap.size 25 5 (.slice K' t.kids.length ck') t.kids.length (nds qs)) ∧ RowKit.Hid (∀ j, (hj : j < qs.length) → j < k → TreeIn wr (NewOut w6.heap.size (.slice K' t.kids.length ck') wr) qs[j].1 qs[j].2) ∧ RowKit.Hid (wr.ownsRow w3.heap.size 74 2 (.slice A' t.as.length ca') t.as.length (ats t.as)) ∧ RowKit.Hid (BoxN wr w.heap.size (.string t.tag) (.string t.key) (.string t.text) (.slice x.A t.as.length x.ca) (.slice x.K t.kids.length x.ck)) ∧ RowKit.Hid (BoxN wr (w.heap.size + 1) (.string ⟨#[]⟩) (.string ⟨#[]⟩) (.string ⟨#[]⟩) (.slice none 0 0) (.slice none 0 0)) ∧ RowKit.Hid (BoxN wr (w.heap.size + 1 + 1) (.string t.tag) (.string t.key) (.string t.text) (.slice A' t.as.length ca') (.slice K' t.kids.length ck')) ∧ RowKit.Hid (Below w.heap.size w wr ∧ w7.heap.size ≤ wr.heap.size))
  case atStart => exact ⟨0, ps0, rfl, by omega, by omega, hpl0, HPS0, HOK7, Lib.hid (fun j hj h => by omega), HOA7, HZ1, HZ2, HZ3, Lib.hid ⟨HB7.out, Nat.le_refl _⟩⟩
  case round =>
    obtain ⟨k, qs, rfl, hk, hg, hql, HPM, HOW, HTI, HAT, HX1, HX2, HX3, HBS⟩ := hrel
    have hs5r : w6.heap.size ≤ wr.heap.size := Nat.le_trans hs67 HBS.out.2
    by_cases hlt : k < t.kids.length
    · have h1 : (k : Int) < (t.kids.length : Int) := by omega
      obtain ⟨bb, off, kd, y, hK, hbb, hkd, hkc, hkt⟩ := (HT.out.keepB HBS.out.1).kid hlt
      obtain ⟨r0, r1, r2, r3, r4⟩ := hkc
      obtain ⟨g0, hKg⟩ : ∃ g0, K' = some ⟨g0, 0, none⟩ := by
        rcases HOW.out.2 with ⟨he, hn⟩ | ⟨g0, c, cur, he, _⟩
        · omega
        · simp at he; exact ⟨g0, he.1⟩
      subst hKg
      have hg0 := HLK.out g0 rfl
      obtain ⟨w8, hw8⟩ : ∃ w8, w8 = boxW wr kd y := ⟨_, rfl⟩
      have hb8 : Below wr.heap.size wr w8 := by rw [hw8]; exact below_box wr kd y
      have hk8 := kept_below hb8 (fun _ => False)
      obtain ⟨v0, v1, v2, v3, v4⟩ : KidCells w8 wr.heap.size 0 kd y := by rw [hw8]; exact box_node wr kd y
      have hx8 := HX3.out.kept hk8 nf
      obtain ⟨f0, f1, f2, f3, f4⟩ := hx8.cells
      have hlt8 : wr.heap.size ≤ w8.heap.size := hb8.size
      have C := Lib.hid (HIH.out kd (by rw [hkd]; exact List.getElem_mem _) y w8.drew (((hkt.mono HBS.out.1.size).up hb8).keepB (below_drewN _ w8 1)) (HG.out.kid hlt hkd))
      have HKD := Lib.hid hkd; have HW8 := Lib.hid hw8; have HB8 := Lib.hid hb8; have HX38 := Lib.hid hx8
      have HOW8 := Lib.hid (hk8.own HOW.out (fun _ _ => nf))
      have hkn : k * 5 + 4 < t.kids.length * 5 := by omega
      clear hkd hkt hw8 hb8 hk8 hx8 f0 f1 f2 f3
      go_wp2_with fail
      rw [box_out HW8]
      clear r0 r1 r2 r3 r4
      go_region_with (go_at_call 65; refine C.out.mono ?_; rintro e w9 ⟨x9, ps9, rfl, hin9', hoa9, hok9, hpm9, hb9'⟩; have hin9 := Lib.hid hin9'; have hb9 := Lib.hid (show Below w8.heap.size w8 w9 from (below_drewN _ w8 1).trans hb9'); have how9 := Lib.hid ((kept_below hb9.out (fun _ => False)).own HOW8.out (fun _ _ => nf)); have hx9 := Lib.hid (HX38.out.kept (kept_below hb9.out (fun _ => False)) nf); have u4 := hx9.out.cells.2.2.2.2; have m0 := Lib.hid (how9.out.cellAt (k * 5) (by omega)); have m1 := Lib.hid (how9.out.cellAt (k * 5 + 1) (by omega)); have m2 := Lib.hid (how9.out.cellAt (k * 5 + 2) (by omega)); have m3 := Lib.hid (how9.out.cellAt (k * 5 + 3) (by omega)); have m4 := Lib.hid (how9.out.cellAt (k * 5 + 4) (by omega)); have p0 : w9.cell? ⟨g0, k * 5, none⟩ = (nodeCells qs[k].1 qs[k].2)[0]? := m0.out.trans (nds_at qs k (by omega) 0 (by omega)); have p1 : w9.cell? ⟨g0, k * 5 + 1, none⟩ = (nodeCells qs[k].1 qs[k].2)[1]? := m1.out.trans (nds_at qs k (by omega) 1 (by omega)); have p2 : w9.cell? ⟨g0, k * 5 + 2, none⟩ = (nodeCells qs[k].1 qs[k].2)[2]? := m2.out.trans (nds_at qs k (by omega) 2 (by omega)); have p3 : w9.cell? ⟨g0, k * 5 + 3, none⟩ = (nodeCells qs[k].1 qs[k].2)[3]? := m3.out.trans (nds_at qs k (by omega) 3 (by omega)); have p4 : w9.cell? ⟨g0, k * 5 + 4, none⟩ = (nodeCells qs[k].1 qs[k].2)[4]? := m4.out.trans (nds_at qs k (by omega) 4 (by omega)); change w9.cell? ⟨g0, k * 5, none⟩ = some (.string qs[k].1.tag) at p0; change w9.cell? ⟨g0, k * 5 + 1, none⟩ = some (.string qs[k].1.key) at p1; change w9.cell? ⟨g0, k * 5 + 2, none⟩ = some (.string qs[k].1.text) at p2; change w9.cell? ⟨g0, k * 5 + 3, none⟩ = some (.slice qs[k].2.A qs[k].1.as.length qs[k].2.ca) at p3; change w9.cell? ⟨g0, k * 5 + 4, none⟩ = some (.slice qs[k].2.K qs[k].1.kids.length qs[k].2.ck) at p4; have z0 := how9.out.frozenAt (k * 5); have z1 := how9.out.frozenAt (k * 5 + 1); have z2 := how9.out.frozenAt (k * 5 + 2); have z3 := how9.out.frozenAt (k * 5 + 3); have z4 := how9.out.frozenAt (k * 5 + 4); clear hin9' hoa9 hok9 hpm9 hb9' m0 m1 m2 m3 m4)
      all_goals
        obtain ⟨w10, hw10⟩ : ∃ w10, w10 = putK w9 g0 (k * 5) kd x9 := ⟨_, rfl⟩
        have hkp : Kept (· = g0) w9 w10 := by rw [hw10]; exact kept_putK _ _ _ _ _
        have how10 := own_putK how9.out hql k (by omega) kd x9
        rw [← hw10] at how10
        rw [show ((((w9.setCell ⟨g0, k * 5, none⟩ (.string kd.tag)).setCell ⟨g0, k * 5 + 1, none⟩ (.string kd.key)).setCell ⟨g0, k * 5 + 2, none⟩ (.string kd.text)).setCell ⟨g0, k * 5 + 3, none⟩ (.slice x9.A kd.as.length x9.ca)).setCell ⟨g0, k * 5 + 4, none⟩ (.slice x9.K kd.kids.length x9.ck) = w10 from hw10.symm]
        have HKP := Lib.hid hkp; have HOW10 := Lib.hid how10
        clear hw10 hkp how10 p0 p1 p2 p3 p4 z0 z1 z2 z3 z4 u4 f4 v0 v1 v2 v3 v4 C
        have HKA := Lib.hid (show Kept (· = g0) wr w10 from (kept_below (HB8.out.trans (hb9.out.mono HB8.out.size)) _).trans HKP.out)
        have hs10 : wr.heap.size ≤ w10.heap.size := HKA.out.size
        have HTI10 := Lib.hid (show ∀ j, (hj : j < (qs.set k (kd, x9)).length) → j < k + 1 → TreeIn w10 (NewOut w6.heap.size (.slice (some ⟨g0, 0, none⟩) t.kids.length ck') w10) (qs.set k (kd, x9))[j].1 (qs.set k (kd, x9))[j].2 from fun j hj hjk => by
          rcases Nat.lt_or_ge j k with h5 | h5
          · rw [List.getElem_set_ne (by omega)]
            exact (HTI.out j (by simpa using hj) h5).kept HKA.out (fun b hb h => hb.2.2 (by rw [show b = g0 from h]; rfl)) (fun b hb => ⟨hb.1, Nat.lt_of_lt_of_le hb.2.1 hs10, hb.2.2⟩)
          · have : j = k := by omega
            subst this
            rw [List.getElem_set_self]
            refine hin9.out.kept HKP.out (fun b hb h => ?_) (fun b hb => ⟨?_, Nat.lt_of_lt_of_le hb.2 HKP.out.size, fun h => ?_⟩)
            · have h2 : w8.heap.size ≤ b := hb.1
              have h3 : b = g0 := h
              omega
            · have h2 : w8.heap.size ≤ b := hb.1
              omega
            · have h2 : w8.heap.size ≤ b := hb.1
              have h3 : g0 = b := by simpa [OwnB, Value.ownBlock] using h
              omega)
        have HAT10 := Lib.hid (HKA.out.own HAT.out (fun b hb h => by have := HLA.out b hb; have h' : b = g0 := h; omega))
        have HX110 := Lib.hid (HX1.out.kept HKA.out (by omega))
        have HX210 := Lib.hid (HX2.out.kept HKA.out (by omega))
        have HX310 := Lib.hid (HX3.out.kept HKA.out (by omega))
        have HB10 := Lib.hid (And.intro (HBS.out.1.trans (HKA.out.below HBS.out.1.size (fun b h => by omega))) (Nat.le_trans HBS.out.2 hs10))
        have HPM10 := Lib.hid (show (qs.set k (kd, x9)).map Prod.fst = t.kids by
          rw [List.map_set, HPM.out]
          show t.kids.set k kd = t.kids
          rw [HKD.out]
          exact List.set_getElem_self hlt)
        go_wp2_with fail
        try rw [← hK]
        go_roundg (t.kids.length - (k + 1))
        case measure => omega
        case rel => exact ⟨k + 1, qs.set k (kd, x9), by go_num, by omega, by omega, by simp [hql], HPM10, HOW10, HTI10, HAT10, HX110, HX210, HX310, HB10⟩
    · obtain rfl : k = t.kids.length := by omega
      have h1 : ¬ (t.kids.length : Int) < (t.kids.length : Int) := by omega
      obtain ⟨f0, f1, f2, f3, f4⟩ := HX3.out.cells
      obtain ⟨g0, g1, g2, g3, g4⟩ := HX2.out.cells
      have z0 := HX2.out.frozen 0
      have z1 := HX2.out.frozen 1
      have z2 := HX2.out.frozen 2
      have z3 := HX2.out.frozen 3
      have z4 := HX2.out.frozen 4
      obtain ⟨wE, hwE⟩ : ∃ wE, wE = putN wr (w.heap.size + 1) (.string t.tag) (.string t.key) (.string t.text) (.slice A' t.as.length ca') (.slice K' t.kids.length ck') := ⟨_, rfl⟩
      have hkE : Kept (· = w.heap.size + 1) wr wE := by rw [hwE]; exact kept_putN _ _ _ _ _ _ _
      have bE : BoxN wE (w.heap.size + 1) (.string t.tag) (.string t.key) (.string t.text) (.slice A' t.as.length ca') (.slice K' t.kids.length ck') := by rw [hwE]; exact HX2.out.put _ _ _ _ _
      have HWE := Lib.hid hwE; have HKE := Lib.hid hkE; have HBE := Lib.hid bE
      clear hwE hkE bE
      go_wp2_with fail
      rw [show ((((wr.setCell ⟨w.heap.size + 1, 0, none⟩ (.string t.tag)).setCell ⟨w.heap.size + 1, 1, none⟩ (.string t.key)).setCell ⟨w.heap.size + 1, 2, none⟩ (.string t.text)).setCell ⟨w.heap.size + 1, 3, none⟩ (.slice A' t.as.length ca')).setCell ⟨w.heap.size + 1, 4, none⟩ (.slice K' t.kids.length ck') = wE from HWE.out.symm]
      refine bodyPost_ret (results_tree24 _ _ (w.heap.size + 1) _ _ _ _ _ rfl HBE.out) rfl ?_
      have hsE : wr.heap.size ≤ wE.heap.size := HKE.out.size
      have hoK : wE.ownsRow w5.heap.size 25 5 (.slice K' t.kids.length ck') t.kids.length (nds qs) := HKE.out.own HOW.out (fun b hb h => by have := HLK.out b hb; have h' : b = w.heap.size + 1 := h; omega)
      have hoA : wE.ownsRow w3.heap.size 74 2 (.slice A' t.as.length ca') t.as.length (ats t.as) := HKE.out.own HAT.out (fun b hb h => by have := HLA.out b hb; have h' : b = w.heap.size + 1 := h; omega)
      rw [← hql] at hoK
      have hti : ∀ p ∈ qs, TreeIn wE (NewIn w wE) p.1 p.2 := fun p hp => by
        obtain ⟨j, hj, rfl⟩ := List.getElem_of_mem hp
        exact (HTI.out j hj (by omega)).kept HKE.out (fun b hb h => by have := hb.1; have h' : b = w.heap.size + 1 := h; omega) (fun b hb => ⟨by have := hb.1; omega, Nat.lt_of_lt_of_le hb.2.1 hsE⟩)
      have hrA : TRowP wE (NewIn w wE) A' t.as := by
        obtain ⟨A2, c2, he, hr, _, _, _⟩ := own_trowp hoA
        simp at he
        obtain ⟨rfl, rfl⟩ := he
        exact hr.kept (Kept.refl (fun _ => False) _) (fun _ _ h => h) (fun b hb => ⟨by have := (hoA.lt b hb).1; omega, (hoA.lt b hb).2⟩)
      have hoK' : wE.ownsRow w5.heap.size 25 5 (.slice K' t.kids.length ck') qs.length (nds qs) := by
        have := hoK
        rw [hql] at this ⊢
        exact this
      refine ⟨⟨A', ca', K', ck'⟩, qs, rfl, ?_, own_lower hoA (by omega), own_lower hoK' (by omega), HPM.out, HBS.out.1.trans (HKE.out.below HBS.out.1.size (fun b h => by omega))⟩
      exact tree_of_rows t qs hoK' hql HPM.out hti hrA hA1 hA2 hA3 (fun b hb => ⟨by have := HLK.out b hb; omega, by have := HLK.out b hb; omega⟩)
end Go.Proofs.Ytlkdklpglmglkaa
