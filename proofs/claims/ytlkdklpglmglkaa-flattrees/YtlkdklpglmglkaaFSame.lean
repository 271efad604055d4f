/-
  Rows held against each other: flat.sameRow, flat.Same, tendrilplain.Shapes and Rows.
-/
import Derived.Test.YtlkdklpglmglkaaFRow
import Derived.Test.YtlkdklpglmglkaaTEq
import Derived.Test.YtlkdklpglmglkaaFLook
namespace Go.Proofs.Ytlkdklpglmglkaa
open Go.RowKit Go.Sort Go.Lib
set_option linter.unusedVariables false
set_option maxRecDepth 100000
def RPost (P : Prop) (w : World) (e : Ending) (w' : World) : Prop := ∃ b, e = .returned (.bool b) ∧ (b = true ↔ P) ∧ Below w.heap.size w w'
theorem zid_iff {r s : Rw} : zid r = zid s ↔ r.up = s.up ∧ r.tag = s.tag ∧ r.key = s.key ∧ r.text = s.text ∧ r.as = s.as := by
  unfold zid
  constructor
  · intro h; injection h with _ h1 h2 h3 h4 h5; exact ⟨h1, h2, h3, h4, h5⟩
  · rintro ⟨h1, h2, h3, h4, h5⟩; rw [h1, h2, h3, h4, h5]
theorem rtwo_out {w w1 w2 : World} {r s : Rw} {x y : AV} (h : RowKit.Hid (w1 = rboxW w r x)) (h' : RowKit.Hid (w2 = rboxW w1 s y)) : (w.alloc (.cells #[.int .i64 r.id, .int .i64 r.up, .string r.tag, .string r.key, .string r.text, .slice x.A r.as.length x.ca] 56)).alloc (.cells #[.int .i64 s.id, .int .i64 s.up, .string s.tag, .string s.key, .string s.text, .slice y.A s.as.length y.ca] 56) = w2 := by rw [h'.out, h.out]
theorem rtwo_cells (w : World) (r s : Rw) (x y : AV) : RCells (rboxW (rboxW w r x) s y) w.heap.size 0 r x ∧ RCells (rboxW (rboxW w r x) s y) (w.heap.size + 1) 0 s y := by
  refine ⟨(rbox_cells w r x).kept (kept_alloc _ _ (fun _ => False)) (fun h => h), ?_⟩
  have := rbox_cells (rboxW w r x) s y
  simpa [rboxW] using this
set_option maxHeartbeats 4000000 in
theorem sameRow_any (r s : Rw) (x y : AV) (w : World) (hr : AtR w w.heap.size r x) (hs : AtR w w.heap.size s y) (gr : GoodR r) (gs : GoodR s) : Calls Try.prog 54 #[rowV r x, rowV s y] w (RPost (zid r = zid s) w) := by
  obtain ⟨w1, hw1⟩ : ∃ w1, w1 = rboxW w r x := ⟨_, rfl⟩
  obtain ⟨w2, hw2⟩ : ∃ w2, w2 = rboxW w1 s y := ⟨_, rfl⟩
  have hb1 : Below w.heap.size w w1 := by rw [hw1]; exact below_rbox _ _ _
  have hb2 : Below w1.heap.size w1 w2 := by rw [hw2]; exact below_rbox _ _ _
  obtain ⟨hc1, hc2⟩ := rtwo_cells w r s x y
  rw [← hw1, ← hw2] at hc1 hc2
  have C := Lib.hid (slEqual_any x.A y.A x.ca y.ca r.as s.as w2 ((hr.row.up hb1).up hb2) ((hs.row.up hb1).up hb2) gr.len gs.len)
  have HW1 := Lib.hid hw1; have HW2 := Lib.hid hw2
  have HB2 := Lib.hid (hb1.trans (hb2.mono hb1.size))
  have hla := gr.len
  have hlb := gs.len
  clear hr hs gr gs hw1 hw2 hb1 hb2
  obtain ⟨c0, c1, c2, c3, c4, c5⟩ := hc1
  obtain ⟨d0, d1, d2, d3, d4, d5⟩ := hc2
  rw [show rowV r x = .agg #[.int .i64 r.id, .int .i64 r.up, .string r.tag, .string r.key, .string r.text, .slice x.A r.as.length x.ca] from rfl, show rowV s y = .agg #[.int .i64 s.id, .int .i64 s.up, .string s.tag, .string s.key, .string s.text, .slice y.A s.as.length y.ca] from rfl]
  by_cases e_up : r.up = s.up
  · have h_up : (r.up == s.up) = true := by simpa using e_up
    by_cases e_tag : r.tag = s.tag
    · have h_tag : (r.tag.toList == s.tag.toList) = true := by rw [eqB]; exact decide_eq_true e_tag
      by_cases e_key : r.key = s.key
      · have h_key : (r.key.toList == s.key.toList) = true := by rw [eqB]; exact decide_eq_true e_key
        by_cases e_text : r.text = s.text
        · have h_text : (r.text.toList == s.text.toList) = true := by rw [eqB]; exact decide_eq_true e_text
          have HE := Lib.hid (And.intro e_up (And.intro e_tag (And.intro e_key e_text)))
          clear e_up e_tag e_key e_text
          go_enter Try.func54, Try.ntmps54
          go_wp2_with fail
          rw [rtwo_out HW1 HW2]
          refine C.out.mono ?_
          rintro e w3 ⟨rfl, nq, hq3⟩
          have HB3 := Lib.hid (show Below w.heap.size w w3 by rw [hq3]; exact HB2.out.trans (below_drewN _ _ _))
          clear hq3 C c0 c1 c2 c3 c4 c5 d0 d1 d2 d3 d4 d5
          go_wp2_with fail
          go_ret
          refine ⟨decide (r.as = s.as), ret_bool (by simp), ?_, HB3.out⟩
          rw [zid_iff]
          simp only [decide_eq_true_eq]
          exact ⟨fun h => ⟨HE.out.1, HE.out.2.1, HE.out.2.2.1, HE.out.2.2.2, h⟩, fun h => h.2.2.2.2⟩
        · have h_text : (r.text.toList == s.text.toList) = false := by rw [eqB]; exact decide_eq_false e_text
          have HE := Lib.hid e_text
          clear e_up e_tag e_key e_text
          go_enter Try.func54, Try.ntmps54
          go_wp2_with fail
          rw [rtwo_out HW1 HW2]
          go_ret
          exact ⟨false, ret_bool (by simp), ⟨(fun h => by cases h), fun h => absurd (by rw [zid_iff] at h; exact h.2.2.2.1) HE.out⟩, HB2.out⟩
      · have h_key : (r.key.toList == s.key.toList) = false := by rw [eqB]; exact decide_eq_false e_key
        have HE := Lib.hid e_key
        clear e_up e_tag e_key
        go_enter Try.func54, Try.ntmps54
        go_wp2_with fail
        rw [rtwo_out HW1 HW2]
        go_ret
        exact ⟨false, ret_bool (by simp), ⟨(fun h => by cases h), fun h => absurd (by rw [zid_iff] at h; exact h.2.2.1) HE.out⟩, HB2.out⟩
    · have h_tag : (r.tag.toList == s.tag.toList) = false := by rw [eqB]; exact decide_eq_false e_tag
      have HE := Lib.hid e_tag
      clear e_up e_tag
      go_enter Try.func54, Try.ntmps54
      go_wp2_with fail
      rw [rtwo_out HW1 HW2]
      go_ret
      exact ⟨false, ret_bool (by simp), ⟨(fun h => by cases h), fun h => absurd (by rw [zid_iff] at h; exact h.2.1) HE.out⟩, HB2.out⟩
  · have h_up : (r.up == s.up) = false := by simpa using e_up
    have HE := Lib.hid e_up
    clear e_up
    go_enter Try.func54, Try.ntmps54
    go_wp2_with fail
    rw [rtwo_out HW1 HW2]
    go_ret
    exact ⟨false, ret_bool (by simp), ⟨(fun h => by cases h), fun h => absurd (by rw [zid_iff] at h; exact h.1) HE.out⟩, HB2.out⟩
def SameZ (l m : List Rw) (k : Nat) : Prop := ∀ j, (h1 : j < l.length) → (h2 : j < m.length) → j < k → zid l[j] = zid m[j]
theorem sameZ_all {l m : List Rw} (hl : l.length = m.length) {k : Nat} (hk : l.length ≤ k) (h : SameZ l m k) : l.map zid = m.map zid := by
  apply List.ext_getElem (by simpa using hl)
  intro i h1 h2
  have h1' : i < l.length := by simpa using h1
  have h2' : i < m.length := by simpa using h2
  simpa using h i h1' h2' (by omega)
theorem SameZ.step {l m : List Rw} {k : Nat} (h : SameZ l m k) (h1 : k < l.length) (h2 : k < m.length) (he : zid l[k] = zid m[k]) : SameZ l m (k + 1) := by
  intro j h3 h4 h5
  rcases Nat.lt_or_ge j k with h6 | h6
  · exact h j h3 h4 h6
  · have : j = k := by omega
    subst this; exact he
theorem not_sameZ {l m : List Rw} {k : Nat} {r s : Rw} (h1 : k < l.length) (h2 : k < m.length) (hr : r = l[k]) (hs : s = m[k]) (h : ¬ zid r = zid s) : ¬ l.map zid = m.map zid := by
  intro e
  apply h
  have : (l.map zid)[k]'(by simpa using h1) = (m.map zid)[k]'(by simpa using h2) := by simp only [e]
  rw [hr, hs]; simpa using this
theorem rraw {w : World} {r : Rw} {x : AV} {b o : Nat} {s : Rw} {y : AV} (h : RCells w b o s y) : RCells (w.alloc (.cells #[.int .i64 r.id, .int .i64 r.up, .string r.tag, .string r.key, .string r.text, .slice x.A r.as.length x.ca] 56)) b o s y := h.kept (kept_alloc _ _ (fun _ => False)) (fun h => h)
set_option maxHeartbeats 4000000 in
theorem eqFuncR_any (A A' : Option Addr) (c c' : Nat) (l m : List Rw) (w : World) (ha : RRow w w.heap.size A l) (hb : RRow w w.heap.size A' m) (ga : GoodRs l) (gb : GoodRs m) (hla : l.length ≤ 5000) (hlb : m.length ≤ 5000) :
    Calls Try.prog 53 #[.slice A l.length c, .slice A' m.length c', .func (.func 54) #[] #[]] w (RPost (l.map zid = m.map zid) w) := by
  have HA := Lib.hid ha; have HB := Lib.hid hb; have GA := Lib.hid ga; have GB := Lib.hid gb
  clear ha hb ga gb
  by_cases hlm : l.length = m.length
  · have hq : ((l.length : Int) != (m.length : Int)) = false := by simp [hlm]
    have HLM := Lib.hid hlm
    have hml : m.length ≤ l.length := by omega
    have hlm' : l.length ≤ m.length := by omega
    clear hlm
    go_enter Try.func53, Try.ntmps53
    go_wp2_with fail
    go_loopg [7, 17] l.length (fun g _ s17 wr => ∃ k : Nat, s17 = .int .i64 k ∧ k ≤ l.length ∧ l.length - k ≤ g ∧ RowKit.Hid (SameZ l m k) ∧ RowKit.Hid (Below w.heap.size w wr))
    case atStart => exact ⟨0, rfl, by omega, by omega, Lib.hid (fun j _ _ hj => by omega), Lib.hid (Below.refl _ _)⟩
    case round =>
      obtain ⟨k, rfl, hk, hg, HS, HW⟩ := hrel
      by_cases hlt : k < l.length
      · have h1 : (k : Int) < (l.length : Int) := by omega
        have h2 : (k : Int) < (m.length : Int) := by omega
        have hltb : k < m.length := by omega
        obtain ⟨b1, o1, k1, y1, hK1, hb1, hk1, hc1, ht1⟩ := rrow_at (HA.out.up HW.out) hlt
        obtain ⟨b2, o2, k2, y2, hK2, hb2, hk2, hc2, ht2⟩ := rrow_at (HB.out.up HW.out) hltb
        obtain ⟨w5, hw5⟩ : ∃ w5, w5 = rboxW wr k1 y1 := ⟨_, rfl⟩
        obtain ⟨w6, hw6⟩ : ∃ w6, w6 = rboxW w5 k2 y2 := ⟨_, rfl⟩
        have hb5 : Below wr.heap.size wr w5 := by rw [hw5]; exact below_rbox _ _ _
        have hb6 : Below w5.heap.size w5 w6 := by rw [hw6]; exact below_rbox _ _ _
        have hb56 := hb5.trans (hb6.mono hb5.size)
        have C := Lib.hid (sameRow_any k1 k2 y1 y2 w6 ((ht1.below hb56).mono hb56.size) ((ht2.below hb56).mono hb56.size) (GA.out k1 (by rw [hk1]; exact List.getElem_mem _)) (GB.out k2 (by rw [hk2]; exact List.getElem_mem _)))
        rw [show rowV k1 y1 = .agg #[.int .i64 k1.id, .int .i64 k1.up, .string k1.tag, .string k1.key, .string k1.text, .slice y1.A k1.as.length y1.ca] from rfl, show rowV k2 y2 = .agg #[.int .i64 k2.id, .int .i64 k2.up, .string k2.tag, .string k2.key, .string k2.text, .slice y2.A k2.as.length y2.ca] from rfl] at C
        have HW5 := Lib.hid hw5; have HW6 := Lib.hid hw6
        have HB6 := Lib.hid (HW.out.trans (hb56.mono HW.out.size))
        have HK1 := Lib.hid hk1; have HK2 := Lib.hid hk2
        obtain ⟨p0, p1, p2, p3, p4, p5⟩ := hc1
        obtain ⟨q0, q1, q2, q3, q4, q5⟩ := rraw (r := k1) (x := y1) hc2
        clear hw5 hw6 hb5 hb6 hb56 ht1 ht2 hk1 hk2 hc2
        go_wp2_with fail
        rw [rtwo_out HW5 HW6]
        refine C.out.mono ?_
        rintro e w7 ⟨r, rfl, hr, hb7⟩
        have HB7 := Lib.hid (HB6.out.trans (hb7.mono HB6.out.size)); have HR := Lib.hid hr
        clear hb7 hr C p0 p1 p2 p3 p4 p5 q0 q1 q2 q3 q4 q5
        cases r with
        | true =>
          have HE := Lib.hid (HR.out.1 rfl)
          clear HR
          go_wp2_with fail
          try rw [← hK1]
          try rw [← hK2]
          go_roundg (l.length - (k + 1))
          case measure => omega
          case rel => exact ⟨k + 1, by go_num, by omega, by omega, Lib.hid (HS.out.step hlt hltb (by rw [← HK1.out, ← HK2.out]; exact HE.out)), HB7⟩
        | false =>
          have HE := Lib.hid (show ¬ zid k1 = zid k2 from fun e => by have := HR.out.2 e; cases this)
          clear HR
          go_wp2_with fail
          go_ret
          exact ⟨false, rfl, ⟨(fun h => by cases h), fun e => absurd e (not_sameZ hlt hltb HK1.out HK2.out HE.out)⟩, HB7.out⟩
      · have h1 : ¬ (k : Int) < (l.length : Int) := by omega
        go_wp2_with fail
        go_ret
        exact ⟨true, rfl, ⟨fun _ => sameZ_all HLM.out (by omega) HS.out, fun _ => rfl⟩, HW.out⟩
  · have hq : ((l.length : Int) != (m.length : Int)) = true := by simp; omega
    have HLM := Lib.hid hlm
    clear hlm
    go_enter Try.func53, Try.ntmps53
    go_wp2_with fail
    go_ret
    exact ⟨false, rfl, ⟨(fun h => by cases h), fun e => absurd (by have := congrArg List.length e; simpa using this) HLM.out⟩, Below.refl _ _⟩
set_option maxHeartbeats 1000000 in
theorem fsame_any (A A' : Option Addr) (c c' : Nat) (l m : List Rw) (w : World) (ha : RRow w w.heap.size A l) (hb : RRow w w.heap.size A' m) (ga : GoodRs l) (gb : GoodRs m) (hla : l.length ≤ 5000) (hlb : m.length ≤ 5000) :
    Calls Try.prog 22 #[.slice A l.length c, .slice A' m.length c'] w (RPost (l.map zid = m.map zid) w) := by
  have C := Lib.hid (eqFuncR_any A A' c c' l m w ha hb ga gb hla hlb)
  clear ha hb ga gb
  go_enter Try.func22, Try.ntmps22
  go_wp2_with fail
  refine C.out.mono ?_
  rintro e w1 ⟨b, rfl, h1, h2⟩
  have H1 := Lib.hid h1; have H2 := Lib.hid h2
  clear h1 h2
  go_wp2_with fail
  go_ret
  exact ⟨b, rfl, H1.out, H2.out⟩
set_option maxHeartbeats 8000000 in
theorem shapes_any (A A' : Option Addr) (c c' : Nat) (l m : List Rw) (w : World) (ha : RRow w w.heap.size A l) (hb : RRow w w.heap.size A' m) (ga : GoodRs l) (gb : GoodRs m) (hla : l.length ≤ 5000) (hlb : m.length ≤ 5000) :
    Calls Try.prog 21 #[.slice A l.length c, .slice A' m.length c'] w (RPost (l.map zid = m.map zid) w) := by
  have HA := Lib.hid ha; have HB := Lib.hid hb; have GA := Lib.hid ga; have GB := Lib.hid gb
  clear ha hb ga gb
  by_cases hlm : l.length = m.length
  · have hq : ((l.length : Int) != (m.length : Int)) = false := by simp [hlm]
    have HLM := Lib.hid hlm
    have hml : m.length ≤ l.length := by omega
    have hlm' : l.length ≤ m.length := by omega
    clear hlm
    go_enter Try.func21, Try.ntmps21
    go_wp2_with fail
    go_loopg [5, 15] l.length (fun g _ s15 wr => ∃ k : Nat, s15 = .int .i64 k ∧ k ≤ l.length ∧ l.length - k ≤ g ∧ RowKit.Hid (SameZ l m k) ∧ RowKit.Hid (Below w.heap.size w wr))
    case atStart => exact ⟨0, rfl, by omega, by omega, Lib.hid (fun j _ _ hj => by omega), Lib.hid (Below.refl _ _)⟩
    case round =>
      obtain ⟨k, rfl, hk, hg, HS, HW⟩ := hrel
      by_cases hlt : k < l.length
      · have h1 : (k : Int) < (l.length : Int) := by omega
        have h2 : (k : Int) < (m.length : Int) := by omega
        have hltb : k < m.length := by omega
        obtain ⟨b1, o1, r, x, hK1, hb1, hk1, hc1, ht1⟩ := rrow_at (HA.out.up HW.out) hlt
        obtain ⟨b2, o2, s, y, hK2, hb2, hk2, hc2, ht2⟩ := rrow_at (HB.out.up HW.out) hltb
        obtain ⟨w5, hw5⟩ : ∃ w5, w5 = rboxW wr r x := ⟨_, rfl⟩
        obtain ⟨w6, hw6⟩ : ∃ w6, w6 = rboxW w5 s y := ⟨_, rfl⟩
        have hb5 : Below wr.heap.size wr w5 := by rw [hw5]; exact below_rbox _ _ _
        have hb6 : Below w5.heap.size w5 w6 := by rw [hw6]; exact below_rbox _ _ _
        have hb56 := hb5.trans (hb6.mono hb5.size)
        have hx1 := (ht1.below hb56).mono hb56.size
        have hx2 := (ht2.below hb56).mono hb56.size
        have g1 := (GA.out r (by rw [hk1]; exact List.getElem_mem _)).len
        have g2 := (GB.out s (by rw [hk2]; exact List.getElem_mem _)).len
        have C := Lib.hid (attrs_any x.A y.A x.ca y.ca r.as s.as w6 hx1.row hx2.row g1 g2)
        obtain ⟨u1, u2⟩ := rtwo_cells wr r s x y
        rw [← hw5, ← hw6] at u1 u2
        have HW5 := Lib.hid hw5; have HW6 := Lib.hid hw6
        have HB6 := Lib.hid (HW.out.trans (hb56.mono HW.out.size))
        have HK1 := Lib.hid hk1; have HK2 := Lib.hid hk2
        obtain ⟨p0, p1, p2, p3, p4, p5⟩ := hc1
        obtain ⟨q0, q1, q2, q3, q4, q5⟩ := rraw (r := r) (x := x) hc2
        obtain ⟨c0, c1, c2, c3, c4, c5⟩ := u1
        obtain ⟨d0, d1, d2, d3, d4, d5⟩ := u2
        have HNO := Lib.hid (fun h : ¬ zid r = zid s => not_sameZ hlt hltb hk1 hk2 h)
        have HYES := Lib.hid (fun h : zid r = zid s => HS.out.step hlt hltb (by rw [← hk1, ← hk2]; exact h))
        clear hw5 hw6 hb5 hb6 hb56 ht1 ht2 hk1 hk2 hc2 hx1 hx2
        by_cases e_up : r.up = s.up
        · have h_up : (r.up != s.up) = false := by simpa using e_up
          by_cases e_tag : r.tag = s.tag
          · have h_tag : (r.tag.toList == s.tag.toList) = true := by rw [eqB]; exact decide_eq_true e_tag
            by_cases e_key : r.key = s.key
            · have h_key : (r.key.toList == s.key.toList) = true := by rw [eqB]; exact decide_eq_true e_key
              by_cases e_text : r.text = s.text
              · have h_text : (r.text.toList == s.text.toList) = true := by rw [eqB]; exact decide_eq_true e_text
                have HE := Lib.hid (And.intro e_up (And.intro e_tag (And.intro e_key e_text)))
                clear e_up e_tag e_key e_text
                by_cases e_as : r.as = s.as
                · rw [decide_eq_true e_as] at C
                  have HZ := Lib.hid (show zid r = zid s from zid_iff.2 ⟨HE.out.1, HE.out.2.1, HE.out.2.2.1, HE.out.2.2.2, e_as⟩)
                  clear e_as
                  go_wp2_with fail
                  rw [rtwo_out HW5 HW6]
                  refine C.out.mono ?_
                  rintro e w3 ⟨rfl, nq, hq3⟩
                  have HB3 := Lib.hid (show Below w.heap.size w w3 by rw [hq3]; exact HB6.out.trans (below_drewN _ _ _))
                  clear hq3 C c0 c1 c2 c3 c4 c5 d0 d1 d2 d3 d4 d5 p0 p1 p2 p3 p4 p5 q0 q1 q2 q3 q4 q5
                  go_wp2_with fail
                  try rw [← hK1]
                  try rw [← hK2]
                  go_roundg (l.length - (k + 1))
                  case measure => omega
                  case rel => exact ⟨k + 1, by go_num, by omega, by omega, Lib.hid (HYES.out HZ.out), HB3⟩
                · rw [decide_eq_false e_as] at C
                  have HZ := Lib.hid (show ¬ zid r = zid s from fun h => e_as (zid_iff.1 h).2.2.2.2)
                  clear e_as
                  go_wp2_with fail
                  rw [rtwo_out HW5 HW6]
                  refine C.out.mono ?_
                  rintro e w3 ⟨rfl, nq, hq3⟩
                  have HB3 := Lib.hid (show Below w.heap.size w w3 by rw [hq3]; exact HB6.out.trans (below_drewN _ _ _))
                  clear hq3 C c0 c1 c2 c3 c4 c5 d0 d1 d2 d3 d4 d5 p0 p1 p2 p3 p4 p5 q0 q1 q2 q3 q4 q5
                  go_wp2_with fail
                  go_ret
                  exact ⟨false, rfl, ⟨(fun h => by cases h), fun e => absurd e (HNO.out HZ.out)⟩, HB3.out⟩
              · have h_text : (r.text.toList == s.text.toList) = false := by rw [eqB]; exact decide_eq_false e_text
                have HZ := Lib.hid (show ¬ zid r = zid s from fun h => e_text (by rw [zid_iff] at h; exact h.2.2.2.1))
                clear e_up e_tag e_key e_text
                go_wp2_with fail
                rw [rtwo_out HW5 HW6]
                go_ret
                exact ⟨false, rfl, ⟨(fun h => by cases h), fun e => absurd e (HNO.out HZ.out)⟩, HB6.out⟩
            · have h_key : (r.key.toList == s.key.toList) = false := by rw [eqB]; exact decide_eq_false e_key
              have HZ := Lib.hid (show ¬ zid r = zid s from fun h => e_key (by rw [zid_iff] at h; exact h.2.2.1))
              clear e_up e_tag e_key
              go_wp2_with fail
              rw [rtwo_out HW5 HW6]
              go_ret
              exact ⟨false, rfl, ⟨(fun h => by cases h), fun e => absurd e (HNO.out HZ.out)⟩, HB6.out⟩
          · have h_tag : (r.tag.toList == s.tag.toList) = false := by rw [eqB]; exact decide_eq_false e_tag
            have HZ := Lib.hid (show ¬ zid r = zid s from fun h => e_tag (by rw [zid_iff] at h; exact h.2.1))
            clear e_up e_tag
            go_wp2_with fail
            rw [rtwo_out HW5 HW6]
            go_ret
            exact ⟨false, rfl, ⟨(fun h => by cases h), fun e => absurd e (HNO.out HZ.out)⟩, HB6.out⟩
        · have h_up : (r.up != s.up) = true := by simpa using e_up
          have HZ := Lib.hid (show ¬ zid r = zid s from fun h => e_up (by rw [zid_iff] at h; exact h.1))
          clear e_up
          go_wp2_with fail
          rw [rtwo_out HW5 HW6]
          go_ret
          exact ⟨false, rfl, ⟨(fun h => by cases h), fun e => absurd e (HNO.out HZ.out)⟩, HB6.out⟩
      · have h1 : ¬ (k : Int) < (l.length : Int) := by omega
        go_wp2_with fail
        go_ret
        exact ⟨true, rfl, ⟨fun _ => sameZ_all HLM.out (by omega) HS.out, fun _ => rfl⟩, HW.out⟩
  · have hq : ((l.length : Int) != (m.length : Int)) = true := by simp; omega
    have HLM := Lib.hid hlm
    clear hlm
    go_enter Try.func21, Try.ntmps21
    go_wp2_with fail
    go_ret
    exact ⟨false, rfl, ⟨(fun h => by cases h), fun e => absurd (by have := congrArg List.length e; simpa using this) HLM.out⟩, Below.refl _ _⟩
end Go.Proofs.Ytlkdklpglmglkaa
