/-
  Trees held against each other: attrs.Same, equal, slices.EqualFunc, tendrilplain.Nodes, isValid, vtree.Same.
-/
import Derived.Test.YtlebcebihieiiaaVLaw1
import Derived.Test.YtlebcebihieiiaaPlain
namespace Go.Proofs.Ytlebcebihieiiaa
open Go.RowKit Go.Sort Go.Lib
set_option linter.unusedVariables false
set_option maxHeartbeats 1000000 in
theorem slEqual_any (A A' : Option Addr) (c c' : Nat) (l m : List At) (w : World) (h : TRow w w.heap.size A l) (h' : TRow w w.heap.size A' m) (hl : l.length ≤ 1000000) (hm : m.length ≤ 1000000) :
    Calls Try.prog 41 #[.slice A l.length c, .slice A' m.length c'] w fun e w' => e = .returned (.bool (decide (l = m))) ∧ ∃ q, w' = w.drewN q := by
  have H := Lib.hid h; have H' := Lib.hid h'
  clear h h'
  by_cases hlm : l.length = m.length
  · have hq : ((l.length : Int) != (m.length : Int)) = false := by simp [hlm]
    have hq2 : (l.length != m.length) = false := by simp [hlm]
    have HLM := Lib.hid hlm
    have hml : m.length ≤ l.length := by omega
    have hlm' : l.length ≤ m.length := by omega
    clear hlm
    go_enter Try.func41, Try.ntmps41
    go_wp2
    go_loopg [5, 13] l.length (fun g _ s13 wr => ∃ k q : Nat, s13 = .int .i64 k ∧ k ≤ l.length ∧ l.length - k ≤ g ∧ RowKit.Hid (SameTo l m k) ∧ RowKit.Hid (wr = w.drewN q))
    case atStart => exact ⟨0, 0, rfl, by omega, by omega, Lib.hid (fun j _ _ hj => by omega), Lib.hid rfl⟩
    case round =>
      obtain ⟨k, q, rfl, hk, hg, HS, HW⟩ := hrel
      by_cases hlt : k < l.length
      · have h1 : (k : Int) < (l.length : Int) := by omega
        have h2 : (k : Int) < (m.length : Int) := by omega
        have hltm : k < m.length := by omega
        obtain ⟨b, off, x, rfl, hb, hx, c1, c2⟩ := trow_at (show TRow wr wr.heap.size A l by rw [HW.out]; exact H.out) hlt
        obtain ⟨b', off', y, rfl, hb', hy, d1, d2⟩ := trow_at (show TRow wr wr.heap.size A' m by rw [HW.out]; exact H'.out) hltm
        have HX := Lib.hid hx; have HY := Lib.hid hy
        clear hx hy
        have hne : ∀ w : World, Sem.run Try.prog (binOp .neq 42 (.agg #[.string x.1, .string x.2]) (.agg #[.string y.1, .string y.2])) w = .ok (.bool (!decide (x = y))) w := fun w => neqA x y w
        by_cases hxy : x = y
        · have HXY := Lib.hid hxy
          rw [decide_eq_true hxy] at hne
          clear hxy
          go_wp2_with fail
          go_quiet (fail)
          go_wp2_with fail
          go_roundg (l.length - (k + 1))
          case measure => omega
          case rel =>
            refine ⟨k + 1, q + nq, by go_num, by omega, by omega, Lib.hid (fun j h3 h4 h5 => ?_), Lib.hid (by rw [HW.out, World.drewN_drewN])⟩
            rcases Nat.lt_or_ge j k with h6 | h6
            · exact HS.out j h3 h4 h6
            · have : j = k := by omega
              subst this
              rw [← HX.out, ← HY.out]; exact HXY.out
        · have HXY := Lib.hid hxy
          rw [decide_eq_false hxy] at hne
          clear hxy
          go_wp2_with fail
          go_quiet (fail)
          go_wp2_with fail
          go_ret
          refine ⟨ret_bool (decide_eq_false (fun e => HXY.out ?_)).symm, q + nq, by rw [HW.out, World.drewN_drewN]⟩
          have h3 := HX.out; have h4 := HY.out
          subst e
          rw [h3, h4]
      · have h1 : ¬ (k : Int) < (l.length : Int) := by omega
        go_wp2_with fail
        go_ret
        refine ⟨ret_bool (decide_eq_true ?_).symm, q, HW.out⟩
        exact List.ext_getElem HLM.out (fun i h3 h4 => HS.out i h3 h4 (by omega))
  · have hq : ((l.length : Int) != (m.length : Int)) = true := by simp; omega
    have HLM := Lib.hid hlm
    clear hlm
    go_enter Try.func41, Try.ntmps41
    go_wp2
    go_ret
    exact ⟨ret_bool (decide_eq_false (fun e => HLM.out (by rw [e]))).symm, 0, rfl⟩
theorem attSame_any (A A' : Option Addr) (c c' : Nat) (l m : List At) (w : World) (h : TRow w w.heap.size A l) (h' : TRow w w.heap.size A' m) (hl : l.length ≤ 1000000) (hm : m.length ≤ 1000000) :
    Calls Try.prog 34 #[.slice A l.length c, .slice A' m.length c'] w fun e w' => e = .returned (.bool (decide (l = m))) ∧ Below w.heap.size w w' := by
  have C := Lib.hid (slEqual_any A A' c c' l m w h h' hl hm)
  clear h h'
  go_enter Try.func34, Try.ntmps34
  go_wp2_with fail
  refine C.out.mono ?_
  rintro e w1 ⟨rfl, q, rfl⟩
  clear C
  go_wp2_with fail
  go_ret
  exact ⟨rfl, below_drewN _ _ _⟩
theorem tr_ext {a b : Tr} : a = b ↔ a.tag = b.tag ∧ a.key = b.key ∧ a.text = b.text ∧ a.as = b.as ∧ a.kids = b.kids := by
  cases a; cases b
  simp [Tr.tag, Tr.key, Tr.text, Tr.as, Tr.kids]
theorem kid_raw {w : World} {t : Tr} {x : NV} {B b o : Nat} {k : Tr} {y : NV} (h : KidCells w b o k y) : KidCells (w.alloc (.cells #[.string t.tag, .string t.key, .string t.text, .slice x.A t.as.length x.ca, .slice x.K t.kids.length x.ck] 25)) b o k y := h.kept (kept_alloc w _ (fun _ => False)) (fun h => h)
def EqPost (a b : Tr) (w : World) (e : Ending) (w' : World) : Prop := ∃ r, e = .returned (.bool r) ∧ (r = true ↔ a = b) ∧ Below w.heap.size w w'
def EqKPost (a b : List Tr) (w : World) (e : Ending) (w' : World) : Prop := ∃ r, e = .returned (.bool r) ∧ (r = true ↔ a = b) ∧ Below w.heap.size w w'
def SameK (l m : List Tr) (k : Nat) : Prop := ∀ j, (h1 : j < l.length) → (h2 : j < m.length) → j < k → l[j] = m[j]
theorem two_out {w w1 w2 : World} {t u : Tr} {x y : NV} (h : RowKit.Hid (w1 = boxW w t x)) (h' : RowKit.Hid (w2 = boxW w1 u y)) : (w.alloc (.cells #[.string t.tag, .string t.key, .string t.text, .slice x.A t.as.length x.ca, .slice x.K t.kids.length x.ck] 25)).alloc (.cells #[.string u.tag, .string u.key, .string u.text, .slice y.A u.as.length y.ca, .slice y.K u.kids.length y.ck] 25) = w2 := by
  rw [box_out h]; exact h'.out.symm
set_option maxHeartbeats 4000000 in
set_option maxRecDepth 100000 in
theorem eqFunc_any (a b : Tr) (x y : NV) (w : World) (ih : ∀ k ∈ a.kids, ∀ (b : Tr) (x y : NV) (w : World), TreeAt w w.heap.size k x → TreeAt w w.heap.size b y → GoodT k → GoodT b → Calls Try.prog 25 #[nodeV k x, nodeV b y] w (EqPost k b w))
    (ha : TreeAt w w.heap.size a x) (hb : TreeAt w w.heap.size b y) (ga : GoodT a) (gb : GoodT b) :
    Calls Try.prog 35 #[.slice x.K a.kids.length x.ck, .slice y.K b.kids.length y.ck, .func (.func 25) #[] #[]] w (EqKPost a.kids b.kids w) := by
  have hla := ga.sizes.2.2.2.2.2
  have hlb := gb.sizes.2.2.2.2.2
  have HA := Lib.hid ha; have HB := Lib.hid hb; have GA := Lib.hid ga; have GB := Lib.hid gb; have HIH := Lib.hid ih
  clear ha hb ga gb ih
  by_cases hlm : a.kids.length = b.kids.length
  · have hq : ((a.kids.length : Int) != (b.kids.length : Int)) = false := by simp [hlm]
    have HLM := Lib.hid hlm
    have hml : b.kids.length ≤ a.kids.length := by omega
    have hlm' : a.kids.length ≤ b.kids.length := by omega
    clear hlm
    go_enter Try.func35, Try.ntmps35
    go_wp2_with fail
    go_loopg [17] a.kids.length (fun g s17 wr => ∃ k : Nat, s17 = .int .i64 k ∧ k ≤ a.kids.length ∧ a.kids.length - k ≤ g ∧ RowKit.Hid (SameK a.kids b.kids k) ∧ RowKit.Hid (Below w.heap.size w wr))
    case atStart => exact ⟨0, rfl, by omega, by omega, Lib.hid (fun j _ _ hj => by omega), Lib.hid (Below.refl _ _)⟩
    case round =>
      obtain ⟨k, rfl, hk, hg, HS, HW⟩ := hrel
      by_cases hlt : k < a.kids.length
      · have h1 : (k : Int) < (a.kids.length : Int) := by omega
        have h2 : (k : Int) < (b.kids.length : Int) := by omega
        have hltb : k < b.kids.length := by omega
        obtain ⟨b1, o1, k1, y1, hK1, hb1, hk1, hc1, ht1⟩ := (HA.out.up HW.out).kid hlt
        obtain ⟨b2, o2, k2, y2, hK2, hb2, hk2, hc2, ht2⟩ := (HB.out.up HW.out).kid hltb
        obtain ⟨w5, hw5⟩ : ∃ w5, w5 = boxW wr k1 y1 := ⟨_, rfl⟩
        obtain ⟨w6, hw6⟩ : ∃ w6, w6 = boxW w5 k2 y2 := ⟨_, rfl⟩
        have hb5 : Below wr.heap.size wr w5 := by rw [hw5]; exact below_box _ _ _
        have hb6 : Below w5.heap.size w5 w6 := by rw [hw6]; exact below_box _ _ _
        have C := Lib.hid (HIH.out k1 (by rw [hk1]; exact List.getElem_mem _) k2 y1 y2 w6 ((ht1.up hb5).up hb6) ((ht2.up hb5).up hb6) (GA.out.kid hlt hk1) (GB.out.kid hltb hk2))
        have HW5 := Lib.hid hw5; have HW6 := Lib.hid hw6
        have HB6 := Lib.hid (HW.out.trans ((hb5.trans (hb6.mono hb5.size)).mono HW.out.size))
        have HK1 := Lib.hid hk1; have HK2 := Lib.hid hk2
        obtain ⟨p0, p1, p2, p3, p4⟩ := hc1
        obtain ⟨q0, q1, q2, q3, q4⟩ := kid_raw (t := k1) (x := y1) (B := 0) hc2
        clear hw5 hw6 hb5 hb6 ht1 ht2 hk1 hk2 hc2
        go_wp2_with fail
        rw [two_out HW5 HW6]
        refine C.out.mono ?_
        rintro e w7 ⟨r, rfl, hr, hb7⟩
        have HB7 := Lib.hid (HB6.out.trans (hb7.mono HB6.out.size)); have HR := Lib.hid hr
        clear hb7 hr C p0 p1 p2 p3 p4 q0 q1 q2 q3 q4
        cases r with
        | true =>
          have HE := Lib.hid (HR.out.1 rfl)
          clear HR
          go_wp2_with fail
          try rw [← hK1]
          try rw [← hK2]
          go_roundg (a.kids.length - (k + 1))
          case measure => omega
          case rel =>
            refine ⟨k + 1, by go_num, by omega, by omega, Lib.hid (fun j h3 h4 h5 => ?_), HB7⟩
            rcases Nat.lt_or_ge j k with h6 | h6
            · exact HS.out j h3 h4 h6
            · have : j = k := by omega
              subst this
              rw [← HK1.out, ← HK2.out]; exact HE.out
        | false =>
          have HE := Lib.hid (show ¬ k1 = k2 from fun e => by have := HR.out.2 e; cases this)
          clear HR
          go_wp2_with fail
          go_ret
          refine ⟨false, rfl, ⟨(fun h => by cases h), fun e => absurd ?_ HE.out⟩, HB7.out⟩
          rw [HK1.out, HK2.out]
          simp only [e]
      · have h1 : ¬ (k : Int) < (a.kids.length : Int) := by omega
        go_wp2_with fail
        go_ret
        refine ⟨true, rfl, ⟨fun _ => ?_, fun _ => rfl⟩, HW.out⟩
        exact List.ext_getElem HLM.out (fun i h3 h4 => HS.out i h3 h4 (by omega))
  · have hq : ((a.kids.length : Int) != (b.kids.length : Int)) = true := by simp; omega
    have HLM := Lib.hid hlm
    clear hlm
    go_enter Try.func35, Try.ntmps35
    go_wp2_with fail
    go_ret
    exact ⟨false, rfl, ⟨(fun h => by cases h), fun e => absurd (by rw [e]) HLM.out⟩, Below.refl _ _⟩
end Go.Proofs.Ytlebcebihieiiaa
