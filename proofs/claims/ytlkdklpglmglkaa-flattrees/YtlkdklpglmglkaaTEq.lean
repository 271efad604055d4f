/-
  Trees held against each other: attrs.Same, equal, slices.EqualFunc, tendrilplain.Nodes, isValid, vtree.Same. | Trees held against each other: equal, isValid, vtree.Same, tendrilplain.Nodes.
-/
import Derived.Test.YtlkdklpglmglkaaVLaw1
import Derived.Test.YtlkdklpglmglkaaPlain
import Derived.Deep.RegionHeld3
namespace Go.Proofs.Ytlkdklpglmglkaa
open Go.RowKit Go.Sort Go.Lib
set_option linter.unusedVariables false
set_option maxRecDepth 100000
set_option maxHeartbeats 1000000 in
theorem slEqual_any (A A' : Option Addr) (c c' : Nat) (l m : List At) (w : World) (h : TRow w w.heap.size A l) (h' : TRow w w.heap.size A' m) (hl : l.length ≤ 1000000) (hm : m.length ≤ 1000000) :
    Calls Try.prog 68 #[.slice A l.length c, .slice A' m.length c'] w fun e w' => e = .returned (.bool (decide (l = m))) ∧ ∃ q, w' = w.drewN q := by
  have H := Lib.hid h; have H' := Lib.hid h'
  clear h h'
  by_cases hlm : l.length = m.length
  · have hq : ((l.length : Int) != (m.length : Int)) = false := by simp [hlm]
    have hq2 : (l.length != m.length) = false := by simp [hlm]
    have HLM := Lib.hid hlm
    have hml : m.length ≤ l.length := by omega
    have hlm' : l.length ≤ m.length := by omega
    clear hlm
    go_enter Try.func68, Try.ntmps68
    go_wp2
    go_loopg [5, 13] l.length (fun g _ s13 wr => ∃ k q : Nat, s13 = .int .i64 k ∧ k ≤ l.length ∧ l.length - k ≤ g ∧ RowKit.Hid (SameTo l m k) ∧ RowKit.Hid (wr = w.drewN q))
    case atStart => exact ⟨0, 0, rfl, by omega, by omega, Lib.hid (fun j _ _ hj => by omega), Lib.hid rfl⟩
    case round =>
      obtain ⟨k, q, rfl, hk, hg, HS, HW⟩ := hrel
      by_cases hlt : k < l.length
      · have h1 : (k : Int) < (l.length : Int) := by omega
        have h2 : (k : Int) < (m.length : Int) := by omega
        have hltm : k < m.length := by omega
        obtain ⟨b, off, x, rfl, hb, hx, c1, c2⟩ := trow_at (show TRow wr wr.heap.size A l by rw [HW.out]; exact H.out) hlt
        obtain ⟨b', off', y, rfl, hb', hy, d1, d2⟩ := trow_at (show TRow wr wr.heap.size A' m by rw [HW.out]; exact H'.out) hltm
        have HX := Lib.hid hx; have HY := Lib.hid hy
        clear hx hy
        have hne : ∀ w : World, Sem.run Try.prog (binOp .neq 74 (.agg #[.string x.1, .string x.2]) (.agg #[.string y.1, .string y.2])) w = .ok (.bool (!decide (x = y))) w := fun w => neqA x y w
        by_cases hxy : x = y
        · have HXY := Lib.hid hxy
          rw [decide_eq_true hxy] at hne
          clear hxy
          go_wp2_with fail
          go_quiet (fail)
          go_wp2_with fail
          go_roundg (l.length - (k + 1))
          case measure => omega
          case rel =>
            refine ⟨k + 1, q + nq, by go_num, by omega, by omega, Lib.hid (fun j h3 h4 h5 => ?_), Lib.hid (by rw [HW.out, World.drewN_drewN])⟩
            rcases Nat.lt_or_ge j k with h6 | h6
            · exact HS.out j h3 h4 h6
            · have : j = k := by omega
              subst this
              rw [← HX.out, ← HY.out]; exact HXY.out
        · have HXY := Lib.hid hxy
          rw [decide_eq_false hxy] at hne
          clear hxy
          go_wp2_with fail
          go_quiet (fail)
          go_wp2_with fail
          go_ret
          refine ⟨ret_bool (decide_eq_false (fun e => HXY.out ?_)).symm, q + nq, by rw [HW.out, World.drewN_drewN]⟩
          have h3 := HX.out; have h4 := HY.out
          subst e
          rw [h3, h4]
      · have h1 : ¬ (k : Int) < (l.length : Int) := by omega
        go_wp2_with fail
        go_ret
        refine ⟨ret_bool (decide_eq_true ?_).symm, q, HW.out⟩
        exact List.ext_getElem HLM.out (fun i h3 h4 => HS.out i h3 h4 (by omega))
  · have hq : ((l.length : Int) != (m.length : Int)) = true := by simp; omega
    have HLM := Lib.hid hlm
    clear hlm
    go_enter Try.func68, Try.ntmps68
    go_wp2
    go_ret
    exact ⟨ret_bool (decide_eq_false (fun e => HLM.out (by rw [e]))).symm, 0, rfl⟩
theorem tr_ext {a b : Tr} : a = b ↔ a.tag = b.tag ∧ a.key = b.key ∧ a.text = b.text ∧ a.as = b.as ∧ a.kids = b.kids := by
  cases a; cases b
  simp [Tr.tag, Tr.key, Tr.text, Tr.as, Tr.kids]
theorem kid_raw {w : World} {t : Tr} {x : NV} {B b o : Nat} {k : Tr} {y : NV} (h : KidCells w b o k y) : KidCells (w.alloc (.cells #[.string t.tag, .string t.key, .string t.text, .slice x.A t.as.length x.ca, .slice x.K t.kids.length x.ck] 25)) b o k y := h.kept (kept_alloc w _ (fun _ => False)) (fun h => h)
def EqPost (a b : Tr) (w : World) (e : Ending) (w' : World) : Prop := ∃ r, e = .returned (.bool r) ∧ (r = true ↔ a = b) ∧ Below w.heap.size w w'
def EqKPost (a b : List Tr) (w : World) (e : Ending) (w' : World) : Prop := ∃ r, e = .returned (.bool r) ∧ (r = true ↔ a = b) ∧ Below w.heap.size w w'
def SameK (l m : List Tr) (k : Nat) : Prop := ∀ j, (h1 : j < l.length) → (h2 : j < m.length) → j < k → l[j] = m[j]
theorem two_out {w w1 w2 : World} {t u : Tr} {x y : NV} (h : RowKit.Hid (w1 = boxW w t x)) (h' : RowKit.Hid (w2 = boxW w1 u y)) : (w.alloc (.cells #[.string t.tag, .string t.key, .string t.text, .slice x.A t.as.length x.ca, .slice x.K t.kids.length x.ck] 25)).alloc (.cells #[.string u.tag, .string u.key, .string u.text, .slice y.A u.as.length y.ca, .slice y.K u.kids.length y.ck] 25) = w2 := by
  rw [box_out h]; exact h'.out.symm
end Go.Proofs.Ytlkdklpglmglkaa

namespace Go.Proofs.Ytlkdklpglmglkaa
open Go.RowKit Go.Sort Go.Lib
set_option linter.unusedVariables false
set_option maxRecDepth 100000
theorem two_cells (w : World) (a b : Tr) (x y : NV) : KidCells (boxW (boxW w a x) b y) w.heap.size 0 a x ∧ KidCells (boxW (boxW w a x) b y) (w.heap.size + 1) 0 b y := by
  refine ⟨(box_node w a x).kept (kept_alloc _ _ (fun _ => False)) (fun h => h), ?_⟩
  have := box_node (boxW w a x) b y
  simpa [boxW] using this
set_option maxHeartbeats 2000000 in
theorem isValid_any (t : Tr) (x : NV) (w : World) (h : TreeAt w w.heap.size t x) (hg : GoodT t) : Calls Try.prog 64 #[nodeV t x] w fun e w' => ∃ b, e = .returned (.bool b) ∧ (b = true ↔ okT t) ∧ Below w.heap.size w w' := by
  obtain ⟨w1, hw1⟩ : ∃ w1, w1 = boxW w t x := ⟨_, rfl⟩
  have hb1 : Below w.heap.size w w1 := by rw [hw1]; exact below_box w t x
  obtain ⟨c0, c1, c2, c3, c4⟩ : KidCells w1 w.heap.size 0 t x := by rw [hw1]; exact box_node w t x
  have C := Lib.hid (vcheck_any t x w1 (h.up hb1) hg)
  have HW := Lib.hid hw1; have HB1 := Lib.hid hb1
  obtain ⟨r, hr⟩ : ∃ r, r = seenL aloneT t := ⟨_, rfl⟩
  rw [← hr] at C
  have HR := Lib.hid (show r.2 = 0 ↔ okT t by rw [hr]; exact Iff.rfl)
  clear h hw1 hb1 hg hr
  obtain ⟨l, f⟩ := r
  obtain ⟨a, ha⟩ : ∃ a : Int, a = if (l, f).2 = 0 then (0 : Int) else ((l, f).1.length : Int) := ⟨_, rfl⟩
  rw [← ha] at C
  clear ha
  go_enter Try.func64, Try.ntmps64
  go_wp2_with fail
  rw [box_out HW]
  refine C.out.mono ?_
  rintro e w2 ⟨rfl, hb2⟩
  have HB2 := Lib.hid (HB1.out.trans (hb2.mono HB1.out.size))
  clear hb2 c0 c1 c2 c3 c4 C
  by_cases h0 : f = 0
  · have HZ := Lib.hid h0
    subst h0
    go_wp2_with fail
    go_ret
    exact ⟨true, rfl, ⟨fun _ => HR.out.1 (by first | exact rfl | exact trivial), fun _ => rfl⟩, HB2.out⟩
  · have h0' : (f == 0) = false := by simpa using h0
    have HZ := Lib.hid (show ¬ okT t from fun h => h0 (HR.out.2 h))
    clear h0
    go_wp2_with fail
    go_ret
    exact ⟨false, rfl, ⟨(fun h => by cases h), fun h => absurd h HZ.out⟩, HB2.out⟩
end Go.Proofs.Ytlkdklpglmglkaa
