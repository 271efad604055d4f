/-
  Lists held against each other: tendrilplain.Attrs, attrs.Same. | Trees held against each other: attrs.Same, equal, slices.EqualFunc, tendrilplain.Nodes, isValid, vtree.Same. | Trees held against each other: equal, isValid, vtree.Same, tendrilplain.Nodes. | tendrilplain.Nodes tells whether two trees are one.
-/
import Derived.Test.YtjnhcoflmechmaaGreatDoorTree
import Derived.ChangeKeysEq
import Derived.Test.YtjnhcoflmechmaaGreatDoorICheck
import Derived.Deep.RegionHeld3
namespace Go.Proofs.YtjnhcoflmechmaaGreatDoor
open Go.RowKit Go.Sort Go.Lib
set_option linter.unusedVariables false
set_option maxRecDepth 100000
theorem eqAt (x y : At) : (x.1.toList == y.1.toList && x.2.toList == y.2.toList) = decide (x = y) := by
  rw [eqB, eqB, Bool.eq_iff_iff]
  simp [Prod.ext_iff]
theorem eqA (x y : At) (w : World) : (Op.equalIn 10000 63 (.agg #[.string x.1, .string x.2]) (.agg #[.string y.1, .string y.2])).run Tryz.prog w = .ok (decide (x = y)) w := by
  rw [← eqAt, run_equalIn_struct w 9999 63 _ _ (by kernel_rfl) (by kernel_rfl)]
  have hf : ((Tryz.prog.fieldsOf 63).toList.map fun f => (f.type, f.offset, f.name == "_")) = [(9, 0, false), (9, 1, false)] := by kernel_rfl
  generalize (Tryz.prog.fieldsOf 63).toList = fs at hf
  rcases fs with _ | ⟨a, _ | ⟨b, _ | ⟨c, r⟩⟩⟩
  · simp at hf
  · simp at hf
  · simp at hf
    obtain ⟨⟨h1, h2, h3⟩, h4, h5, h6⟩ := hf
    have p1 : ∀ (u v : ByteArray) (w : World), Sem.run Tryz.prog (part 9 #[.string u, .string v] 0) w = .ok (.string u) w := fun u v w => by kernel_rfl
    have p2 : ∀ (u v : ByteArray) (w : World), Sem.run Tryz.prog (part 9 #[.string u, .string v] 1) w = .ok (.string v) w := fun u v w => by kernel_rfl
    have e1 : ∀ (u v : ByteArray) (w : World), Sem.run Tryz.prog (Op.equalIn 9999 9 (.string u) (.string v)) w = .ok (u.toList == v.toList) w := fun u v w => run_equalIn_string w 9998 9 u v Tryz.underlying9
    simp only [Op.eqFields, h1, h2, h4, h5]
    simp [h3, h6]
    rw [p1]; simp only [Result.andThen_ok]
    rw [p1]; simp only [Result.andThen_ok]
    rw [e1]; simp only [Result.andThen_ok]
    cases h7 : (x.1.toList == y.1.toList)
    · simp
    · simp only [Bool.true_eq_false, if_false]
      rw [p2]; simp only [Result.andThen_ok]
      rw [p2]; simp only [Result.andThen_ok]
      rw [e1]; simp only [Result.andThen_ok]
      cases h8 : (x.2.toList == y.2.toList) <;> simp
  · simp at hf
theorem neqA (x y : At) (w : World) : (binOp .neq 63 (.agg #[.string x.1, .string x.2]) (.agg #[.string y.1, .string y.2])).run Tryz.prog w = .ok (.bool (!decide (x = y))) w := by
  rw [run_neq_struct, eqA]; rfl
def SameTo (l m : List At) (k : Nat) : Prop := ∀ j, (h1 : j < l.length) → (h2 : j < m.length) → j < k → l[j] = m[j]
set_option maxHeartbeats 1000000 in
theorem attrs_any (A A' : Option Addr) (c c' : Nat) (l m : List At) (w : World) (h : TRow w w.heap.size A l) (h' : TRow w w.heap.size A' m) (hl : l.length ≤ 1000000) (hm : m.length ≤ 1000000) :
    Calls Tryz.prog 41 #[.slice A l.length c, .slice A' m.length c'] w fun e w' => e = .returned (.bool (decide (l = m))) ∧ ∃ q, w' = w.drewN q := by
  have H := Lib.hid h; have H' := Lib.hid h'
  clear h h'
  by_cases hlm : l.length = m.length
  · have hq : ((l.length : Int) != (m.length : Int)) = false := by simp [hlm]
    have hq2 : (l.length != m.length) = false := by simp [hlm]
    have HLM := Lib.hid hlm
    have hml : m.length ≤ l.length := by omega
    have hlm' : l.length ≤ m.length := by omega
    clear hlm
    go_enter Tryz.func41, Tryz.ntmps41
    go_wp2
    go_loopg [5, 13] l.length (fun g _ s13 wr => ∃ k q : Nat, s13 = .int .i64 k ∧ k ≤ l.length ∧ l.length - k ≤ g ∧ RowKit.Hid (SameTo l m k) ∧ RowKit.Hid (wr = w.drewN q))
    case atStart => exact ⟨0, 0, rfl, by omega, by omega, Lib.hid (fun j _ _ hj => by omega), Lib.hid rfl⟩
    case round =>
      obtain ⟨k, q, rfl, hk, hg, HS, HW⟩ := hrel
      by_cases hlt : k < l.length
      · have h1 : (k : Int) < (l.length : Int) := by omega
        have h2 : (k : Int) < (m.length : Int) := by omega
        have hltm : k < m.length := by omega
        obtain ⟨b, off, x, rfl, hb, hx, c1, c2⟩ := trow_at (show TRow wr wr.heap.size A l by rw [HW.out]; exact H.out) hlt
        obtain ⟨b', off', y, rfl, hb', hy, d1, d2⟩ := trow_at (show TRow wr wr.heap.size A' m by rw [HW.out]; exact H'.out) hltm
        have HX := Lib.hid hx; have HY := Lib.hid hy
        clear hx hy
        have hne : ∀ w : World, Sem.run Tryz.prog (binOp .neq 63 (.agg #[.string x.1, .string x.2]) (.agg #[.string y.1, .string y.2])) w = .ok (.bool (!decide (x = y))) w := fun w => neqA x y w
        by_cases hxy : x = y
        · have HXY := Lib.hid hxy
          rw [decide_eq_true hxy] at hne
          clear hxy
          go_wp2_with fail
          go_quiet (fail)
          go_wp2_with fail
          go_roundg (l.length - (k + 1))
          case measure => omega
          case rel =>
            refine ⟨k + 1, q + nq, by go_num, by omega, by omega, Lib.hid (fun j h3 h4 h5 => ?_), Lib.hid (by rw [HW.out, World.drewN_drewN])⟩
            rcases Nat.lt_or_ge j k with h6 | h6
            · exact HS.out j h3 h4 h6
            · have : j = k := by omega
              subst this
              rw [← HX.out, ← HY.out]; exact HXY.out
        · have HXY := Lib.hid hxy
          rw [decide_eq_false hxy] at hne
          clear hxy
          go_wp2_with fail
          go_quiet (fail)
          go_wp2_with fail
          go_ret
          refine ⟨ret_bool (decide_eq_false (fun e => HXY.out ?_)).symm, q + nq, by rw [HW.out, World.drewN_drewN]⟩
          have h3 := HX.out; have h4 := HY.out
          subst e
          rw [h3, h4]
      · have h1 : ¬ (k : Int) < (l.length : Int) := by omega
        go_wp2_with fail
        go_ret
        refine ⟨ret_bool (decide_eq_true ?_).symm, q, HW.out⟩
        exact List.ext_getElem HLM.out (fun i h3 h4 => HS.out i h3 h4 (by omega))
  · have hq : ((l.length : Int) != (m.length : Int)) = true := by simp; omega
    have HLM := Lib.hid hlm
    clear hlm
    go_enter Tryz.func41, Tryz.ntmps41
    go_wp2
    go_ret
    exact ⟨ret_bool (decide_eq_false (fun e => HLM.out (by rw [e]))).symm, 0, rfl⟩
end Go.Proofs.YtjnhcoflmechmaaGreatDoor

namespace Go.Proofs.YtjnhcoflmechmaaGreatDoor
open Go.RowKit Go.Sort Go.Lib
set_option linter.unusedVariables false
set_option maxRecDepth 100000
theorem tr_ext {a b : Tr} : a = b ↔ a.tag = b.tag ∧ a.key = b.key ∧ a.text = b.text ∧ a.as = b.as ∧ a.kids = b.kids := by
  cases a; cases b
  simp [Tr.tag, Tr.key, Tr.text, Tr.as, Tr.kids]
theorem kid_raw {w : World} {t : Tr} {x : NV} {B b o : Nat} {k : Tr} {y : NV} (h : KidCells w b o k y) : KidCells (w.alloc (.cells #[.string t.tag, .string t.key, .string t.text, .slice x.A t.as.length x.ca, .slice x.K t.kids.length x.ck] 25)) b o k y := h.kept (kept_alloc w _ (fun _ => False)) (fun h => h)
def EqPost (a b : Tr) (w : World) (e : Ending) (w' : World) : Prop := ∃ r, e = .returned (.bool r) ∧ (r = true ↔ a = b) ∧ Below w.heap.size w w'
def EqKPost (a b : List Tr) (w : World) (e : Ending) (w' : World) : Prop := ∃ r, e = .returned (.bool r) ∧ (r = true ↔ a = b) ∧ Below w.heap.size w w'
def SameK (l m : List Tr) (k : Nat) : Prop := ∀ j, (h1 : j < l.length) → (h2 : j < m.length) → j < k → l[j] = m[j]
theorem two_out {w w1 w2 : World} {t u : Tr} {x y : NV} (h : RowKit.Hid (w1 = boxW w t x)) (h' : RowKit.Hid (w2 = boxW w1 u y)) : (w.alloc (.cells #[.string t.tag, .string t.key, .string t.text, .slice x.A t.as.length x.ca, .slice x.K t.kids.length x.ck] 25)).alloc (.cells #[.string u.tag, .string u.key, .string u.text, .slice y.A u.as.length y.ca, .slice y.K u.kids.length y.ck] 25) = w2 := by
  rw [box_out h]; exact h'.out.symm
end Go.Proofs.YtjnhcoflmechmaaGreatDoor

namespace Go.Proofs.YtjnhcoflmechmaaGreatDoor
open Go.RowKit Go.Sort Go.Lib
set_option linter.unusedVariables false
set_option maxRecDepth 100000
theorem two_cells (w : World) (a b : Tr) (x y : NV) : KidCells (boxW (boxW w a x) b y) w.heap.size 0 a x ∧ KidCells (boxW (boxW w a x) b y) (w.heap.size + 1) 0 b y := by
  refine ⟨(box_node w a x).kept (kept_alloc _ _ (fun _ => False)) (fun h => h), ?_⟩
  have := box_node (boxW w a x) b y
  simpa [boxW] using this
end Go.Proofs.YtjnhcoflmechmaaGreatDoor

namespace Go.Proofs.YtjnhcoflmechmaaGreatDoor
open Go.RowKit Go.Sort Go.Lib
set_option linter.unusedVariables false
set_option maxRecDepth 100000
set_option maxHeartbeats 8000000 in
set_option maxRecDepth 100000 in
theorem nodes_any : ∀ a : Tr, ∀ (b : Tr) (x y : NV) (w : World), TreeAt w w.heap.size a x → TreeAt w w.heap.size b y → GoodT a → GoodT b → Calls Tryz.prog 17 #[nodeV a x, nodeV b y] w (EqPost a b w) := by
  refine tr_ind (fun a ih => ?_)
  intro b x y w ha hb ga gb
  obtain ⟨w1, hw1⟩ : ∃ w1, w1 = boxW w a x := ⟨_, rfl⟩
  obtain ⟨w2, hw2⟩ : ∃ w2, w2 = boxW w1 b y := ⟨_, rfl⟩
  have hb1 : Below w.heap.size w w1 := by rw [hw1]; exact below_box _ _ _
  have hb2 : Below w1.heap.size w1 w2 := by rw [hw2]; exact below_box _ _ _
  obtain ⟨hc1, hc2⟩ := two_cells w a b x y
  rw [← hw1, ← hw2] at hc1 hc2
  have hl1 : w.heap.size < w2.heap.size := hc1.block_lt
  have hl2 : w.heap.size + 1 < w2.heap.size := hc2.block_lt
  have hba := (ha.up hb1).up hb2
  have hbb := (hb.up hb1).up hb2
  have HA := Lib.hid hba; have HB := Lib.hid hbb; have GA := Lib.hid ga; have GB := Lib.hid gb; have HIH := Lib.hid ih
  have HW1 := Lib.hid hw1; have HW2 := Lib.hid hw2
  have HB2 := Lib.hid (hb1.trans (hb2.mono hb1.size))
  have HC1 := Lib.hid hc1; have HC2 := Lib.hid hc2
  have hla := ga.sizes.2.2.2.1
  have hlb := gb.sizes.2.2.2.1
  have hka := ga.sizes.2.2.2.2.2
  have hkb := gb.sizes.2.2.2.2.2
  clear ih ha hb ga gb hba hbb hw1 hw2 hb1 hb2
  obtain ⟨c0, c1, c2, c3, c4⟩ := hc1
  obtain ⟨d0, d1, d2, d3, d4⟩ := hc2
  by_cases e0 : a.tag = b.tag
  · have e0' : (a.tag.toList == b.tag.toList) = true := by rw [eqB]; exact decide_eq_true e0
    by_cases e1 : a.key = b.key
    · have e1' : (a.key.toList == b.key.toList) = true := by rw [eqB]; exact decide_eq_true e1
      by_cases e2 : a.text = b.text
      · have e2' : (a.text.toList == b.text.toList) = true := by rw [eqB]; exact decide_eq_true e2
        have C := Lib.hid (attrs_any x.A y.A x.ca y.ca a.as b.as w2 HA.out.att HB.out.att hla hlb)
        have HE := Lib.hid (And.intro e0 (And.intro e1 e2))
        clear e0 e1 e2
        by_cases e3 : a.as = b.as
        · rw [decide_eq_true e3] at C
          have HE3 := Lib.hid e3
          clear e3
          by_cases e4 : a.kids.length = b.kids.length
          · have e4' : ((a.kids.length : Int) != (b.kids.length : Int)) = false := by simp [e4]
            have HLM := Lib.hid e4
            have hml : b.kids.length ≤ a.kids.length := by omega
            have hlm' : a.kids.length ≤ b.kids.length := by omega
            clear e4
            go_enter Tryz.func17, Tryz.ntmps17
            go_wp2_with fail
            rw [two_out HW1 HW2]
            refine C.out.mono ?_
            rintro e w3 ⟨rfl, nq, hq3⟩
            have hb3 : Below w2.heap.size w2 w3 := by rw [hq3]; exact below_drewN _ _ _
            have HB23 := Lib.hid hb3
            clear c0 c1 c2 c3 c4 d0 d1 d2 d3 d4
            obtain ⟨c0, c1, c2, c3, c4⟩ := HC1.out.below hb3 hl1
            obtain ⟨d0, d1, d2, d3, d4⟩ := HC2.out.below hb3 hl2
            clear hb3 hq3 C
            go_wp2_with fail
            go_loopg [45] a.kids.length (fun g s45 wr => ∃ k : Nat, s45 = .int .i64 k ∧ k ≤ a.kids.length ∧ a.kids.length - k ≤ g ∧ RowKit.Hid (SameK a.kids b.kids k) ∧ RowKit.Hid (Below w2.heap.size w2 wr))
            case atStart => exact ⟨0, rfl, by omega, by omega, Lib.hid (fun j _ _ hj => by omega), HB23⟩
            case round =>
              clear c0 c1 c2 c3 c4 d0 d1 d2 d3 d4
              obtain ⟨k, rfl, hk, hg, HS, HWr⟩ := hrel
              obtain ⟨c0, c1, c2, c3, c4⟩ := HC1.out.below HWr.out hl1
              obtain ⟨d0, d1, d2, d3, d4⟩ := HC2.out.below HWr.out hl2
              have hl1 : w.heap.size < wr.heap.size := Nat.lt_of_lt_of_le hl1 HWr.out.size
              have hl2 : w.heap.size + 1 < wr.heap.size := Nat.lt_of_lt_of_le hl2 HWr.out.size
              by_cases hlt : k < a.kids.length
              · have h1 : (k : Int) < (a.kids.length : Int) := by omega
                have h2 : (k : Int) < (b.kids.length : Int) := by omega
                have hltb : k < b.kids.length := by omega
                obtain ⟨b1, o1, k1, y1, hK1, hb1, hk1, hc1, ht1⟩ := (HA.out.up HWr.out).kid hlt
                obtain ⟨b2, o2, k2, y2, hK2, hb2, hk2, hc2, ht2⟩ := (HB.out.up HWr.out).kid hltb
                have hbd : Below wr.heap.size wr wr.drew := below_drewN _ _ 1
                have C := Lib.hid (HIH.out k1 (by rw [hk1]; exact List.getElem_mem _) k2 y1 y2 wr.drew (ht1.up hbd) (ht2.up hbd) (GA.out.kid hlt hk1) (GB.out.kid hltb hk2))
                have HK1 := Lib.hid hk1; have HK2 := Lib.hid hk2
                obtain ⟨p0, p1, p2, p3, p4⟩ := hc1
                obtain ⟨q0, q1, q2, q3, q4⟩ := hc2
                have HC4 := Lib.hid (show wr.cell? ⟨w.heap.size, 4, none⟩ = some (.slice (some ⟨b1, o1, none⟩) a.kids.length x.ck) from by rw [← hK1]; exact c4)
                have HD4 := Lib.hid (show wr.cell? ⟨w.heap.size + 1, 4, none⟩ = some (.slice (some ⟨b2, o2, none⟩) b.kids.length y.ck) from by rw [← hK2]; exact d4)
                clear ht1 ht2 hk1 hk2 hbd c0 c1 c2 c3 d0 d1 d2 d3
                go_wp2_with fail
                go_region_held3 (fun W => W.cell? ⟨w.heap.size, 4, none⟩ = some (.slice (some ⟨b1, o1, none⟩) a.kids.length x.ck) ∧ W.cell? ⟨(w.heap.size + 1), 4, none⟩ = some (.slice (some ⟨b2, o2, none⟩) b.kids.length y.ck) ∧ W.cell? ⟨b1, o1 + k * 5, none⟩ = some (.string k1.tag) ∧ W.cell? ⟨b1, o1 + k * 5 + 1, none⟩ = some (.string k1.key) ∧ W.cell? ⟨b1, o1 + k * 5 + 2, none⟩ = some (.string k1.text) ∧ W.cell? ⟨b1, o1 + k * 5 + 3, none⟩ = some (.slice y1.A k1.as.length y1.ca) ∧ W.cell? ⟨b1, o1 + k * 5 + 4, none⟩ = some (.slice y1.K k1.kids.length y1.ck) ∧ W.cell? ⟨b2, o2 + k * 5, none⟩ = some (.string k2.tag) ∧ W.cell? ⟨b2, o2 + k * 5 + 1, none⟩ = some (.string k2.key) ∧ W.cell? ⟨b2, o2 + k * 5 + 2, none⟩ = some (.string k2.text) ∧ W.cell? ⟨b2, o2 + k * 5 + 3, none⟩ = some (.slice y2.A k2.as.length y2.ca) ∧ W.cell? ⟨b2, o2 + k * 5 + 4, none⟩ = some (.slice y2.K k2.kids.length y2.ck))
                  (first
                    | go_keep
                    | (go_split_ands
                       exact ⟨(hb3.cell (p := ⟨w.heap.size, 4, none⟩) hl1).trans HC4.out, (hb3.cell (p := ⟨(w.heap.size + 1), 4, none⟩) hl2).trans HD4.out, (hb3.cell (p := ⟨b1, o1 + k * 5, none⟩) hb1).trans p0, (hb3.cell (p := ⟨b1, o1 + k * 5 + 1, none⟩) hb1).trans p1, (hb3.cell (p := ⟨b1, o1 + k * 5 + 2, none⟩) hb1).trans p2, (hb3.cell (p := ⟨b1, o1 + k * 5 + 3, none⟩) hb1).trans p3, (hb3.cell (p := ⟨b1, o1 + k * 5 + 4, none⟩) hb1).trans p4, (hb3.cell (p := ⟨b2, o2 + k * 5, none⟩) hb2).trans q0, (hb3.cell (p := ⟨b2, o2 + k * 5 + 1, none⟩) hb2).trans q1, (hb3.cell (p := ⟨b2, o2 + k * 5 + 2, none⟩) hb2).trans q2, (hb3.cell (p := ⟨b2, o2 + k * 5 + 3, none⟩) hb2).trans q3, (hb3.cell (p := ⟨b2, o2 + k * 5 + 4, none⟩) hb2).trans q4⟩))
                  ((go_at_call 17; refine C.out.mono ?_; rintro e w3 ⟨r, rfl, hr, hb3⟩))
                have HB3 := Lib.hid (HWr.out.trans (((below_drewN _ wr 1).trans hb3).mono HWr.out.size)); have HR := Lib.hid hr
                clear hb3 hr C p0 p1 p2 p3 p4 q0 q1 q2 q3 q4
                cases r with
                | true =>
                  have HEE := Lib.hid (HR.out.1 rfl)
                  clear HR
                  go_wp2_with fail
                  try rw [← hK1]
                  try rw [← hK2]
                  go_roundg (a.kids.length - (k + 1))
                  case measure => omega
                  case rel =>
                    refine ⟨k + 1, by go_num, by omega, by omega, Lib.hid (fun j h3 h4 h5 => ?_), HB3⟩
                    rcases Nat.lt_or_ge j k with h6 | h6
                    · exact HS.out j h3 h4 h6
                    · have : j = k := by omega
                      subst this
                      rw [← HK1.out, ← HK2.out]; exact HEE.out
                | false =>
                  have HEE := Lib.hid (show ¬ k1 = k2 from fun e => by have := HR.out.2 e; cases this)
                  clear HR
                  go_wp2_with fail
                  go_ret
                  refine ⟨false, rfl, ⟨(fun h => by cases h), fun e => absurd ?_ HEE.out⟩, HB2.out.trans (HB3.out.mono HB2.out.size)⟩
                  rw [HK1.out, HK2.out]
                  simp only [e]
              · have h1 : ¬ (k : Int) < (a.kids.length : Int) := by omega
                go_wp2_with fail
                go_ret
                refine ⟨true, rfl, ⟨fun _ => ?_, fun _ => rfl⟩, HB2.out.trans (HWr.out.mono HB2.out.size)⟩
                exact tr_ext.2 ⟨HE.out.1, HE.out.2.1, HE.out.2.2, HE3.out, List.ext_getElem HLM.out (fun i h3 h4 => HS.out i h3 h4 (by omega))⟩
          · have e4' : ((a.kids.length : Int) != (b.kids.length : Int)) = true := by simp; omega
            have HE4 := Lib.hid e4
            clear e4
            go_enter Tryz.func17, Tryz.ntmps17
            go_wp2_with fail
            rw [two_out HW1 HW2]
            refine C.out.mono ?_
            rintro e w3 ⟨rfl, nq, hq3⟩
            have hb3 : Below w2.heap.size w2 w3 := by rw [hq3]; exact below_drewN _ _ _
            have HB3 := Lib.hid (HB2.out.trans (hb3.mono HB2.out.size))
            clear c0 c1 c2 c3 c4 d0 d1 d2 d3 d4
            obtain ⟨c0, c1, c2, c3, c4⟩ := HC1.out.below hb3 hl1
            obtain ⟨d0, d1, d2, d3, d4⟩ := HC2.out.below hb3 hl2
            clear hb3 hq3 C
            go_wp2_with fail
            go_ret
            exact ⟨false, rfl, ⟨(fun h => by cases h), fun h => absurd (by rw [h]) HE4.out⟩, HB3.out⟩
        · rw [decide_eq_false e3] at C
          have HE3 := Lib.hid e3
          clear e3
          go_enter Tryz.func17, Tryz.ntmps17
          go_wp2_with fail
          rw [two_out HW1 HW2]
          refine C.out.mono ?_
          rintro e w3 ⟨rfl, nq, hq3⟩
          have hb3 : Below w2.heap.size w2 w3 := by rw [hq3]; exact below_drewN _ _ _
          have HB3 := Lib.hid (HB2.out.trans (hb3.mono HB2.out.size))
          clear hb3 hq3 C c0 c1 c2 c3 c4 d0 d1 d2 d3 d4
          go_wp2_with fail
          go_ret
          exact ⟨false, rfl, ⟨(fun h => by cases h), fun h => absurd (tr_ext.1 h).2.2.2.1 HE3.out⟩, HB3.out⟩
      · have e2' : (a.text.toList == b.text.toList) = false := by rw [eqB]; exact decide_eq_false e2
        have HE := Lib.hid e2
        clear e0 e1 e2
        go_enter Tryz.func17, Tryz.ntmps17
        go_wp2_with fail
        rw [two_out HW1 HW2]
        go_ret
        exact ⟨false, rfl, ⟨(fun h => by cases h), fun h => absurd (tr_ext.1 h).2.2.1 HE.out⟩, HB2.out⟩
    · have e1' : (a.key.toList == b.key.toList) = false := by rw [eqB]; exact decide_eq_false e1
      have HE := Lib.hid e1
      clear e0 e1
      go_enter Tryz.func17, Tryz.ntmps17
      go_wp2_with fail
      rw [two_out HW1 HW2]
      go_ret
      exact ⟨false, rfl, ⟨(fun h => by cases h), fun h => absurd (tr_ext.1 h).2.1 HE.out⟩, HB2.out⟩
  · have e0' : (a.tag.toList == b.tag.toList) = false := by rw [eqB]; exact decide_eq_false e0
    have HE := Lib.hid e0
    clear e0
    go_enter Tryz.func17, Tryz.ntmps17
    go_wp2_with fail
    rw [two_out HW1 HW2]
    go_ret
    exact ⟨false, rfl, ⟨(fun h => by cases h), fun h => absurd (tr_ext.1 h).1 HE.out⟩, HB2.out⟩
end Go.Proofs.YtjnhcoflmechmaaGreatDoor
