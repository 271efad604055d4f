/-
  flat.appendRows and flat.Rows.
-/
import Derived.Test.YtlkdklpglmglkaaFTree
import Derived.Deep.RegionHeld3
namespace Go.Proofs.Ytlkdklpglmglkaa
open Go.RowKit Go.Sort Go.Lib
set_option linter.unusedVariables false
set_option maxRecDepth 100000
abbrev RV := Rw × AV
def rws (l : List RV) : List Value := l.flatMap fun p => rCells p.1 p.2
theorem rws_append (a b : List RV) : rws (a ++ b) = rws a ++ rws b := by simp [rws]
theorem rws_length (l : List RV) : (rws l).length = l.length * 6 := by
  induction l with
  | nil => rfl
  | cons p ps ih => simp only [rws, List.flatMap_cons, List.length_append, List.length_cons, rCells, List.length_nil] at ih ⊢; omega
theorem rCells_one (r : Rw) (x : AV) : ∀ v ∈ rCells r x, v.oneCell' = true := by
  intro v hv
  simp [rCells] at hv
  rcases hv with rfl | rfl | rfl | rfl | rfl | rfl <;> rfl
theorem rws_at : ∀ (l : List RV) (i : Nat) (hi : i < l.length) (r : Nat), r < 6 → (rws l)[i * 6 + r]? = (rCells l[i].1 l[i].2)[r]?
  | [], i, h, _, _ => by simp at h
  | p :: ps, 0, h, r, hr => by
    simp only [rws, List.flatMap_cons, Nat.zero_mul, Nat.zero_add, List.getElem_cons_zero]
    rw [List.getElem?_append_left (by simp [rCells]; omega)]
  | p :: ps, i + 1, h, r, hr => by
    have ih := rws_at ps i (by simpa using h) r hr
    simp only [rws, List.flatMap_cons] at ih ⊢
    rw [List.getElem?_append_right (by simp [rCells]; omega)]
    simp only [rCells, List.length_cons, List.length_nil, List.getElem_cons_succ] at ih ⊢
    rw [← ih]
    congr 1
    omega
theorem Try.info56 : (Try.prog.info? 56).map (fun i => (i.zero, i.size, i.bytes)) = some (some (.agg #[.int .i64 0, .int .i64 0, .string ⟨#[]⟩, .string ⟨#[]⟩, .string ⟨#[]⟩, .slice none 0 0]), 6, 88) := by kernel_rfl
/-- The attributes of a row, in given blocks. -/
structure AtP (w : World) (P : Nat → Prop) (r : Rw) (x : AV) : Prop where
  row : TRowP w P x.A r.as
  le : r.as.length ≤ x.ca
  cap : x.ca ≤ maxLen
  nil : x.A = none → x.ca = 0
theorem AtP.kept {w w' : World} {P Q : Nat → Prop} {r : Rw} {x : AV} (h : AtP w P r x) {S : Nat → Prop} (hk : Kept S w w') (hs : ∀ b, P b → ¬ S b) (hq : ∀ b, P b → Q b) : AtP w' Q r x := ⟨h.row.kept hk hs hq, h.le, h.cap, h.nil⟩
theorem row_app {rb : Nat} (w6 : World) (r : Rw) (x6 : AV) (Av : Option Addr) (k cv : Nat) (ps : List RV) (hown : w6.ownsRow rb 56 6 (.slice Av k cv) ps.length (rws ps)) (hpl : ps.length = k) (hk : k ≤ 1000000) (hrb : rb ≤ w6.heap.size) :
    ∃ A7 c7 w7, (Builtin.append_ #[28, 28] 28 #[.slice Av k cv, .slice (some ⟨w6.heap.size, 0, none⟩) 1 1]).run Try.prog (w6.alloc (.cells #[.int .i64 r.id, .int .i64 r.up, .string r.tag, .string r.key, .string r.text, .slice x6.A r.as.length x6.ca] 56)) = .ok (.slice A7 (k + 1) c7) w7 ∧
      w7.ownsRow rb 56 6 (.slice A7 (k + 1) c7) (ps ++ [(r, x6)]).length (rws (ps ++ [(r, x6)])) ∧ Kept (OwnB (.slice Av k cv)) w6 w7 ∧ Fresh w6 (.slice Av k cv) (.slice A7 (k + 1) c7) := by
  obtain ⟨i0, hi, hz0, hz1, hz2⟩ := info_parts Try.info56
  have hown' : (w6.alloc (.cells #[.int .i64 r.id, .int .i64 r.up, .string r.tag, .string r.key, .string r.text, .slice x6.A r.as.length x6.ca] 56)).ownsRow rb 56 6 (.slice Av k cv) k (rws ps) := by
    have := hown.alloc (.cells #[.int .i64 r.id, .int .i64 r.up, .string r.tag, .string r.key, .string r.text, .slice x6.A r.as.length x6.ca] 56)
    rw [hpl] at this
    exact this
  obtain ⟨v7, w7, hrun, ho, hgr, _, hloc⟩ := run_append_own_at (P := Try.prog) (w6.alloc (.cells #[.int .i64 r.id, .int .i64 r.up, .string r.tag, .string r.key, .string r.text, .slice x6.A r.as.length x6.ca] 56)) rb 28 28 56 i0 _ 6 88 Try.underlying28 hi hz0 hz1 hz2 rfl (by omega) (.slice Av k cv) k (rws ps) hown' ⟨w6.heap.size, 0, none⟩ 1 1 (rCells r x6) (by simp [rCells]) (arr_new _ _ _ _ rfl) (rCells_one r x6) (by unfold maxLen; omega) (by omega) (by simp; omega)
  obtain ⟨A7, c7, rfl⟩ := row_form ho
  refine ⟨A7, c7, w7, hrun, ?_, (kept_alloc w6 _ _).trans ((kept_grown hgr).mono (fun b _ hb => hb.symm)), fun j hj hb => ?_⟩
  · rw [rws_append]
    simpa [rws, hpl] using ho
  · rcases hloc with hl | hl
    · rw [← hl]; exact hb
    · rw [hl] at hb
      simp at hb
      omega
theorem sizeK_take_le (ks : List Tr) (j : Nat) : sizeK (ks.take j) ≤ sizeK ks := by
  have e : ks = ks.take j ++ ks.drop j := by simp
  conv => rhs; rw [e]
  rw [sizeK_append]; omega
def AppPost (base : Nat) (v0 : Value) (ps : List RV) (t : Tr) (up : Int) (w : World) (e : Ending) (w' : World) : Prop :=
  ∃ v qs, e = .returned v ∧ w'.ownsRow base 56 6 v qs.length (rws qs) ∧ qs.map Prod.fst = ps.map Prod.fst ++ rowsT t up ps.length ∧ (∀ p ∈ qs, AtP w' (NewOut base v w') p.1 p.2) ∧ Kept (OwnB v0) w w' ∧ Fresh w v0 v
set_option maxHeartbeats 8000000 in
theorem appRows_any (n0 base : Nat) (hnb : n0 ≤ base) : ∀ t : Tr, ∀ (x : NV) (up : Int) (v : Value) (ps : List RV) (w : World), TreeAt w n0 t x → GoodT t → (∀ p ∈ ps, AtP w (NewOut base v w) p.1 p.2) → base ≤ w.heap.size → w.ownsRow base 56 6 v ps.length (rws ps) → ps.length + sizeT t ≤ 100000 →
    Calls Try.prog 43 #[v, nodeV t x, .int .i64 up] w (AppPost base v ps t up w) := by
  refine tr_ind (fun t ih => ?_)
  intro x up v ps w htree hgood hall hbase hown hsz
  have nf : ¬ (False : Prop) := fun h => h
  obtain ⟨s1, s2, s3, s4, s5, s6⟩ := hgood.sizes
  have hca := htree.caps.2.2.1
  obtain ⟨A, cap, rfl⟩ := row_form hown
  obtain ⟨w1, hw1⟩ : ∃ w1, w1 = boxW w t x := ⟨_, rfl⟩
  have hb1 : Below w.heap.size w w1 := by rw [hw1]; exact below_box w t x
  have hbox : KidCells w1 w.heap.size 0 t x := by rw [hw1]; exact box_node w t x
  have hlt1 : w.heap.size < w1.heap.size := hbox.block_lt
  have ht1 := htree.keepB (hb1.mono (Nat.le_trans hnb hbase))
  have CA := Lib.hid (cloneA_any x.A x.ca t.as w1.drew ((ht1.att.mono (Nat.le_trans (Nat.le_trans hnb hbase) hb1.size)).below (below_drewN _ w1 1)) s4 hca)
  have hown1 := (kept_below hb1 (fun _ => False)).own hown (fun _ _ => nf)
  have HOLT := Lib.hid (show ∀ k, OwnB (.slice A ps.length cap) k → base ≤ k ∧ k < w.heap.size from fun k hk => hown.lt k hk)
  have HT0 := Lib.hid htree
  have HSZ := Lib.hid hsz
  have hpl : ps.length ≤ 100000 := by omega
  have HW := Lib.hid hw1; have HB1 := Lib.hid hb1; have HBX := Lib.hid hbox; have HT1 := Lib.hid ht1; have HO1 := Lib.hid hown1
  have HA1 := Lib.hid (show ∀ p ∈ ps, AtP w1 (NewOut base (.slice A ps.length cap) w1) p.1 p.2 from fun p hp => (hall p hp).kept (kept_below hb1 (fun _ => False)) (fun _ _ => nf) (fun b hb => ⟨hb.1, Nat.lt_of_lt_of_le hb.2.1 hb1.size, hb.2.2⟩))
  have HIH := Lib.hid ih; have HG := Lib.hid hgood
  have HSE := Lib.hid (sizeT_eq t)
  obtain ⟨c0, c1, c2, c3, c4⟩ := hbox
  clear ih htree hgood hall hown hw1 hb1 ht1 hown1 hsz s1 s2 s3 s5
  go_enter Try.func43, Try.ntmps43
  go_upto_region 1 with (fail)
  rw [box_out HW]
  go_region_held3 (fun W => W.cell? ⟨w.heap.size, 0, none⟩ = some (.string t.tag) ∧ W.cell? ⟨w.heap.size, 1, none⟩ = some (.string t.key) ∧ W.cell? ⟨w.heap.size, 2, none⟩ = some (.string t.text) ∧ W.cell? ⟨w.heap.size, 3, none⟩ = some (.slice x.A t.as.length x.ca))
    (first
      | go_keep
      | exact HM2.out
      | exact HM3.out)
    ((first
      | (refine step_append_run rfl (.tmp 10) (.tmp 22) 28 rfl (.slice A ps.length cap) (.slice (some ⟨w2.heap.size, 0, none⟩) 1 1) (by first | (simp [Act.eval]; done) | (simp [Act.eval, Act.put]; done)) (by first | (simp [Act.eval]; done) | (simp [Act.eval, Act.put]; done)) HR3.out ?_)
      | (go_at_call 60; refine CA.out.mono ?_; rintro e w2 ⟨vA, rfl, hoA, hb2⟩; obtain ⟨A2, ca2, rfl, hrA, k1, k2, k3⟩ := own_trowp hoA; have HB2 := Lib.hid (show Below w1.heap.size w1 w2 from (below_drewN _ w1 1).trans hb2); have HBX2 := Lib.hid (HBX.out.kept (kept_below HB2.out (fun _ => False)) nf); have HM2 := Lib.hid (And.intro HBX2.out.c0 (And.intro HBX2.out.c1 (And.intro HBX2.out.c2 HBX2.out.c3))); obtain ⟨A3, c3', w3, hr3, ho3, hk3, hf3⟩ := row_app w2 ⟨0, up, t.tag, t.key, t.text, t.as⟩ ⟨A2, ca2⟩ A ps.length cap ps ((kept_below HB2.out (fun _ => False)).own HO1.out (fun _ _ => nf)) rfl (by omega) (Nat.le_trans hbase (Nat.le_trans (Nat.le_of_lt hlt1) HB2.out.size)); have HR3 := Lib.hid hr3; have HO3 := Lib.hid ho3; have HK3 := Lib.hid hk3; have HF3 := Lib.hid hf3; have HLA := Lib.hid (show ∀ b, OwnB (.slice A2 t.as.length ca2) b → w1.heap.size ≤ b ∧ b < w2.heap.size from fun b hb => hoA.lt b hb); have HAT := Lib.hid (show AtP w2 (OwnB (.slice A2 t.as.length ca2)) ⟨0, up, t.tag, t.key, t.text, t.as⟩ ⟨A2, ca2⟩ from ⟨hrA, k1, k2, k3⟩); have HBX3 := Lib.hid (HBX2.out.kept hk3 (fun h => by have := HOLT.out _ h; omega)); have HM3 := Lib.hid (And.intro HBX3.out.c0 (And.intro HBX3.out.c1 (And.intro HBX3.out.c2 HBX3.out.c3))); clear hoA hb2 hrA k1 k2 k3 hr3 ho3 hk3 hf3)))
  have hs12 := HB2.out.size
  have HNB := Lib.hid (show ¬ OwnB (.slice A3 (ps.length + 1) c3') w.heap.size from fun h => by have := HOLT.out _ (HF3.out _ (by omega) h); omega)
  have HALL := Lib.hid (show ∀ p ∈ ps ++ [((⟨0, up, t.tag, t.key, t.text, t.as⟩ : Rw), (⟨A2, ca2⟩ : AV))], AtP w3 (NewOut base (.slice A3 (ps.length + 1) c3') w3) p.1 p.2 from fun p hp => by
    have hs3 := HK3.out.size
    rcases List.mem_append.1 hp with hp | hp
    · exact ((HA1.out p hp).kept (kept_below HB2.out (fun _ => False)) (fun _ _ => nf) (fun _ h => h)).kept HK3.out (fun b hb => hb.2.2) (fun b hb => ⟨hb.1, by have := hb.2.1; omega, fun h => hb.2.2 (HF3.out b (by have := hb.2.1; omega) h)⟩)
    · simp at hp
      subst hp
      exact HAT.out.kept HK3.out (fun b hb h => by have h1 := HLA.out b hb; have h2 := HOLT.out b h; omega) (fun b hb => by
        have h1 := HLA.out b hb
        exact ⟨by omega, by omega, fun h => by have := HOLT.out b (HF3.out b h1.2 h); omega⟩))
  have HK0 := Lib.hid (show Kept (OwnB (.slice A ps.length cap)) w w3 from (kept_below (HB1.out.trans (HB2.out.mono HB1.out.size)) _).trans HK3.out)
  have HF0 := Lib.hid (show Fresh w (.slice A ps.length cap) (.slice A3 (ps.length + 1) c3') from fun k hk hv => HF3.out k (by omega) hv)
  have HT3 := Lib.hid (show ∀ wr, Kept (OwnB (.slice A ps.length cap)) w wr → TreeAt wr n0 t x from fun wr hk => HT0.out.keepB (hk.below (Nat.le_trans hnb hbase) (fun b hb => Nat.le_trans hnb (HOLT.out b hb).1)))
  have c44 := HBX3.out.c4
  have hwp : IntKind.i64.wrap ((ps.length : Int) + 1) = (ps.length : Int) + 1 := by rw [IntKind.wrap_i64]; omega
  clear HB2 HM2 HM3 HBX2 HR3 HK3 HF3 HLA HAT HA1 HO1 CA c0 c1 c2 c3 c4
  go_wp2_with fail
  go_loopg [0, 9, 29] t.kids.length (fun g s0 _ s29 wr => ∃ (k : Nat) (qs : List RV), s29 = .int .i64 k ∧ k ≤ t.kids.length ∧ t.kids.length - k ≤ g ∧ RowKit.Hid (qs.length = ps.length + 1 + sizeK (t.kids.take k)) ∧ RowKit.Hid (qs.map Prod.fst = ps.map Prod.fst ++ ⟨0, up, t.tag, t.key, t.text, t.as⟩ :: rowsK (t.kids.take k) ((ps.length : Int) + 1) (ps.length + 1)) ∧ RowKit.Hid (wr.ownsRow base 56 6 s0 qs.length (rws qs)) ∧ RowKit.Hid (∀ p ∈ qs, AtP wr (NewOut base s0 wr) p.1 p.2) ∧ RowKit.Hid (Kept (OwnB (.slice A ps.length cap)) w wr) ∧ RowKit.Hid (Fresh w (.slice A ps.length cap) s0) ∧ RowKit.Hid (Kept (OwnB (.slice A3 (ps.length + 1) c3')) w3 wr) ∧ RowKit.Hid (Fresh w3 (.slice A3 (ps.length + 1) c3') s0))
  case atStart => exact ⟨0, ps ++ [(⟨0, up, t.tag, t.key, t.text, t.as⟩, ⟨A2, ca2⟩)], rfl, by omega, by omega, Lib.hid (by simp [sizeK]), Lib.hid (by simp [rowsK]), HO3, HALL, HK0, HF0, Lib.hid (Kept.refl _ _), Lib.hid (Fresh.refl _ _)⟩
  case round =>
    obtain ⟨k, qs, rfl, hk, hg, HQL, HQ, HO, HA, HK, HF, HKK, HFF⟩ := hrel
    obtain ⟨A', cap', hu⟩ := row_form HO.out
    subst hu
    have hq4 := (HBX3.out.kept HKK.out HNB.out).c4
    by_cases hlt : k < t.kids.length
    · have h1 : (k : Int) < (t.kids.length : Int) := by omega
      obtain ⟨b, off, kd, y, hK, hb, hkd, hkc, hkt⟩ := (HT3.out wr HK.out).kid hlt
      obtain ⟨q0, q1, q2, q3, q4⟩ := hkc
      obtain ⟨w4, hw4⟩ : ∃ w4, w4 = boxW wr kd y := ⟨_, rfl⟩
      have hb4 : Below wr.heap.size wr w4 := by rw [hw4]; exact below_box _ _ _
      have hk4 := kept_below hb4 (fun _ => False)
      have hsr : base ≤ wr.heap.size := Nat.le_trans hbase HK.out.size
      have hrT := rowsK_take hlt ((ps.length : Int) + 1) (ps.length + 1)
      have hsT := sizeK_take hlt
      have hbound : qs.length + sizeT kd ≤ 100000 := by
        have e1 := sizeK_take_le t.kids (k + 1)
        rw [hsT, ← hkd] at e1
        have e2 := HSZ.out
        rw [HSE.out] at e2
        have e3 := HQL.out
        omega
      have C := Lib.hid (HIH.out kd (by rw [hkd]; exact List.getElem_mem _) y ((ps.length : Int) + 1) (.slice A' qs.length cap') qs w4 (hkt.keepB (hb4.mono (Nat.le_trans hnb hsr))) (HG.out.kid hlt hkd) (fun p hp => (HA.out p hp).kept hk4 (fun _ _ => nf) (fun b hb => ⟨hb.1, Nat.lt_of_lt_of_le hb.2.1 hb4.size, hb.2.2⟩)) (Nat.le_trans hsr hb4.size) (hk4.own HO.out (fun _ _ => nf)) hbound)
      have HQ2 := Lib.hid (show ∀ qs' : List RV, qs'.map Prod.fst = qs.map Prod.fst ++ rowsT kd ((ps.length : Int) + 1) qs.length → qs'.map Prod.fst = ps.map Prod.fst ++ ⟨0, up, t.tag, t.key, t.text, t.as⟩ :: rowsK (t.kids.take (k + 1)) ((ps.length : Int) + 1) (ps.length + 1) ∧ qs'.length = ps.length + 1 + sizeK (t.kids.take (k + 1)) from fun qs' h => by
        have h2 : qs'.length = qs.length + sizeT kd := by
          have := congrArg List.length h
          simp only [List.length_map, List.length_append, rowsT_length] at this
          exact this
        refine ⟨?_, by rw [h2, hsT, ← hkd, HQL.out]; omega⟩
        rw [h, HQ.out, hrT, ← hkd, HQL.out]
        simp)
      have HW4 := Lib.hid hw4; have HB4 := Lib.hid hb4
      rw [node_val] at C
      clear hkd hkt hw4 hb4 hk4 hrT hsT hbound
      go_wp2_with fail
      rw [box_out HW4]
      refine C.out.mono ?_
      rintro e w5 ⟨v5, qs5, rfl, ho5, hm5, ha5, hk5, hf5⟩
      obtain ⟨hm6, hl6⟩ := HQ2.out qs5 hm5
      have HL6 := Lib.hid hl6
      have HO5 := Lib.hid ho5; have HA5 := Lib.hid ha5; have HM6 := Lib.hid hm6
      have hkr : Kept (OwnB (.slice A' qs.length cap')) wr w5 := (kept_below HB4.out _).trans hk5
      have hfr : Fresh wr (.slice A' qs.length cap') v5 := fun i hi hv => hf5 i (Nat.lt_of_lt_of_le hi HB4.out.size) hv
      have HK5 := Lib.hid (HK.out.fresh HF.out hkr); have HF5 := Lib.hid (HF.out.trans hfr HK.out.size)
      have HKK5 := Lib.hid (HKK.out.fresh HFF.out hkr); have HFF5 := Lib.hid (HFF.out.trans hfr HKK.out.size)
      clear ho5 hm5 ha5 hk5 hf5 hm6 hl6 hkr hfr C q0 q1 q2 q3 q4 HQ2
      go_wp2_with fail
      try rw [← hK]
      go_roundg (t.kids.length - (k + 1))
      case measure => omega
      case rel => exact ⟨k + 1, qs5, by go_num, by omega, by omega, HL6, HM6, HO5, HA5, HK5, HF5, HKK5, HFF5⟩
    · have h1 : ¬ (k : Int) < (t.kids.length : Int) := by omega
      have HVF := Lib.hid (show qs.map Prod.fst = ps.map Prod.fst ++ rowsT t up ps.length by rw [HQ.out, List.take_of_length_le (by omega), rowsT_eq])
      go_wp2_with fail
      go_ret
      exact ⟨_, qs, rfl, HO.out, HVF.out, HA.out, HK.out, HF.out⟩
/-- What flat.Rows hands back. -/
def RowsPost (t : Tr) (w : World) (e : Ending) (w' : World) : Prop :=
  ((seenL aloneT t).2 ≠ 0 ∧ e = .returned (.tuple #[.slice none 0 0, .int .i64 (seenL aloneT t).2]) ∧ Below w.heap.size w w') ∨
  ((seenL aloneT t).2 = 0 ∧ ∃ A c, e = .returned (.tuple #[.slice A (rowsT t 0 0).length c, .int .i64 0]) ∧ RRow w' w'.heap.size A (rowsT t 0 0) ∧ (rowsT t 0 0).length ≤ c ∧ Below w.heap.size w w')
theorem rrow_own {w : World} {base : Nat} {A : Option Addr} {n c : Nat} {qs : List RV} (h : w.ownsRow base 56 6 (.slice A n c) qs.length (rws qs)) (ha : ∀ p ∈ qs, AtP w (NewOut base (.slice A n c) w) p.1 p.2) : RRow w w.heap.size A (qs.map Prod.fst) ∧ n = qs.length ∧ qs.length ≤ c := by
  rcases h.2 with ⟨he, hn⟩ | ⟨g, c', cur, he, hg, hh, h1, h2, h3, h4⟩
  · simp at he
    obtain ⟨rfl, rfl, rfl⟩ := he
    exact ⟨fun h0 => by simp at h0; omega, hn.symm, by omega⟩
  · simp at he
    obtain ⟨rfl, rfl, rfl⟩ := he
    refine ⟨fun h0 => ⟨g, 0, fun j => (qs.getD j (noRw, ⟨none, 0⟩)).2, rfl, (Array.getElem?_eq_some_iff.1 hh).1, fun j hj => ?_⟩, rfl, h1⟩
    have hj' : j < qs.length := by simpa using hj
    have e : (qs.getD j (noRw, ⟨none, 0⟩)).2 = qs[j].2 := by simp [List.getD_eq_getElem?_getD, hj']
    have e2 : (qs.map Prod.fst)[j] = qs[j].1 := by simp
    simp only [e, e2]
    have key : ∀ r, r < 6 → w.cell? ⟨g, 0 + j * 6 + r, none⟩ = (rCells qs[j].1 qs[j].2)[r]? := fun r hr => by
      rw [Nat.zero_add, World.ownsRow.cellAt h (j * 6 + r) (by omega), rws_at qs j hj' r hr]
    have hp := ha qs[j] (List.getElem_mem _)
    refine ⟨⟨key 0 (by omega), key 1 (by omega), key 2 (by omega), key 3 (by omega), key 4 (by omega), key 5 (by omega)⟩, ⟨fun h0 => ?_, hp.le, hp.cap, hp.nil⟩⟩
    obtain ⟨b, off, hA, hb, hc⟩ := hp.row h0
    exact ⟨b, off, hA, hb.2.1, hc⟩
set_option maxHeartbeats 4000000 in
theorem frows_any (t : Tr) (x : NV) (w : World) (h : TreeAt w w.heap.size t x) (hg : GoodT t) (hsz : sizeT t ≤ 100000) : Calls Try.prog 12 #[nodeV t x] w (RowsPost t w) := by
  obtain ⟨w1, hw1⟩ : ∃ w1, w1 = boxW w t x := ⟨_, rfl⟩
  have hb1 : Below w.heap.size w w1 := by rw [hw1]; exact below_box w t x
  have hbx : KidCells w1 w.heap.size 0 t x := by rw [hw1]; exact box_node w t x
  have C := Lib.hid (vcheck_any t x w1 (h.up hb1) hg)
  have HT := Lib.hid h; have HW := Lib.hid hw1; have HB1 := Lib.hid hb1; have HG := Lib.hid hg; have HBX := Lib.hid hbx
  obtain ⟨er, her⟩ : ∃ e, e = (seenL aloneT t).2 := ⟨_, rfl⟩
  have HER := Lib.hid her
  rw [← her] at C
  generalize (if er = 0 then (0 : Int) else ((seenL aloneT t).1.length : Int)) = ln at C
  obtain ⟨c0, c1, c2, c3, c4⟩ := hbx
  clear h hg hw1 hb1 her
  go_enter Try.func12, Try.ntmps12
  go_wp2_with fail
  rw [box_out HW]
  refine C.out.mono ?_
  rintro e w2 ⟨rfl, hb2⟩
  have HB2 := Lib.hid (HB1.out.trans (hb2.mono HB1.out.size))
  clear c0 c1 c2 c3 c4
  obtain ⟨c0, c1, c2, c3, c4⟩ := HBX.out.kept (kept_below hb2 (fun _ => False)) (fun h => h)
  clear hb2 C
  by_cases hz : er = 0
  · have hz' : (er != 0) = false := by simpa using hz
    have HZ := Lib.hid hz
    have C2 := Lib.hid (appRows_any w.heap.size w2.heap.size HB2.out.size t x 0 (.slice none 0 0) [] w2 (HT.out.keepB HB2.out) HG.out (fun p hp => by simp at hp) (Nat.le_refl _) (World.ownsRow_nil _ _ _ _) (by simpa using hsz))
    rw [node_val] at C2
    clear hz
    go_wp2_with fail
    refine C2.out.mono ?_
    rintro e w3 ⟨v, qs, rfl, ho, hm, ha, hk, hf⟩
    obtain ⟨A, c, rfl⟩ := row_form ho
    obtain ⟨r1, r2, r3⟩ := rrow_own ho ha
    have hm' : qs.map Prod.fst = rowsT t 0 0 := by simpa using hm
    rw [hm'] at r1
    have hlen : qs.length = (rowsT t 0 0).length := by rw [← hm']; simp
    have HR1 := Lib.hid r1; have HLEN := Lib.hid hlen; have HR3 := Lib.hid r3
    have HB3 := Lib.hid (HB2.out.trans (hk.below HB2.out.size (fun k hk => by simp [OwnB, Value.ownBlock] at hk)))
    clear ho hm ha hk hf r1 r2 r3 hm' hlen C2 c0 c1 c2 c3 c4
    go_wp2_with fail
    go_ret2
    exact .inr ⟨by rw [← HER.out]; exact HZ.out, A, c, by rw [HLEN.out]; rfl, HR1.out, by rw [← HLEN.out]; exact HR3.out, HB3.out⟩
  · have hz' : (er != 0) = true := by simpa using hz
    have HZ := Lib.hid hz
    clear hz
    go_wp2_with fail
    go_ret2
    exact .inl ⟨by rw [← HER.out]; exact HZ.out, by rw [← HER.out]; rfl, HB2.out⟩
end Go.Proofs.Ytlkdklpglmglkaa
