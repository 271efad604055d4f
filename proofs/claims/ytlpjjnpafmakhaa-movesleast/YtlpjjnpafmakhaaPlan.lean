/-
  Plan: a step for each thing that does not stay, from the last one to the first.
-/
import Derived.Test.YtlpjjnpafmakhaaBack
namespace Go.Proofs.Ytlpjjnpafmakhaa
open Go.RowKit Go.Shelf
set_option linter.unusedVariables false
attribute [local go_sem] Oper.semAt_some

/-- Steps, as cells. -/
def pairs (ps : List (Int × Int)) : List Value := ps.flatMap fun p => [.int .i64 p.1, .int .i64 p.2]
theorem pairs_snoc (ps : List (Int × Int)) (p : Int × Int) : pairs (ps ++ [p]) = pairs ps ++ [.int .i64 p.1, .int .i64 p.2] := by simp [pairs]
theorem pairs_length (ps : List (Int × Int)) : (pairs ps).length = ps.length * 2 := by
  induction ps with
  | nil => rfl
  | cons p ps ih => simp only [pairs, List.flatMap_cons, List.length_append, List.length_cons, List.length_nil] at ih ⊢; omega

/-- What the rounds make of what comes: the steps, and the thing that came last. -/
def pst (pre : List (Nat × Bool)) : List (Int × Int) × Int := pre.foldl (fun s x => (if x.2 then s.1 else s.1 ++ [((x.1 : Int), s.2)], (x.1 : Int))) ([], -1)
theorem pst_snoc (pre : List (Nat × Bool)) (x : Nat × Bool) : pst (pre ++ [x]) = (if x.2 then (pst pre).1 else (pst pre).1 ++ [((x.1 : Int), (pst pre).2)], (x.1 : Int)) := by simp [pst]
theorem pst_length (pre : List (Nat × Bool)) : (pst pre).1.length ≤ pre.length := by
  have : ∀ (r : List (Nat × Bool)), (pst r.reverse).1.length ≤ r.length := by
    intro r
    induction r with
    | nil => simp [pst]
    | cons x r ih =>
      rw [List.reverse_cons, pst_snoc]
      simp only
      split <;> simp <;> omega
  have h := this pre.reverse
  simpa using h
theorem pst_back (l : List Int) (m : Nat) (hm : m ≤ l.length) : pst (backL (stayL l) m) = (planR l m, if m = 0 then -1 else ((l.length - m : Nat) : Int)) := by
  induction m with
  | zero => simp [backL, pst, planR]
  | succ m ih =>
    rw [backL_succ, pst_snoc, ih (by omega)]
    simp only [stayL_length]
    rw [stayL_at (by omega)]
    simp only [planR, planAt]
    have e : l.length - 1 - m = l.length - (m + 1) := by omega
    rw [e, if_neg (Nat.succ_ne_zero m)]
    cases stays l (l.length - (m + 1)) <;> simp

theorem Try.info36 : (Try.prog.info? 36).map (fun i => (i.zero, i.size, i.bytes)) = some (some (.agg #[.int .i64 0, .int .i64 0]), 2, 16) := by kernel_rfl

/-- What the caller holds between two rounds. -/
def PInv (W0 : World) (Bt Bf : Nat) (pre : List (Nat × Bool)) (W : World) : Prop :=
  (∃ v, Boxed W Bt 24 v ∧ W.ownsRow W0.heap.size 36 2 v (pst pre).1.length (pairs (pst pre).1) ∧ True) ∧ Boxed W Bf 3 (.int .i64 (pst pre).2) ∧ Kept (fun k => k = Bt ∨ k = Bf) W0 W
theorem pinv_own (W0 : World) (Bt Bf : Nat) : OwnFrom W0.heap.size (PInv W0 Bt Bf) := by
  refine OwnFrom.and (Own.from (holdsRow_own W0.heap.size Bt 24 36 2 (fun pre => (pst pre).1.length) (fun pre => pairs (pst pre).1) (fun _ _ => True)) _) (OwnFrom.and (Own.from (boxed_own Bf 3 (fun pre => .int .i64 (pst pre).2)) _) ?_)
  intro s W W' row hs hg hr
  refine ⟨hg.os.trans hs.os, hg.tape.trans hs.tape, hg.output.trans hs.output, Nat.le_trans hs.size hg.size, fun k hk hS => ?_⟩
  exact (hg.block k (Nat.lt_of_lt_of_le hk hs.size) (fun e => by have := (hr k e.symm).1; omega)).trans (hs.block k hk hS)
theorem boxed_cell_not {W : World} {B : Nat} {t : TypeId} {v : Value} (h : Boxed W B t v) {off : Nat} {x : Value} (hc : W.cell? ⟨B, off, none⟩ = some x) : x = v := by
  have e1 : W.cell? ⟨B, off, none⟩ = (#[v] : Array Value)[off]? := cell_of_row _ _ _ _ _ (0, 0) h
  rw [e1] at hc
  cases off with
  | zero => simpa using hc.symm
  | succ n => simp at hc
theorem two_new (W : World) (a b : Value) (t : TypeId) : ∀ j u, [a, b][j]? = some u → (W.alloc (.cells #[a, b] t)).cell? ((⟨W.heap.size, 0, none⟩ : Addr).add j) = some u := by
  intro j u hj
  have e1 : (W.alloc (.cells #[a, b] t)).cell? ⟨W.heap.size, 0 + j, none⟩ = (#[a, b] : Array Value)[0 + j]? := cell_of_row _ _ _ _ _ (0, 0) (heap_alloc_new W _)
  rw [Addr.add_lit, e1]
  simpa using hj
theorem own_notBox {W : World} {n₀ B : Nat} {e : TypeId} {size k : Nat} {v : Value} {xs : List Value} (h : W.ownsRow n₀ e size v k xs) (hB : B < n₀) : some B ≠ v.ownBlock := by
  intro hb
  have := (h.lt B hb.symm).1
  omega
/-- Behind the append and the store. -/
theorem pinv_push {W0 W w1 : World} {Bt Bf : Nat} {pre : List (Nat × Bool)} {v : Value} {t : Nat} {tmp : Obj} {g cap : Nat} (hne : ¬ Bt = Bf) (hBt : Bt < W0.heap.size) (hBf : Bf < W0.heap.size) (hv : Boxed W Bt 24 v) (hrow : W.ownsRow W0.heap.size 36 2 v (pst pre).1.length (pairs (pst pre).1)) (hf : Boxed W Bf 3 (.int .i64 (pst pre).2)) (hk : Kept (fun k => k = Bt ∨ k = Bf) W0 W)
    (hown : w1.ownsRow W0.heap.size 36 2 (.slice (some ⟨g, 0, none⟩) ((pst pre).1.length + 1) cap) ((pst pre).1.length + 1) (pairs (pst pre).1 ++ [.int .i64 t, .int .i64 (pst pre).2])) (hgrow : (W.alloc tmp).grownBy w1 v.ownBlock) :
    Boxed w1 Bt 24 v ∧ Boxed (w1.setCell ⟨Bt, 0, none⟩ (.slice (some ⟨g, 0, none⟩) ((pst pre).1.length + 1) cap)) Bf 3 (.int .i64 (pst pre).2) ∧
      PInv W0 Bt Bf (pre ++ [(t, false)]) ((w1.setCell ⟨Bt, 0, none⟩ (.slice (some ⟨g, 0, none⟩) ((pst pre).1.length + 1) cap)).setCell ⟨Bf, 0, none⟩ (.int .i64 t)) ∧
      KeepsOthers W ((w1.setCell ⟨Bt, 0, none⟩ (.slice (some ⟨g, 0, none⟩) ((pst pre).1.length + 1) cap)).setCell ⟨Bf, 0, none⟩ (.int .i64 t)) := by
  have hv1 : Boxed w1 Bt 24 v := (hv.alloc tmp).kept hgrow (own_notBox hrow hBt)
  have hf1 : Boxed w1 Bf 3 (.int .i64 (pst pre).2) := (hf.alloc tmp).kept hgrow (own_notBox hrow hBf)
  have hf2 := hf1.kept (grownBy_setCell' w1 Bt (.slice (some ⟨g, 0, none⟩) ((pst pre).1.length + 1) cap)) (by simp; exact fun e => hne e.symm)
  have hv2 := hv1.set (.slice (some ⟨g, 0, none⟩) ((pst pre).1.length + 1) cap)
  have hv3 := hv2.kept (grownBy_setCell' _ Bf (.int .i64 t)) (by simp; exact hne)
  have hgb := (hown.lt g rfl).1
  have ho2 := hown.kept (grownBy_setCell' w1 Bt (.slice (some ⟨g, 0, none⟩) ((pst pre).1.length + 1) cap)) (.inr (own_notBox hown hBt).symm)
  have ho3 := ho2.kept (grownBy_setCell' _ Bf (.int .i64 t)) (.inr (own_notBox ho2 hBf).symm)
  have hkw : Kept (fun k => k = Bt ∨ k = Bf) W0 w1 := by
    have ha := (kept_alloc W tmp (fun k => k = Bt ∨ k = Bf))
    have h1 := hk.trans ha
    refine ⟨hgrow.os.trans h1.os, hgrow.tape.trans h1.tape, hgrow.output.trans h1.output, Nat.le_trans h1.size hgrow.size, fun k hk' hS => ?_⟩
    exact (hgrow.block k (Nat.lt_of_lt_of_le hk' h1.size) (own_notBox hrow hk')).trans (h1.block k hk' hS)
  refine ⟨hv1, hf2, ⟨⟨_, hv3, ?_, trivial⟩, ?_, ?_⟩, ?_⟩
  · rw [pst_snoc]
    simp only [Bool.false_eq_true, if_false]
    rw [pairs_snoc, List.length_append]
    exact ho3
  · rw [pst_snoc]
    exact hf2.set _
  · exact (hkw.trans ((kept_setCell w1 Bt 0 _).mono (fun k hk => .inl hk))).trans ((kept_setCell _ Bf 0 _).mono (fun k hk => .inr hk))
  · refine (((KeepsOthers.alloc W tmp).trans (KeepsOthers.of_grownBy hgrow fun j o ej hj => ?_)).trans (KeepsOthers.setCell _ _ _)).trans (KeepsOthers.setCell _ _ _)
    rcases (hrow.alloc tmp).2 with ⟨rfl, _⟩ | ⟨g, cap, cur, rfl, _, hgb, _⟩
    · simp [Value.ownBlock] at ej
    · obtain rfl : g = j := by simpa [Value.ownBlock] using ej
      rw [hgb] at hj; cases hj; rfl
theorem pinv_keep {W0 W : World} {Bt Bf : Nat} {pre : List (Nat × Bool)} {v : Value} {t : Nat} (hne : ¬ Bt = Bf) (hBf : Bf < W0.heap.size) (hv : Boxed W Bt 24 v) (hrow : W.ownsRow W0.heap.size 36 2 v (pst pre).1.length (pairs (pst pre).1)) (hf : Boxed W Bf 3 (.int .i64 (pst pre).2)) (hk : Kept (fun k => k = Bt ∨ k = Bf) W0 W) :
    PInv W0 Bt Bf (pre ++ [(t, true)]) (W.setCell ⟨Bf, 0, none⟩ (.int .i64 t)) := by
  refine ⟨⟨v, hv.kept (grownBy_setCell' W Bf _) (by simp; exact hne), ?_, trivial⟩, ?_, hk.trans ((kept_setCell _ Bf 0 _).mono (fun k hk => .inr hk))⟩
  · rw [pst_snoc]
    simp only [if_true]
    exact hrow.kept (grownBy_setCell' _ Bf (.int .i64 t)) (.inr (own_notBox hrow hBf).symm)
  · rw [pst_snoc]
    exact hf.set _
theorem keepTwo_of {W0 W W' : World} {Bt Bf p q : Nat} (h1 : Kept (fun k => k = Bt ∨ k = Bf) W0 W) (h2 : Kept (fun k => k = Bt ∨ k = Bf) W0 W') (hp : p < W0.heap.size) (hq : q < W0.heap.size) (hpt : ¬ p = Bt) (hpf : ¬ p = Bf) (hqt : ¬ q = Bt) (hqf : ¬ q = Bf) : KeepTwo p q W W' :=
  ⟨(h2.block p hp (fun h => h.elim hpt hpf)).trans (h1.block p hp (fun h => h.elim hpt hpf)).symm, (h2.block q hq (fun h => h.elim hqt hqf)).trans (h1.block q hq (fun h => h.elim hqt hqf)).symm⟩
theorem keepTwo_b {w : World} {p q : Nat} (hp : p < w.heap.size) (hq : q < w.heap.size) (W : World) (l : Nat) (o o' : Obj) (hl : w.heap.size ≤ l) (h : W.heap[l]? = some o) (_ : o.isCells = false) (_ : o.isWalk = false) : KeepTwo p q W (W.putObj l o') := by
  have hlt := (Array.getElem?_eq_some_iff.1 h).1
  have hg := grownBy_putObj' W l o'
  exact ⟨hg.block p (by omega) (by simp; omega), hg.block q (by omega) (by simp; omega)⟩

theorem own_down {w : World} {b1 b2 : Nat} {e : TypeId} {size : Nat} {v : Value} {k : Nat} {xs : List Value} (h : w.ownsRow b1 e size v k xs) (hb : b2 ≤ b1) : w.ownsRow b2 e size v k xs := by
  refine ⟨h.1, ?_⟩
  rcases h.2 with h1 | ⟨g, cap, cur, he, hg, r⟩
  · exact .inl h1
  · exact .inr ⟨g, cap, cur, he, Nat.le_trans hb hg, r⟩
/-- A slice of steps that the call made. -/
def MadeP (w : World) (ps : List (Int × Int)) (v : Value) (w' : World) : Prop := w'.ownsRow w.heap.size 36 2 v ps.length (pairs ps) ∧ Below w.heap.size w w'

set_option maxRecDepth 100000 in
set_option maxHeartbeats 4000000 in
theorem plan_go (A : Option Addr) (c : Nat) (l : List Int) (w : World) (hr : Row w w.heap.size A l) (hl : l.length ≤ 1000000) (hwf : Wf l) (ht : twice l = false) :
    CallsIn Fence.wide 3 Try.prog 7 #[.slice A l.length c] w fun e w' => ∃ v, e = .returned (.tuple #[v, .int .i64 0]) ∧ MadeP w (planL l) v w' := by
  have HC := Lib.hid (check_any A c l w hr hl hwf)
  have HE := Lib.hid (errOf_no ht)
  clear ht hwf
  obtain ⟨i0, hi, hz0, hz1, hz2⟩ := info_parts Try.info36
  refine callsIn_of_wp_marks Try.func7 rfl trivial ?_ rfl
  simp only [Try.ntmps7, List.size_toArray, List.length_cons, List.length_nil, Nat.reduceAdd, Nat.reduceSub, Array.replicate_succ, Array.replicate_zero, List.push_toArray, List.append_toArray, List.nil_append, List.cons_append]
  gi_wp2_with fail
  refine ⟨trivial, (callsIn_wide.2 HC.out).mono ?_⟩
  rintro e w1 ⟨rfl, hb1⟩
  rw [HE.out]
  gi_wp2_with fail
  obtain ⟨w2, hw2⟩ : ∃ w2, w2 = (w1.alloc (.cells #[.slice none 0 0] 24)).alloc (.cells #[.int .i64 (-1)] 3) := ⟨_, rfl⟩
  rw [← hw2]
  obtain ⟨Bt, hBt⟩ : ∃ Bt, Bt = w1.heap.size := ⟨_, rfl⟩
  have bT : Boxed w2 Bt 24 (.slice none 0 0) := by rw [hw2, hBt]; exact (Boxed.new w1 24 _).alloc _
  have bF : Boxed w2 (Bt + 1) 3 (.int .i64 (-1)) := by rw [hw2, hBt]; have := Boxed.new (w1.alloc (.cells #[.slice none 0 0] 24)) 3 (.int .i64 (-1)); rwa [World.size_alloc] at this
  have hb2 : Below w.heap.size w w2 := by rw [hw2]; exact (hb1.alloc hb1.size _).alloc (by have := hb1.size; simp; omega) _
  have hwB : w.heap.size ≤ Bt := by rw [hBt]; exact hb1.size
  rw [← hBt]
  have hr2 : Row w2 w2.heap.size A l := (hr.below hb2).mono hb2.size
  clear hw2 hBt hb1
  refine ⟨trivial, (callsIn_wide.2 (chosen_any A c l w2 hr2 hl)).mono ?_⟩
  rintro e w3 ⟨A3, c3, rfl, hrow, -, -, -, hb3⟩
  rw [stayL_length]
  have bT3 : Boxed w3 Bt 24 (.slice none 0 0) := (hb3.block Bt bT.lt).trans bT
  have bF3 : Boxed w3 (Bt + 1) 3 (.int .i64 (-1)) := (hb3.block (Bt + 1) bF.lt).trans bF
  have hb03 := hb2.trans (hb3.mono hb2.size)
  gi_wp2_with fail
  refine ⟨trivial, (back_in Fence.wide _ trivial rfl A3 l.length c3 w3).mono ?_⟩
  rintro e w4 ⟨rfl, rfl⟩
  obtain ⟨Bs, hBs⟩ : ∃ Bs, Bs = w3.heap.size := ⟨_, rfl⟩
  obtain ⟨W0, hW0⟩ : ∃ W0, W0 = w3.alloc (.cells #[.slice A3 l.length c3] 28) := ⟨_, rfl⟩
  have bS : Boxed W0 Bs 28 (.slice A3 l.length c3) := by rw [hW0, hBs]; exact Boxed.new _ _ _
  have bT0 : Boxed W0 Bt 24 (.slice none 0 0) := by rw [hW0]; exact bT3.alloc _
  have bF0 : Boxed W0 (Bt + 1) 3 (.int .i64 (-1)) := by rw [hW0]; exact bF3.alloc _
  have hb04 : Below w.heap.size w W0 := by rw [hW0]; exact hb03.alloc hb03.size _
  have hbs1 : Bt + 1 < Bs := by rw [hBs]; exact bF3.lt
  have hrow0 : BRow W0 w3.heap.size A3 (stayL l) := hrow.below (by rw [hW0]; exact (Below.refl _ _).alloc (Nat.le_refl _) _)
  rw [← hW0, ← hBs]
  rw [← hBs] at hrow0
  have hbsW := bS.lt
  obtain ⟨b, off, hA, hb, hcs, hbt, hbf⟩ : ∃ b off, (0 < (stayL l).length → A3 = some ⟨b, off, none⟩) ∧ b < W0.heap.size ∧ (∀ j, j < (stayL l).length → W0.cell? ⟨b, off + j, none⟩ = some (.bool ((stayL l).getD j false))) ∧ ¬ b = Bt ∧ ¬ b = Bt + 1 := by
    rcases Nat.eq_zero_or_pos (stayL l).length with h0 | h0
    · exact ⟨Bs, 0, fun h => by omega, hbsW, fun j hj => by omega, by omega, by omega⟩
    · obtain ⟨b, off, hA, hb, hc⟩ := hrow0 h0
      refine ⟨b, off, fun _ => hA, by omega, hc, ?_, ?_⟩
      · intro e
        have h1 := hc 0 h0
        rw [e] at h1
        have := boxed_cell_not bT0 h1
        cases this
      · intro e
        have h1 := hc 0 h0
        rw [e] at h1
        have := boxed_cell_not bF0 h1
        cases this
  clear hrow hrow0 hW0 hBs bT3 bF3 hb03 hb3 hb2 bT bF hr2
  gi_wp2_with fail
  have hstl := stayL_length l
  have bSc : W0.cell? ⟨Bs, 0, none⟩ = some (.slice A3 (stayL l).length c3) := by rw [hstl]; exact bS.cell
  refine wpIn_rangeFunc_ownG rfl (by omega) (gf := 27) (lb := #[.pointer (some ⟨Bs, 0, none⟩)]) rfl trivial (enters_of Try.func27 (by kernel_rfl) rfl)
    (back_stops Fence.wide _ trivial rfl (by omega) Bs b off c3 A3 (stayL l) (by omega) W0 hbsW bSc hA (fun _ => hb) hcs) keepTwo_t (keepTwo_b hbsW hb) (Below.refl _ _) (fun _ => rfl)
    (PInv W0 Bt (Bt + 1)) (fun _ _ _ => False) (pinv_own W0 Bt (Bt + 1)) (fun _ _ _ _ _ hs _ _ => hs)
    ⟨⟨_, bT0, World.ownsRow_nil _ _ _ _, trivial⟩, bF0, Kept.refl _ _⟩
    (fun x => { tmps := #[.slice A l.length c, undef, .slice none 0 0, .int .i64 0, .int .i64 0, .pointer (some ⟨Bt, 0, none⟩), .pointer (some ⟨Bt + 1, 0, none⟩), .int .i64 (x.1 : Int), .bool x.2, .slice A l.length c, .int .i64 0, .int .i64 0, .bool false, undef, .slice A l.length c, .slice A3 l.length c3, .func (.func 27) #[] #[.pointer (some ⟨Bs, 0, none⟩)], .int .i64 (x.1 : Int), .bool x.2, undef, undef, undef, undef, undef, undef, undef, undef, undef, undef], defers := [] }) ?assign ?body ?done ?stop
  case assign =>
    intro l x W K hK
    gi_wp2
    exact hK
  case body =>
    rintro l' pre ⟨t, y⟩ W ⟨⟨v, hv, hrow, -⟩, hf, hk⟩ hlt
    have hc := hv.cell
    have hcf := hf.cell
    have hff := hf.frozen
    have hpl := pst_length pre
    have hbs := hb04.size
    have hks := hk.size
    cases y with
    | true =>
      gi_wp2_with fail
      have h1 := pinv_keep (t := t) (by omega) (by omega) hv hrow hf hk
      exact ⟨(KeepsOthers.setCell _ _ _).from _, keepTwo_of hk h1.2.2 hbsW hb (by omega) (by omega) hbt hbf, h1⟩
    | false =>
      gi_wp2_with (gi_at_builtin; refine wpListIn_append_own _ rfl _ _ 24 rfl W0.heap.size 36 i0 (.agg #[.int .i64 0, .int .i64 0]) 2 16 Try.underlying24 hi hz0 hz1 hz2 rfl (by decide) _ _ _ rfl (hrow.alloc _) ⟨W.heap.size, 0, none⟩ 1 1 [.int .i64 t, .int .i64 (pst pre).2] rfl rfl (two_new _ _ _ _) (by simp [Value.oneCell']) (by simp [maxLen]; omega) (by omega) (by simp; omega) ?_; intro v' w1 hown' hgrow _; obtain ⟨g', cap', rfl⟩ := ownsRow_succ hown'; obtain ⟨hv1, hf2, hP, hKO⟩ := pinv_push (t := t) (by omega) (by omega) (by omega) hv hrow hf hk hown' hgrow; have hc1 := hv1.cell; have hf1 := hv1.frozen; have hc2 := hf2.cell; have hf22 := hf2.frozen)
      exact ⟨hKO.from _, keepTwo_of hk hP.2.2 hbsW hb (by omega) (by omega) hbt hbf, hP⟩
  case done =>
    rintro D ys W hD rfl ⟨⟨v, hv, hrow, -⟩, hf, hk⟩ hK
    have hc := hv.cell
    gi_wp2
    refine ⟨by simp, .inl ⟨_, _, rfl, run_takeDeferred hK, ?_⟩⟩
    rw [hstl, pst_back l l.length (Nat.le_refl _)] at hrow
    have hB : Below w.heap.size w W := hb04.trans (hk.below hb04.size (fun k hS => by rcases hS with h1 | h1 <;> omega))
    have hDw : w.heap.size ≤ D := Nat.le_trans hb04.size hD
    exact ⟨_, results_tmp2 rfl _ _ _, v, rfl, own_down (ownsRow_putObj hrow _ hK rfl) hb04.size, hB.trans (belowK_b (w := w) (Nat.le_refl _) W D _ _ hDw hK rfl rfl)⟩
  case stop =>
    rintro D c pre W _ _ h _
    exact h.elim

def planB (l : List Int) : List (Int × Int) := if twice l then [] else planL l
theorem planB_yes {l : List Int} (h : twice l = true) : planB l = [] := by unfold planB; rw [h]; rfl
theorem planB_no {l : List Int} (h : twice l = false) : planB l = planL l := by unfold planB; rw [h]; rfl
def PlanPost (w : World) (l : List Int) (e : Ending) (w' : World) : Prop := ∃ v, e = .returned (.tuple #[v, .int .i64 (errOf l)]) ∧ MadeP w (planB l) v w'
theorem plan_any (A : Option Addr) (c : Nat) (l : List Int) (w : World) (hr : Row w w.heap.size A l) (hl : l.length ≤ 1000000) (hwf : Wf l) :
    Calls Try.prog 7 #[.slice A l.length c] w (PlanPost w l) := by
  cases ht : twice l with
  | false =>
    refine (callsIn_wide.1 (plan_go A c l w hr hl hwf ht)).mono ?_
    rintro e w1 ⟨v, rfl, h⟩
    exact ⟨v, by rw [errOf_no ht], by rw [planB_no ht]; exact h⟩
  | true =>
    have HC := Lib.hid (check_any A c l w hr hl hwf)
    have HE := Lib.hid (errOf_yes ht); have HP := Lib.hid (planB_yes ht)
    clear ht hwf
    refine (callsIn_wide (n := 3)).1 ?_
    refine callsIn_of_wp_marks Try.func7 rfl trivial ?_ rfl
    simp only [Try.ntmps7, List.size_toArray, List.length_cons, List.length_nil, Nat.reduceAdd, Nat.reduceSub, Array.replicate_succ, Array.replicate_zero, List.push_toArray, List.append_toArray, List.nil_append, List.cons_append]
    gi_wp2_with fail
    refine ⟨trivial, (callsIn_wide.2 HC.out).mono ?_⟩
    rintro e w1 ⟨rfl, hb1⟩
    rw [HE.out]
    gi_wp2_with fail
    refine ⟨_, results_tmp2 rfl _ _ _, ?_⟩
    refine ⟨.slice none 0 0, by rw [HE.out]; rfl, ?_, hb1⟩
    rw [HP.out]
    exact World.ownsRow_nil _ _ _ _
end Go.Proofs.Ytlpjjnpafmakhaa
