/-
  A tree whose memory lies in given blocks; a row of nodes that the call may write; append as one step of a region. | A node in a box of its own, block and all; the three boxes of a copy. | tendrillaw11.twin: a tree laid anew.
-/
import Derived.Test.YtlkdklpglmglkaaNodes
import Derived.ArgAppend
import Derived.Deep.RegionLaw
namespace Go.Proofs.Ytlkdklpglmglkaa
open Go.RowKit Go.Sort Go.Lib
set_option linter.unusedVariables false
set_option maxRecDepth 100000
def TRowP (w : World) (P : Nat → Prop) (A : Option Addr) (es : List At) : Prop :=
  0 < es.length → ∃ b off, A = some ⟨b, off, none⟩ ∧ P b ∧ ∀ j, (hj : j < es.length) → w.cell? ⟨b, off + j * 2, none⟩ = some (.string es[j].1) ∧ w.cell? ⟨b, off + j * 2 + 1, none⟩ = some (.string es[j].2)
inductive TreeIn (w : World) (P : Nat → Prop) : Tr → NV → Prop
  | mk {t : Tr} {x : NV} (X : Nat → NV) (att : TRowP w P x.A t.as) (h1 : t.as.length ≤ x.ca) (h2 : x.ca ≤ maxLen) (h3 : x.A = none → x.ca = 0) (h4 : t.kids.length ≤ x.ck) (h5 : x.ck ≤ maxLen) (h6 : x.K = none → x.ck = 0)
      (row : 0 < t.kids.length → ∃ b off, x.K = some ⟨b, off, none⟩ ∧ P b ∧ ∀ j, (h : j < t.kids.length) → KidCells w b (off + j * 5) t.kids[j] (X j))
      (sub : ∀ j, (h : j < t.kids.length) → TreeIn w P t.kids[j] (X j)) : TreeIn w P t x
theorem TRowP.kept {w w' : World} {P Q : Nat → Prop} {A : Option Addr} {es : List At} (h : TRowP w P A es) {S : Nat → Prop} (hk : Kept S w w') (hs : ∀ b, P b → ¬ S b) (hq : ∀ b, P b → Q b) : TRowP w' Q A es := by
  intro h0
  obtain ⟨b, off, hA, hp, hc⟩ := h h0
  exact ⟨b, off, hA, hq b hp, fun j hj => ⟨hk.cellOf (hc j hj).1 (hs b hp), hk.cellOf (hc j hj).2 (hs b hp)⟩⟩
theorem TreeIn.kept {w w' : World} {P Q : Nat → Prop} {t : Tr} {x : NV} (h : TreeIn w P t x) {S : Nat → Prop} (hk : Kept S w w') (hs : ∀ b, P b → ¬ S b) (hq : ∀ b, P b → Q b) : TreeIn w' Q t x := by
  induction h with
  | mk X att h1 h2 h3 h4 h5 h6 row sub ih =>
    refine .mk X (att.kept hk hs hq) h1 h2 h3 h4 h5 h6 (fun h0 => ?_) ih
    obtain ⟨b, off, hK, hp, hc⟩ := row h0
    exact ⟨b, off, hK, hq b hp, fun j hj => (hc j hj).kept hk (hs b hp)⟩
theorem TreeIn.tree {w : World} {P : Nat → Prop} {B : Nat} {t : Tr} {x : NV} (h : TreeIn w P t x) (hp : ∀ b, P b → b < B) : TreeAt w B t x := by
  induction h with
  | mk X att h1 h2 h3 h4 h5 h6 row sub ih =>
    refine .mk X (fun h0 => ?_) h1 h2 h3 h4 h5 h6 (fun h0 => ?_) ih
    · obtain ⟨b, off, hA, hb, hc⟩ := att h0
      exact ⟨b, off, hA, hp b hb, hc⟩
    · obtain ⟨b, off, hK, hb, hc⟩ := row h0
      exact ⟨b, off, hK, hp b hb, hc⟩
/-! Rows of nodes. -/
abbrev KV := Tr × NV
def nds (l : List KV) : List Value := l.flatMap fun p => nodeCells p.1 p.2
theorem nds_append (a b : List KV) : nds (a ++ b) = nds a ++ nds b := by simp [nds]
theorem nds_length (l : List KV) : (nds l).length = l.length * 5 := by
  induction l with
  | nil => rfl
  | cons p ps ih => simp only [nds, List.flatMap_cons, List.length_append, List.length_cons, nodeCells, List.length_nil] at ih ⊢; omega
theorem nodeCells_one (t : Tr) (x : NV) : ∀ v ∈ nodeCells t x, v.oneCell' = true := by
  intro v hv
  simp [nodeCells] at hv
  rcases hv with rfl | rfl | rfl | rfl | rfl <;> rfl
theorem nds_one (l : List KV) : ∀ y ∈ nds l, y.oneCell' = true := by
  intro y hy
  obtain ⟨p, _, hp⟩ := List.mem_flatMap.1 hy
  exact nodeCells_one p.1 p.2 y hp
theorem nds_at : ∀ (l : List KV) (i : Nat) (hi : i < l.length) (r : Nat), r < 5 → (nds l)[i * 5 + r]? = (nodeCells l[i].1 l[i].2)[r]?
  | [], i, h, _, _ => by simp at h
  | p :: ps, 0, h, r, hr => by
    simp only [nds, List.flatMap_cons, Nat.zero_mul, Nat.zero_add, List.getElem_cons_zero]
    rw [List.getElem?_append_left (by simp [nodeCells]; omega)]
  | p :: ps, i + 1, h, r, hr => by
    have ih := nds_at ps i (by simpa using h) r hr
    simp only [nds, List.flatMap_cons] at ih ⊢
    rw [List.getElem?_append_right (by simp [nodeCells]; omega)]
    simp only [nodeCells, List.length_cons, List.length_nil, List.getElem_cons_succ] at ih ⊢
    rw [← ih]
    congr 1
    omega
/-- The cells of a node in an owned row. -/
theorem own_kid {w : World} {base : Nat} {g n cap : Nat} {ps : List KV} (h : w.ownsRow base 25 5 (.slice (some ⟨g, 0, none⟩) n cap) ps.length (nds ps)) {j : Nat} (hj : j < ps.length) : KidCells w g (0 + j * 5) ps[j].1 ps[j].2 := by
  rcases h.2 with ⟨he, hn⟩ | ⟨g', c, cur, he, hr⟩
  · omega
  · simp at he
    obtain ⟨rfl, rfl, rfl⟩ := he
    have key : ∀ r, r < 5 → w.cell? ⟨g, 0 + j * 5 + r, none⟩ = (nodeCells ps[j].1 ps[j].2)[r]? := by
      intro r hr
      rw [Nat.zero_add, World.ownsRow.cellAt h (j * 5 + r) (by omega), nds_at ps j hj r hr]
    exact ⟨key 0 (by omega), key 1 (by omega), key 2 (by omega), key 3 (by omega), key 4 (by omega)⟩
theorem Try.info25 : (Try.prog.info? 25).map (fun i => (i.zero, i.size, i.bytes)) = some (some (.agg #[.string ⟨#[]⟩, .string ⟨#[]⟩, .string ⟨#[]⟩, .slice none 0 0, .slice none 0 0]), 5, 96) := by kernel_rfl
/-- append by its run, as one step of a region that draws. -/
theorem step_append_run {P : Program} {ops : Array Oper} {o : Oper} {a : Act} {w w' : World} {K : Act → World → Prop} {Q : Exit → Act → World → Prop} {E : Prop} {v' : Value}
    (hg : o.guard = none) (s x : Operand) (t : TypeId) (hop : o.op = Op.call { callee := Callee.builtin Builtin.append, args := #[s, x], argTypes := #[t, t] })
    (v1 v2 : Value) (hs : a.eval s = v1) (hx : a.eval x = v2) (hrun : (Builtin.append_ #[t, t] o.type #[v1, v2]).run P w = .ok v' w')
    (hK : K (a.put o.dst v') w') :
    if Region.wanted o (yielded ops a.tmps) = true then Oper.wp P o a w K Q else E := by
  have hw : Region.wanted o (yielded ops a.tmps) = true := by simp [Region.wanted, hg]
  rw [if_pos hw]
  unfold Oper.wp
  simp [execOp, hop, resolve, invoke, builtin, hs, hx, hrun, Result.andThen]
  exact hK
theorem append_empty (w : World) (t ty e : TypeId) (i : TypeInfo) (ht : Try.prog.underlying t = some (.slice e)) (hi : Try.prog.info? e = some i) (ad ad' : Addr) (c : Nat) : (Builtin.append_ #[t, t] ty #[.slice (some ad) 0 0, .slice (some ad') 0 c]).run Try.prog w = .ok (.slice (some ad) 0 0) w := by
  have hfc := run_firstCells_some (P := Try.prog) w i.size 0 ad' 0 c [] (by simp) (fun j u h => by simp at h)
  have hst : ∀ a : Addr, Sem.run Try.prog (storeCells a []) w = .ok () w := fun a => rfl
  simp [Builtin.append_, run_underlying ht, sizeOf, typeInfo, hi, Builtin.lenOf, hfc, hst]
theorem own_trowp {w : World} {base : Nat} {v : Value} {es : List At} (h : w.ownsRow base 74 2 v es.length (ats es)) :
    ∃ A cap, v = .slice A es.length cap ∧ TRowP w (fun b => v.ownBlock = some b) A es ∧ es.length ≤ cap ∧ cap ≤ maxLen ∧ (A = none → cap = 0) := by
  rcases h.2 with ⟨rfl, hn⟩ | ⟨g, cap, cur, rfl, _, hg, hnc, hcm, _, _⟩
  · exact ⟨none, 0, by rw [hn], fun h0 => by omega, by omega, by simp [maxLen], fun _ => rfl⟩
  · refine ⟨_, cap, rfl, fun _ => ⟨g, 0, rfl, rfl, fun j hj => ?_⟩, hnc, hcm, fun h => by cases h⟩
    have e : es.getD j noAt = es[j] := by simp [List.getD_eq_getElem?_getD, hj]
    have d0 : j * 2 / 2 = j := by omega
    have d1 : (j * 2 + 1) / 2 = j := by omega
    have m0 : j * 2 % 2 = 0 := by omega
    have m1 : (j * 2 + 1) % 2 = 1 := by omega
    rw [Nat.zero_add, World.ownsRow.cellAt h (j * 2) (by omega), World.ownsRow.cellAt h (j * 2 + 1) (by omega), ats_at es (j * 2) (by omega), ats_at es (j * 2 + 1) (by omega), d0, d1, m0, m1, e]
    exact ⟨rfl, rfl⟩
theorem own_empty (w : World) (e k : Nat) : (w.alloc (.cells #[] e)).ownsRow w.heap.size e k (.slice (some ⟨w.heap.size, 0, none⟩) 0 0) 0 [] := by
  refine ⟨by simp, .inr ⟨w.heap.size, 0, #[], rfl, Nat.le_refl _, heap_alloc_new w _, Nat.le_refl _, by simp [maxLen], by simp, by simp⟩⟩
/-- A copy of a slice of attributes by append(x[:0:0], x...). -/
theorem att_copy (w : World) (ty : TypeId) (A : Option Addr) (c : Nat) (l : List At) (h : TRow w w.heap.size A l) (hl : l.length ≤ 1000000) (hc0 : A = none → c = 0) :
    ∃ v' w', (Builtin.append_ #[22, 22] ty #[.slice A 0 0, .slice A l.length c]).run Try.prog w = .ok v' w' ∧ (∃ A' c', v' = .slice A' l.length c' ∧ TRowP w' (fun b => w.heap.size ≤ b ∧ b < w'.heap.size) A' l ∧ l.length ≤ c' ∧ c' ≤ maxLen ∧ (A' = none → c' = 0)) ∧ Below w.heap.size w w' := by
  obtain ⟨i0, hi, hz0, hz1, hz2⟩ := info_parts Try.info74
  cases A with
  | none =>
    obtain rfl := trow_none h
    obtain rfl := hc0 rfl
    exact ⟨_, w, run_append_owned_none (P := Try.prog) (w := w) w.heap.size 22 ty 74 i0 2 Try.underlying22 hi (.slice none 0 0) 0 [] (World.ownsRow_nil _ _ _ _), ⟨none, 0, rfl, fun h0 => by simp at h0, Nat.le_refl _, by simp [maxLen], fun _ => rfl⟩, Below.refl _ _⟩
  | some ad =>
    by_cases h0 : l = []
    · subst h0
      exact ⟨_, w, append_empty w 22 ty 74 i0 Try.underlying22 hi ad ad c, ⟨some ad, 0, rfl, fun h0 => by simp at h0, Nat.le_refl _, by simp [maxLen], fun h => by cases h⟩, Below.refl _ _⟩
    · have hpos : 0 < l.length := List.length_pos_iff.2 h0
      obtain ⟨v', w', hrun, hown, hgr⟩ := run_append_arg_grows (P := Try.prog) w 22 ty 74 i0 _ 2 32 Try.underlying22 hi hz0 hz1 hz2 rfl (by omega) ad 0 0 [] (by simp) (fun j u h => by simp at h) ad l.length c (ats l) (ats_length l) (trow_src h) (by omega) (by unfold maxLen; omega) (by omega)
      have hown' : w'.ownsRow w.heap.size 74 2 v' l.length (ats l) := by simpa using hown
      have hkp := kept_grown hgr
      obtain ⟨A', c', rfl, hr, e1, e2, e3⟩ := own_trowp hown'
      have hbl : Below w.heap.size w w' := hkp.below (Nat.le_refl _) (fun k h => by cases h)
      refine ⟨_, w', hrun, ⟨A', c', rfl, ?_, e1, e2, e3⟩, hbl⟩
      refine hr.kept (Kept.refl (fun _ => False) _) (fun _ _ h => h) (fun b hb => ?_)
      exact hown'.lt b hb
end Go.Proofs.Ytlkdklpglmglkaa

namespace Go.Proofs.Ytlkdklpglmglkaa
open Go.RowKit Go.Sort Go.Lib
set_option linter.unusedVariables false
set_option maxRecDepth 100000
def NewIn (w w' : World) : Nat → Prop := fun b => w.heap.size ≤ b ∧ b < w'.heap.size
def BoxN (W : World) (b : Nat) (v0 v1 v2 v3 v4 : Value) : Prop := W.heap[b]? = some (.cells #[v0, v1, v2, v3, v4] 25 (0, 0))
theorem BoxN.lt {W : World} {b : Nat} {v0 v1 v2 v3 v4 : Value} (h : BoxN W b v0 v1 v2 v3 v4) : b < W.heap.size := (Array.getElem?_eq_some_iff.1 h).1
theorem BoxN.cells {W : World} {b : Nat} {v0 v1 v2 v3 v4 : Value} (h : BoxN W b v0 v1 v2 v3 v4) : W.cell? ⟨b, 0, none⟩ = some v0 ∧ W.cell? ⟨b, 1, none⟩ = some v1 ∧ W.cell? ⟨b, 2, none⟩ = some v2 ∧ W.cell? ⟨b, 3, none⟩ = some v3 ∧ W.cell? ⟨b, 4, none⟩ = some v4 := by
  have e : ∀ j, W.cell? ⟨b, j, none⟩ = (#[v0, v1, v2, v3, v4] : Array Value)[j]? := fun j => cell_of_row _ _ _ _ _ (0, 0) h
  exact ⟨by rw [e]; rfl, by rw [e]; rfl, by rw [e]; rfl, by rw [e]; rfl, by rw [e]; rfl⟩
theorem BoxN.frozen {W : World} {b : Nat} {v0 v1 v2 v3 v4 : Value} (h : BoxN W b v0 v1 v2 v3 v4) (j : Nat) : W.frozen? ⟨b, j, none⟩ = false := by
  simp [World.frozen?, show W.heap[b]? = _ from h]
theorem BoxN.kept {W W' : World} {b : Nat} {v0 v1 v2 v3 v4 : Value} (h : BoxN W b v0 v1 v2 v3 v4) {S : Nat → Prop} (hk : Kept S W W') (hs : ¬ S b) : BoxN W' b v0 v1 v2 v3 v4 := (hk.block b h.lt hs).trans h
theorem BoxN.new (W : World) (v0 v1 v2 v3 v4 : Value) (b : Nat) (hb : b = W.heap.size) : BoxN (W.alloc (.cells #[v0, v1, v2, v3, v4] 25)) b v0 v1 v2 v3 v4 := by subst hb; exact heap_alloc_new W _
theorem BoxN.set3 {W : World} {b : Nat} {v0 v1 v2 v3 v4 : Value} (h : BoxN W b v0 v1 v2 v3 v4) (u : Value) : BoxN (W.setCell ⟨b, 3, none⟩ u) b v0 v1 v2 u v4 := by
  have hh : W.heap[b]? = _ := h
  unfold BoxN
  simp only [World.setCell, Array.getElem?_modify, if_true, hh, Option.map_some]
  rfl
theorem BoxN.set4 {W : World} {b : Nat} {v0 v1 v2 v3 v4 : Value} (h : BoxN W b v0 v1 v2 v3 v4) (u : Value) : BoxN (W.setCell ⟨b, 4, none⟩ u) b v0 v1 v2 v3 u := by
  have hh : W.heap[b]? = _ := h
  unfold BoxN
  simp only [World.setCell, Array.getElem?_modify, if_true, hh, Option.map_some]
  rfl
def putN (W : World) (b : Nat) (v0 v1 v2 v3 v4 : Value) : World := ((((W.setCell ⟨b, 0, none⟩ v0).setCell ⟨b, 1, none⟩ v1).setCell ⟨b, 2, none⟩ v2).setCell ⟨b, 3, none⟩ v3).setCell ⟨b, 4, none⟩ v4
theorem BoxN.put {W : World} {b : Nat} {u0 u1 u2 u3 u4 : Value} (h : BoxN W b u0 u1 u2 u3 u4) (v0 v1 v2 v3 v4 : Value) : BoxN (putN W b v0 v1 v2 v3 v4) b v0 v1 v2 v3 v4 := by
  have hh : W.heap[b]? = _ := h
  unfold BoxN putN
  simp only [World.setCell, Array.getElem?_modify, if_true, hh, Option.map_some]
  rfl
theorem kept_putN (W : World) (b : Nat) (v0 v1 v2 v3 v4 : Value) : Kept (· = b) W (putN W b v0 v1 v2 v3 v4) := by
  unfold putN
  exact ((((kept_setCell W ⟨b, 0, none⟩ v0).trans (kept_setCell _ ⟨b, 1, none⟩ v1)).trans (kept_setCell _ ⟨b, 2, none⟩ v2)).trans (kept_setCell _ ⟨b, 3, none⟩ v3)).trans (kept_setCell _ ⟨b, 4, none⟩ v4)
def triW (w : World) (t : Tr) (x : NV) : World := ((w.alloc (.cells #[.string t.tag, .string t.key, .string t.text, .slice x.A t.as.length x.ca, .slice x.K t.kids.length x.ck] 25)).alloc (.cells #[.string ⟨#[]⟩, .string ⟨#[]⟩, .string ⟨#[]⟩, .slice none 0 0, .slice none 0 0] 25)).alloc (.cells #[.string t.tag, .string t.key, .string t.text, .slice x.A t.as.length x.ca, .slice x.K t.kids.length x.ck] 25)
theorem tri_out {w w1 : World} {t : Tr} {x : NV} (h : RowKit.Hid (w1 = triW w t x)) : ((w.alloc (.cells #[.string t.tag, .string t.key, .string t.text, .slice x.A t.as.length x.ca, .slice x.K t.kids.length x.ck] 25)).alloc (.cells #[.string ⟨#[]⟩, .string ⟨#[]⟩, .string ⟨#[]⟩, .slice none 0 0, .slice none 0 0] 25)).alloc (.cells #[.string t.tag, .string t.key, .string t.text, .slice x.A t.as.length x.ca, .slice x.K t.kids.length x.ck] 25) = w1 := h.out.symm
theorem triW_boxes (w : World) (t : Tr) (x : NV) : BoxN (triW w t x) w.heap.size (.string t.tag) (.string t.key) (.string t.text) (.slice x.A t.as.length x.ca) (.slice x.K t.kids.length x.ck) ∧ BoxN (triW w t x) (w.heap.size + 1) (.string ⟨#[]⟩) (.string ⟨#[]⟩) (.string ⟨#[]⟩) (.slice none 0 0) (.slice none 0 0) ∧ BoxN (triW w t x) (w.heap.size + 1 + 1) (.string t.tag) (.string t.key) (.string t.text) (.slice x.A t.as.length x.ca) (.slice x.K t.kids.length x.ck) ∧ (triW w t x).heap.size = w.heap.size + 1 + 1 + 1 := by
  unfold triW
  have nf : ¬ (False : Prop) := fun h => h
  exact ⟨((BoxN.new w _ _ _ _ _ _ rfl).kept (kept_alloc _ _ (fun _ => False)) nf).kept (kept_alloc _ _ (fun _ => False)) nf, (BoxN.new _ _ _ _ _ _ _ (by simp)).kept (kept_alloc _ _ (fun _ => False)) nf, BoxN.new _ _ _ _ _ _ _ (by simp), by simp⟩
theorem triW_below (w : World) (t : Tr) (x : NV) : Below w.heap.size w (triW w t x) := by
  unfold triW
  exact (((Below.refl _ w).alloc (Nat.le_refl _) _).alloc (by simp) _).alloc (by simp; omega) _
theorem BoxN.kid {W : World} {b : Nat} {t : Tr} {x : NV} (h : BoxN W b (.string t.tag) (.string t.key) (.string t.text) (.slice x.A t.as.length x.ca) (.slice x.K t.kids.length x.ck)) : KidCells W b 0 t x := by
  obtain ⟨c0, c1, c2, c3, c4⟩ := h.cells
  exact ⟨c0, c1, c2, c3, c4⟩
theorem results_tree24 (tmps : Array Value) (w : World) (B : Nat) (v0 v1 v2 v3 v4 : Value) (hp : tmps.getD 2 undef = .pointer (some ⟨B, 0, none⟩)) (hg : BoxN w B v0 v1 v2 v3 v4) :
    (results Try.f65 tmps).run Try.prog w = .ok (.agg #[v0, v1, v2, v3, v4]) w := by
  exact results_cell_row rfl tmps w B 25 _ (0, 0) _ hp hg Try.underlying25 rfl (by kernel_rfl)
end Go.Proofs.Ytlkdklpglmglkaa

namespace Go.Proofs.Ytlkdklpglmglkaa
open Go.RowKit Go.Sort Go.Lib
set_option linter.unusedVariables false
set_option maxRecDepth 100000
def TwinPost (t : Tr) (w : World) (e : Ending) (w' : World) : Prop := ∃ x', e = .returned (nodeV t x') ∧ TreeIn w' (NewIn w w') t x' ∧ Below w.heap.size w w'
theorem Kept.own {S : Nat → Prop} {w w' : World} (h : Kept S w w') {base : Nat} {e : TypeId} {size : Nat} {v : Value} {n : Nat} {xs : List Value} (ho : w.ownsRow base e size v n xs) (hs : ∀ k, v.ownBlock = some k → ¬ S k) : w'.ownsRow base e size v n xs := by
  refine ⟨ho.1, ?_⟩
  rcases ho.2 with hn | ⟨g, cap, cur, rfl, hg, hh, r⟩
  · exact .inl hn
  · exact .inr ⟨g, cap, cur, rfl, hg, (h.block g (Array.getElem?_eq_some_iff.1 hh).1 (hs g rfl)).trans hh, r⟩
theorem twin_app {rb : Nat} (w6 : World) (kd : Tr) (x6 : NV) (Av : Option Addr) (k cv : Nat) (ps : List KV) (hown : w6.ownsRow rb 25 5 (.slice Av k cv) ps.length (nds ps)) (hpl : ps.length = k) (hk : k ≤ 1000000) (hrb : rb ≤ w6.heap.size) :
    ∃ A7 c7 w7, (Builtin.append_ #[23, 23] 23 #[.slice Av k cv, .slice (some ⟨w6.heap.size, 0, none⟩) 1 1]).run Try.prog (w6.alloc (.cells #[.string kd.tag, .string kd.key, .string kd.text, .slice x6.A kd.as.length x6.ca, .slice x6.K kd.kids.length x6.ck] 25)) = .ok (.slice A7 (k + 1) c7) w7 ∧
      w7.ownsRow rb 25 5 (.slice A7 (k + 1) c7) (ps ++ [(kd, x6)]).length (nds (ps ++ [(kd, x6)])) ∧ Kept (OwnB (.slice Av k cv)) w6 w7 ∧ Fresh w6 (.slice Av k cv) (.slice A7 (k + 1) c7) := by
  obtain ⟨i0, hi, hz0, hz1, hz2⟩ := info_parts Try.info25
  have hown' : (w6.alloc (.cells #[.string kd.tag, .string kd.key, .string kd.text, .slice x6.A kd.as.length x6.ca, .slice x6.K kd.kids.length x6.ck] 25)).ownsRow rb 25 5 (.slice Av k cv) k (nds ps) := by
    have := hown.alloc (.cells #[.string kd.tag, .string kd.key, .string kd.text, .slice x6.A kd.as.length x6.ca, .slice x6.K kd.kids.length x6.ck] 25)
    rw [hpl] at this
    exact this
  obtain ⟨v7, w7, hrun, ho, hgr, _, hloc⟩ := run_append_own_at (P := Try.prog) (w6.alloc (.cells #[.string kd.tag, .string kd.key, .string kd.text, .slice x6.A kd.as.length x6.ca, .slice x6.K kd.kids.length x6.ck] 25)) rb 23 23 25 i0 _ 5 96 Try.underlying23 hi hz0 hz1 hz2 rfl (by omega) (.slice Av k cv) k (nds ps) hown' ⟨w6.heap.size, 0, none⟩ 1 1 (nodeCells kd x6) (by simp [nodeCells]) (arr_new _ _ _ _ rfl) (nodeCells_one kd x6) (by unfold maxLen; omega) (by omega) (by simp; omega)
  obtain ⟨A7, c7, rfl⟩ := row_form ho
  refine ⟨A7, c7, w7, hrun, ?_, (kept_alloc w6 _ _).trans ((kept_grown hgr).mono (fun b _ hb => hb.symm)), fun j hj hb => ?_⟩
  · rw [nds_append]
    simpa [nds, hpl] using ho
  · rcases hloc with hl | hl
    · rw [← hl]; exact hb
    · rw [hl] at hb
      simp at hb
      omega
/-- A tree from its two rows. -/
theorem tree_of_rows {w : World} {P : Nat → Prop} {rb : Nat} (t : Tr) (ps : List KV) {A' Av : Option Addr} {ca' cv : Nat} (how : w.ownsRow rb 25 5 (.slice Av t.kids.length cv) ps.length (nds ps)) (hpl : ps.length = t.kids.length) (hpm : ps.map Prod.fst = t.kids) (hti : ∀ p ∈ ps, TreeIn w P p.1 p.2)
    (hatt : TRowP w P A' t.as) (hA1 : t.as.length ≤ ca') (hA2 : ca' ≤ maxLen) (hA3 : A' = none → ca' = 0) (hown : ∀ b, OwnB (.slice Av t.kids.length cv) b → P b) : TreeIn w P t ⟨A', ca', Av, cv⟩ := by
  have hkid : ∀ j, (h : j < t.kids.length) → ∃ h' : j < ps.length, t.kids[j] = ps[j].1 := fun j h => ⟨by omega, by simp only [← hpm]; rw [List.getElem_map]⟩
  have hcap : t.kids.length ≤ cv ∧ cv ≤ maxLen ∧ (Av = none → cv = 0) := by
    rcases how.2 with ⟨he, hn⟩ | ⟨g, c, cur, he, _, _, h1, h2, _⟩
    · simp at he
      obtain ⟨h1, h2, h3⟩ := he
      exact ⟨by omega, by rw [h3]; simp [maxLen], fun _ => h3⟩
    · simp at he
      obtain ⟨h3, h4, h5⟩ := he
      rw [hpl] at h1
      exact ⟨by omega, by omega, fun h => by rw [h3] at h; cases h⟩
  refine .mk (fun j => (ps.getD j (t, ⟨none, 0, none, 0⟩)).2) hatt hA1 hA2 hA3 hcap.1 hcap.2.1 hcap.2.2 (fun h0 => ?_) (fun j hj => ?_)
  · rcases how.2 with ⟨he, hn⟩ | ⟨g, c, cur, he, hr⟩
    · omega
    · simp at he
      obtain ⟨rfl, h4, rfl⟩ := he
      refine ⟨g, 0, rfl, hown g rfl, fun j hj => ?_⟩
      obtain ⟨h', e⟩ := hkid j hj
      have e2 : (ps.getD j (t, ⟨none, 0, none, 0⟩)).2 = ps[j].2 := by simp [List.getD_eq_getElem?_getD, h']
      rw [e, e2]
      exact own_kid how h'
  · obtain ⟨h', e⟩ := hkid j hj
    have e2 : (ps.getD j (t, ⟨none, 0, none, 0⟩)).2 = ps[j].2 := by simp [List.getD_eq_getElem?_getD, h']
    rw [e, e2]
    exact hti _ (List.getElem_mem _)
/-- What is new, above the three boxes, and not in the row that is still written. -/
def NewOut (n3 : Nat) (v : Value) (w' : World) : Nat → Prop := fun b => n3 ≤ b ∧ b < w'.heap.size ∧ ¬ OwnB v b
theorem NewOut.step {n3 : Nat} {v v' : Value} {w w' : World} (hf : Fresh w v v') (hs : w.heap.size ≤ w'.heap.size) {b : Nat} (h : NewOut n3 v w b) : NewOut n3 v' w' b := ⟨h.1, Nat.lt_of_lt_of_le h.2.1 hs, fun hb => h.2.2 (hf b h.2.1 hb)⟩
end Go.Proofs.Ytlkdklpglmglkaa
