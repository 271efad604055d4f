/-
  A tree whose memory lies in given blocks; a row of nodes that the call may write; append as one step of a region.
-/
import Derived.Test.YtlkdklpglmglkaaNodes
import Derived.ArgAppend
import Derived.Deep.RegionLaw
namespace Go.Proofs.Ytlkdklpglmglkaa
open Go.RowKit Go.Sort Go.Lib
set_option linter.unusedVariables false
set_option maxRecDepth 100000
def TRowP (w : World) (P : Nat → Prop) (A : Option Addr) (es : List At) : Prop :=
  0 < es.length → ∃ b off, A = some ⟨b, off, none⟩ ∧ P b ∧ ∀ j, (hj : j < es.length) → w.cell? ⟨b, off + j * 2, none⟩ = some (.string es[j].1) ∧ w.cell? ⟨b, off + j * 2 + 1, none⟩ = some (.string es[j].2)
inductive TreeIn (w : World) (P : Nat → Prop) : Tr → NV → Prop
  | mk {t : Tr} {x : NV} (X : Nat → NV) (att : TRowP w P x.A t.as) (h1 : t.as.length ≤ x.ca) (h2 : x.ca ≤ maxLen) (h3 : x.A = none → x.ca = 0) (h4 : t.kids.length ≤ x.ck) (h5 : x.ck ≤ maxLen) (h6 : x.K = none → x.ck = 0)
      (row : 0 < t.kids.length → ∃ b off, x.K = some ⟨b, off, none⟩ ∧ P b ∧ ∀ j, (h : j < t.kids.length) → KidCells w b (off + j * 5) t.kids[j] (X j))
      (sub : ∀ j, (h : j < t.kids.length) → TreeIn w P t.kids[j] (X j)) : TreeIn w P t x
theorem TRowP.kept {w w' : World} {P Q : Nat → Prop} {A : Option Addr} {es : List At} (h : TRowP w P A es) {S : Nat → Prop} (hk : Kept S w w') (hs : ∀ b, P b → ¬ S b) (hq : ∀ b, P b → Q b) : TRowP w' Q A es := by
  intro h0
  obtain ⟨b, off, hA, hp, hc⟩ := h h0
  exact ⟨b, off, hA, hq b hp, fun j hj => ⟨hk.cellOf (hc j hj).1 (hs b hp), hk.cellOf (hc j hj).2 (hs b hp)⟩⟩
theorem TreeIn.kept {w w' : World} {P Q : Nat → Prop} {t : Tr} {x : NV} (h : TreeIn w P t x) {S : Nat → Prop} (hk : Kept S w w') (hs : ∀ b, P b → ¬ S b) (hq : ∀ b, P b → Q b) : TreeIn w' Q t x := by
  induction h with
  | mk X att h1 h2 h3 h4 h5 h6 row sub ih =>
    refine .mk X (att.kept hk hs hq) h1 h2 h3 h4 h5 h6 (fun h0 => ?_) ih
    obtain ⟨b, off, hK, hp, hc⟩ := row h0
    exact ⟨b, off, hK, hq b hp, fun j hj => (hc j hj).kept hk (hs b hp)⟩
theorem TreeIn.tree {w : World} {P : Nat → Prop} {B : Nat} {t : Tr} {x : NV} (h : TreeIn w P t x) (hp : ∀ b, P b → b < B) : TreeAt w B t x := by
  induction h with
  | mk X att h1 h2 h3 h4 h5 h6 row sub ih =>
    refine .mk X (fun h0 => ?_) h1 h2 h3 h4 h5 h6 (fun h0 => ?_) ih
    · obtain ⟨b, off, hA, hb, hc⟩ := att h0
      exact ⟨b, off, hA, hp b hb, hc⟩
    · obtain ⟨b, off, hK, hb, hc⟩ := row h0
      exact ⟨b, off, hK, hp b hb, hc⟩
/-! Rows of nodes. -/
abbrev KV := Tr × NV
def nds (l : List KV) : List Value := l.flatMap fun p => nodeCells p.1 p.2
theorem nds_append (a b : List KV) : nds (a ++ b) = nds a ++ nds b := by simp [nds]
theorem nds_length (l : List KV) : (nds l).length = l.length * 5 := by
  induction l with
  | nil => rfl
  | cons p ps ih => simp only [nds, List.flatMap_cons, List.length_append, List.length_cons, nodeCells, List.length_nil] at ih ⊢; omega
theorem nodeCells_one (t : Tr) (x : NV) : ∀ v ∈ nodeCells t x, v.oneCell' = true := by
  intro v hv
  simp [nodeCells] at hv
  rcases hv with rfl | rfl | rfl | rfl | rfl <;> rfl
theorem nds_one (l : List KV) : ∀ y ∈ nds l, y.oneCell' = true := by
  intro y hy
  obtain ⟨p, _, hp⟩ := List.mem_flatMap.1 hy
  exact nodeCells_one p.1 p.2 y hp
theorem nds_at : ∀ (l : List KV) (i : Nat) (hi : i < l.length) (r : Nat), r < 5 → (nds l)[i * 5 + r]? = (nodeCells l[i].1 l[i].2)[r]?
  | [], i, h, _, _ => by simp at h
  | p :: ps, 0, h, r, hr => by
    simp only [nds, List.flatMap_cons, Nat.zero_mul, Nat.zero_add, List.getElem_cons_zero]
    rw [List.getElem?_append_left (by simp [nodeCells]; omega)]
  | p :: ps, i + 1, h, r, hr => by
    have ih := nds_at ps i (by simpa using h) r hr
    simp only [nds, List.flatMap_cons] at ih ⊢
    rw [List.getElem?_append_right (by simp [nodeCells]; omega)]
    simp only [nodeCells, List.length_cons, List.length_nil, List.getElem_cons_succ] at ih ⊢
    rw [← ih]
    congr 1
    omega
/-- The cells of a node in an owned row. -/
theorem own_kid {w : World} {base : Nat} {g n cap : Nat} {ps : List KV} (h : w.ownsRow base 25 5 (.slice (some ⟨g, 0, none⟩) n cap) ps.length (nds ps)) {j : Nat} (hj : j < ps.length) : KidCells w g (0 + j * 5) ps[j].1 ps[j].2 := by
  rcases h.2 with ⟨he, hn⟩ | ⟨g', c, cur, he, hr⟩
  · omega
  · simp at he
    obtain ⟨rfl, rfl, rfl⟩ := he
    have key : ∀ r, r < 5 → w.cell? ⟨g, 0 + j * 5 + r, none⟩ = (nodeCells ps[j].1 ps[j].2)[r]? := by
      intro r hr
      rw [Nat.zero_add, World.ownsRow.cellAt h (j * 5 + r) (by omega), nds_at ps j hj r hr]
    exact ⟨key 0 (by omega), key 1 (by omega), key 2 (by omega), key 3 (by omega), key 4 (by omega)⟩
theorem Try.info25 : (Try.prog.info? 25).map (fun i => (i.zero, i.size, i.bytes)) = some (some (.agg #[.string ⟨#[]⟩, .string ⟨#[]⟩, .string ⟨#[]⟩, .slice none 0 0, .slice none 0 0]), 5, 96) := by kernel_rfl
/-- append by its run, as one step of a region that draws. -/
theorem step_append_run {P : Program} {ops : Array Oper} {o : Oper} {a : Act} {w w' : World} {K : Act → World → Prop} {Q : Exit → Act → World → Prop} {E : Prop} {v' : Value}
    (hg : o.guard = none) (s x : Operand) (t : TypeId) (hop : o.op = Op.call { callee := Callee.builtin Builtin.append, args := #[s, x], argTypes := #[t, t] })
    (v1 v2 : Value) (hs : a.eval s = v1) (hx : a.eval x = v2) (hrun : (Builtin.append_ #[t, t] o.type #[v1, v2]).run P w = .ok v' w')
    (hK : K (a.put o.dst v') w') :
    if Region.wanted o (yielded ops a.tmps) = true then Oper.wp P o a w K Q else E := by
  have hw : Region.wanted o (yielded ops a.tmps) = true := by simp [Region.wanted, hg]
  rw [if_pos hw]
  unfold Oper.wp
  simp [execOp, hop, resolve, invoke, builtin, hs, hx, hrun, Result.andThen]
  exact hK
theorem append_empty (w : World) (t ty e : TypeId) (i : TypeInfo) (ht : Try.prog.underlying t = some (.slice e)) (hi : Try.prog.info? e = some i) (ad ad' : Addr) (c : Nat) : (Builtin.append_ #[t, t] ty #[.slice (some ad) 0 0, .slice (some ad') 0 c]).run Try.prog w = .ok (.slice (some ad) 0 0) w := by
  have hfc := run_firstCells_some (P := Try.prog) w i.size 0 ad' 0 c [] (by simp) (fun j u h => by simp at h)
  have hst : ∀ a : Addr, Sem.run Try.prog (storeCells a []) w = .ok () w := fun a => rfl
  simp [Builtin.append_, run_underlying ht, sizeOf, typeInfo, hi, Builtin.lenOf, hfc, hst]
theorem own_trowp {w : World} {base : Nat} {v : Value} {es : List At} (h : w.ownsRow base 74 2 v es.length (ats es)) :
    ∃ A cap, v = .slice A es.length cap ∧ TRowP w (fun b => v.ownBlock = some b) A es ∧ es.length ≤ cap ∧ cap ≤ maxLen ∧ (A = none → cap = 0) := by
  rcases h.2 with ⟨rfl, hn⟩ | ⟨g, cap, cur, rfl, _, hg, hnc, hcm, _, _⟩
  · exact ⟨none, 0, by rw [hn], fun h0 => by omega, by omega, by simp [maxLen], fun _ => rfl⟩
  · refine ⟨_, cap, rfl, fun _ => ⟨g, 0, rfl, rfl, fun j hj => ?_⟩, hnc, hcm, fun h => by cases h⟩
    have e : es.getD j noAt = es[j] := by simp [List.getD_eq_getElem?_getD, hj]
    have d0 : j * 2 / 2 = j := by omega
    have d1 : (j * 2 + 1) / 2 = j := by omega
    have m0 : j * 2 % 2 = 0 := by omega
    have m1 : (j * 2 + 1) % 2 = 1 := by omega
    rw [Nat.zero_add, World.ownsRow.cellAt h (j * 2) (by omega), World.ownsRow.cellAt h (j * 2 + 1) (by omega), ats_at es (j * 2) (by omega), ats_at es (j * 2 + 1) (by omega), d0, d1, m0, m1, e]
    exact ⟨rfl, rfl⟩
theorem own_empty (w : World) (e k : Nat) : (w.alloc (.cells #[] e)).ownsRow w.heap.size e k (.slice (some ⟨w.heap.size, 0, none⟩) 0 0) 0 [] := by
  refine ⟨by simp, .inr ⟨w.heap.size, 0, #[], rfl, Nat.le_refl _, heap_alloc_new w _, Nat.le_refl _, by simp [maxLen], by simp, by simp⟩⟩
/-- A copy of a slice of attributes by append(x[:0:0], x...). -/
theorem att_copy (w : World) (ty : TypeId) (A : Option Addr) (c : Nat) (l : List At) (h : TRow w w.heap.size A l) (hl : l.length ≤ 1000000) (hc0 : A = none → c = 0) :
    ∃ v' w', (Builtin.append_ #[22, 22] ty #[.slice A 0 0, .slice A l.length c]).run Try.prog w = .ok v' w' ∧ (∃ A' c', v' = .slice A' l.length c' ∧ TRowP w' (fun b => w.heap.size ≤ b ∧ b < w'.heap.size) A' l ∧ l.length ≤ c' ∧ c' ≤ maxLen ∧ (A' = none → c' = 0)) ∧ Below w.heap.size w w' := by
  obtain ⟨i0, hi, hz0, hz1, hz2⟩ := info_parts Try.info74
  cases A with
  | none =>
    obtain rfl := trow_none h
    obtain rfl := hc0 rfl
    exact ⟨_, w, run_append_owned_none (P := Try.prog) (w := w) w.heap.size 22 ty 74 i0 2 Try.underlying22 hi (.slice none 0 0) 0 [] (World.ownsRow_nil _ _ _ _), ⟨none, 0, rfl, fun h0 => by simp at h0, Nat.le_refl _, by simp [maxLen], fun _ => rfl⟩, Below.refl _ _⟩
  | some ad =>
    by_cases h0 : l = []
    · subst h0
      exact ⟨_, w, append_empty w 22 ty 74 i0 Try.underlying22 hi ad ad c, ⟨some ad, 0, rfl, fun h0 => by simp at h0, Nat.le_refl _, by simp [maxLen], fun h => by cases h⟩, Below.refl _ _⟩
    · have hpos : 0 < l.length := List.length_pos_iff.2 h0
      obtain ⟨v', w', hrun, hown, hgr⟩ := run_append_arg_grows (P := Try.prog) w 22 ty 74 i0 _ 2 32 Try.underlying22 hi hz0 hz1 hz2 rfl (by omega) ad 0 0 [] (by simp) (fun j u h => by simp at h) ad l.length c (ats l) (ats_length l) (trow_src h) (by omega) (by unfold maxLen; omega) (by omega)
      have hown' : w'.ownsRow w.heap.size 74 2 v' l.length (ats l) := by simpa using hown
      have hkp := kept_grown hgr
      obtain ⟨A', c', rfl, hr, e1, e2, e3⟩ := own_trowp hown'
      have hbl : Below w.heap.size w w' := hkp.below (Nat.le_refl _) (fun k h => by cases h)
      refine ⟨_, w', hrun, ⟨A', c', rfl, ?_, e1, e2, e3⟩, hbl⟩
      refine hr.kept (Kept.refl (fun _ => False) _) (fun _ _ h => h) (fun b hb => ?_)
      exact hown'.lt b hb
end Go.Proofs.Ytlkdklpglmglkaa
