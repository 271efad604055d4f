/-
  markup's parser: the loop over the open nodes.
-/
import Derived.Test.YtjnhcoflmechmaaGreatDoorMStart
import Derived.Test.YtjnhcoflmechmaaGreatDoorMKid
import Derived.Test.YtjnhcoflmechmaaGreatDoorMMem
namespace Go.Proofs.YtjnhcoflmechmaaGreatDoor.M
open Go.RowKit Go.Sort
set_option linter.unusedVariables false
set_option maxRecDepth 100000
theorem info153 : (Tryz.prog.info? 153).map (fun i => (i.zero, i.size, i.bytes)) = some (some (.pointer none), 1, 8) := by kernel_rfl
def ptrOf (f : FM) : Value := .pointer (some ⟨f.g, f.o, none⟩)
/-- The pointers to the open nodes, the last one on top. -/
def ptrs (fl : List FM) : List Value := (fl.map ptrOf).reverse
theorem ptrs_cons (f : FM) (fl : List FM) : ptrs (f :: fl) = ptrs fl ++ [ptrOf f] := by simp [ptrs]
theorem ptrs_len (fl : List FM) : (ptrs fl).length = fl.length := by simp [ptrs]
theorem own_cut {w : World} {base e size n m cap : Nat} {A : Option Addr} {xs : List Value} (h : w.ownsRow base e size (.slice A n cap) n xs) (hm : m ≤ n) : w.ownsRow base e size (.slice A m cap) m (xs.take (m * size)) := by
  have hle : m * size ≤ n * size := Nat.mul_le_mul_right _ hm
  refine ⟨by rw [List.length_take, h.1]; omega, ?_⟩
  rcases h.2 with ⟨hn, h0⟩ | ⟨g, c, cur, he, hb, hg, hnc, hcm, hcs, ht⟩
  · left
    have : m = 0 := by omega
    simp only [Value.slice.injEq] at hn
    exact ⟨by rw [this, hn.1, hn.2.2], this⟩
  · right
    simp only [Value.slice.injEq, true_and] at he
    refine ⟨g, cap, cur, by rw [he.1], hb, hg, by omega, by omega, by rw [he.2]; exact hcs, ?_⟩
    rw [← ht, List.take_take, Nat.min_eq_left hle]
theorem own_pop {w : World} {base cap : Nat} {A : Option Addr} {f : FM} {fl : List FM} (h : w.ownsRow base 153 1 (.slice A (fl.length + 1) cap) (fl.length + 1) (ptrs (f :: fl))) : w.ownsRow base 153 1 (.slice A fl.length cap) fl.length (ptrs fl) := by
  have := own_cut h (show fl.length ≤ fl.length + 1 by omega)
  rw [ptrs_cons, List.take_append_of_le_length (by rw [ptrs_len]; omega), List.take_of_length_le (by rw [ptrs_len]; omega)] at this
  exact this
theorem own_top {w : World} {base cap : Nat} {A : Option Addr} {f : FM} {fl : List FM} (h : w.ownsRow base 153 1 (.slice A (fl.length + 1) cap) (fl.length + 1) (ptrs (f :: fl))) : ∃ gO, A = some ⟨gO, 0, none⟩ ∧ w.cell? ⟨gO, fl.length, none⟩ = some (ptrOf f) := by
  obtain ⟨A', c, hv, n1, n2, n3, n4⟩ := own_parts h (by decide)
  simp only [Value.slice.injEq, true_and] at hv
  obtain ⟨rfl, rfl⟩ := hv
  obtain ⟨g, hA, _, _, hc⟩ := n4 (by omega)
  refine ⟨g, hA, ?_⟩
  rw [hc fl.length (by omega), ptrs_cons, List.getElem?_append_right (by rw [ptrs_len]; omega), ptrs_len, Nat.sub_self]
  rfl
/-- The state ahead of a node. -/
structure PeS (P : Nat) (s : ByteArray) (root N : Nat) (R0 : Rd Tr) (w W : World) (fl : List FM) (g o a nb : Nat) (vO : Value) : Prop where
  p : P3 W P s a nb
  pend : Pend W root root vO fl g o
  nod : NodAt W g o ⟨#[]⟩ ⟨#[]⟩ ⟨#[]⟩ (.slice none 0 0) (.slice none 0 0)
  opn : W.ownsRow root 153 1 vO fl.length (ptrs fl)
  v : Vars W
  k : Kept (fun b => b = P ∨ root ≤ b) w W
  z : B5 W w.heap.size 25 (.string ⟨#[]⟩) (.string ⟨#[]⟩) (.string ⟨#[]⟩) (.slice none 0 0) (.slice none 0 0)
  ha : a ≤ s.size
  hP : P < w.heap.size
  hP4 : 4 ≤ P
  hroot : root = w.heap.size + 1
  hR : ∃ ts : List Tr, fl.map FM.t = ts.map cutT ∧ R0 = unwind ts (nodeP (restL s a))
  hN : N ≤ 4096
  cnt : nb + cntK (restL s a) ≤ N + 1 ∧ nb ≤ N ∧ fl.length ≤ nb
  few : ∀ f ∈ fl, f.t.kids.length + 1 ≤ nb
/-- The state behind a node's text, or its end. -/
structure ToS (P : Nat) (s : ByteArray) (root N : Nat) (R0 : Rd Tr) (w W : World) (f : FM) (fl : List FM) (a nb : Nat) (vO : Value) : Prop where
  p : P3 W P s a nb
  top : Top W root root vO f fl
  opn : W.ownsRow root 153 1 vO (fl.length + 1) (ptrs (f :: fl))
  v : Vars W
  k : Kept (fun b => b = P ∨ root ≤ b) w W
  z : B5 W w.heap.size 25 (.string ⟨#[]⟩) (.string ⟨#[]⟩) (.string ⟨#[]⟩) (.slice none 0 0) (.slice none 0 0)
  ha : a ≤ s.size
  hP : P < w.heap.size
  hP4 : 4 ≤ P
  hroot : root = w.heap.size + 1
  hR : ∃ (t : Tr) (ts : List Tr), f.t = cutT t ∧ fl.map FM.t = ts.map cutT ∧ R0 = unwind ts (restF t (restL s a)) ∧ (t.text ≠ noB ∨ t.kids ≠ [] ∨ kidC (restL s a) = true)
  hN : N ≤ 4096
  cnt : nb + cntK (restL s a) ≤ N ∧ fl.length ≤ nb
  few : f.t.kids.length ≤ nb ∧ ∀ h ∈ fl, h.t.kids.length + 1 ≤ nb
/-- The state behind the root. -/
structure EnS (P : Nat) (s : ByteArray) (root : Nat) (R0 : Rd Tr) (w W : World) (a nb : Nat) (t : Tr) (x : NV) : Prop where
  p : P3 W P s a nb
  cells : KidCells W root 0 (cutT t) x
  tree : TreeIn W (fun b => root ≤ b ∧ b ≠ root) (cutT t) x
  k : Kept (fun b => b = P ∨ root ≤ b) w W
  z : B5 W w.heap.size 25 (.string ⟨#[]⟩) (.string ⟨#[]⟩) (.string ⟨#[]⟩) (.slice none 0 0) (.slice none 0 0)
  ha : a ≤ s.size
  hroot : root = w.heap.size + 1
  hR : R0 = .ok t (restL s a)
section
variable {P : Nat} {s : ByteArray} {root N : Nat} {R0 : Rd Tr} {w W W' : World} {fl : List FM} {f : FM} {g o a nb a' : Nat} {vO vA : Value}
theorem PeS.vars (h : PeS P s root N R0 w W fl g o a nb vO) (hk : Kept (fun k => k = P ∨ k = g) W W') : Vars W' := by
  have hg := (h.pend.bnd g (by simp [gsOf])).1
  exact h.v.below (Nat.le_refl 4) (hk.below h.v.2.2.2 (fun k hk => by have := h.hP4; have := h.hP; have := h.hroot; rcases hk with e | e <;> omega))
theorem att_in {W : World} {base g : Nat} {vO : Value} {fl : List FM} {vA : Value} {l : List At} {n0 : Nat} {t : Tr} (ho : W.ownsRow n0 63 2 vA (kept65 l).length (ats (kept65 l))) (hl : t.as = kept65 l) (hd : ∀ b, n0 ≤ b → Done base vO g fl b) : ∃ x : NV, vA = .slice x.A t.as.length x.ca ∧ x.K = none ∧ x.ck = 0 ∧ AttIn W (Done base vO g fl) t x := by
  obtain ⟨A, c, hv, n1, n2, n3, n4⟩ := own_parts ho (by decide)
  refine ⟨⟨A, c, none, 0⟩, by rw [hl]; exact hv, rfl, rfl, fun h0 => ?_, by rw [hl]; exact n1, n2, n3⟩
  rw [hl] at h0
  obtain ⟨b, hA, hb, hlt, hc⟩ := n4 h0
  refine ⟨b, 0, hA, hd b hb, hlt, fun j hj => ?_⟩
  have hj' : j < (kept65 l).length := by rw [← hl]; exact hj
  have e : (kept65 l).getD j noAt = (kept65 l)[j] := by simp [List.getD_eq_getElem?_getD, hj']
  have e2 : t.as[j] = (kept65 l)[j] := by simp only [hl]
  have d0 : j * 2 / 2 = j := by omega
  have d1 : (j * 2 + 1) / 2 = j := by omega
  have m0 : j * 2 % 2 = 0 := by omega
  have m1 : (j * 2 + 1) % 2 = 1 := by omega
  rw [Nat.zero_add, hc (j * 2) (by omega), hc (j * 2 + 1) (by omega), ats_at _ (j * 2) (by omega), ats_at _ (j * 2 + 1) (by omega), d0, d1, m0, m1, e, e2]
  exact ⟨rfl, rfl⟩
/-- A node was read that has an end of its own. -/
theorem PeS.push (h : PeS P s root N R0 w W fl g o a nb vO) {t : Tr} (hst : startP (restL s a) = .ok (true, t) (restL s a')) (ha' : a' ≤ s.size) (hp : P3 W' P s a' nb) (hn : NodAt W' g o t.tag t.key t.text vA (.slice none 0 0)) (ho : W'.ownsRow W.heap.size 63 2 vA (kept65 t.as).length (ats (kept65 t.as))) (hb : Nbr g o W W') (hk : Kept (fun k => k = P ∨ k = g) W W') :
    ∃ f' : FM, f'.g = g ∧ f'.o = o ∧ Top W' root root vO f' fl ∧ f'.t = cutT t ∧ f'.t.kids = [] := by
  have hP := h.hP; have hroot := h.hroot
  have hpd := h.pend.read hk (by omega) hb
  have hkids := (start_ok hst).2.1
  have hck : (cutT t).kids = [] := by rw [cutT_kids]; simp only at hkids; rw [hkids]; rfl
  obtain ⟨x, hv, hx1, hx2, hatt⟩ := att_in (base := root) (vO := vO) (g := g) (fl := fl) (t := cutT t) ho (by rw [cutT_as]; rfl) (fun b hb => ⟨by have := (h.pend.bnd g (by simp [gsOf])); omega, fun e => by have := (h.pend.bnd b e).2.1; omega, fun e => by have := (h.opn.lt b e).2; omega⟩)
  refine ⟨⟨cutT t, g, o, x⟩, rfl, rfl, hpd.push (t := cutT t) (x := x) ?_ hck ⟨hx1, hx2⟩ hatt, rfl, hck⟩
  show NodAt W' g o (cutT t).tag (cutT t).key (cutT t).text (.slice x.A (cutT t).as.length x.ca) (.slice x.K 0 x.ck)
  rw [cutT_tag, cutT_key, cutT_text, ← hv, hx1, hx2]
  exact hn
/-- A node was read that has no end of its own. -/
theorem PeS.leaf (h : PeS P s root N R0 w W fl g o a nb vO) {t : Tr} (hst : startP (restL s a) = .ok (false, t) (restL s a')) (ha' : a' ≤ s.size) (hn : NodAt W' g o t.tag t.key t.text vA (.slice none 0 0)) (ho : W'.ownsRow W.heap.size 63 2 vA (kept65 t.as).length (ats (kept65 t.as))) (hb : Nbr g o W W') (hk : Kept (fun k => k = P ∨ k = g) W W') :
    Pend W' root root vO fl g o ∧ ∃ x, KidCells W' g o (cutT t) x ∧ TreeIn W' (Done root vO g fl) (cutT t) x := by
  have hP := h.hP; have hroot := h.hroot
  have hpd := h.pend.read hk (by omega) hb
  have hkids := (start_ok hst).2.1
  have hck : (cutT t).kids = [] := by rw [cutT_kids]; simp only at hkids; rw [hkids]; rfl
  obtain ⟨x, hv, hx1, hx2, hatt⟩ := att_in (base := root) (vO := vO) (g := g) (fl := fl) (t := cutT t) ho (by rw [cutT_as]; rfl) (fun b hb => ⟨by have := (h.pend.bnd g (by simp [gsOf])); omega, fun e => by have := (h.pend.bnd b e).2.1; omega, fun e => by have := (h.opn.lt b e).2; omega⟩)
  refine ⟨hpd, x, ?_, .mk (fun _ => x) hatt.1 hatt.2.1 hatt.2.2.1 hatt.2.2.2 (by rw [hck]; exact Nat.zero_le _) (by rw [hx2]; simp [maxLen]) (fun _ => hx2) (fun h0 => by rw [hck] at h0; simp at h0) (fun j hj => by rw [hck] at hj; simp at hj)⟩
  have hl : (cutT t).kids.length = 0 := by rw [hck]; rfl
  refine NodAt.cells (n := 0) ?_ hl.symm
  show NodAt W' g o (cutT t).tag (cutT t).key (cutT t).text (.slice x.A (cutT t).as.length x.ca) (.slice x.K 0 x.ck)
  rw [cutT_tag, cutT_key, cutT_text, ← hv, hx1, hx2]
  exact hn
theorem own_fresh {W : World} {A : Option Addr} {n c n' c' : Nat} : Fresh W (.slice A n c) (.slice A n' c') := fun k _ e => own_any.1 e
/-- The row of the open nodes' pointers turns. -/
theorem Top.open {base : Nat} {vO' : Value} (h : Top W base root vO f fl) (hk : Kept (OwnB vO) W W') (hf : Fresh W vO vO') : Top W' base root vO' f fl := by
  let S : Nat → Prop := fun b => (Done base vO f.g fl b ∧ ¬ OwnB (.slice f.x.K 0 0) b) ∧ b < W.heap.size
  have hS : ∀ b, (Done base vO f.g fl b ∧ ¬ OwnB (.slice f.x.K 0 0) b) → b < W.heap.size → S b := fun b hb hlt => ⟨hb, hlt⟩
  have hT : ∀ b, S b → b < W.heap.size → ¬ OwnB vO b := fun b hb _ e => hb.1.1.2.2 e
  have hU : ∀ b, S b → Done base vO' f.g fl b ∧ ¬ OwnB (.slice f.x.K 0 0) b := fun b hb => ⟨⟨hb.1.1.1, hb.1.1.2.1, fun e => hb.1.1.2.2 (hf b hb.2 e)⟩, hb.1.2⟩
  refine ⟨h.nod.kept hk (h.bnd f.g (by simp [gsOf])).2.2, ((h.att.mono hS).kept hk hT).mono (fun b hb _ => hU b hb), ((h.row.mono hS).kept hk hT (fun b hb e => (h.own b (own_any.1 hb)).2 e)).mono (fun b hb _ => hU b hb), fun b e => ⟨(h.own b e).1, fun e' => ?_⟩, low_mono (fun b hb _ => hU b hb) fl f.g f.o (low_kept hk hT fl f.g f.o (fun b hb => (h.bnd b hb).2.2) (low_mono hS fl f.g f.o h.low)), h.nodup, fun b hb => ⟨(h.bnd b hb).1, Nat.lt_of_lt_of_le (h.bnd b hb).2.1 hk.size, fun e => (h.bnd b hb).2.2 (hf b (h.bnd b hb).2.1 e)⟩⟩
  obtain ⟨⟨xs, h1⟩, _⟩ := h.row
  exact (h.own b e).2 (hf b (h1.lt b (own_any.1 e)).2 e')
theorem kept_more {T : Nat → Prop} (h : Kept (fun b => b = P ∨ root ≤ b) w W) (hk : Kept T W W') (hT : ∀ b, T b → b = P ∨ root ≤ b) : Kept (fun b => b = P ∨ root ≤ b) w W' := h.trans (hk.mono (fun b _ e => hT b e))
theorem vars_more {T : Nat → Prop} (hv : Vars W) (hk : Kept T W W') (hT : ∀ b, T b → 4 ≤ b) : Vars W' := hv.below (Nat.le_refl 4) (hk.below hv.2.2.2 hT)
/-- The node that was read is laid upon the open ones. -/
theorem ToS.of_open (h : PeS P s root N R0 w W fl g o a nb vO) {t : Tr} {W1 : World} {vO' : Value} (hst : startP (restL s a) = .ok (true, t) (restL s a')) (ha' : a' ≤ s.size) (hp : P3 W1 P s a' nb) (hn : NodAt W1 g o t.tag t.key t.text vA (.slice none 0 0)) (ho : W1.ownsRow W.heap.size 63 2 vA (kept65 t.as).length (ats (kept65 t.as))) (hb : Nbr g o W W1) (hk : Kept (fun k => k = P ∨ k = g) W W1)
    (hO : W'.ownsRow root 153 1 vO' (fl.length + 1) (ptrs fl ++ [.pointer (some ⟨g, o, none⟩)])) (hk2 : Kept (OwnB vO) W1 W') (hf2 : Fresh W1 vO vO') : ∃ f', ToS P s root N R0 w W' f' fl a' nb vO' := by
  obtain ⟨f', rfl, rfl, htop, hft, hfk⟩ := h.push hst ha' hp hn ho hb hk
  have hP := h.hP; have hP4 := h.hP4; have hroot := h.hroot
  have hg := (h.pend.bnd f'.g (by simp [gsOf])).1
  have hOb : ∀ b, OwnB vO b → root ≤ b := fun b e => (h.opn.lt b e).1
  obtain ⟨ts, e1, e2⟩ := h.hR
  have hsk := (start_kid hst).2
  have hcnt := h.cnt.1
  refine ⟨f', hp.kept hk2 (fun e => by have := hOb P e; omega), htop.open hk2 hf2, by rw [ptrs_cons]; exact hO, vars_more (vars_more h.v hk (fun b e => by rcases e with e | e <;> omega)) hk2 (fun b e => by have := hOb b e; omega), kept_more (kept_more h.k hk (fun b e => by rcases e with e | e; exact .inl e; exact .inr (by omega))) hk2 (fun b e => .inr (hOb b e)), (h.z.kept hk (fun e => by rcases e with e | e <;> omega)).kept hk2 (fun e => by have := hOb _ e; omega), ha', hP, hP4, hroot, ⟨t, ts, hft, e1, by rw [e2, unwind_open hst], ?_⟩, h.hN, ⟨by omega, h.cnt.2.2⟩, by rw [hfk]; exact Nat.zero_le _, h.few⟩
  rcases (start_ok hst).2.2 rfl with h1 | h1
  · exact .inl h1
  · exact .inr (.inr h1)
/-- The state at the inner loop's head. -/
def InS (P : Nat) (s : ByteArray) (root N : Nat) (R0 : Rd Tr) (w W : World) (fl : List FM) (a nb : Nat) (vO : Value) : Prop := match fl with
  | [] => ∃ t x, EnS P s root R0 w W a nb t x
  | f :: fs => ToS P s root N R0 w W f fs a nb vO
theorem done_root {W : World} {vO : Value} {t : Tr} {x : NV} (h : TreeIn W (Done root vO root []) t x) : TreeIn W (fun b => root ≤ b ∧ b ≠ root) t x := h.mono (fun b hb _ => ⟨hb.1, fun e => hb.2.1 (by rw [e]; simp [gsOf])⟩)
/-- A node is done: the state at the inner loop's head. -/
theorem InS.of_done {t : Tr} {x : NV} {ts : List Tr} (hpd : Pend W root root vO fl g o) (hc : KidCells W g o (cutT t) x) (ht : TreeIn W (Done root vO g fl) (cutT t) x) (hp : P3 W P s a nb) (ho : W.ownsRow root 153 1 vO fl.length (ptrs fl)) (hv : Vars W) (hk : Kept (fun b => b = P ∨ root ≤ b) w W)
    (hz : B5 W w.heap.size 25 (.string ⟨#[]⟩) (.string ⟨#[]⟩) (.string ⟨#[]⟩) (.slice none 0 0) (.slice none 0 0)) (ha : a ≤ s.size) (hP : P < w.heap.size) (hP4 : 4 ≤ P) (hroot : root = w.heap.size + 1) (e1 : fl.map FM.t = ts.map cutT) (e2 : R0 = unwind ts (.ok t (restL s a))) (hN : N ≤ 4096) (hcnt : nb + cntK (restL s a) ≤ N ∧ fl.length ≤ nb) (hfew : ∀ f ∈ fl, f.t.kids.length + 1 ≤ nb) :
    ∃ fl', fl'.length = fl.length ∧ InS P s root N R0 w W fl' a nb vO := by
  cases fl with
  | nil =>
    have hts : ts = [] := by cases ts with | nil => rfl | cons y q => simp at e1
    obtain ⟨rfl, rfl⟩ := hpd.low
    subst hts
    exact ⟨[], rfl, t, x, hp, hc, done_root ht, hk, hz, ha, hroot, e2⟩
  | cons f fs =>
    cases ts with
    | nil => simp at e1
    | cons tf ts =>
      simp only [List.map_cons, List.cons.injEq] at e1
      have htop := hpd.done hc ht
      have hf := hfew f (by simp)
      refine ⟨⟨addK f.t (cutT t), f.g, f.o, f.x⟩ :: fs, rfl, hp, htop, ho, hv, hk, hz, ha, hP, hP4, hroot, ⟨addK tf t, ts, ?_, e1.2, by rw [e2, unwind_ok], .inr (.inl ?_)⟩, hN, ⟨hcnt.1, by have := hcnt.2; simp only [List.length_cons] at this; omega⟩, ?_, fun h hh => hfew h (by simp [hh])⟩
      · show addK f.t (cutT t) = cutT (addK tf t)
        rw [cutT_add, e1.1]
      · rw [addK_kids]; simp
      · show (addK f.t (cutT t)).kids.length ≤ nb
        rw [addK_kids]; simp; omega
/-- A node without an end of its own was read. -/
theorem InS.of_leaf (h : PeS P s root N R0 w W fl g o a nb vO) {t : Tr} (hst : startP (restL s a) = .ok (false, t) (restL s a')) (ha' : a' ≤ s.size) (hp : P3 W' P s a' nb) (hn : NodAt W' g o t.tag t.key t.text vA (.slice none 0 0)) (ho : W'.ownsRow W.heap.size 63 2 vA (kept65 t.as).length (ats (kept65 t.as))) (hb : Nbr g o W W') (hk : Kept (fun k => k = P ∨ k = g) W W') : ∃ fl', fl'.length = fl.length ∧ InS P s root N R0 w W' fl' a' nb vO := by
  obtain ⟨hpd, x, hc, ht⟩ := h.leaf hst ha' hn ho hb hk
  have hP := h.hP; have hP4 := h.hP4; have hroot := h.hroot
  have hg := h.pend.bnd g (by simp [gsOf])
  have hOb : ∀ b, OwnB vO b → root ≤ b := fun b e => (h.opn.lt b e).1
  obtain ⟨ts, e1, e2⟩ := h.hR
  have hsk := (start_kid hst).2
  have hcnt := h.cnt.1
  exact InS.of_done hpd hc ht hp (hk.own h.opn (fun b e e' => by
    rcases e' with e' | e'
    · have := hOb b e; omega
    · rw [e'] at e; exact hg.2.2 e)) (vars_more h.v hk (fun b e => by rcases e with e | e <;> omega)) (kept_more h.k hk (fun b e => by rcases e with e | e; exact .inl e; exact .inr (by omega))) (h.z.kept hk (fun e => by rcases e with e | e <;> omega)) ha' hP hP4 hroot e1 (by rw [e2, unwind_leaf hst]) h.hN ⟨by omega, h.cnt.2.2⟩ h.few
theorem end1_suf {tag : ByteArray} {l l' : Bytes} {u : Unit} (h : end1P tag l = .ok u l') : l' <:+ l := by
  obtain ⟨u1, l1, h1, h⟩ := bnd_ok h
  obtain ⟨u2, l2, h2, h⟩ := bnd_ok h
  exact ((preP_suf h).1.trans (preP_suf h2).1).trans (preP_suf h1).1
/-- What an end says of the whole. -/
theorem ToS.rest (h : ToS P s root N R0 w W f fl a nb vO) (hkc : kidC (restL s a) = false) : ∃ (t : Tr) (ts : List Tr), f.t = cutT t ∧ fl.map FM.t = ts.map cutT ∧ R0 = unwind ts (bnd (end1P f.t.tag (restL s a)) fun _ l' => .ok t l') := by
  obtain ⟨t, ts, e1, e2, e3, h4⟩ := h.hR
  refine ⟨t, ts, e1, e2, ?_⟩
  rw [e3, rest_end hkc (by
    rcases h4 with h4 | h4 | h4
    · exact .inl h4
    · exact .inr h4
    · rw [hkc] at h4; cases h4), endP_1, e1, cutT_tag]
theorem ToS.keepP (h : ToS P s root N R0 w W f fl a nb vO) (hp : P3 W' P s a nb) (hk : Kept (· = P) W W') : ToS P s root N R0 w W' f fl a nb vO := by
  have hP := h.hP; have hroot := h.hroot; have hP4 := h.hP4
  exact ⟨hp, h.top.keepP hk (by omega), hk.own h.opn (fun b e e' => by have := (h.opn.lt b e).1; have e'' : b = P := e'; omega), vars_more h.v hk (fun b e => by have e' : b = P := e; omega), kept_more h.k hk (fun b e => .inl e), h.z.kept hk (fun e => by have e' : w.heap.size = P := e; omega), h.ha, h.hP, h.hP4, h.hroot, h.hR, h.hN, h.cnt, h.few⟩
/-- The last open node has had its end. -/
theorem InS.of_end {A : Option Addr} {cap : Nat} (h : ToS P s root N R0 w W f fl a nb (.slice A (fl.length + 1) cap)) (hkc : kidC (restL s a) = false) (he : end1P f.t.tag (restL s a) = .ok () (restL s a')) (ha' : a' ≤ s.size) (hp : P3 W' P s a' nb) (hk : Kept (· = P) W W') : ∃ fl', fl'.length = fl.length ∧ InS P s root N R0 w W' fl' a' nb (.slice A fl.length cap) := by
  have hP := h.hP; have hP4 := h.hP4; have hroot := h.hroot
  obtain ⟨t, ts, e1, e2, e3⟩ := h.rest hkc
  rw [he] at e3
  have htop := ((h.top.keepP hk (by omega)).open (Kept.refl _ W') (own_fresh (n' := fl.length) (c' := cap)))
  obtain ⟨hpd, hc, ht⟩ := htop.pop
  rw [e1] at hc ht
  have hcs := cntK_suf (end1_suf he)
  have hcnt := h.cnt.1
  have hopn := hk.own h.opn (fun b e e' => by have := (h.opn.lt b e).1; have e'' : b = P := e'; omega)
  exact InS.of_done hpd hc ht hp (own_pop hopn) (vars_more h.v hk (fun b e => by have e' : b = P := e; omega)) (kept_more h.k hk (fun b e => .inl e)) (h.z.kept hk (fun e => by have e' : w.heap.size = P := e; omega)) ha' hP hP4 hroot e2 e3 h.hN ⟨by omega, h.cnt.2⟩ h.few.2
/-- A kid more is to be read. -/
theorem PeS.of_kid {g' c' : Nat} {xs : List Value} (h : ToS P s root N R0 w W f fl a nb vO) (hkc : kidC (restL s a) = true) (hxs : W.ownsRow root 25 5 (.slice f.x.K f.t.kids.length f.x.ck) f.t.kids.length xs) (hp : P3 W' P s a (nb + 1)) (hnod : NodAt W' f.g f.o f.t.tag f.t.key f.t.text (.slice f.x.A f.t.as.length f.x.ca) (.slice (some ⟨g', 0, none⟩) (f.t.kids.length + 1) c'))
    (hrow : W'.ownsRow root 25 5 (.slice (some ⟨g', 0, none⟩) (f.t.kids.length + 1) c') (f.t.kids.length + 1) (xs ++ zeroN)) (hf : Fresh W (.slice f.x.K f.t.kids.length f.x.ck) (.slice (some ⟨g', 0, none⟩) (f.t.kids.length + 1) c')) (hk : Kept (fun k => k = P ∨ k = f.g ∨ OwnB (.slice f.x.K f.t.kids.length f.x.ck) k) W W') (hN : Nbr f.g f.o W W') :
    ∃ fl', fl'.length = fl.length + 1 ∧ PeS P s root N R0 w W' fl' g' (f.t.kids.length * 5) a (nb + 1) vO := by
  have hP := h.hP; have hP4 := h.hP4; have hroot := h.hroot
  have hg := h.top.bnd f.g (by simp [gsOf])
  have hk0 : Kept (fun k => k = P ∨ k = f.g ∨ OwnB (.slice f.x.K 0 0) k) W W' := hk.mono (fun k _ e => by
    rcases e with e | e | e
    · exact .inl e
    · exact .inr (.inl e)
    · exact .inr (.inr (own_any.1 e)))
  have hpd := h.top.kid (P := P) (xs' := xs ++ zeroN) (by omega) (fun b e => (h.opn.lt b e).2) hk0 hN hnod hrow (fun ys hys j hj => by
    have e : ys = xs := by
      have hl1 := hys.1; have hl2 := hxs.1
      obtain ⟨A, c, hv, n1, n2, n3, n4⟩ := own_parts hys (by decide)
      obtain ⟨A', c', hv', m1, m2, m3, m4⟩ := own_parts hxs (by decide)
      apply List.ext_getElem?
      intro i
      rcases Nat.lt_or_ge i (f.t.kids.length * 5) with hi | hi
      · obtain ⟨b, hb, _, _, hc⟩ := n4 (by omega)
        obtain ⟨b', hb', _, _, hc'⟩ := m4 (by omega)
        have hA : A = A' := by
          rw [hv] at hv'
          simp only [Value.slice.injEq] at hv'
          exact hv'.1
        have hbb : b = b' := by rw [hA, hb'] at hb; simpa using hb.symm
        rw [← hc i hi, ← hc' i hi, hbb]
      · rw [List.getElem?_eq_none (by omega), List.getElem?_eq_none (by omega)]
    rw [e, List.getElem?_append_left (by rw [hxs.1]; exact hj)]) (fun b hb e => own_any.1 (hf b hb (by rw [e]; rfl)))
  have hKb : ∀ b, OwnB (.slice f.x.K f.t.kids.length f.x.ck) b → root ≤ b := fun b e => (hxs.lt b e).1
  have hT : ∀ b, (b = P ∨ b = f.g ∨ OwnB (.slice f.x.K f.t.kids.length f.x.ck) b) → b = P ∨ root ≤ b := fun b e => by
    rcases e with e | e | e
    · exact .inl e
    · exact .inr (by omega)
    · exact .inr (hKb b e)
  have hzat : ∀ i, i < 5 → W'.cell? ⟨g', f.t.kids.length * 5 + i, none⟩ = zeroN[i]? := fun i hi => by
    rw [World.ownsRow.cellAt hrow (f.t.kids.length * 5 + i) (by omega), List.getElem?_append_right (by rw [hxs.1]; omega), hxs.1, show f.t.kids.length * 5 + i - f.t.kids.length * 5 = i by omega]
  obtain ⟨t, ts, e1, e2, e3, _⟩ := h.hR
  have hcnt := h.cnt.1; have hdep := h.cnt.2
  have hc1 : 1 ≤ cntK (restL s a) := by
    cases hr : restL s a with
    | nil => rw [hr] at hkc; cases hkc
    | cons c r => rw [hr] at hkc; rw [cntK, hkc]; simp
  refine ⟨_, ?_, hp, hpd, ⟨hzat 0 (by omega), hzat 1 (by omega), hzat 2 (by omega), hzat 3 (by omega), hzat 4 (by omega), fun j => World.ownsRow.frozenAt hrow j⟩, ?_, vars_more h.v hk (fun b e => by have := hT b e; omega), kept_more h.k hk hT, h.z.kept hk (fun e => by have := hT _ e; omega), h.ha, hP, hP4, hroot, ⟨t :: ts, ?_, by rw [e3, unwind_kid hkc]⟩, h.hN, ⟨by omega, by omega, by simp only [List.length_cons]; omega⟩, ?_⟩
  · simp
  · have := hk.own h.opn (fun b e e' => by
      rcases e' with e' | e' | e'
      · have := (h.opn.lt b e).1; omega
      · rw [e'] at e; exact hg.2.2 e
      · exact (h.top.own b (own_any.1 e')).2 e)
    simp only [List.length_cons]
    exact this
  · simp only [List.map_cons, e1, e2]
  · intro h' hh
    rcases List.mem_cons.1 hh with rfl | hh
    · have := h.few.1; show f.t.kids.length + 1 ≤ nb + 1; omega
    · have := h.few.2 h' hh; omega
end
end Go.Proofs.YtjnhcoflmechmaaGreatDoor.M
