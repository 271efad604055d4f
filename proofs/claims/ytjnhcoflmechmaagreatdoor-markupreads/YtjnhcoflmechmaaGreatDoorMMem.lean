/-
  markup's parser: a tree whose blocks lie in a set; the open nodes in memory.
-/
import Derived.Test.YtjnhcoflmechmaaGreatDoorMCut
import Derived.Test.YtjnhcoflmechmaaGreatDoorMAttr
namespace Go.Proofs.YtjnhcoflmechmaaGreatDoor.M
open Go.RowKit Go.Sort
set_option linter.unusedVariables false
set_option maxRecDepth 100000
/-- A slice of attributes in blocks of a set. -/
def ARowS (w : World) (S : Nat → Prop) (A : Option Addr) (l : List At) : Prop :=
  0 < l.length → ∃ b off, A = some ⟨b, off, none⟩ ∧ S b ∧ b < w.heap.size ∧ ∀ j, (hj : j < l.length) → w.cell? ⟨b, off + j * 2, none⟩ = some (.string l[j].1) ∧ w.cell? ⟨b, off + j * 2 + 1, none⟩ = some (.string l[j].2)
theorem ARowS.kept {w w' : World} {S T : Nat → Prop} {A : Option Addr} {l : List At} (h : ARowS w S A l) (hk : Kept T w w') (hT : ∀ b, S b → b < w.heap.size → ¬ T b) : ARowS w' S A l := by
  intro h0
  obtain ⟨b, off, hA, hb, hlt, hc⟩ := h h0
  exact ⟨b, off, hA, hb, Nat.lt_of_lt_of_le hlt hk.size, fun j hj => ⟨hk.cellOf (hc j hj).1 (hT b hb hlt), hk.cellOf (hc j hj).2 (hT b hb hlt)⟩⟩
theorem ARowS.mono {w : World} {S S' : Nat → Prop} {A : Option Addr} {l : List At} (h : ARowS w S A l) (hS : ∀ b, S b → b < w.heap.size → S' b) : ARowS w S' A l := by
  intro h0
  obtain ⟨b, off, hA, hb, hlt, hc⟩ := h h0
  exact ⟨b, off, hA, hS b hb hlt, hlt, hc⟩
theorem ARowS.at {w : World} {S : Nat → Prop} {A : Option Addr} {l : List At} (h : ARowS w S A l) : TRow w w.heap.size A l := by
  intro h0
  obtain ⟨b, off, hA, hb, hlt, hc⟩ := h h0
  exact ⟨b, off, hA, hlt, hc⟩
/-- A tree whose memory lies in blocks of a set. -/
inductive TreeIn (w : World) (S : Nat → Prop) : Tr → NV → Prop
  | mk {t : Tr} {x : NV} (X : Nat → NV) (att : ARowS w S x.A t.as) (h1 : t.as.length ≤ x.ca) (h2 : x.ca ≤ maxLen) (h3 : x.A = none → x.ca = 0) (h4 : t.kids.length ≤ x.ck) (h5 : x.ck ≤ maxLen) (h6 : x.K = none → x.ck = 0)
      (row : 0 < t.kids.length → ∃ b off, x.K = some ⟨b, off, none⟩ ∧ S b ∧ b < w.heap.size ∧ ∀ j, (h : j < t.kids.length) → KidCells w b (off + j * 5) t.kids[j] (X j))
      (sub : ∀ j, (h : j < t.kids.length) → TreeIn w S t.kids[j] (X j)) : TreeIn w S t x
theorem TreeIn.kept {w w' : World} {S T : Nat → Prop} {t : Tr} {x : NV} (h : TreeIn w S t x) (hk : Kept T w w') (hT : ∀ b, S b → b < w.heap.size → ¬ T b) : TreeIn w' S t x := by
  induction h with
  | mk X att h1 h2 h3 h4 h5 h6 row sub ih =>
    refine .mk X (att.kept hk hT) h1 h2 h3 h4 h5 h6 (fun h0 => ?_) ih
    obtain ⟨b, off, hK, hb, hlt, hc⟩ := row h0
    exact ⟨b, off, hK, hb, Nat.lt_of_lt_of_le hlt hk.size, fun j hj => (hc j hj).kept hk (hT b hb hlt)⟩
theorem TreeIn.mono {w : World} {S S' : Nat → Prop} {t : Tr} {x : NV} (h : TreeIn w S t x) (hS : ∀ b, S b → b < w.heap.size → S' b) : TreeIn w S' t x := by
  induction h with
  | mk X att h1 h2 h3 h4 h5 h6 row sub ih =>
    refine .mk X (att.mono hS) h1 h2 h3 h4 h5 h6 (fun h0 => ?_) ih
    obtain ⟨b, off, hK, hb, hlt, hc⟩ := row h0
    exact ⟨b, off, hK, hS b hb hlt, hlt, hc⟩
theorem TreeIn.at {w : World} {S : Nat → Prop} {t : Tr} {x : NV} (h : TreeIn w S t x) : TreeAt w w.heap.size t x := by
  induction h with
  | mk X att h1 h2 h3 h4 h5 h6 row sub ih =>
    refine .mk X att.at h1 h2 h3 h4 h5 h6 (fun h0 => ?_) ih
    obtain ⟨b, off, hK, hb, hlt, hc⟩ := row h0
    exact ⟨b, off, hK, hlt, hc⟩
theorem Nbr.own {g o : Nat} {W W' : World} (h : Nbr g o W W') {base e size n cap : Nat} {xs : List Value} (ho : W.ownsRow base e size (.slice (some ⟨g, 0, none⟩) n cap) n xs) : ∃ xs', W'.ownsRow base e size (.slice (some ⟨g, 0, none⟩) n cap) n xs' := by
  rcases ho.2 with ⟨h', _⟩ | ⟨g', cap', cur, h', hb, hg, hnc, hcm, hcs, htake⟩
  · simp at h'
  · simp only [Value.slice.injEq, Option.some.injEq, Addr.mk.injEq, and_true, true_and] at h'
    obtain ⟨rfl, rfl⟩ := h'
    obtain ⟨cur', e1, s1, _⟩ := h cur e hg
    have hle : n * size ≤ cap * size := Nat.mul_le_mul_right _ hnc
    exact ⟨cur'.toList.take (n * size), by rw [List.length_take, Array.length_toList]; omega, .inr ⟨g, cap, cur', rfl, hb, e1, hnc, hcm, by omega, rfl⟩⟩
theorem Nbr.cell {g o : Nat} {W W' : World} (h : Nbr g o W W') {cur : Array Value} {ty : TypeId} (hg : W.heap[g]? = some (.cells cur ty (0, 0))) {j : Nat} (hj : j < o ∨ o + 5 ≤ j) : W'.cell? ⟨g, j, none⟩ = W.cell? ⟨g, j, none⟩ := by
  obtain ⟨cur', e1, s1, h1⟩ := h cur ty hg
  rw [cell_of_row W' g j cur' ty (0, 0) e1, cell_of_row W g j cur ty (0, 0) hg, h1 j hj]
theorem own_block {W : World} {base e size n cap g : Nat} {xs : List Value} (ho : W.ownsRow base e size (.slice (some ⟨g, 0, none⟩) n cap) n xs) : ∃ cur, W.heap[g]? = some (.cells cur e (0, 0)) := by
  rcases ho.2 with ⟨h', _⟩ | ⟨g', cap', cur, h', hb, hg, hnc, hcm, hcs, htake⟩
  · simp at h'
  · simp only [Value.slice.injEq, Option.some.injEq, Addr.mk.injEq, and_true, true_and] at h'
    obtain ⟨rfl, rfl⟩ := h'
    exact ⟨cur, hg⟩
/-- An open node: what was read of it, where it lies, where its two slices lie. -/
structure FM where
  t : Tr
  g : Nat
  o : Nat
  x : NV
/-- A node in memory whose slice of kids has n elements. -/
abbrev NodC (W : World) (g o : Nat) (t : Tr) (x : NV) (n : Nat) : Prop := NodAt W g o t.tag t.key t.text (.slice x.A t.as.length x.ca) (.slice x.K n x.ck)
def AttIn (W : World) (S : Nat → Prop) (t : Tr) (x : NV) : Prop := ARowS W S x.A t.as ∧ t.as.length ≤ x.ca ∧ x.ca ≤ maxLen ∧ (x.A = none → x.ca = 0)
def RowIn (W : World) (base : Nat) (S : Nat → Prop) (K : Option Addr) (ck : Nat) (ks : List Tr) (n : Nat) : Prop := (∃ xs, W.ownsRow base 25 5 (.slice K n ck) n xs) ∧ ∃ X : Nat → NV, ∀ j, (hj : j < ks.length) → (∀ b, K = some ⟨b, 0, none⟩ → KidCells W b (j * 5) ks[j] (X j)) ∧ TreeIn W S ks[j] (X j)
theorem AttIn.kept {w w' : World} {S T : Nat → Prop} {t : Tr} {x : NV} (h : AttIn w S t x) (hk : Kept T w w') (hT : ∀ b, S b → b < w.heap.size → ¬ T b) : AttIn w' S t x := ⟨h.1.kept hk hT, h.2⟩
theorem AttIn.mono {w : World} {S S' : Nat → Prop} {t : Tr} {x : NV} (h : AttIn w S t x) (hS : ∀ b, S b → b < w.heap.size → S' b) : AttIn w S' t x := ⟨h.1.mono hS, h.2⟩
theorem RowIn.mono {w : World} {base : Nat} {S S' : Nat → Prop} {K : Option Addr} {ck n : Nat} {ks : List Tr} (h : RowIn w base S K ck ks n) (hS : ∀ b, S b → b < w.heap.size → S' b) : RowIn w base S' K ck ks n := by
  obtain ⟨h1, X, h2⟩ := h
  exact ⟨h1, X, fun j hj => ⟨(h2 j hj).1, (h2 j hj).2.mono hS⟩⟩
/-- Below n0, none of the row's block turns. -/
theorem RowIn.kept {w w' : World} {base : Nat} {S T : Nat → Prop} {K : Option Addr} {ck n : Nat} {ks : List Tr} (h : RowIn w base S K ck ks n) (hk : Kept T w w') (hT : ∀ b, S b → b < w.heap.size → ¬ T b) (hK : ∀ b, OwnB (.slice K n ck) b → ¬ T b) : RowIn w' base S K ck ks n := by
  obtain ⟨⟨xs, h1⟩, X, h2⟩ := h
  refine ⟨⟨xs, hk.own h1 hK⟩, X, fun j hj => ⟨fun b hb => ((h2 j hj).1 b hb).kept hk (hK b (by rw [hb]; rfl)), (h2 j hj).2.kept hk hT⟩⟩
/-- As before, but the node at (g, o) behind the kids turns. -/
theorem RowIn.nbr {w w' : World} {base : Nat} {S T : Nat → Prop} {g o ck n : Nat} {ks : List Tr} (h : RowIn w base S (some ⟨g, 0, none⟩) ck ks n) (hk : Kept T w w') (hT : ∀ b, S b → b < w.heap.size → ¬ T b) (hN : Nbr g o w w') (ho : o = ks.length * 5) : RowIn w' base S (some ⟨g, 0, none⟩) ck ks n := by
  obtain ⟨⟨xs, h1⟩, X, h2⟩ := h
  obtain ⟨cur, hg⟩ := own_block h1
  refine ⟨hN.own h1, X, fun j hj => ⟨fun b hb => ?_, (h2 j hj).2.kept hk hT⟩⟩
  obtain rfl : g = b := by simpa using hb
  obtain ⟨c0, c1, c2, c3, c4⟩ := (h2 j hj).1 g rfl
  exact ⟨(hN.cell hg (by omega)).trans c0, (hN.cell hg (by omega)).trans c1, (hN.cell hg (by omega)).trans c2, (hN.cell hg (by omega)).trans c3, (hN.cell hg (by omega)).trans c4⟩
/-- An open node whose last kid lies at (g, o) and is open, or is being read. -/
structure LowF (W : World) (base : Nat) (S : Nat → Prop) (f : FM) (g o : Nat) : Prop where
  nod : NodC W f.g f.o f.t f.x (f.t.kids.length + 1)
  att : AttIn W S f.t f.x
  hK : f.x.K = some ⟨g, 0, none⟩
  ho : o = f.t.kids.length * 5
  row : RowIn W base S (some ⟨g, 0, none⟩) f.x.ck f.t.kids (f.t.kids.length + 1)
def Low (W : World) (base : Nat) (S : Nat → Prop) (root : Nat) : List FM → Nat → Nat → Prop
  | [], g, o => g = root ∧ o = 0
  | f :: fs, g, o => LowF W base S f g o ∧ Low W base S root fs f.g f.o
def gsOf (g : Nat) (fs : List FM) : List Nat := g :: fs.map FM.g
theorem low_mono {W : World} {base : Nat} {S S' : Nat → Prop} {root : Nat} (hS : ∀ b, S b → b < W.heap.size → S' b) : ∀ (fs : List FM) (g o : Nat), Low W base S root fs g o → Low W base S' root fs g o
  | [], g, o, h => h
  | f :: fs, g, o, h => ⟨⟨h.1.nod, h.1.att.mono hS, h.1.hK, h.1.ho, h.1.row.mono hS⟩, low_mono hS fs f.g f.o h.2⟩
/-- The open nodes stand when only other blocks turn. -/
theorem low_kept {W W' : World} {base : Nat} {S T : Nat → Prop} {root : Nat} (hk : Kept T W W') (hT : ∀ b, S b → b < W.heap.size → ¬ T b) : ∀ (fs : List FM) (g o : Nat), (∀ b ∈ gsOf g fs, ¬ T b) → Low W base S root fs g o → Low W' base S root fs g o
  | [], g, o, _, h => h
  | f :: fs, g, o, hm, h => by
    have hg : ¬ T g := hm g (by simp [gsOf])
    have hf : ¬ T f.g := hm f.g (by simp [gsOf])
    refine ⟨⟨h.1.nod.kept hk hf, h.1.att.kept hk hT, h.1.hK, h.1.ho, h.1.row.kept hk hT (fun b hb => ?_)⟩, low_kept hk hT fs f.g f.o (fun b hb => hm b ?_) h.2⟩
    · obtain rfl : g = b := Option.some.inj hb
      exact hg
    · simp only [gsOf, List.mem_cons, List.map_cons] at hb ⊢
      exact .inr hb
/-- The same where the node at (g, o) turns. -/
theorem low_nbr {W W' : World} {base : Nat} {S T : Nat → Prop} {root : Nat} (hk : Kept T W W') (hT : ∀ b, S b → b < W.heap.size → ¬ T b) {fs : List FM} {g o : Nat} (hN : Nbr g o W W') (hm : ∀ b ∈ fs.map FM.g, ¬ T b) (h : Low W base S root fs g o) : Low W' base S root fs g o := by
  cases fs with
  | nil => exact h
  | cons f fs =>
    exact ⟨⟨h.1.nod.kept hk (hm f.g (by simp)), h.1.att.kept hk hT, h.1.hK, h.1.ho, h.1.row.nbr hk hT hN h.1.ho⟩, low_kept hk hT fs f.g f.o (fun b hb => hm b (by simpa [gsOf] using hb)) h.2⟩
/-- The blocks that do not turn any more. -/
def Done (base : Nat) (vO : Value) (g : Nat) (fs : List FM) (b : Nat) : Prop := base ≤ b ∧ b ∉ gsOf g fs ∧ ¬ OwnB vO b
/-- The open nodes fs, the node that is being read at (g, o). -/
structure Pend (W : World) (base root : Nat) (vO : Value) (fs : List FM) (g o : Nat) : Prop where
  low : Low W base (Done base vO g fs) root fs g o
  nodup : (gsOf g fs).Nodup
  bnd : ∀ b ∈ gsOf g fs, base ≤ b ∧ b < W.heap.size ∧ ¬ OwnB vO b
/-- The open nodes, all of whose kids are done but for the open ones. -/
structure Top (W : World) (base root : Nat) (vO : Value) (f : FM) (fs : List FM) : Prop where
  nod : NodC W f.g f.o f.t f.x f.t.kids.length
  att : AttIn W (fun b => Done base vO f.g fs b ∧ ¬ OwnB (.slice f.x.K 0 0) b) f.t f.x
  row : RowIn W base (fun b => Done base vO f.g fs b ∧ ¬ OwnB (.slice f.x.K 0 0) b) f.x.K f.x.ck f.t.kids f.t.kids.length
  own : ∀ b, OwnB (.slice f.x.K 0 0) b → b ∉ gsOf f.g fs ∧ ¬ OwnB vO b
  low : Low W base (fun b => Done base vO f.g fs b ∧ ¬ OwnB (.slice f.x.K 0 0) b) root fs f.g f.o
  nodup : (gsOf f.g fs).Nodup
  bnd : ∀ b ∈ gsOf f.g fs, base ≤ b ∧ b < W.heap.size ∧ ¬ OwnB vO b
theorem own_any {K : Option Addr} {n c n' c' b : Nat} : OwnB (.slice K n c) b ↔ OwnB (.slice K n' c') b := by cases K <;> rfl
/-- The parser's box and new blocks alone turn. -/
theorem Pend.keepP {W W' : World} {base root P : Nat} {vO : Value} {fs : List FM} {g o : Nat} (h : Pend W base root vO fs g o) (hk : Kept (· = P) W W') (hP : P < base) : Pend W' base root vO fs g o :=
  ⟨low_kept hk (fun b hb _ e => by have := hb.1; omega) fs g o (fun b hb e => by have := (h.bnd b hb).1; omega) h.low, h.nodup, fun b hb => ⟨(h.bnd b hb).1, Nat.lt_of_lt_of_le (h.bnd b hb).2.1 hk.size, (h.bnd b hb).2.2⟩⟩
theorem Top.keepP {W W' : World} {base root P : Nat} {vO : Value} {f : FM} {fs : List FM} (h : Top W base root vO f fs) (hk : Kept (· = P) W W') (hP : P < base) : Top W' base root vO f fs := by
  have hT : ∀ b, (Done base vO f.g fs b ∧ ¬ OwnB (.slice f.x.K 0 0) b) → b < W.heap.size → ¬ b = P := fun b hb _ e => by have := hb.1.1; omega
  obtain ⟨⟨xs, h1⟩, h2⟩ := h.row
  exact ⟨h.nod.kept hk (fun e => by have := (h.bnd f.g (by simp [gsOf])).1; omega), h.att.kept hk hT, h.row.kept hk hT (fun b hb e => by have := (h1.lt b hb).1; omega), h.own, low_kept hk hT fs f.g f.o (fun b hb e => by have := (h.bnd b hb).1; omega) h.low, h.nodup, fun b hb => ⟨(h.bnd b hb).1, Nat.lt_of_lt_of_le (h.bnd b hb).2.1 hk.size, (h.bnd b hb).2.2⟩⟩
/-- The node that is being read turns. -/
theorem Pend.read {W W' : World} {base root P : Nat} {vO : Value} {fs : List FM} {g o : Nat} (h : Pend W base root vO fs g o) (hk : Kept (fun k => k = P ∨ k = g) W W') (hP : P < base) (hN : Nbr g o W W') : Pend W' base root vO fs g o := by
  refine ⟨low_nbr hk (fun b hb _ e => ?_) hN (fun b hb e => ?_) h.low, h.nodup, fun b hb => ⟨(h.bnd b hb).1, Nat.lt_of_lt_of_le (h.bnd b hb).2.1 hk.size, (h.bnd b hb).2.2⟩⟩
  · rcases e with e | e
    · have := hb.1; omega
    · exact hb.2.1 (by rw [e]; simp [gsOf])
  · rcases e with e | e
    · have := (h.bnd b (by simp only [gsOf, List.mem_cons]; exact .inr hb)).1; omega
    · have := (List.nodup_cons.1 h.nodup).1
      rw [e] at hb
      exact this hb
/-- The row of the open nodes' pointers turns. -/
theorem Pend.open {W W' : World} {base root : Nat} {vO vO' : Value} {fs : List FM} {g o : Nat} (h : Pend W base root vO fs g o) (hk : Kept (OwnB vO) W W') (hf : Fresh W vO vO') : Pend W' base root vO' fs g o := by
  have h1 : Low W base (fun b => Done base vO g fs b ∧ b < W.heap.size) root fs g o := low_mono (fun b hb hlt => ⟨hb, hlt⟩) fs g o h.low
  have h2 := low_kept hk (fun b hb hlt e => hb.1.2.2 e) fs g o (fun b hb e => (h.bnd b hb).2.2 e) h1
  exact ⟨low_mono (fun b hb _ => ⟨hb.1.1, hb.1.2.1, fun e => hb.1.2.2 (hf b hb.2 e)⟩) fs g o h2, h.nodup, fun b hb => ⟨(h.bnd b hb).1, Nat.lt_of_lt_of_le (h.bnd b hb).2.1 hk.size, fun e => (h.bnd b hb).2.2 (hf b (h.bnd b hb).2.1 e)⟩⟩
theorem NodAt.cells {W : World} {g o n : Nat} {t : Tr} {x : NV} (h : NodC W g o t x n) (hn : n = t.kids.length) : KidCells W g o t x := by subst hn; exact ⟨h.c0, h.c1, h.c2, h.c3, h.c4⟩
/-- The node that was read is open: it has an end of its own. -/
theorem Pend.push {W : World} {base root : Nat} {vO : Value} {fs : List FM} {g o : Nat} {t : Tr} {x : NV} (h : Pend W base root vO fs g o) (hn : NodC W g o t x 0) (hk : t.kids = []) (hx : x.K = none ∧ x.ck = 0) (ha : AttIn W (Done base vO g fs) t x) : Top W base root vO ⟨t, g, o, x⟩ fs := by
  have hno : ∀ b, ¬ OwnB (.slice x.K 0 0) b := fun b e => by rw [hx.1] at e; cases e
  have hl : t.kids.length = 0 := by rw [hk]; rfl
  refine ⟨by rw [show (FM.mk t g o x).t.kids.length = 0 from hl]; exact hn, ha.mono (fun b hb _ => ⟨hb, hno b⟩), ⟨⟨[], ?_⟩, fun _ => x, fun j hj => ?_⟩, fun b e => absurd e (hno b), low_mono (fun b hb _ => ⟨hb, hno b⟩) fs g o h.low, h.nodup, h.bnd⟩
  · show W.ownsRow base 25 5 (.slice x.K t.kids.length x.ck) t.kids.length []
    rw [hx.1, hx.2, hl]
    exact World.ownsRow_nil W base 25 5
  · have hj' : j < t.kids.length := hj
    omega
/-- The node that was read is done. -/
theorem Pend.done {W : World} {base root : Nat} {vO : Value} {f : FM} {fs : List FM} {g o : Nat} {t : Tr} {x : NV} (h : Pend W base root vO (f :: fs) g o) (hc : KidCells W g o t x) (ht : TreeIn W (Done base vO g (f :: fs)) t x) : Top W base root vO ⟨addK f.t t, f.g, f.o, f.x⟩ fs := by
  obtain ⟨hL, hlow⟩ := h.low
  have hK := hL.hK
  have hS : ∀ b, Done base vO g (f :: fs) b → Done base vO f.g fs b ∧ ¬ OwnB (.slice f.x.K 0 0) b := fun b hb => by
    refine ⟨⟨hb.1, fun e => hb.2.1 ?_, hb.2.2⟩, fun e => hb.2.1 ?_⟩
    · simp only [gsOf, List.map_cons, List.mem_cons] at e ⊢; exact .inr e
    · rw [hK] at e
      obtain rfl : g = b := Option.some.inj e
      simp [gsOf]
  have hlen : (addK f.t t).kids.length = f.t.kids.length + 1 := by rw [addK_kids]; simp
  have hnd := List.nodup_cons.1 h.nodup
  have e1 : (addK f.t t).tag = f.t.tag ∧ (addK f.t t).key = f.t.key ∧ (addK f.t t).text = f.t.text ∧ (addK f.t t).as = f.t.as := by cases f.t; exact ⟨rfl, rfl, rfl, rfl⟩
  refine ⟨?_, ?_, ?_, fun b e => ?_, low_mono (fun b hb _ => hS b hb) fs f.g f.o hlow, hnd.2, fun b hb => h.bnd b ?_⟩
  · show NodAt W f.g f.o (addK f.t t).tag (addK f.t t).key (addK f.t t).text (.slice f.x.A (addK f.t t).as.length f.x.ca) (.slice f.x.K (addK f.t t).kids.length f.x.ck)
    rw [hlen, e1.1, e1.2.1, e1.2.2.1, e1.2.2.2]
    exact hL.nod
  · have := hL.att.mono (fun b hb _ => hS b hb)
    unfold AttIn at this ⊢
    show ARowS W _ f.x.A (addK f.t t).as ∧ (addK f.t t).as.length ≤ f.x.ca ∧ _
    rw [e1.2.2.2]
    exact this
  · obtain ⟨h1, X, h2⟩ := hL.row
    show RowIn W base _ f.x.K f.x.ck (addK f.t t).kids (addK f.t t).kids.length
    rw [hlen, hK, addK_kids]
    refine ⟨h1, fun j => if j < f.t.kids.length then X j else x, fun j hj => ?_⟩
    rcases Nat.lt_or_ge j f.t.kids.length with hj1 | hj1
    · rw [List.getElem_append_left hj1]
      simp only [if_pos hj1]
      exact ⟨(h2 j hj1).1, (h2 j hj1).2.mono (fun b hb _ => by have := hS b hb; rw [hK] at this; exact this)⟩
    · have hje : j = f.t.kids.length := by simp at hj; omega
      subst hje
      simp only [Nat.lt_irrefl, if_false]
      have e : (f.t.kids ++ [t])[f.t.kids.length] = t := by simp
      rw [e]
      refine ⟨fun b hb => ?_, ht.mono (fun b hb _ => by have := hS b hb; rw [hK] at this; exact this)⟩
      obtain rfl : g = b := by simpa using hb
      rw [← hL.ho]; exact hc
  · have e' : OwnB (.slice f.x.K 0 0) b := e
    rw [hK] at e'
    obtain rfl : g = b := Option.some.inj e'
    exact ⟨hnd.1, (h.bnd g (by simp [gsOf])).2.2⟩
  · simp only [gsOf, List.map_cons, List.mem_cons] at hb ⊢
    exact .inr hb
/-- The last of the open nodes has its end. -/
theorem Top.pop {W : World} {base root : Nat} {vO : Value} {f : FM} {fs : List FM} (h : Top W base root vO f fs) : Pend W base root vO fs f.g f.o ∧ KidCells W f.g f.o f.t f.x ∧ TreeIn W (Done base vO f.g fs) f.t f.x := by
  have hS : ∀ b, (Done base vO f.g fs b ∧ ¬ OwnB (.slice f.x.K 0 0) b) → b < W.heap.size → Done base vO f.g fs b := fun b hb _ => hb.1
  refine ⟨⟨low_mono hS fs f.g f.o h.low, h.nodup, h.bnd⟩, h.nod.cells rfl, ?_⟩
  obtain ⟨a1, a2, a3, a4⟩ := h.att
  obtain ⟨⟨xs, h1⟩, X, h2⟩ := h.row
  obtain ⟨A, c, hv, n1, n2, n3, n4⟩ := own_parts h1 (by decide)
  simp only [Value.slice.injEq, true_and] at hv
  obtain ⟨hA, hc⟩ := hv
  subst hA; subst hc
  refine .mk X (a1.mono hS) a2 a3 a4 n1 n2 n3 (fun h0 => ?_) (fun j hj => (h2 j hj).2.mono hS)
  obtain ⟨b, hb, hbb, hlt, _⟩ := n4 h0
  have ho := h.own b (by rw [hb]; rfl)
  refine ⟨b, 0, hb, ⟨hbb, ho.1, ho.2⟩, hlt, fun j hj => ?_⟩
  rw [Nat.zero_add]
  exact (h2 j hj).1 b hb
/-- A kid more is to be read. -/
theorem Top.kid {W W' : World} {base root P g' ck' : Nat} {vO : Value} {f : FM} {fs : List FM} {xs' : List Value} (h : Top W base root vO f fs) (hP : P < base) (hO : ∀ b, OwnB vO b → b < W.heap.size) (hk : Kept (fun k => k = P ∨ k = f.g ∨ OwnB (.slice f.x.K 0 0) k) W W') (hN : Nbr f.g f.o W W')
    (hnod : NodC W' f.g f.o f.t ⟨f.x.A, f.x.ca, some ⟨g', 0, none⟩, ck'⟩ (f.t.kids.length + 1)) (hrow : W'.ownsRow base 25 5 (.slice (some ⟨g', 0, none⟩) (f.t.kids.length + 1) ck') (f.t.kids.length + 1) xs')
    (hold : ∀ xs, W.ownsRow base 25 5 (.slice f.x.K f.t.kids.length f.x.ck) f.t.kids.length xs → ∀ j, j < f.t.kids.length * 5 → xs'[j]? = xs[j]?)
    (hf : ∀ b, b < W.heap.size → b = g' → OwnB (.slice f.x.K 0 0) b) :
    Pend W' base root vO (⟨f.t, f.g, f.o, ⟨f.x.A, f.x.ca, some ⟨g', 0, none⟩, ck'⟩⟩ :: fs) g' (f.t.kids.length * 5) := by
  have hg' : base ≤ g' ∧ g' < W'.heap.size := hrow.lt g' rfl
  have hng : g' ∉ gsOf f.g fs := fun e => by
    have h1 := h.bnd g' e
    exact (h.own g' (hf g' h1.2.1 rfl)).1 e
  have hgO : ¬ OwnB vO g' → True := fun _ => trivial
  let S : Nat → Prop := fun b => (Done base vO f.g fs b ∧ ¬ OwnB (.slice f.x.K 0 0) b) ∧ b < W.heap.size
  have hST : ∀ b, S b → b < W.heap.size → ¬ (b = P ∨ b = f.g ∨ OwnB (.slice f.x.K 0 0) b) := fun b hb _ e => by
    rcases e with e | e | e
    · have := hb.1.1.1; omega
    · exact hb.1.1.2.1 (by rw [e]; simp [gsOf])
    · exact hb.1.2 e
  have hSS : ∀ b, S b → Done base vO g' (⟨f.t, f.g, f.o, ⟨f.x.A, f.x.ca, some ⟨g', 0, none⟩, ck'⟩⟩ :: fs) b := fun b hb => by
    refine ⟨hb.1.1.1, fun e => ?_, hb.1.1.2.2⟩
    simp only [gsOf, List.map_cons, List.mem_cons] at e
    rcases e with e | e
    · exact hb.1.2 (hf b hb.2 e)
    · exact hb.1.1.2.1 (by simp only [gsOf, List.mem_cons]; exact e)
  have hfg : ∀ b ∈ fs.map FM.g, ¬ (b = P ∨ b = f.g ∨ OwnB (.slice f.x.K 0 0) b) := fun b hb e => by
    have hbm : b ∈ gsOf f.g fs := by simp only [gsOf, List.mem_cons]; exact .inr hb
    rcases e with e | e | e
    · have := (h.bnd b hbm).1; omega
    · exact (List.nodup_cons.1 h.nodup).1 (by rw [← e]; exact hb)
    · exact (h.own b e).1 hbm
  have hlow := low_mono (S' := fun b => Done base vO g' (⟨f.t, f.g, f.o, ⟨f.x.A, f.x.ca, some ⟨g', 0, none⟩, ck'⟩⟩ :: fs) b) (fun b hb _ => hSS b hb) fs f.g f.o (low_nbr hk hST hN hfg (low_mono (S' := S) (fun b hb hlt => ⟨hb, hlt⟩) fs f.g f.o h.low))
  have hatt : AttIn W' (Done base vO g' (⟨f.t, f.g, f.o, ⟨f.x.A, f.x.ca, some ⟨g', 0, none⟩, ck'⟩⟩ :: fs)) f.t ⟨f.x.A, f.x.ca, some ⟨g', 0, none⟩, ck'⟩ := ((h.att.mono (S' := S) (fun b hb hlt => ⟨hb, hlt⟩)).kept hk hST).mono (fun b hb _ => hSS b hb)
  obtain ⟨⟨xs, h1⟩, X, h2⟩ := h.row
  have hcells := hold xs h1
  refine ⟨⟨⟨hnod, hatt, rfl, rfl, ⟨xs', hrow⟩, X, fun j hj => ⟨fun b hb' => ?_, (((h2 j hj).2.mono (S' := S) (fun b hb hlt => ⟨hb, hlt⟩)).kept hk hST).mono (fun b hb _ => hSS b hb)⟩⟩, hlow⟩, ?_, fun b hb' => ?_⟩
  · obtain rfl : g' = b := by simpa using hb'
    have hj' : j < f.t.kids.length := hj
    obtain ⟨A, c, hv, n1, n2, n3, n4⟩ := own_parts h1 (by decide)
    simp only [Value.slice.injEq, true_and] at hv
    obtain ⟨b, hb2, _, _, hc⟩ := n4 (by omega)
    have hkb : f.x.K = some ⟨b, 0, none⟩ := hv.1.trans hb2
    obtain ⟨c0, c1, c2, c3, c4⟩ := (h2 j hj).1 b hkb
    have key : ∀ i, i < 5 → W'.cell? ⟨g', j * 5 + i, none⟩ = W.cell? ⟨b, j * 5 + i, none⟩ := fun i hi => by
      rw [World.ownsRow.cellAt hrow (j * 5 + i) (by omega), hcells (j * 5 + i) (by omega), hc (j * 5 + i) (by omega)]
    exact ⟨(key 0 (by omega)).trans c0, (key 1 (by omega)).trans c1, (key 2 (by omega)).trans c2, (key 3 (by omega)).trans c3, (key 4 (by omega)).trans c4⟩
  · refine List.nodup_cons.2 ⟨hng, h.nodup⟩
  · simp only [gsOf, List.map_cons, List.mem_cons] at hb'
    rcases hb' with rfl | hb'
    · refine ⟨hg'.1, hg'.2, fun e => ?_⟩
      rcases Nat.lt_or_ge b W.heap.size with h3 | h3
      · exact (h.own b (hf b h3 rfl)).2 e
      · have := hO b e; omega
    · have := h.bnd b (by simp only [gsOf, List.mem_cons]; exact hb')
      exact ⟨this.1, Nat.lt_of_lt_of_le this.2.1 hk.size, this.2.2⟩
end Go.Proofs.YtjnhcoflmechmaaGreatDoor.M
