/-
  The reference parser of markup: what stands ahead of a node's kids: its mathematics and its memory. | The reference parser of markup: what stands ahead of a node's kids: the walk. | The reference parser of markup: a node with all below it: its mathematics and its memory. | The reference parser of markup: a node with all below it: the walk. | tendrilref15.Parse: what it answers. | The law MarkupReads, walked.
-/
import Derived.Test.YtjnhcoflmechmaaGreatDoorMRefA
import Derived.Test.YtjnhcoflmechmaaGreatDoorMMem
import Derived.Test.YtjnhcoflmechmaaGreatDoorMKid
import Derived.Test.YtjnhcoflmechmaaGreatDoorMStack
import Derived.Test.YtjnhcoflmechmaaGreatDoorMGood
import Derived.Test.YtjnhcoflmechmaaGreatDoorMLaw5
namespace Go.Proofs.YtjnhcoflmechmaaGreatDoor.M
open Go.RowKit Go.Sort
set_option linter.unusedVariables false
set_option maxRecDepth 100000
def accA (l : List At) : Rd (List At) → Rd (List At)
  | .ok m r => .ok (l ++ m) r
  | .bad n e => .bad n e
theorem accA_nil (R : Rd (List At)) : accA [] R = R := by cases R <;> rfl
theorem atts_stop {l : List At} {r : Bytes} {n : Nat} {e : Int} (h : preP [32] r = .bad n e) : accA l (attsP r) = .ok l r := by
  rw [attsP_eq, h]; simp [accA]
theorem atts_more {l : List At} {r r0 : Bytes} {u : Unit} {a : At} {S : Rd Unit} (h : preP [32] r = .ok u r0) (ha : attP r0 = S.then fun l => .ok a l) : accA l (attsP r) = accA (l ++ [a]) (S.then attsP) := by
  rw [attsP_eq, h]
  simp only
  rw [ha]
  cases S with
  | bad n e => rfl
  | ok u r1 =>
    show accA l (bnd (attsP r1) fun atz l2 => .ok (a :: atz) l2) = accA (l ++ [a]) (attsP r1)
    cases attsP r1 with
    | bad n e => rfl
    | ok m r2 => simp [accA, bnd]
theorem att_chain {r0 : Bytes} {nm v : ByteArray} (h2 : ∀ t l, wordP r0 = .ok t l → nm = t) (h4 : ∀ t l, ((wordP r0).then (preP [61, 34])).then txtP = .ok t l → v = t) :
    attP r0 = ((((wordP r0).then (preP [61, 34])).then txtP).then (preP [34])).then fun l => .ok (nm, v) l := by
  unfold attP
  cases hw : wordP r0 with
  | bad n e => rfl
  | ok t l1 =>
    obtain rfl := h2 t l1 hw
    rw [hw] at h4
    rw [bnd_okE]
    show _ = (((preP [61, 34] l1).then txtP).then (preP [34])).then _
    have h4' : ∀ t l, ((preP [61, 34] l1).then txtP) = .ok t l → v = t := h4
    cases hp : preP [61, 34] l1 with
    | bad n e => rfl
    | ok u l2 =>
      rw [bnd_okE]
      rw [hp] at h4'
      show _ = ((txtP l2).then (preP [34])).then _
      have h4'' : ∀ t l, txtP l2 = .ok t l → v = t := h4'
      cases ht : txtP l2 with
      | bad n e => rfl
      | ok t l3 =>
        obtain rfl := h4'' t l3 ht
        rw [bnd_okE]
        show _ = (preP [34] l3).then _
        cases preP [34] l3 <;> rfl
theorem att_len2 {r0 r1 : Bytes} {a : At} {S : Rd Unit} {u : Unit} (ha : attP r0 = S.then fun l => .ok a l) (h : S = .ok u r1) : r1.length ≤ r0.length := by
  subst h
  exact (attP_suf (show attP r0 = .ok a r1 from ha)).length_le
def hdR (tag key : ByteArray) : Rd (List At) → Rd Hd
  | .ok m r => .ok (tag, key, m) r
  | .bad n e => .bad n e
theorem head_chain {α : Type} (R0 : Rd α) {tag key : ByteArray} (h2 : ∀ t l, (R0.then (preP [60])).then wordP = .ok t l → tag = t) (h3 : ∀ t l, ((R0.then (preP [60])).then wordP).then keyP = .ok t l → key = t) :
    R0.then headP = hdR tag key ((((R0.then (preP [60])).then wordP).then keyP).then attsP) := by
  cases R0 with
  | bad n e => rfl
  | ok x l =>
    have h2' : ∀ t r, (preP [60] l).then wordP = .ok t r → tag = t := h2
    have h3' : ∀ t r, ((preP [60] l).then wordP).then keyP = .ok t r → key = t := h3
    show headP l = hdR tag key ((((preP [60] l).then wordP).then keyP).then attsP)
    unfold headP
    cases hp : preP [60] l with
    | bad n e => rfl
    | ok u l1 =>
      rw [hp] at h2' h3'
      rw [bnd_okE]
      have h2'' : ∀ t r, wordP l1 = .ok t r → tag = t := h2'
      have h3'' : ∀ t r, (wordP l1).then keyP = .ok t r → key = t := h3'
      show _ = hdR tag key (((wordP l1).then keyP).then attsP)
      cases hw : wordP l1 with
      | bad n e => rfl
      | ok t l2 =>
        obtain rfl := h2'' t l2 hw
        rw [hw] at h3''
        have h3''' : ∀ t r, keyP l2 = .ok t r → key = t := h3''
        rw [bnd_okE]
        show _ = hdR tag key ((keyP l2).then attsP)
        cases hk : keyP l2 with
        | bad n e => rfl
        | ok k l3 =>
          obtain rfl := h3''' k l3 hk
          rw [bnd_okE]
          show _ = hdR tag key (attsP l3)
          cases attsP l3 <;> rfl
theorem key_none {l : Bytes} (h : isP ⟨#[32, 35, 61, 34]⟩ l = false) : keyP l = .ok noB l := by
  unfold keyP
  rw [show preP [32, 35, 61, 34] l = .bad l.length 2 from isP_no h]
theorem key_some {l : Bytes} (h : isP ⟨#[32, 35, 61, 34]⟩ l = true) : ∃ l1, preP [32, 35, 61, 34] l = .ok () l1 ∧ keyP l = bnd (txtP l1) fun k l2 => if k = noB then .bad l1.length 2 else bnd (preP [34] l2) fun _ l3 => .ok k l3 := by
  have e : preP [32, 35, 61, 34] l = _ := isP_pre h
  refine ⟨_, e, ?_⟩
  unfold keyP
  rw [e]
/-- A box with an attribute. -/
def B2 (W : World) (b : Nat) (u v : ByteArray) : Prop := W.heap[b]? = some (.cells #[.string u, .string v] 63 (0, 0))
section
variable {W : World} {b : Nat} {u v : ByteArray}
theorem B2.lt (h : B2 W b u v) : b < W.heap.size := (Array.getElem?_eq_some_iff.1 h).1
theorem B2.cells (h : B2 W b u v) : W.cell? ⟨b, 0, none⟩ = some (.string u) ∧ W.cell? ⟨b, 1, none⟩ = some (.string v) := by
  have e : ∀ j, W.cell? ⟨b, j, none⟩ = (#[Value.string u, .string v] : Array Value)[j]? := fun j => cell_of_row _ _ _ _ _ (0, 0) h
  exact ⟨by rw [e]; rfl, by rw [e]; rfl⟩
theorem B2.frozen (h : B2 W b u v) (j : Nat) : W.frozen? ⟨b, j, none⟩ = false := by
  simp [World.frozen?, show W.heap[b]? = _ from h]
theorem B2.kept {W' : World} (h : B2 W b u v) {S : Nat → Prop} (hk : Kept S W W') (hs : ¬ S b) : B2 W' b u v := (hk.block b h.lt hs).trans h
theorem B2.new (W : World) (u v : ByteArray) : B2 (W.alloc (.cells #[.string u, .string v] 63)) W.heap.size u v := heap_alloc_new W _
theorem B2.set1 (h : B2 W b u v) (x : ByteArray) : B2 (W.setCell ⟨b, 1, none⟩ (.string x)) b u x := by
  have hh : W.heap[b]? = _ := h
  unfold B2
  simp only [World.setCell, Array.getElem?_modify, if_true, hh, Option.map_some]
  rfl
end
theorem arow_own {W : World} {base : Nat} {v : Value} {l : List At} (h : W.ownsRow base 63 2 v l.length (ats l)) : ∃ A c, v = .slice A l.length c ∧ ARowS W (fun b => base ≤ b) A l ∧ l.length ≤ c ∧ c ≤ maxLen ∧ (A = none → c = 0) := by
  obtain ⟨A, c, hv, n1, n2, n3, n4⟩ := own_parts h (by decide)
  refine ⟨A, c, hv, fun h0 => ?_, n1, n2, n3⟩
  obtain ⟨b, hA, hb, hlt, hc⟩ := n4 h0
  refine ⟨b, 0, hA, hb, hlt, fun j hj => ?_⟩
  have e : l.getD j noAt = l[j] := by simp [List.getD_eq_getElem?_getD, hj]
  have d0 : j * 2 / 2 = j := by omega
  have d1 : (j * 2 + 1) / 2 = j := by omega
  have m0 : j * 2 % 2 = 0 := by omega
  have m1 : (j * 2 + 1) % 2 = 1 := by omega
  rw [Nat.zero_add, hc (j * 2) (by omega), hc (j * 2 + 1) (by omega), ats_at _ (j * 2) (by omega), ats_at _ (j * 2 + 1) (by omega), d0, d1, m0, m1, e]
  exact ⟨rfl, rfl⟩
/-- The node whose head is being read, at D, the answer's cell still empty, and where the reader stands. -/
structure HdS (P D : Nat) (s : ByteArray) (w : World) (tag key : ByteArray) (l : List At) (vA : Value) {α : Type} (S : Rd α) (W : World) : Prop where
  q : QSt W P s S
  z : B5 W w.heap.size 25 (.string ⟨#[]⟩) (.string ⟨#[]⟩) (.string ⟨#[]⟩) (.slice none 0 0) (.slice none 0 0)
  n : B5 W D 25 (.string tag) (.string key) (.string ⟨#[]⟩) vA (.slice none 0 0)
  r : W.ownsRow (D + 1) 63 2 vA l.length (ats l)
  k : Kept (· = P) w W
  hP : P < w.heap.size
  hD : w.heap.size < D
section
variable {α β : Type} {P D : Nat} {s : ByteArray} {w W W' : World} {tag key : ByteArray} {l : List At} {vA : Value} {S : Rd α} {S' : Rd β}
theorem HdS.step (h : HdS P D s w tag key l vA S W) (hk : Kept (· = P) W W') (hq : QSt W' P s S') : HdS P D s w tag key l vA S' W' :=
  ⟨hq, h.z.kept hk (fun e => by have e' : w.heap.size = P := e; have := h.hP; omega), h.n.kept hk (fun e => by have e' : D = P := e; have := h.hP; have := h.hD; omega), hk.own h.r (fun b hb e => by have h1 := (h.r.lt b hb).1; have := h.hP; have := h.hD; have e' : b = P := e; omega), h.k.trans hk, h.hP, h.hD⟩
theorem HdS.to (h : HdS P D s w tag key l vA S W) (hk : ∀ x r, S = .ok x r → ∃ y, S' = .ok y r) (hb : ∀ n e, S = .bad n e → ∃ e', S' = .bad n e') : HdS P D s w tag key l vA S' W := ⟨h.q.to hk hb, h.z, h.n, h.r, h.k, h.hP, h.hD⟩
/-- Where only new blocks turn. -/
theorem HdS.new (h : HdS P D s w tag key l vA S W) (hk : Kept (fun b => W.heap.size ≤ b) W W') : HdS P D s w tag key l vA S W' := by
  have hDl := h.n.lt; have hPl := h.q.lt; have hzl := h.z.lt
  exact ⟨h.q.kept hk (by omega), h.z.kept hk (by omega), h.n.kept hk (by omega), hk.own h.r (fun b hb e => by have h1 := (h.r.lt b hb).2; have e' : W.heap.size ≤ b := e; omega), h.k.trans' hk (fun i hi e => by have e' : W.heap.size ≤ i := e; have := h.k.size; omega), h.hP, h.hD⟩
theorem HdS.setKey (h : HdS P D s w tag key l vA S W) (u : ByteArray) : HdS P D s w tag u l vA S (W.setCell ⟨D, 1, none⟩ (.string u)) := by
  have hk : Kept (· = D) W (W.setCell ⟨D, 1, none⟩ (.string u)) := kept_setCell W ⟨D, 1, none⟩ _
  have hD := h.hD; have hP := h.hP
  exact ⟨h.q.kept hk (by omega), h.z.kept hk (by omega), h.n.set1 _, hk.own h.r (fun b hb e => by have h1 := (h.r.lt b hb).1; have e' : b = D := e; omega), h.k.trans' hk (fun i hi e => by have e' : i = D := e; omega), h.hP, h.hD⟩
theorem HdS.att (h : HdS P D s w tag key l vA S W) {a : At} {v' : Value} (hr : W'.ownsRow (D + 1) 63 2 v' (l ++ [a]).length (ats (l ++ [a]))) (hk : Kept (OwnB vA) W W') : HdS P D s w tag key (l ++ [a]) v' S (W'.setCell ⟨D, 3, none⟩ v') := by
  have hks : Kept (· = D) W' (W'.setCell ⟨D, 3, none⟩ v') := kept_setCell W' ⟨D, 3, none⟩ v'
  have hD := h.hD; have hP := h.hP
  have ho : ∀ b, OwnB vA b → D + 1 ≤ b := fun b hb => (h.r.lt b hb).1
  have n1 := h.n.kept hk (fun e => by have := ho _ e; omega)
  have z1 := h.z.kept hk (fun e => by have := ho _ e; omega)
  have q1 := h.q.kept hk (fun e => by have := ho _ e; omega)
  have k1 : Kept (· = P) w W' := h.k.trans' hk (fun i hi e => by have := ho _ e; omega)
  exact ⟨q1.kept hks (by omega), z1.kept hks (by omega), n1.set3 _, hks.own hr (fun b hb e => by have h1 := (hr.lt b hb).1; have e' : b = D := e; omega), k1.trans' hks (fun i hi e => by have e' : i = D := e; omega), h.hP, h.hD⟩
end
/-- What head says: a node without kids. -/
def QHeadC (P : Nat) (s : ByteArray) (R : Rd Hd) (w : World) (e : Ending) (w' : World) : Prop :=
  ∃ (tag key : ByteArray) (l : List At) (A : Option Addr) (ca : Nat), e = .returned (.agg #[.string tag, .string key, .string ⟨#[]⟩, .slice A l.length ca, .slice none 0 0]) ∧ ARowS w' (fun b => w.heap.size ≤ b) A l ∧ l.length ≤ ca ∧ ca ≤ maxLen ∧ (A = none → ca = 0) ∧ (∀ h r, R = .ok h r → h = (tag, key, l)) ∧ QSt w' P s R ∧ Kept (· = P) w w'
def endA (l : List At) : Rd Unit → Rd (List At)
  | .ok _ r => .ok l r
  | .bad n e => .bad n e
/-- The loop is at its end. -/
theorem head_end {P D : Nat} {s : ByteArray} {w W : World} {tag key : ByteArray} {l : List At} {vA : Value} {S : Rd Unit} {RA : Rd (List At)} {R : Rd Hd} (h : HdS P D s w tag key l vA S W) (hR : R = hdR tag key RA) (hA : RA = accA l (S.then attsP)) (hn : nxt S ⟨#[32]⟩ = false) :
    ∃ A ca, vA = .slice A l.length ca ∧ QHeadC P s R w (.returned (.agg #[.string tag, .string key, .string ⟨#[]⟩, .slice A l.length ca, .slice none 0 0])) (put5 W w.heap.size (.string tag) (.string key) (.string ⟨#[]⟩) (.slice A l.length ca) (.slice none 0 0)) := by
  obtain ⟨A, ca, hv, ha, h1, h2, h3⟩ := arow_own h.r
  have hD := h.hD; have hP := h.hP
  have hk := kept_put5 W w.heap.size (.string tag) (.string key) (.string ⟨#[]⟩) (.slice A l.length ca) (.slice none 0 0)
  have hRA : R = hdR tag key (endA l S) := by
    rw [hR, hA]
    cases S with
    | bad n e => rfl
    | ok u r => exact congrArg _ (atts_stop (show preP [32] r = _ from isP_no hn))
  refine ⟨A, ca, hv, tag, key, l, A, ca, rfl, (ha.kept hk (fun b hb _ e => by have e' : b = w.heap.size := e; have hb' : D + 1 ≤ b := hb; omega)).mono (fun b hb _ => by have hb' : D + 1 ≤ b := hb; omega), h1, h2, h3, fun hd r he => ?_, (h.q.kept hk (by omega)).to (fun x r he => ?_) (fun n e he => ?_), h.k.trans' hk (fun i hi e => by have e' : i = w.heap.size := e; omega)⟩
  · rw [hRA] at he
    cases S with
    | bad n e => cases he
    | ok u r' => cases he; rfl
  · rw [hRA, he]; exact ⟨_, rfl⟩
  · rw [hRA, he]; exact ⟨_, rfl⟩
end Go.Proofs.YtjnhcoflmechmaaGreatDoor.M

namespace Go.Proofs.YtjnhcoflmechmaaGreatDoor.M
open Go.RowKit Go.Sort
set_option linter.unusedVariables false
set_option maxRecDepth 100000
theorem nxt_true {α : Type} {S : Rd α} {p : ByteArray} (h : nxt S p = true) : ∃ x r, S = .ok x r ∧ isP p r = true := by
  cases S with
  | ok x r => exact ⟨x, r, rfl, h⟩
  | bad n e => cases h
def failR {α : Type} (p : Nat) : Rd α → Rd Unit
  | .ok _ _ => .bad p 2
  | .bad n e => .bad n e
theorem qfail_any {α : Type} (P : Nat) (s : ByteArray) (p : Nat) (Q : Rd α) (w : World) (h : QSt w P s Q) (hp : p ≤ s.size) : Calls Tryz.prog 43 #[.pointer (some ⟨P, 0, none⟩), .int .i64 p] w fun e w' => e = .returned (.tuple #[]) ∧ QSt w' P s (failR (s.size - p) Q) ∧ Kept (· = P) w w' := by
  cases Q with
  | ok x l => exact (qfail_new P s _ 0 p w h.2.2).mono fun e w' ⟨h1, h2, h3⟩ => ⟨h1, qst_bad rfl hp (Nat.sub_le _ _) h2, h3⟩
  | bad n er =>
    obtain ⟨h1, a, ha, h3⟩ := h
    refine (qfail_old P s a _ p w h3).mono fun e w' ⟨h4, h5⟩ => ?_
    subst h5
    exact ⟨h4, ⟨h1, a, ha, h3⟩, Kept.refl _ _⟩
theorem key_skip {S : Rd ByteArray} (h : nxt S ⟨#[32, 35, 61, 34]⟩ = false) : (∀ x r, S = .ok x r → ∃ y, S.then keyP = .ok y r) ∧ (∀ n e, S = .bad n e → ∃ e', S.then keyP = .bad n e') ∧ ∀ t l, S.then keyP = .ok t l → noB = t := by
  cases S with
  | ok x r =>
    have e : (Rd.ok x r).then keyP = .ok noB r := key_none h
    rw [e]
    exact ⟨fun x' r' h' => (by cases h'; exact ⟨_, rfl⟩), fun n e' h' => (by cases h'), fun t l h' => (by cases h'; rfl)⟩
  | bad n e => exact ⟨fun x' r' h' => (by cases h'), fun n' e' h' => (by cases h'; exact ⟨_, rfl⟩), fun t l h' => (by cases h')⟩
theorem key_empty {S : Rd ByteArray} {tg kk : ByteArray} {r l1 : Bytes} {p : Nat} (hS : S = .ok tg r) (hk : keyP r = bnd (txtP l1) fun k l2 => if k = noB then .bad l1.length 2 else bnd (preP [34] l2) fun _ l3 => .ok k l3) (hv : ∀ t l, txtP l1 = .ok t l → kk = t) (h0 : kk = noB) (hp : l1.length = p) :
    (∀ x r, (failR p (txtP l1)).then (preP [34]) = .ok x r → ∃ y, S.then keyP = .ok y r) ∧ (∀ n e, (failR p (txtP l1)).then (preP [34]) = .bad n e → ∃ e', S.then keyP = .bad n e') ∧ ∀ t l, S.then keyP = .ok t l → kk = t := by
  subst hS
  have e : (Rd.ok tg r).then keyP = keyP r := rfl
  rw [e, hk]
  cases ht : txtP l1 with
  | bad n er => exact ⟨fun x' r' h' => (by cases h'), fun n' e' h' => (by cases h'; exact ⟨_, rfl⟩), fun t l h' => (by cases h')⟩
  | ok t l2 =>
    obtain rfl := hv t l2 ht
    rw [bnd_okE, if_pos h0, hp]
    exact ⟨fun x' r' h' => (by cases h'), fun n' e' h' => (by cases h'; exact ⟨_, rfl⟩), fun t l h' => (by cases h')⟩
theorem key_full {S : Rd ByteArray} {tg kk : ByteArray} {r l1 : Bytes} (hS : S = .ok tg r) (hk : keyP r = bnd (txtP l1) fun k l2 => if k = noB then .bad l1.length 2 else bnd (preP [34] l2) fun _ l3 => .ok k l3) (hv : ∀ t l, txtP l1 = .ok t l → kk = t) (h0 : ¬ kk = noB) :
    (∀ x r, (txtP l1).then (preP [34]) = .ok x r → ∃ y, S.then keyP = .ok y r) ∧ (∀ n e, (txtP l1).then (preP [34]) = .bad n e → ∃ e', S.then keyP = .bad n e') ∧ ∀ t l, S.then keyP = .ok t l → kk = t := by
  subst hS
  have e : (Rd.ok tg r).then keyP = keyP r := rfl
  rw [e, hk]
  cases ht : txtP l1 with
  | bad n er => exact ⟨fun x' r' h' => (by cases h'), fun n' e' h' => (by cases h'; exact ⟨_, rfl⟩), fun t l h' => (by cases h')⟩
  | ok t l2 =>
    obtain rfl := hv t l2 ht
    rw [bnd_okE, if_neg h0]
    show (∀ x r, preP [34] l2 = .ok x r → _) ∧ (∀ n e, preP [34] l2 = .bad n e → _) ∧ _
    cases preP [34] l2 with
    | bad n er => exact ⟨fun x' r' h' => (by cases h'), fun n' e' h' => (by cases h'; exact ⟨_, rfl⟩), fun t l h' => (by cases h')⟩
    | ok u l3 => exact ⟨fun x' r' h' => (by cases h'; exact ⟨_, rfl⟩), fun n' e' h' => (by cases h'), fun t l h' => (by cases h'; rfl)⟩
def mesS : Rd Unit → Nat
  | .ok _ r => r.length + 1
  | .bad _ _ => 0
theorem res25 {fn : Func} {p : Tmp} (h : fn.results = #[.cell p 25]) (tmps : Array Value) (w : World) (B : Nat) (v0 v1 v2 v3 v4 : Value) (hp : tmps.getD p undef = .pointer (some ⟨B, 0, none⟩)) (hg : B5 w B 25 v0 v1 v2 v3 v4) :
    (results fn tmps).run Tryz.prog w = .ok (.agg #[v0, v1, v2, v3, v4]) w :=
  results_cell_row h tmps w B 25 _ (0, 0) _ hp hg Tryz.underlying25 rfl (by kernel_rfl)
theorem HdS.keptS {α : Type} {P D : Nat} {s : ByteArray} {w W W' : World} {tag key : ByteArray} {l : List At} {vA : Value} {S : Rd α} (h : HdS P D s w tag key l vA S W) {T : Nat → Prop} (hk : Kept T W W') (h1 : ¬ T P) (h2 : ¬ T w.heap.size) (h3 : ¬ T D) (h4 : ∀ b, OwnB vA b → ¬ T b) (h5 : ∀ b, b < w.heap.size → ¬ T b) : HdS P D s w tag key l vA S W' :=
  ⟨h.q.kept hk h1, h.z.kept hk h2, h.n.kept hk h3, hk.own h.r h4, h.k.trans' hk (fun i hi e => absurd e (h5 i hi)), h.hP, h.hD⟩
set_option maxHeartbeats 16000000 in
theorem qhead_any {α : Type} (P : Nat) (s : ByteArray) (R0 : Rd α) (w : World) (h : QSt w P s R0) (hs : s.size ≤ 100000) : Calls Tryz.prog 67 #[.pointer (some ⟨P, 0, none⟩)] w (QHeadC P s (R0.then headP) w) := by
  obtain ⟨i0, hi, hz0, hz1, hz2⟩ := info_parts info63
  obtain ⟨w1, hw1⟩ : ∃ w1, w1 = zeroNW w := ⟨_, rfl⟩
  have hk1 : Kept (fun _ => False) w w1 := by rw [hw1]; exact kept_alloc _ _ _
  have hzz : B5 w1 w.heap.size 25 (.string ⟨#[]⟩) (.string ⟨#[]⟩) (.string ⟨#[]⟩) (.slice none 0 0) (.slice none 0 0) := by rw [hw1]; exact B5.new _ _ _ _ _ _ _ _ rfl
  have hs1 : w1.heap.size = w.heap.size + 1 := by rw [hw1]; simp
  have hPw : P < w.heap.size := h.lt
  have HW1 := Lib.hid (show w.alloc (.cells #[.string ⟨#[]⟩, .string ⟨#[]⟩, .string ⟨#[]⟩, .slice none 0 0, .slice none 0 0] 25) = w1 from hw1.symm)
  have HCH := Lib.hid (fun tag key => head_chain R0 (tag := tag) (key := key))
  obtain ⟨R, hR⟩ : ∃ R, R = R0.then headP := ⟨_, rfl⟩
  obtain ⟨S1, hS1⟩ : ∃ S1, S1 = R0.then (preP [60]) := ⟨_, rfl⟩
  rw [← hR, ← hS1] at HCH
  rw [← hR]
  have C1 := Lib.hid (show Calls Tryz.prog 69 #[.pointer (some ⟨P, 0, none⟩), .string ⟨#[60]⟩] w1 fun e w' => e = .returned (.tuple #[]) ∧ QSt w' P s S1 ∧ Kept (· = P) w1 w' from by rw [hS1]; exact qmust_any P s ⟨#[60]⟩ R0 w1 (h.kept hk1 (fun h => h)) (by omega))
  have HZ1 := Lib.hid hzz; have HK1 := Lib.hid (hk1.mono (T := (· = P)) (fun _ _ h => absurd h (fun h => h)))
  clear hw1 hk1 hzz h hR hS1
  go_enter Tryz.func67, Tryz.ntmps67
  go_upto_region 1 with (fail)
  rw [HW1.out]
  clear HW1
  go_wp2_with fail
  refine C1.out.mono ?_
  rintro e w2 ⟨rfl, hq2, hk2⟩
  have C2 := Lib.hid (qword_any P s S1 w2 hq2 (by omega))
  have HK2 := Lib.hid (HK1.out.trans hk2)
  have HZ2 := Lib.hid (HZ1.out.kept hk2 (show ¬ w.heap.size = P by omega))
  have hs2 := hk2.size
  clear hq2 hk2 C1 HZ1 HK1
  go_wp2_with fail
  refine C2.out.mono ?_
  rintro e w3 ⟨tag, rfl, hv3, hq3, hk3⟩
  obtain ⟨S2, hS2⟩ : ∃ S2, S2 = S1.then wordP := ⟨_, rfl⟩
  rw [← hS2] at hv3 hq3 HCH
  have HV3 := Lib.hid hv3
  have hs3 := hk3.size
  obtain ⟨D, hD⟩ : ∃ D, D = w3.heap.size := ⟨_, rfl⟩
  obtain ⟨w4, hw4⟩ : ∃ w4, w4 = w3.alloc (.cells #[.string tag, .string ⟨#[]⟩, .string ⟨#[]⟩, .slice none 0 0, .slice none 0 0] 25) := ⟨_, rfl⟩
  have hk4 : Kept (fun _ => False) w3 w4 := by rw [hw4]; exact kept_alloc _ _ _
  have hh4 : HdS P D s w tag ⟨#[]⟩ [] (.slice none 0 0) S2 w4 := ⟨hq3.kept hk4 (fun h => h), (HZ2.out.kept hk3 (show ¬ w.heap.size = P by omega)).kept hk4 (fun h => h), by rw [hw4]; exact B5.new _ _ _ _ _ _ _ _ hD, World.ownsRow_nil w4 _ _ _, (HK2.out.trans hk3).trans (hk4.mono (fun _ _ h => absurd h (fun h => h))), hPw, by omega⟩
  have C4 := qnext_any P s ⟨#[32, 35, 61, 34]⟩ S2 w4 hh4.q (by omega)
  obtain ⟨nb, hnb⟩ : ∃ nb, nb = nxt S2 ⟨#[32, 35, 61, 34]⟩ := ⟨_, rfl⟩
  rw [← hnb] at C4
  have HC4 := Lib.hid C4; have HH4 := Lib.hid hh4; have HNB := Lib.hid hnb
  have HW4 := Lib.hid hw4.symm
  obtain ⟨S3, hS3⟩ : ∃ S3, S3 = S2.then keyP := ⟨_, rfl⟩
  rw [← hS3] at HCH
  have HS3 := Lib.hid hS3
  clear hv3 hq3 hk3 hw4 hk4 hh4 C4 hnb C2 HK2 HZ2 hS2 hS3
  subst hD
  obtain ⟨D, hD⟩ : ∃ D, D = w3.heap.size := ⟨_, rfl⟩
  go_upto_region 3 with (fail)
  rw [HW4.out]
  rw [← hD] at HH4 ⊢
  clear HW4 hD
  go_wp2_with fail
  refine HC4.out.mono ?_
  rintro e w5 ⟨rfl, hk5⟩
  have HH5 := Lib.hid (HH4.out.step (hk5.mono (fun _ _ h => absurd h (fun h => h))) (HH4.out.q.kept hk5 (fun h => h)))
  clear hk5 HC4 HH4
  go_upto_if 12 with (fail)
  go_cut [] from 13 (fun wc => ∃ key : ByteArray, RowKit.Hid (HdS P D s w tag key [] (.slice none 0 0) S3 wc) ∧ RowKit.Hid (∀ t l, S3 = .ok t l → key = t))
  case first =>
    cases nb with
    | false =>
      obtain ⟨k1, k2, k3⟩ := key_skip HNB.out.symm
      rw [← HS3.out] at k1 k2 k3
      have HF := Lib.hid (HH5.out.to k1 k2)
      have HV := Lib.hid k3
      clear k1 k2 k3
      go_wp2_with fail
      go_meet
      exact ⟨_, HF, HV⟩
    | true =>
      obtain ⟨tg, r2, hS2, hp2⟩ := nxt_true HNB.out.symm
      obtain ⟨l1, hp1, hkp⟩ := key_some hp2
      have C5 := Lib.hid (qmust_any P s ⟨#[32, 35, 61, 34]⟩ S2 w5 HH5.out.q (by omega))
      have HS2 := Lib.hid hS2; have HKP := Lib.hid hkp
      have HE5 := Lib.hid (show S2.then (preP (⟨#[32, 35, 61, 34]⟩ : ByteArray).data.toList) = .ok () l1 from by rw [hS2]; exact hp1)
      clear hS2 hp2 hp1 hkp
      go_wp2_with fail
      refine C5.out.mono ?_
      rintro e w6 ⟨rfl, hq6, hk6⟩
      rw [HE5.out] at hq6
      have HH6 := Lib.hid (HH5.out.step hk6 hq6)
      have C6 := Lib.hid (qtext_any P s (Rd.ok () l1) w6 hq6 hs)
      obtain ⟨hl1, hl2, hl3⟩ := hq6
      obtain ⟨b, hb⟩ : ∃ b, b = s.size - l1.length := ⟨_, rfl⟩
      rw [← hb] at hl3
      have HB := Lib.hid (show l1.length = s.size - b from by omega)
      have hbs : b ≤ s.size := by omega
      clear hb
      obtain ⟨a0, a1, a2, a3⟩ := hl3.cells
      clear hk6 hl1 hl2 hl3 C5 HE5 HH5
      go_wp2_with fail
      refine C6.out.mono ?_
      rintro e w7 ⟨kk, rfl, hv7, hq7, hk7⟩
      have hh7 := (HH6.out.step hk7 hq7).setKey kk
      have HV7 := Lib.hid (show ∀ t l, txtP l1 = .ok t l → kk = t from hv7)
      have hn7 := (HH6.out.step hk7 hq7).n
      obtain ⟨n0, n1, n2, n3, n4⟩ := hn7.cells
      have f1 := hn7.frozen 1
      have HH8 := Lib.hid hh7
      clear hv7 hq7 hk7 hh7 hn7 a0 a1 a2 a3 C6 HH6
      obtain ⟨w8, hw8⟩ : ∃ w8, w8 = w7.setCell ⟨D, 1, none⟩ (.string kk) := ⟨_, rfl⟩
      rw [← hw8] at HH8
      have HW8 := Lib.hid hw8.symm
      obtain ⟨m0, m1, m2, m3, m4⟩ := HH8.out.n.cells
      clear hw8
      go_upto_region 7 with (fail)
      rw [HW8.out]
      clear n0 n1 n2 n3 n4 f1 HW8
      by_cases h0 : kk = noB
      · obtain ⟨k1, k2, k3⟩ := key_empty HS2.out HKP.out HV7.out h0 HB.out
        rw [← HS3.out] at k1 k2 k3
        have HK1 := Lib.hid k1; have HK2 := Lib.hid k2; have HK3 := Lib.hid k3
        have CF := Lib.hid (qfail_any P s b ((Rd.ok () l1 : Rd Unit).then txtP) w8 HH8.out.q hbs)
        have hke : (kk.toList == []) = true := by rw [h0, Lib.toList_data]; rfl
        have hke2 : kk.toList = [] := by rw [h0, Lib.toList_data]; rfl
        clear k1 k2 k3 h0
        go_wp2_with fail
        refine CF.out.mono ?_
        rintro e w9 ⟨rfl, hq9, hk9⟩
        have HH9 := Lib.hid (HH8.out.step hk9 hq9)
        have C9 := Lib.hid (qmust_any P s ⟨#[34]⟩ (failR (s.size - b) ((Rd.ok () l1 : Rd Unit).then txtP)) w9 hq9 (by omega))
        clear hq9 hk9 CF HH8 m0 m1 m2 m3 m4
        go_wp2_with fail
        refine C9.out.mono ?_
        rintro e w10 ⟨rfl, hq10, hk10⟩
        have HF := Lib.hid ((HH9.out.step hk10 hq10).to HK1.out HK2.out)
        clear hq10 hk10 C9 HH9
        go_wp2_with fail
        go_meet
        exact ⟨_, HF, HK3⟩
      · obtain ⟨k1, k2, k3⟩ := key_full HS2.out HKP.out HV7.out h0
        rw [← HS3.out] at k1 k2 k3
        have HK1 := Lib.hid k1; have HK2 := Lib.hid k2; have HK3 := Lib.hid k3
        have hke : (kk.toList == []) = false := by
          rw [Lib.toList_data, beq_eq_false_iff_ne]
          intro e
          apply h0
          rw [← strB_eq kk, e]; rfl
        have hke2 : ¬ kk.toList = [] := by simpa using hke
        have C9 := Lib.hid (qmust_any P s ⟨#[34]⟩ ((Rd.ok () l1 : Rd Unit).then txtP) w8 HH8.out.q (by omega))
        clear k1 k2 k3 h0
        go_wp2_with fail
        refine C9.out.mono ?_
        rintro e w10 ⟨rfl, hq10, hk10⟩
        have HF := Lib.hid ((HH8.out.step hk10 hq10).to HK1.out HK2.out)
        clear hq10 hk10 C9 HH8 m0 m1 m2 m3 m4
        go_wp2_with fail
        go_meet
        exact ⟨_, HF, HK3⟩
  case rest =>
    obtain ⟨key, HHK, HVK⟩ := hcut
    obtain ⟨RA, hRA⟩ : ∃ RA, RA = S3.then attsP := ⟨_, rfl⟩
    have HRR := Lib.hid (show R = hdR tag key RA from by rw [hRA]; exact HCH.out tag key HV3.out HVK.out)
    obtain ⟨S0, hS0⟩ : ∃ S0 : Rd Unit, S0 = S3.then fun r => .ok () r := ⟨_, rfl⟩
    have hh0 : HdS P D s w tag key [] (.slice none 0 0) S0 wc := HHK.out.to (fun x r h => by rw [hS0, h]; exact ⟨_, rfl⟩) (fun n e h => by rw [hS0, h]; exact ⟨_, rfl⟩)
    have hra0 : RA = accA [] (S0.then attsP) := by
      rw [accA_nil, hRA, hS0]; cases S3 <;> rfl
    have hm0 : mesS S0 ≤ s.size + 1 := by
      have := hh0.q
      cases S0 with
      | ok x r => have := this.1; simp only [mesS]; omega
      | bad n e => simp [mesS]
    have HH0 := Lib.hid hh0; have HRA0 := Lib.hid hra0
    clear hh0 hra0 hRA hS0 HHK HVK HV3 HCH HS3 HNB hs2 hs3 hs1 HH5
    go_wp2_with fail
    go_loopg [5] (mesS S0) (fun m s5 wr => ∃ (l : List At) (vA : Value) (S : Rd Unit), RowKit.Hid (HdS P D s w tag key l vA S wr) ∧ RowKit.Hid (RA = accA l (S.then attsP)) ∧ mesS S ≤ m ∧ l.length + mesS S ≤ s.size + 1)
    case atStart => exact ⟨[], _, S0, HH0, HRA0, Nat.le_refl _, by simpa using hm0⟩
    case round =>
      clear HH0 HRA0 hm0
      obtain ⟨l, vA, S, HH, HRA, hm, hl⟩ := hrel
      obtain ⟨nb, hnb⟩ : ∃ nb, nb = nxt S ⟨#[32]⟩ := ⟨_, rfl⟩
      have C10 := qnext_any P s ⟨#[32]⟩ S wr HH.out.q (by omega)
      rw [← hnb] at C10
      have HC10 := Lib.hid C10; have HNB := Lib.hid hnb
      clear C10 hnb
      go_wp2_with fail
      refine HC10.out.mono ?_
      rintro e w11 ⟨rfl, hk11⟩
      have HH11 := Lib.hid (HH.out.step (hk11.mono (fun _ _ h => absurd h (fun h => h))) (HH.out.q.kept hk11 (fun h => h)))
      clear hk11 HC10 HH
      cases nb with
      | false =>
        obtain ⟨A, ca, rfl, hfin⟩ := head_end HH11.out HRR.out HRA.out HNB.out.symm
        have HF := Lib.hid hfin
        have hz := HH11.out.z
        have HZ := Lib.hid (hz.put (.string tag) (.string key) (.string ⟨#[]⟩) (.slice A l.length ca) (.slice none 0 0))
        obtain ⟨n0, n1, n2, n3, n4⟩ := HH11.out.n.cells
        obtain ⟨z0, z1, z2, z3, z4⟩ := hz.cells
        have y0 := hz.frozen 0; have y1 := hz.frozen 1; have y2 := hz.frozen 2; have y3 := hz.frozen 3; have y4 := hz.frozen 4
        clear hfin hz HH11 HRA HRR
        go_wp2_with fail
        refine bodyPost_ret (res25 rfl _ _ w.heap.size _ _ _ _ _ rfl HZ.out) rfl ?_
        exact HF.out
      | true =>
        obtain ⟨u0, r, hSr, hpr⟩ := nxt_true HNB.out.symm
        have hp0 : preP [32] r = .ok () (r.drop 1) := isP_pre hpr
        obtain ⟨r0, hr0⟩ : ∃ r0, r0 = r.drop 1 := ⟨_, rfl⟩
        rw [← hr0] at hp0
        have hlen0 := (preP_suf hp0).2
        have HP0 := Lib.hid hp0; have HSR := Lib.hid hSr
        have HRA2 := Lib.hid (show RA = accA l (attsP r) from by rw [HRA.out, hSr]; rfl)
        have C11 := Lib.hid (show Calls Tryz.prog 69 #[.pointer (some ⟨P, 0, none⟩), .string ⟨#[32]⟩] w11 fun e w' => e = .returned (.tuple #[]) ∧ QSt w' P s (Rd.ok () r0 : Rd Unit) ∧ Kept (· = P) w11 w' from by
          have := qmust_any P s ⟨#[32]⟩ S w11 HH11.out.q (by omega)
          rw [show S.then (preP (⟨#[32]⟩ : ByteArray).data.toList) = .ok () r0 from by rw [hSr]; exact hp0] at this
          exact this)
        have hml : mesS S = r.length + 1 := by rw [hSr]; rfl
        have hlen0' : r0.length + 1 = r.length := by simpa using hlen0
        clear hSr hpr hp0 hr0 HRA hlen0
        go_wp2_with fail
        refine C11.out.mono ?_
        rintro e w12 ⟨rfl, hq12, hk12⟩
        have C12 := Lib.hid (qword_any P s (Rd.ok () r0 : Rd Unit) w12 hq12 (by omega))
        have HH12 := Lib.hid (HH11.out.step hk12 hq12)
        clear hq12 hk12 C11 HH11
        go_wp2_with fail
        refine C12.out.mono ?_
        rintro e w13 ⟨nm, rfl, hv13, hq13, hk13⟩
        have hh13 := HH12.out.step hk13 hq13
        obtain ⟨w14, hw14⟩ : ∃ w14, w14 = w13.alloc (.cells #[.string nm, .string ⟨#[]⟩] 63) := ⟨_, rfl⟩
        obtain ⟨G, hG⟩ : ∃ G, G = w13.heap.size := ⟨_, rfl⟩
        have hk14 : Kept (fun _ => False) w13 w14 := by rw [hw14]; exact kept_alloc _ _ _
        have HB14 := Lib.hid (show B2 w14 G nm ⟨#[]⟩ from by rw [hw14, hG]; exact B2.new _ _ _)
        have HGO := Lib.hid (show ∀ b, OwnB vA b → ¬ b = G from fun b hb e => by have := (hh13.r.lt b hb).2; omega)
        have hGD : D < G := by rw [hG]; exact hh13.n.lt
        have hGP : P < G := by rw [hG]; exact hh13.q.lt
        have hGw : w.heap.size < G := by have := hh13.hD; omega
        have HH14 := Lib.hid (hh13.step (hk14.mono (fun _ _ h => absurd h (fun h => h))) (hh13.q.kept hk14 (fun h => h)))
        have HV13 := Lib.hid (show ∀ t l, wordP r0 = .ok t l → nm = t from hv13)
        have HW14 := Lib.hid hw14.symm
        have C14 := Lib.hid (qmust_any P s ⟨#[61, 34]⟩ ((Rd.ok () r0 : Rd Unit).then wordP) w14 HH14.out.q (by omega))
        go_upto_region 13 with (fail)
        rw [HW14.out, ← hG]
        clear hv13 hq13 hk13 hh13 hk14 hw14 hG C12 HH12 HW14
        go_wp2_with fail
        refine C14.out.mono ?_
        rintro e w15 ⟨rfl, hq15, hk15⟩
        have HH15 := Lib.hid (HH14.out.step hk15 hq15)
        have HB15 := Lib.hid (HB14.out.kept hk15 (show ¬ G = P by omega))
        have C15 := Lib.hid (qtext_any P s (((Rd.ok () r0 : Rd Unit).then wordP).then (preP [61, 34])) w15 hq15 hs)
        clear hq15 hk15 C14 HH14 HB14
        go_wp2_with fail
        refine C15.out.mono ?_
        rintro e w16 ⟨v, rfl, hv16, hq16, hk16⟩
        have hh16 := HH15.out.step hk16 hq16
        have hb16 := HB15.out.kept hk16 (show ¬ G = P by omega)
        obtain ⟨w17, hw17⟩ : ∃ w17, w17 = w16.setCell ⟨G, 1, none⟩ (.string v) := ⟨_, rfl⟩
        have hk17 : Kept (· = G) w16 w17 := by rw [hw17]; exact kept_setCell w16 ⟨G, 1, none⟩ _
        have HB17 := Lib.hid (show B2 w17 G nm v from by rw [hw17]; exact hb16.set1 v)
        have HH17 := Lib.hid (hh16.keptS hk17 (show ¬ P = G by omega) (show ¬ w.heap.size = G by omega) (show ¬ D = G by omega) HGO.out (fun b hb => show ¬ b = G by omega))
        have HV16 := Lib.hid (show ∀ t l, ((wordP r0).then (preP [61, 34])).then txtP = .ok t l → v = t from hv16)
        have C17 := Lib.hid (qmust_any P s ⟨#[34]⟩ ((((Rd.ok () r0 : Rd Unit).then wordP).then (preP [61, 34])).then txtP) w17 HH17.out.q (by omega))
        obtain ⟨b0, b1⟩ := hb16.cells
        have g1 := hb16.frozen 1
        have HW17 := Lib.hid hw17.symm
        clear hv16 hq16 hk16 hh16 hb16 hw17 hk17 C15 HH15 HB15
        go_upto_region 15 with (fail)
        rw [HW17.out]
        clear b0 b1 g1 HW17
        go_wp2_with fail
        refine C17.out.mono ?_
        rintro e w18 ⟨rfl, hq18, hk18⟩
        obtain ⟨S5, hS5⟩ : ∃ S5 : Rd Unit, S5 = ((((Rd.ok () r0 : Rd Unit).then wordP).then (preP [61, 34])).then txtP).then (preP [34]) := ⟨_, rfl⟩
        have hatt : attP r0 = S5.then fun l => .ok (nm, v) l := by rw [hS5]; exact att_chain HV13.out HV16.out
        have hq18' : QSt w18 P s S5 := by rw [hS5]; exact hq18
        have hh18 := HH17.out.step hk18 hq18'
        have HRA5 := Lib.hid (HRA2.out.trans (atts_more HP0.out hatt))
        have hm5 : mesS S5 ≤ r.length := by
          cases hc : S5 with
          | bad n e => simp [mesS]
          | ok u r1 => have := att_len2 hatt hc; simp only [mesS]; omega
        have hb18 := HB17.out.kept hk18 (show ¬ G = P by omega)
        obtain ⟨A, cap, hvA⟩ := row_form hh18.r
        subst hvA
        have HH18 := Lib.hid hh18
        obtain ⟨b0, b1⟩ := hb18.cells
        obtain ⟨n0, n1, n2, n3, n4⟩ := hh18.n.cells
        have f3 := hh18.n.frozen 3
        have hDl := hh18.n.lt
        obtain ⟨ln, hln⟩ : ∃ ln, ln = l.length := ⟨_, rfl⟩
        have hrow := hh18.r
        rw [← hln] at n3 hrow
        have hDo : ∀ b, OwnB (.slice A ln cap) b → ¬ b = D := fun b hb e => by have := (hrow.lt b hb).1; omega
        have hbs : D + 1 ≤ w18.heap.size := hDl
        have HROW := Lib.hid hrow
        have HFIN := Lib.hid (show ∀ v' w', w'.ownsRow (D + 1) 63 2 v' (ln + 1) (ats l ++ [.string nm, .string v]) → Kept (OwnB (.slice A ln cap)) w18 w' → HdS P D s w tag key (l ++ [(nm, v)]) v' S5 (w'.setCell ⟨D, 3, none⟩ v') from fun v' w' ho hk => by
          have ho' : w'.ownsRow (D + 1) 63 2 v' (l ++ [(nm, v)]).length (ats (l ++ [(nm, v)])) := own_ats ho (by rw [ats_append]; rfl) (by rw [hln]; simp)
          refine hh18.att ho' ?_
          rw [← hln]; exact hk)
        have HFR := Lib.hid (show ∀ w', Kept (OwnB (.slice A ln cap)) w18 w' → w'.cell? ⟨D, 3, none⟩ = some (.slice A ln cap) ∧ w'.frozen? ⟨D, 3, none⟩ = false from fun w' hk => ⟨hk.cellOf n3 (fun e => hDo D e rfl), (hk.frozen (a := ⟨D, 3, none⟩) hDl (fun e => hDo D e rfl)).trans f3⟩)
        have hll : ln ≤ 100000 := by rw [hln]; omega
        have HLN := Lib.hid hln
        clear hq18 hq18' hk18 hh18 hb18 hrow hatt hS5 C17 HH17 HB17 HRA2 HGO hln n0 n1 n2 n4 hDo HH18
        go_wp2_with (at_builtin; refine wpList_appS rfl _ _ 22 rfl (D + 1) 63 i0 (.agg #[.string ⟨#[]⟩, .string ⟨#[]⟩]) 2 32 Tryz.underlying22 hi hz0 hz1 hz2 rfl (by omega) (by omega) _ ln (ats l) rfl HROW.out #[.string nm, .string v] rfl (encA_one (nm, v)) _ (by simp) rfl (by omega) hbs ?_; intro v5 w5' hown5 hb5 hk5' hf5; obtain ⟨A5, c5, h5⟩ := row_form hown5; subst h5; have hfz := HFR.out w5' hk5'; obtain ⟨hz1', hz2'⟩ := hfz; have hfin5 := HFIN.out _ w5' hown5 hk5')
        have HNX := Lib.hid hfin5
        clear hfin5 hown5 hb5 hk5' hf5 hz1' hz2' HFIN HFR HROW b0 b1 n3 f3
        go_roundg (mesS S5)
        case measure => omega
        case rel => exact ⟨l ++ [(nm, v)], _, S5, HNX, HRA5, Nat.le_refl _, by rw [List.length_append, List.length_singleton, ← HLN.out]; have := HLN.out; omega⟩
end Go.Proofs.YtjnhcoflmechmaaGreatDoor.M

namespace Go.Proofs.YtjnhcoflmechmaaGreatDoor.M
open Go.RowKit Go.Sort
set_option linter.unusedVariables false
set_option maxRecDepth 100000
def unitR {α : Type} : Rd α → Rd Unit
  | .ok _ r => .ok () r
  | .bad n e => .bad n e
def accK (l : List Tr) : Rd (List Tr) → Rd (List Tr)
  | .ok m r => .ok (l ++ m) r
  | .bad n e => .bad n e
def endK (l : List Tr) : Rd Unit → Rd (List Tr)
  | .ok _ r => .ok l r
  | .bad n e => .bad n e
/-- Does a child begin where the reader stands? -/
def kc (S : Rd Unit) : Bool := match S with
  | .ok _ r => kidC r
  | .bad _ _ => false
theorem kc_nxt (S : Rd Unit) : kc S = (nxt S ⟨#[60]⟩ && !nxt S ⟨#[60, 47]⟩) := by
  cases S <;> rfl
theorem kids_stop {l : List Tr} {S : Rd Unit} (h : kc S = false) : accK l (S.then kidsP) = endK l S := by
  cases S with
  | bad n e => rfl
  | ok u r =>
    show accK l (kidsP r) = _
    rw [kidsP_eq, if_neg (by rw [show kidC r = false from h]; decide)]
    simp [accK, endK]
theorem kids_more {l : List Tr} {S : Rd Unit} {t : Tr} (h : kc S = true) (ht : ∀ t' r, S.then nodeP = .ok t' r → t = t') : accK l (S.then kidsP) = accK (l ++ [t]) ((unitR (S.then nodeP)).then kidsP) := by
  cases S with
  | bad n e => cases h
  | ok u r =>
    show accK l (kidsP r) = accK (l ++ [t]) ((unitR (nodeP r)).then kidsP)
    have ht' : ∀ t' r', nodeP r = .ok t' r' → t = t' := ht
    rw [kidsP_eq, if_pos (show kidC r = true from h)]
    cases hn : nodeP r with
    | bad n e => rfl
    | ok t' r1 =>
      obtain rfl := ht' t' r1 hn
      show accK l (bnd (kidsP r1) fun ks l2 => .ok (t :: ks) l2) = accK (l ++ [t]) (kidsP r1)
      cases kidsP r1 with
      | bad n e => rfl
      | ok m r2 => simp [accK, bnd]
/-- A node that ends at once. -/
theorem node_short {α : Type} {R0 : Rd α} {tag key : ByteArray} {l : List At} (hh : ∀ h r, R0.then headP = .ok h r → h = (tag, key, l)) (hn : nxt (R0.then headP) ⟨#[47, 62]⟩ = true) :
    (∀ x r, (R0.then headP).then (preP [47, 62]) = .ok x r → ∃ y, R0.then nodeP = .ok y r) ∧ (∀ n e, (R0.then headP).then (preP [47, 62]) = .bad n e → ∃ e', R0.then nodeP = .bad n e') ∧ ∀ t' r, R0.then nodeP = .ok t' r → Tr.mk tag key noB l [] = t' := by
  cases R0 with
  | bad n e => cases hn
  | ok x l0 =>
    show (∀ x r, (headP l0).then (preP [47, 62]) = .ok x r → ∃ y, nodeP l0 = .ok y r) ∧ (∀ n e, (headP l0).then (preP [47, 62]) = .bad n e → ∃ e', nodeP l0 = .bad n e') ∧ ∀ t' r, nodeP l0 = .ok t' r → Tr.mk tag key noB l [] = t'
    have hh' : ∀ h r, headP l0 = .ok h r → h = (tag, key, l) := hh
    have hn' : nxt (headP l0) ⟨#[47, 62]⟩ = true := hn
    rw [nodeP_eq]
    cases hd : headP l0 with
    | bad n e => rw [hd] at hn'; cases hn'
    | ok h l1 =>
      obtain rfl := hh' h l1 hd
      rw [hd] at hn'
      have hp : preP [47, 62] l1 = .ok () (l1.drop 2) := isP_pre hn'
      show (∀ x r, preP [47, 62] l1 = .ok x r → _) ∧ (∀ n e, preP [47, 62] l1 = .bad n e → _) ∧ _
      simp only [hp]
      exact ⟨fun x' r' h' => (by cases h'; exact ⟨_, rfl⟩), fun n' e' h' => (by cases h'), fun t' r' h' => (by cases h'; rfl)⟩
/-- A node with an end of its own. -/
theorem node_long {α : Type} {R0 : Rd α} {tag key text : ByteArray} {l : List At} {ks : List Tr} {S : Rd Unit} {p : Nat} (hh : ∀ h r, R0.then headP = .ok h r → h = (tag, key, l)) (hn : nxt (R0.then headP) ⟨#[47, 62]⟩ = false) (ht : ∀ t r, ((R0.then headP).then (preP [62])).then txtP = .ok t r → text = t)
    (hK : (((R0.then headP).then (preP [62])).then txtP).then kidsP = endK ks S) {S4 : Rd Unit} (h4 : (¬ (text = noB ∧ ks = []) ∧ S4 = S) ∨ ((text = noB ∧ ks = []) ∧ S4 = failR p S ∧ ∀ u r, S = .ok u r → r.length = p)) :
    (∀ x r, ((S4.then (preP [60, 47])).then (preP tag.data.toList)).then (preP [62]) = .ok x r → ∃ y, R0.then nodeP = .ok y r) ∧ (∀ n e, ((S4.then (preP [60, 47])).then (preP tag.data.toList)).then (preP [62]) = .bad n e → ∃ e', R0.then nodeP = .bad n e') ∧ ∀ t' r, R0.then nodeP = .ok t' r → Tr.mk tag key text l ks = t' := by
  have key0 : (∃ n e, S = .bad n e ∧ ∃ e', R0.then nodeP = .bad n e') ∨ ∃ u r, S = .ok u r ∧ R0.then nodeP = if text = noB ∧ ks = [] then .bad r.length 2 else endP (.mk tag key text l ks) r := by
    cases R0 with
    | bad n e =>
      cases S with
      | bad n' e' => cases hK; exact .inl ⟨_, _, rfl, _, rfl⟩
      | ok u r => cases hK
    | ok x l0 =>
      have hh' : ∀ h r, headP l0 = .ok h r → h = (tag, key, l) := hh
      have hn' : nxt (headP l0) ⟨#[47, 62]⟩ = false := hn
      have ht' : ∀ t r, ((headP l0).then (preP [62])).then txtP = .ok t r → text = t := ht
      have hK' : (((headP l0).then (preP [62])).then txtP).then kidsP = endK ks S := hK
      show (∃ n e, S = .bad n e ∧ ∃ e', nodeP l0 = .bad n e') ∨ ∃ u r, S = .ok u r ∧ nodeP l0 = _
      rw [nodeP_eq]
      cases hd : headP l0 with
      | bad n e =>
        rw [hd] at hK'
        cases S with
        | bad n' e' => cases hK'; exact .inl ⟨_, _, rfl, _, rfl⟩
        | ok u r => cases hK'
      | ok h l1 =>
        obtain rfl := hh' h l1 hd
        rw [hd] at hn' hK' ht'
        have hp : preP [47, 62] l1 = .bad l1.length 2 := isP_no hn'
        simp only [hp]
        have hK2 : ((preP [62] l1).then txtP).then kidsP = endK ks S := hK'
        have ht2 : ∀ t r, (preP [62] l1).then txtP = .ok t r → text = t := ht'
        cases hp2 : preP [62] l1 with
        | bad n e =>
          rw [hp2] at hK2
          cases S with
          | bad n' e' => cases hK2; exact .inl ⟨_, _, rfl, _, rfl⟩
          | ok u r => cases hK2
        | ok u2 l2 =>
          rw [hp2] at hK2 ht2
          rw [bnd_okE]
          have hK3 : (txtP l2).then kidsP = endK ks S := hK2
          have ht3 : ∀ t r, txtP l2 = .ok t r → text = t := ht2
          cases hx : txtP l2 with
          | bad n e =>
            rw [hx] at hK3
            cases S with
            | bad n' e' => cases hK3; exact .inl ⟨_, _, rfl, _, rfl⟩
            | ok u r => cases hK3
          | ok t l3 =>
            obtain rfl := ht3 t l3 hx
            rw [hx] at hK3
            rw [bnd_okE]
            have hK4 : kidsP l3 = endK ks S := hK3
            rw [hK4]
            cases S with
            | bad n e => exact .inl ⟨_, _, rfl, _, rfl⟩
            | ok u r => exact .inr ⟨_, _, rfl, rfl⟩
  rcases key0 with ⟨n, e, hS, e', hR⟩ | ⟨u, r, hS, hR⟩
  · have h4' : S4 = .bad n e := by
      rcases h4 with ⟨_, h4⟩ | ⟨_, h4, _⟩
      · rw [h4, hS]
      · rw [h4, hS]; rfl
    rw [h4', hR]
    exact ⟨fun x' r' h' => (by cases h'), fun n' e'' h' => (by cases h'; exact ⟨_, rfl⟩), fun t' r' h' => (by cases h')⟩
  · rcases h4 with ⟨h0, h4⟩ | ⟨h0, h4, hp⟩
    · rw [hR, if_neg h0, h4, hS]
      show (∀ x r', ((preP [60, 47] r).then (preP tag.data.toList)).then (preP [62]) = .ok x r' → _) ∧ (∀ n e, ((preP [60, 47] r).then (preP tag.data.toList)).then (preP [62]) = .bad n e → _) ∧ _
      unfold endP
      show _ ∧ _ ∧ ∀ t' r', (bnd (preP [60, 47] r) fun _ l1 => bnd (preP tag.data.toList l1) fun _ l2 => bnd (preP [62] l2) fun _ l3 => .ok (Tr.mk tag key text l ks) l3) = .ok t' r' → _
      cases preP [60, 47] r with
      | bad n e => exact ⟨fun x' r' h' => (by cases h'), fun n' e'' h' => (by cases h'; exact ⟨_, rfl⟩), fun t' r' h' => (by cases h')⟩
      | ok u1 r1 =>
        show (∀ x r', (preP tag.data.toList r1).then (preP [62]) = .ok x r' → _) ∧ (∀ n e, (preP tag.data.toList r1).then (preP [62]) = .bad n e → _) ∧ _
        simp only [bnd, Tr.tag]
        cases preP tag.data.toList r1 with
        | bad n e => exact ⟨fun x' r' h' => (by cases h'), fun n' e'' h' => (by cases h'; exact ⟨_, rfl⟩), fun t' r' h' => (by cases h')⟩
        | ok u2 r2 =>
          show (∀ x r', preP [62] r2 = .ok x r' → _) ∧ (∀ n e, preP [62] r2 = .bad n e → _) ∧ _
          cases hq : preP [62] r2 with
          | bad n e => simp only [hq]; exact ⟨fun x' r' h' => (by cases h'), fun n' e'' h' => (by cases h'; exact ⟨_, rfl⟩), fun t' r' h' => (by cases h')⟩
          | ok u3 r3 => simp only [hq]; exact ⟨fun x' r' h' => (by cases h'; exact ⟨_, rfl⟩), fun n' e'' h' => (by cases h'), fun t' r' h' => (by cases h'; rfl)⟩
    · rw [hR, if_pos h0, h4, hS]
      have := hp u r hS
      rw [this]
      exact ⟨fun x' r' h' => (by cases h'), fun n' e'' h' => (by cases h'; exact ⟨_, rfl⟩), fun t' r' h' => (by cases h')⟩
abbrev TV := Tr × NV
def treeCells (t : Tr) (x : NV) : List Value := [.string t.tag, .string t.key, .string t.text, .slice x.A t.as.length x.ca, .slice x.K t.kids.length x.ck]
def tds (ps : List TV) : List Value := ps.flatMap fun p => treeCells p.1 p.2
theorem tds_append (ps qs : List TV) : tds (ps ++ qs) = tds ps ++ tds qs := by unfold tds; rw [List.flatMap_append]
theorem tds_at (ps : List TV) (j : Nat) (hj : j < ps.length) (i : Nat) (hi : i < 5) : (tds ps)[j * 5 + i]? = (treeCells ps[j].1 ps[j].2)[i]? := by
  induction ps generalizing j with
  | nil => simp at hj
  | cons p r ih =>
    have e : tds (p :: r) = treeCells p.1 p.2 ++ tds r := rfl
    rw [e]
    cases j with
    | zero => rw [List.getElem?_append_left (by simp [treeCells]; omega)]; simp
    | succ j =>
      rw [List.getElem?_append_right (by simp [treeCells]; omega), show (j + 1) * 5 + i - (treeCells p.1 p.2).length = j * 5 + i by simp [treeCells]; omega, ih j (by simpa using hj)]
      simp
/-- append of one tree. -/
theorem tree_app (w : World) (base : Nat) (vK : Value) (ps : List TV) (t : Tr) (x : NV) (hown : w.ownsRow base 25 5 vK ps.length (tds ps)) (hb : base ≤ w.heap.size) (hl : ps.length ≤ 1000000) :
    ∃ A c w', (Builtin.append_ #[23, 23] 23 #[vK, .slice (some ⟨w.heap.size, 0, none⟩) 1 1]).run Tryz.prog (boxW w t x) = .ok (.slice A (ps.length + 1) c) w' ∧ w'.ownsRow base 25 5 (.slice A (ps.length + 1) c) (ps ++ [(t, x)]).length (tds (ps ++ [(t, x)])) ∧ Kept (OwnB vK) w w' ∧ Fresh w vK (.slice A (ps.length + 1) c) := by
  obtain ⟨i0, hi, hz0, hz1, hz2⟩ := info_parts info25
  obtain ⟨v7, w7, hrun, ho, hgr, _, hloc⟩ := run_append_own_at (P := Tryz.prog) (boxW w t x) base 23 23 25 i0 _ 5 96 Tryz.underlying23 hi hz0 hz1 hz2 rfl (by omega) vK ps.length (tds ps) (hown.alloc _) ⟨w.heap.size, 0, none⟩ 1 1 (treeCells t x) (by simp [treeCells]) (show ∀ j u, (treeCells t x)[j]? = some u → (boxW w t x).cell? ((⟨w.heap.size, 0, none⟩ : Addr).add j) = some u from arr_new _ _ _ _ rfl) (by intro u hu; simp [treeCells] at hu; rcases hu with rfl | rfl | rfl | rfl | rfl <;> rfl) (by unfold maxLen; omega) (by omega) (show base ≤ (boxW w t x).heap.size by simp; omega)
  obtain ⟨A7, c7, rfl⟩ := row_form ho
  refine ⟨A7, c7, w7, hrun, by rw [tds_append, show (ps ++ [(t, x)]).length = ps.length + 1 by simp]; simpa [tds] using ho, (kept_alloc w _ _).trans ((kept_grown hgr).mono (fun b _ hb => hb.symm)), fun j hj hb => ?_⟩
  rcases hloc with hl | hl
  · rw [← hl]; exact hb
  · rw [hl] at hb
    have hb' : (boxW w t x).heap.size ≤ j ∨ j = (boxW w t x).heap.size := by
      right; simpa [eq_comm] using hb
    simp at hb'
    omega
/-- The node that is being read, at D, the answer's cell still empty, and where the reader stands. -/
structure NdS (P D : Nat) (s : ByteArray) (w : World) (tag key text : ByteArray) (l : List At) (A : Option Addr) (ca : Nat) (ps : List TV) (vK : Value) {α : Type} (S : Rd α) (W : World) : Prop where
  q : QSt W P s S
  z : B5 W w.heap.size 25 (.string ⟨#[]⟩) (.string ⟨#[]⟩) (.string ⟨#[]⟩) (.slice none 0 0) (.slice none 0 0)
  n : B5 W D 25 (.string tag) (.string key) (.string text) (.slice A l.length ca) vK
  a : ARowS W (fun b => w.heap.size < b ∧ b < D) A l
  c : l.length ≤ ca ∧ ca ≤ maxLen ∧ (A = none → ca = 0)
  r : W.ownsRow (D + 1) 25 5 vK ps.length (tds ps)
  kids : ∀ p ∈ ps, TreeIn W (fun b => D + 1 ≤ b ∧ ¬ OwnB vK b) p.1 p.2
  k : Kept (· = P) w W
  hP : P < w.heap.size
  hD : w.heap.size < D
section
variable {α β : Type} {P D : Nat} {s : ByteArray} {w W W' : World} {tag key text : ByteArray} {l : List At} {A : Option Addr} {ca : Nat} {ps : List TV} {vK : Value} {S : Rd α} {S' : Rd β}
theorem NdS.step (h : NdS P D s w tag key text l A ca ps vK S W) (hk : Kept (· = P) W W') (hq : QSt W' P s S') : NdS P D s w tag key text l A ca ps vK S' W' := by
  have hP := h.hP; have hD := h.hD
  exact ⟨hq, h.z.kept hk (by omega), h.n.kept hk (by omega), h.a.kept hk (fun b hb _ e => by have e' : b = P := e; have hb' : w.heap.size < b ∧ b < D := hb; omega), h.c, hk.own h.r (fun b hb e => by have h1 := (h.r.lt b hb).1; have e' : b = P := e; omega), fun p hp => (h.kids p hp).kept hk (fun b hb _ e => by have e' : b = P := e; have hb' : D + 1 ≤ b := hb.1; omega), h.k.trans hk, hP, hD⟩
theorem NdS.to (h : NdS P D s w tag key text l A ca ps vK S W) (hk : ∀ x r, S = .ok x r → ∃ y, S' = .ok y r) (hb : ∀ n e, S = .bad n e → ∃ e', S' = .bad n e') : NdS P D s w tag key text l A ca ps vK S' W := ⟨h.q.to hk hb, h.z, h.n, h.a, h.c, h.r, h.kids, h.k, h.hP, h.hD⟩
theorem NdS.setText (h : NdS P D s w tag key text l A ca ps vK S W) (u : ByteArray) : NdS P D s w tag key u l A ca ps vK S (W.setCell ⟨D, 2, none⟩ (.string u)) := by
  have hk : Kept (· = D) W (W.setCell ⟨D, 2, none⟩ (.string u)) := kept_setCell W ⟨D, 2, none⟩ _
  have hP := h.hP; have hD := h.hD
  exact ⟨h.q.kept hk (by omega), h.z.kept hk (by omega), h.n.set2 _, h.a.kept hk (fun b hb _ e => by have e' : b = D := e; have hb' : w.heap.size < b ∧ b < D := hb; omega), h.c, hk.own h.r (fun b hb e => by have h1 := (h.r.lt b hb).1; have e' : b = D := e; omega), fun p hp => (h.kids p hp).kept hk (fun b hb _ e => by have e' : b = D := e; have hb' : D + 1 ≤ b := hb.1; omega), h.k.trans' hk (fun i hi e => by have e' : i = D := e; omega), hP, hD⟩
theorem NdS.add (h : NdS P D s w tag key text l A ca ps vK S W) {v' : Value} {t : Tr} {x : NV} (hr : W'.ownsRow (D + 1) 25 5 v' (ps ++ [(t, x)]).length (tds (ps ++ [(t, x)]))) (hk : Kept (OwnB vK) W W') (hf : Fresh W vK v') (hd : TreeIn W (fun b => D + 1 ≤ b ∧ ¬ OwnB vK b) t x) : NdS P D s w tag key text l A ca (ps ++ [(t, x)]) v' S (W'.setCell ⟨D, 4, none⟩ v') := by
  have hks : Kept (· = D) W' (W'.setCell ⟨D, 4, none⟩ v') := kept_setCell W' ⟨D, 4, none⟩ v'
  have hP := h.hP; have hD := h.hD
  have ho : ∀ b, OwnB vK b → D + 1 ≤ b := fun b hb => (h.r.lt b hb).1
  have n1 := h.n.kept hk (fun e => by have := ho _ e; omega)
  have z1 := h.z.kept hk (fun e => by have := ho _ e; omega)
  have q1 := h.q.kept hk (fun e => by have := ho _ e; omega)
  have a1 := h.a.kept hk (fun b hb _ e => by have := ho _ e; have hb' : w.heap.size < b ∧ b < D := hb; omega)
  have k1 : Kept (· = P) w W' := h.k.trans' hk (fun i hi e => by have := ho _ e; omega)
  refine ⟨q1.kept hks (by omega), z1.kept hks (by omega), n1.set4 _, a1.kept hks (fun b hb _ e => by have e' : b = D := e; have hb' : w.heap.size < b ∧ b < D := hb; omega), h.c, hks.own hr (fun b hb e => by have h1 := (hr.lt b hb).1; have e' : b = D := e; omega), fun p hp => ?_, k1.trans' hks (fun i hi e => by have e' : i = D := e; omega), hP, hD⟩
  have hp' : TreeIn W (fun b => D + 1 ≤ b ∧ ¬ OwnB vK b) p.1 p.2 := by
    rcases List.mem_append.1 hp with h1 | h1
    · exact h.kids p h1
    · simp only [List.mem_singleton] at h1; subst h1; exact hd
  have h0 := hp'.mono (S' := fun b => b < W.heap.size ∧ D + 1 ≤ b ∧ ¬ OwnB vK b) (fun b hb hlt => ⟨hlt, hb⟩)
  exact ((h0.kept hk (fun b hb _ e => hb.2.2 e)).kept hks (fun b hb _ e => by have e' : b = D := e; have hb' : D + 1 ≤ b := hb.2.1; omega)).mono (fun b hb hlt => ⟨hb.2.1, fun e => hb.2.2 (hf b hb.1 e)⟩)
/-- The node as a value. -/
theorem NdS.value (h : NdS P D s w tag key text l A ca ps vK S W) : ∃ K ck, vK = .slice K ps.length ck ∧ TreeIn W (fun b => w.heap.size < b) (.mk tag key text l (ps.map Prod.fst)) ⟨A, ca, K, ck⟩ := by
  obtain ⟨K, ck, hvK, k1, k2, k3, k4⟩ := own_parts h.r (by decide)
  have hD := h.hD
  obtain ⟨c1, c2, c3⟩ := h.c
  refine ⟨K, ck, hvK, .mk (fun j => (ps.getD j (zeroT, ⟨none, 0, none, 0⟩)).2) (h.a.mono (fun b hb _ => hb.1)) c1 c2 c3 (by simpa [Tr.kids] using k1) k2 k3 (fun h0 => ?_) (fun j hj => ?_)⟩
  · have h0' : 0 < ps.length := by simpa [Tr.kids] using h0
    obtain ⟨b, hK, hb, hlt, hc⟩ := k4 h0'
    refine ⟨b, 0, hK, by omega, hlt, fun j hj => ?_⟩
    have hj' : j < ps.length := by simpa [Tr.kids] using hj
    have e1 : (Tr.mk tag key text l (ps.map Prod.fst)).kids[j] = ps[j].1 := by simp [Tr.kids]
    have e2 : (ps.getD j (zeroT, ⟨none, 0, none, 0⟩)).2 = ps[j].2 := by simp [List.getD_eq_getElem?_getD, hj']
    rw [e1, e2]
    have key : ∀ i, i < 5 → W.cell? ⟨b, 0 + j * 5 + i, none⟩ = (treeCells ps[j].1 ps[j].2)[i]? := fun i hi => by
      rw [Nat.zero_add, hc (j * 5 + i) (by omega), tds_at ps j hj' i hi]
    exact ⟨key 0 (by decide), key 1 (by decide), key 2 (by decide), key 3 (by decide), key 4 (by decide)⟩
  · have hj' : j < ps.length := by simpa [Tr.kids] using hj
    have e1 : (Tr.mk tag key text l (ps.map Prod.fst)).kids[j] = ps[j].1 := by simp [Tr.kids]
    have e2 : (ps.getD j (zeroT, ⟨none, 0, none, 0⟩)).2 = ps[j].2 := by simp [List.getD_eq_getElem?_getD, hj']
    rw [e1, e2]
    exact (h.kids ps[j] (List.getElem_mem _)).mono (fun b hb _ => by have hb' : D + 1 ≤ b := hb.1; omega)
end
/-- What Node says. -/
def QNodeC (P : Nat) (s : ByteArray) (R : Rd Tr) (w : World) (e : Ending) (w' : World) : Prop :=
  ∃ (t : Tr) (x : NV), e = .returned (nodeV t x) ∧ TreeIn w' (fun b => w.heap.size ≤ b) t x ∧ (∀ t' r, R = .ok t' r → t = t') ∧ QSt w' P s R ∧ Kept (· = P) w w'
theorem node_fin {α : Type} {P D : Nat} {s : ByteArray} {w W : World} {tag key text : ByteArray} {l : List At} {A : Option Addr} {ca : Nat} {ps : List TV} {vK : Value} {S : Rd α} {R : Rd Tr} (h : NdS P D s w tag key text l A ca ps vK S W) (hk : ∀ x r, S = .ok x r → ∃ y, R = .ok y r) (hb : ∀ n e, S = .bad n e → ∃ e', R = .bad n e') (hv : ∀ t' r, R = .ok t' r → Tr.mk tag key text l (ps.map Prod.fst) = t') :
    ∃ K ck, vK = .slice K ps.length ck ∧ QNodeC P s R w (.returned (.agg #[.string tag, .string key, .string text, .slice A l.length ca, .slice K ps.length ck])) (put5 W w.heap.size (.string tag) (.string key) (.string text) (.slice A l.length ca) (.slice K ps.length ck)) := by
  obtain ⟨K, ck, hvK, ht⟩ := h.value
  have hD := h.hD; have hP := h.hP
  have hkp := kept_put5 W w.heap.size (.string tag) (.string key) (.string text) (.slice A l.length ca) (.slice K ps.length ck)
  refine ⟨K, ck, hvK, .mk tag key text l (ps.map Prod.fst), ⟨A, ca, K, ck⟩, by simp [nodeV, Tr.tag, Tr.key, Tr.text, Tr.as, Tr.kids], (ht.kept hkp (fun b hb _ e => by have e' : b = w.heap.size := e; have hb' : w.heap.size < b := hb; omega)).mono (fun b hb _ => Nat.le_of_lt hb), hv, (h.q.kept hkp (by omega)).to hk hb, h.k.trans' hkp (fun i hi e => by have e' : i = w.heap.size := e; omega)⟩
end Go.Proofs.YtjnhcoflmechmaaGreatDoor.M

namespace Go.Proofs.YtjnhcoflmechmaaGreatDoor.M
open Go.RowKit Go.Sort
set_option linter.unusedVariables false
set_option maxRecDepth 100000
theorem qst_at {W : World} {P : Nat} {s : ByteArray} {S : Rd Unit} (h : QSt W P s S) : ∃ a bad st, a ≤ s.size ∧ R4 W P s a bad st ∧ ∀ u r, S = .ok u r → r.length = s.size - a := by
  cases S with
  | ok x l => exact ⟨_, _, _, Nat.sub_le _ _, h.2.2, fun u r e => by cases e; have := h.1; omega⟩
  | bad n er => obtain ⟨h1, a', h3, h4⟩ := h; exact ⟨_, _, _, h3, h4, fun u r e => by cases e⟩
theorem start_mes (R0 : Rd Unit) : mesS (unitR (((R0.then headP).then (preP [62])).then txtP)) ≤ mesS R0 - 1 := by
  cases R0 with
  | bad n e => simp [Rd.then, unitR, mesS]
  | ok u l =>
    show mesS (unitR (((headP l).then (preP [62])).then txtP)) ≤ _
    cases hh : headP l with
    | bad n e => simp [Rd.then, unitR, mesS]
    | ok h l1 =>
      have s1 := (headP_suf hh).2
      show mesS (unitR ((preP [62] l1).then txtP)) ≤ _
      cases h2 : preP [62] l1 with
      | bad n e => simp [Rd.then, unitR, mesS]
      | ok u2 l2 =>
        have s2 := (preP_suf h2).2
        show mesS (unitR (txtP l2)) ≤ _
        cases h3 : txtP l2 with
        | bad n e => simp [unitR, mesS]
        | ok t l3 =>
          have s3 := (txtP_suf h3).2
          simp only [unitR, mesS]; omega
theorem kid_mes {S : Rd Unit} (h : kc S = true) : mesS (unitR (S.then nodeP)) + 1 ≤ mesS S ∧ 1 ≤ mesS S := by
  cases S with
  | bad n e => cases h
  | ok u r =>
    show mesS (unitR (nodeP r)) + 1 ≤ r.length + 1 ∧ 1 ≤ r.length + 1
    cases hn : nodeP r with
    | bad n e => simp [unitR, mesS]
    | ok t r1 => have := (node_exact hn).2.2; simp only [unitR, mesS]; omega
theorem mes_size {W : World} {P : Nat} {s : ByteArray} {S : Rd Unit} (h : QSt W P s S) : mesS S ≤ s.size + 1 := by
  cases S with
  | ok x r => have := h.1; simp only [mesS]; omega
  | bad n e => simp [mesS]
set_option maxHeartbeats 32000000 in
theorem qnode_any (P : Nat) (s : ByteArray) (hs : s.size ≤ 100000) : ∀ (n : Nat) (R0 : Rd Unit) (w : World), QSt w P s R0 → mesS R0 = n → Calls Tryz.prog 42 #[.pointer (some ⟨P, 0, none⟩)] w (QNodeC P s (R0.then nodeP) w) := by
  intro n
  induction n using Nat.strongRecOn with
  | _ n ih =>
  intro R0 w h hn
  have HPC := Lib.hid (show ∀ (S : Rd Unit) (W : World), QSt W P s S → mesS S < n → Calls Tryz.prog 42 #[.pointer (some ⟨P, 0, none⟩)] W (QNodeC P s (S.then nodeP) W) from fun S W hS hlt => ih _ hlt S W hS rfl)
  clear ih
  obtain ⟨w1, hw1⟩ : ∃ w1, w1 = zeroNW w := ⟨_, rfl⟩
  have hk1 : Kept (fun _ => False) w w1 := by rw [hw1]; exact kept_alloc _ _ _
  have hzz : B5 w1 w.heap.size 25 (.string ⟨#[]⟩) (.string ⟨#[]⟩) (.string ⟨#[]⟩) (.slice none 0 0) (.slice none 0 0) := by rw [hw1]; exact B5.new _ _ _ _ _ _ _ _ rfl
  have hs1 : w1.heap.size = w.heap.size + 1 := by rw [hw1]; simp
  have hPw : P < w.heap.size := h.lt
  have HW1 := Lib.hid (show w.alloc (.cells #[.string ⟨#[]⟩, .string ⟨#[]⟩, .string ⟨#[]⟩, .slice none 0 0, .slice none 0 0] 25) = w1 from hw1.symm)
  have C1 := Lib.hid (qhead_any P s R0 w1 (h.kept hk1 (fun h => h)) hs)
  have HZ1 := Lib.hid hzz; have HK1 := Lib.hid (hk1.mono (T := (· = P)) (fun _ _ h => absurd h (fun h => h)))
  have HSM := Lib.hid (show mesS (unitR (((R0.then headP).then (preP [62])).then txtP)) ≤ n - 1 from by rw [← hn]; exact start_mes R0)
  have HSHORT := Lib.hid (fun tag key l => node_short (R0 := R0) (tag := tag) (key := key) (l := l))
  have HLNG := Lib.hid (fun (tag key text : ByteArray) (l : List At) (ks : List Tr) (S : Rd Unit) (p : Nat) => node_long (R0 := R0) (tag := tag) (key := key) (text := text) (l := l) (ks := ks) (S := S) (p := p))
  obtain ⟨R, hR⟩ : ∃ R, R = R0.then nodeP := ⟨_, rfl⟩
  rw [← hR] at HSHORT HLNG ⊢
  obtain ⟨S1, hS1⟩ : ∃ S1, S1 = R0.then headP := ⟨_, rfl⟩
  rw [← hS1] at HSHORT HLNG HSM C1
  clear hw1 hk1 hzz h hn hR hS1
  go_enter Tryz.func42, Tryz.ntmps42
  go_upto_region 1 with (fail)
  rw [HW1.out]
  clear HW1
  go_wp2_with fail
  refine C1.out.mono ?_
  rintro e w2 ⟨tag, key, l, A, ca, rfl, har, hc1, hc2, hc3, hhv, hq2, hk2⟩
  have hs2 := hk2.size
  obtain ⟨D, hD⟩ : ∃ D, D = w2.heap.size := ⟨_, rfl⟩
  obtain ⟨w3, hw3⟩ : ∃ w3, w3 = w2.alloc (.cells #[.string tag, .string key, .string ⟨#[]⟩, .slice A l.length ca, .slice none 0 0] 25) := ⟨_, rfl⟩
  have hk3 : Kept (fun _ => False) w2 w3 := by rw [hw3]; exact kept_alloc _ _ _
  have hn3 : NdS P D s w tag key ⟨#[]⟩ l A ca [] (.slice none 0 0) S1 w3 := ⟨hq2.kept hk3 (fun h => h), (HZ1.out.kept hk2 (show ¬ w.heap.size = P by omega)).kept hk3 (fun h => h), by rw [hw3]; exact B5.new _ _ _ _ _ _ _ _ hD, (har.mono (S' := fun b => w.heap.size < b ∧ b < D) (fun b hb hlt => by have hb' : w1.heap.size ≤ b := hb; exact ⟨by omega, by omega⟩)).kept hk3 (fun _ _ _ h => h), ⟨hc1, hc2, hc3⟩, World.ownsRow_nil w3 _ _ _, fun p hp => (by cases hp), (HK1.out.trans hk2).trans (hk3.mono (fun _ _ h => absurd h (fun h => h))), hPw, by omega⟩
  have HN3 := Lib.hid hn3; have HW3 := Lib.hid hw3.symm; have HHV := Lib.hid hhv
  have C3 := qnext_any P s ⟨#[47, 62]⟩ S1 w3 hn3.q (by omega)
  obtain ⟨nb, hnb⟩ : ∃ nb, nb = nxt S1 ⟨#[47, 62]⟩ := ⟨_, rfl⟩
  rw [← hnb] at C3
  have HC3 := Lib.hid C3; have HNB0 := Lib.hid hnb.symm
  clear har hc1 hc2 hc3 hhv hq2 hk2 hw3 hk3 hn3 C3 hnb C1 HZ1 HK1
  go_upto_region 2 with (fail)
  rw [HW3.out]
  rw [← hD]
  clear HW3 hD hs2 hs1
  go_wp2_with fail
  refine HC3.out.mono ?_
  rintro e w4 ⟨rfl, hk4⟩
  have HN4 := Lib.hid (HN3.out.step (hk4.mono (fun _ _ h => absurd h (fun h => h))) (HN3.out.q.kept hk4 (fun h => h)))
  clear hk4 HC3 HN3
  cases nb with
  | true =>
    have C5 := Lib.hid (qmust_any P s ⟨#[47, 62]⟩ S1 w4 HN4.out.q (by omega))
    go_wp2_with fail
    refine C5.out.mono ?_
    rintro e w5 ⟨rfl, hq5, hk5⟩
    have hn5 := HN4.out.step hk5 hq5
    obtain ⟨f1, f2, f3⟩ := HSHORT.out tag key l HHV.out HNB0.out
    obtain ⟨K1, ck1, hvK1, hfin⟩ := node_fin hn5 f1 f2 f3
    obtain ⟨rfl, rfl⟩ : none = K1 ∧ 0 = ck1 := by cases hvK1; exact ⟨rfl, rfl⟩
    have HF := Lib.hid hfin
    have hz := hn5.z
    have HZ := Lib.hid (hz.put (.string tag) (.string key) (.string ⟨#[]⟩) (.slice A l.length ca) (.slice none 0 0))
    obtain ⟨m0, m1, m2, m3, m4⟩ := hn5.n.cells
    obtain ⟨z0, z1, z2, z3, z4⟩ := hz.cells
    have y0 := hz.frozen 0; have y1 := hz.frozen 1; have y2 := hz.frozen 2; have y3 := hz.frozen 3; have y4 := hz.frozen 4
    clear hq5 hk5 hn5 f1 f2 f3 hvK1 hfin hz C5 HN4
    go_wp2_with fail
    refine bodyPost_ret (res25 rfl _ _ w.heap.size _ _ _ _ _ rfl HZ.out) rfl ?_
    exact HF.out
  | false =>
    have C5 := Lib.hid (qmust_any P s ⟨#[62]⟩ S1 w4 HN4.out.q (by omega))
    go_wp2_with fail
    refine C5.out.mono ?_
    rintro e w5 ⟨rfl, hq5, hk5⟩
    have HN5 := Lib.hid (show NdS P D s w tag key ⟨#[]⟩ l A ca [] (.slice none 0 0) (S1.then (preP [62])) w5 from HN4.out.step hk5 hq5)
    have C6 := Lib.hid (qtext_any P s (S1.then (preP [62])) w5 HN5.out.q hs)
    clear hq5 hk5 C5 HN4
    go_wp2_with fail
    refine C6.out.mono ?_
    rintro e w6 ⟨text, rfl, hv6, hq6, hk6⟩
    have hn6 := HN5.out.step hk6 hq6
    have hn7 := hn6.setText text
    obtain ⟨S0, hS0⟩ : ∃ S0, S0 = unitR ((S1.then (preP [62])).then txtP) := ⟨_, rfl⟩
    have hn70 : NdS P D s w tag key text l A ca [] (.slice none 0 0) S0 (w6.setCell ⟨D, 2, none⟩ (.string text)) := hn7.to (fun x r h => by rw [hS0, h]; exact ⟨_, rfl⟩) (fun n e h => by rw [hS0, h]; exact ⟨_, rfl⟩)
    obtain ⟨RK, hRK⟩ : ∃ RK, RK = ((S1.then (preP [62])).then txtP).then kidsP := ⟨_, rfl⟩
    have HLONG := Lib.hid (show ∀ (ks : List Tr) (S : Rd Unit) (p : Nat) (S4 : Rd Unit), RK = endK ks S → ((¬ (text = noB ∧ ks = []) ∧ S4 = S) ∨ ((text = noB ∧ ks = []) ∧ S4 = failR p S ∧ ∀ u r, S = .ok u r → r.length = p)) → _ from fun ks S p S4 hk h4 => HLNG.out tag key text l ks S p HHV.out HNB0.out hv6 (by rw [← hRK]; exact hk) h4)
    have HRK0 := Lib.hid (show RK = accK (([] : List TV).map Prod.fst) (S0.then kidsP) from by rw [hRK, hS0]; cases ((S1.then (preP [62])).then txtP) with
      | bad n e => rfl
      | ok t r => show kidsP r = accK [] (kidsP r); cases kidsP r <;> rfl)
    have HM0 := Lib.hid (show mesS S0 ≤ n - 1 from by rw [hS0]; exact HSM.out)
    have HM1 := Lib.hid (mes_size hn70.q)
    have HN70 := Lib.hid hn70
    obtain ⟨d0, d1, d2, d3, d4⟩ := hn6.n.cells
    have g2 := hn6.n.frozen 2
    clear hv6 hq6 hk6 hn6 hn7 hS0 hn70 hRK C6 HN5 HSM HLNG HSHORT HHV HNB0
    go_wp2_with fail
    go_loopg [17] (mesS S0) (fun m s17 wr => ∃ (ps : List TV) (vK : Value) (S : Rd Unit), RowKit.Hid (NdS P D s w tag key text l A ca ps vK S wr) ∧ RowKit.Hid (RK = accK (ps.map Prod.fst) (S.then kidsP)) ∧ mesS S ≤ m ∧ RowKit.Hid (ps.length + mesS S ≤ s.size + 1 ∧ mesS S ≤ n - 1))
    case atStart => exact ⟨[], _, S0, HN70, HRK0, Nat.le_refl _, Lib.hid ⟨by have := HM1.out; simpa using this, HM0.out⟩⟩
    case round =>
      clear HN70 HRK0 HM0 HM1 d0 d1 d2 d3 d4 g2
      obtain ⟨ps, vK, S, HN7, HRK, hm, HL⟩ := hrel
      have C7 := qnext_any P s ⟨#[60]⟩ S wr HN7.out.q (by omega)
      obtain ⟨n1, hn1⟩ : ∃ n1, n1 = nxt S ⟨#[60]⟩ := ⟨_, rfl⟩
      obtain ⟨n2, hn2⟩ : ∃ n2, n2 = nxt S ⟨#[60, 47]⟩ := ⟨_, rfl⟩
      have HKC0 := Lib.hid (show kc S = (n1 && !n2) from by rw [hn1, hn2]; exact kc_nxt S)
      have HQ2 := Lib.hid (show ∀ W, QSt W P s S → Calls Tryz.prog 68 #[.pointer (some ⟨P, 0, none⟩), .string ⟨#[60, 47]⟩] W fun e w' => e = .returned (.bool n2) ∧ Kept (fun _ => False) W w' from fun W hW => by rw [hn2]; exact qnext_any P s ⟨#[60, 47]⟩ S W hW (by omega))
      rw [← hn1] at C7
      have HC7 := Lib.hid C7
      clear C7 hn1 hn2
      go_wp2_with fail
      refine HC7.out.mono ?_
      rintro e w8 ⟨rfl, hk8⟩
      have HN8 := Lib.hid (HN7.out.step (hk8.mono (fun _ _ h => absurd h (fun h => h))) (HN7.out.q.kept hk8 (fun h => h)))
      clear hk8 HC7 HN7
      cases n1 with
      | false =>
        obtain ⟨w9, hw9⟩ : ∃ w9, w9 = w8 := ⟨_, rfl⟩
        subst hw9
        have HN9 := HN8
        have HKC := Lib.hid (show kc S = false from HKC0.out)
        clear HN8 HKC0 HQ2
        have HRE := Lib.hid (show RK = endK (ps.map Prod.fst) S from by rw [HRK.out]; exact kids_stop HKC.out)
        obtain ⟨K0, ck0, hvK⟩ := row_form HN9.out.r
        subst hvK
        obtain ⟨n0, n1, n2, n3, n4⟩ := HN9.out.n.cells
        by_cases he0 : text = noB ∧ ps.map Prod.fst = []
        · have hk1 : (text.toList == []) = true := by rw [he0.1, Lib.toList_data]; rfl
          have hk2 : text.toList = [] := by rw [he0.1, Lib.toList_data]; rfl
          have hpl : ps.length = 0 := by simpa using congrArg List.length he0.2
          have hkz : ((ps.length : Int) == 0) = true := by rw [hpl]; rfl
          obtain ⟨a, bad, st, ha, hr4, hat⟩ := qst_at HN9.out.q
          obtain ⟨a0, a1, a2, a3⟩ := hr4.cells
          have CF := Lib.hid (qfail_any P s a S w9 HN9.out.q ha)
          have HE0 := Lib.hid he0; have HAT := Lib.hid hat
          clear he0 hpl hr4 hat
          go_wp2_with fail
          refine CF.out.mono ?_
          rintro e wA ⟨rfl, hqA, hkA⟩
          have HNA := Lib.hid (HN9.out.step hkA hqA)
          obtain ⟨S4, hS4⟩ : ∃ S4, S4 = failR (s.size - a) S := ⟨_, rfl⟩
          rw [← hS4] at HNA
          have H4 := Lib.hid (show (¬ (text = noB ∧ ps.map Prod.fst = []) ∧ S4 = S) ∨ ((text = noB ∧ ps.map Prod.fst = []) ∧ S4 = failR (s.size - a) S ∧ ∀ u r, S = .ok u r → r.length = s.size - a) from .inr ⟨HE0.out, hS4, HAT.out⟩)
          clear hqA hkA CF HN9 n0 n1 n2 n3 n4 a0 a1 a2 a3 hk1 hk2 hkz
          clear hS4
          have CA := Lib.hid (qmust_any P s ⟨#[60, 47]⟩ S4 wA HNA.out.q (by omega))
          go_wp2_with fail
          refine CA.out.mono ?_
          rintro e wB ⟨rfl, hqB, hkB⟩
          have HNB := Lib.hid (show NdS P D s w tag key text l A ca ps (.slice K0 ps.length ck0) (S4.then (preP [60, 47])) wB from HNA.out.step hkB hqB)
          have CB := Lib.hid (qmust_any P s tag (S4.then (preP [60, 47])) wB HNB.out.q (by omega))
          clear hqB hkB CA HNA
          obtain ⟨m0, m1, m2, m3, m4⟩ := HNB.out.n.cells
          go_wp2_with fail
          refine CB.out.mono ?_
          rintro e wC ⟨rfl, hqC, hkC⟩
          have HNC := Lib.hid (show NdS P D s w tag key text l A ca ps (.slice K0 ps.length ck0) ((S4.then (preP [60, 47])).then (preP tag.data.toList)) wC from HNB.out.step hkC hqC)
          have CC := Lib.hid (qmust_any P s ⟨#[62]⟩ ((S4.then (preP [60, 47])).then (preP tag.data.toList)) wC HNC.out.q (by omega))
          clear hqC hkC CB HNB m0 m1 m2 m3 m4
          go_wp2_with fail
          refine CC.out.mono ?_
          rintro e wE ⟨rfl, hqE, hkE⟩
          have hnE : NdS P D s w tag key text l A ca ps (.slice K0 ps.length ck0) (((S4.then (preP [60, 47])).then (preP tag.data.toList)).then (preP [62])) wE := HNC.out.step hkE hqE
          obtain ⟨f1, f2, f3⟩ := HLONG.out (ps.map Prod.fst) S _ S4 HRE.out H4.out
          obtain ⟨K1, ck1, hvK1, hfin⟩ := node_fin hnE f1 f2 f3
          obtain ⟨rfl, rfl⟩ : K0 = K1 ∧ ck0 = ck1 := by cases hvK1; exact ⟨rfl, rfl⟩
          have HF := Lib.hid hfin
          have hz := hnE.z
          have HZ := Lib.hid (hz.put (.string tag) (.string key) (.string text) (.slice A l.length ca) (.slice K0 ps.length ck0))
          obtain ⟨m0, m1, m2, m3, m4⟩ := hnE.n.cells
          obtain ⟨z0, z1, z2, z3, z4⟩ := hz.cells
          have y0 := hz.frozen 0; have y1 := hz.frozen 1; have y2 := hz.frozen 2; have y3 := hz.frozen 3; have y4 := hz.frozen 4
          clear hqE hkE hnE f1 f2 f3 hvK1 hfin hz CC HNC H4 HRE
          go_wp2_with fail
          refine bodyPost_ret (res25 rfl _ _ w.heap.size _ _ _ _ _ rfl HZ.out) rfl ?_
          exact HF.out
        · have H4 := Lib.hid (show (¬ (text = noB ∧ ps.map Prod.fst = []) ∧ S = S) ∨ ((text = noB ∧ ps.map Prod.fst = []) ∧ S = failR 0 S ∧ ∀ u r, S = .ok u r → r.length = 0) from .inl ⟨he0, rfl⟩)
          have HNA := HN9
          obtain ⟨S4, hS4⟩ : ∃ S4, S4 = S := ⟨_, rfl⟩
          by_cases hk0 : text = noB
          · have hk1 : (text.toList == []) = true := by rw [hk0, Lib.toList_data]; rfl
            have hk2 : text.toList = [] := by rw [hk0, Lib.toList_data]; rfl
            have hkz : ((ps.length : Int) == 0) = false := by
              rw [beq_eq_false_iff_ne]
              intro e
              apply he0
              refine ⟨hk0, ?_⟩
              rw [List.eq_nil_of_length_eq_zero (show ps.length = 0 by omega)]; rfl
            have H4' := H4
            clear H4
            have H4 := Lib.hid (show (¬ (text = noB ∧ ps.map Prod.fst = []) ∧ S4 = S) ∨ ((text = noB ∧ ps.map Prod.fst = []) ∧ S4 = failR 0 S ∧ ∀ u r, S = .ok u r → r.length = 0) from by rw [hS4]; exact H4'.out)
            rw [← hS4] at HNA
            obtain ⟨wA, hwA⟩ : ∃ wA, wA = w9 := ⟨_, rfl⟩
            rw [← hwA] at HNA n0 n1 n2 n3 n4 ⊢
            clear hwA H4' hS4 he0 hk0 HN9
            have CA := Lib.hid (qmust_any P s ⟨#[60, 47]⟩ S4 wA HNA.out.q (by omega))
            go_wp2_with fail
            refine CA.out.mono ?_
            rintro e wB ⟨rfl, hqB, hkB⟩
            have HNB := Lib.hid (show NdS P D s w tag key text l A ca ps (.slice K0 ps.length ck0) (S4.then (preP [60, 47])) wB from HNA.out.step hkB hqB)
            have CB := Lib.hid (qmust_any P s tag (S4.then (preP [60, 47])) wB HNB.out.q (by omega))
            clear hqB hkB CA HNA n0 n1 n2 n3 n4
            obtain ⟨m0, m1, m2, m3, m4⟩ := HNB.out.n.cells
            go_wp2_with fail
            refine CB.out.mono ?_
            rintro e wC ⟨rfl, hqC, hkC⟩
            have HNC := Lib.hid (show NdS P D s w tag key text l A ca ps (.slice K0 ps.length ck0) ((S4.then (preP [60, 47])).then (preP tag.data.toList)) wC from HNB.out.step hkC hqC)
            have CC := Lib.hid (qmust_any P s ⟨#[62]⟩ ((S4.then (preP [60, 47])).then (preP tag.data.toList)) wC HNC.out.q (by omega))
            clear hqC hkC CB HNB m0 m1 m2 m3 m4
            go_wp2_with fail
            refine CC.out.mono ?_
            rintro e wE ⟨rfl, hqE, hkE⟩
            have hnE : NdS P D s w tag key text l A ca ps (.slice K0 ps.length ck0) (((S4.then (preP [60, 47])).then (preP tag.data.toList)).then (preP [62])) wE := HNC.out.step hkE hqE
            obtain ⟨f1, f2, f3⟩ := HLONG.out (ps.map Prod.fst) S _ S4 HRE.out H4.out
            obtain ⟨K1, ck1, hvK1, hfin⟩ := node_fin hnE f1 f2 f3
            obtain ⟨rfl, rfl⟩ : K0 = K1 ∧ ck0 = ck1 := by cases hvK1; exact ⟨rfl, rfl⟩
            have HF := Lib.hid hfin
            have hz := hnE.z
            have HZ := Lib.hid (hz.put (.string tag) (.string key) (.string text) (.slice A l.length ca) (.slice K0 ps.length ck0))
            obtain ⟨m0, m1, m2, m3, m4⟩ := hnE.n.cells
            obtain ⟨z0, z1, z2, z3, z4⟩ := hz.cells
            have y0 := hz.frozen 0; have y1 := hz.frozen 1; have y2 := hz.frozen 2; have y3 := hz.frozen 3; have y4 := hz.frozen 4
            clear hqE hkE hnE f1 f2 f3 hvK1 hfin hz CC HNC H4 HRE
            go_wp2_with fail
            refine bodyPost_ret (res25 rfl _ _ w.heap.size _ _ _ _ _ rfl HZ.out) rfl ?_
            exact HF.out
          · have hk1 : (text.toList == []) = false := by
              rw [Lib.toList_data, beq_eq_false_iff_ne]
              intro e
              apply hk0
              rw [← strB_eq text, e]; rfl
            have hk2 : ¬ text.toList = [] := by simpa using hk1
            have H4' := H4
            clear H4
            have H4 := Lib.hid (show (¬ (text = noB ∧ ps.map Prod.fst = []) ∧ S4 = S) ∨ ((text = noB ∧ ps.map Prod.fst = []) ∧ S4 = failR 0 S ∧ ∀ u r, S = .ok u r → r.length = 0) from by rw [hS4]; exact H4'.out)
            rw [← hS4] at HNA
            obtain ⟨wA, hwA⟩ : ∃ wA, wA = w9 := ⟨_, rfl⟩
            rw [← hwA] at HNA n0 n1 n2 n3 n4 ⊢
            clear hwA H4' hS4 he0 hk0 HN9
            have CA := Lib.hid (qmust_any P s ⟨#[60, 47]⟩ S4 wA HNA.out.q (by omega))
            go_wp2_with fail
            refine CA.out.mono ?_
            rintro e wB ⟨rfl, hqB, hkB⟩
            have HNB := Lib.hid (show NdS P D s w tag key text l A ca ps (.slice K0 ps.length ck0) (S4.then (preP [60, 47])) wB from HNA.out.step hkB hqB)
            have CB := Lib.hid (qmust_any P s tag (S4.then (preP [60, 47])) wB HNB.out.q (by omega))
            clear hqB hkB CA HNA n0 n1 n2 n3 n4
            obtain ⟨m0, m1, m2, m3, m4⟩ := HNB.out.n.cells
            go_wp2_with fail
            refine CB.out.mono ?_
            rintro e wC ⟨rfl, hqC, hkC⟩
            have HNC := Lib.hid (show NdS P D s w tag key text l A ca ps (.slice K0 ps.length ck0) ((S4.then (preP [60, 47])).then (preP tag.data.toList)) wC from HNB.out.step hkC hqC)
            have CC := Lib.hid (qmust_any P s ⟨#[62]⟩ ((S4.then (preP [60, 47])).then (preP tag.data.toList)) wC HNC.out.q (by omega))
            clear hqC hkC CB HNB m0 m1 m2 m3 m4
            go_wp2_with fail
            refine CC.out.mono ?_
            rintro e wE ⟨rfl, hqE, hkE⟩
            have hnE : NdS P D s w tag key text l A ca ps (.slice K0 ps.length ck0) (((S4.then (preP [60, 47])).then (preP tag.data.toList)).then (preP [62])) wE := HNC.out.step hkE hqE
            obtain ⟨f1, f2, f3⟩ := HLONG.out (ps.map Prod.fst) S _ S4 HRE.out H4.out
            obtain ⟨K1, ck1, hvK1, hfin⟩ := node_fin hnE f1 f2 f3
            obtain ⟨rfl, rfl⟩ : K0 = K1 ∧ ck0 = ck1 := by cases hvK1; exact ⟨rfl, rfl⟩
            have HF := Lib.hid hfin
            have hz := hnE.z
            have HZ := Lib.hid (hz.put (.string tag) (.string key) (.string text) (.slice A l.length ca) (.slice K0 ps.length ck0))
            obtain ⟨m0, m1, m2, m3, m4⟩ := hnE.n.cells
            obtain ⟨z0, z1, z2, z3, z4⟩ := hz.cells
            have y0 := hz.frozen 0; have y1 := hz.frozen 1; have y2 := hz.frozen 2; have y3 := hz.frozen 3; have y4 := hz.frozen 4
            clear hqE hkE hnE f1 f2 f3 hvK1 hfin hz CC HNC H4 HRE
            go_wp2_with fail
            refine bodyPost_ret (res25 rfl _ _ w.heap.size _ _ _ _ _ rfl HZ.out) rfl ?_
            exact HF.out
      | true =>
        have CQ := Lib.hid (HQ2.out w8 HN8.out.q)
        clear HQ2
        go_wp2_with fail
        refine CQ.out.mono ?_
        rintro e w9 ⟨rfl, hk9⟩
        have HN9 := Lib.hid (HN8.out.step (hk9.mono (fun _ _ h => absurd h (fun h => h))) (HN8.out.q.kept hk9 (fun h => h)))
        clear hk9 CQ HN8
        cases n2 with
        | true =>
          have HKC := Lib.hid (show kc S = false from HKC0.out)
          clear HKC0
          have HRE := Lib.hid (show RK = endK (ps.map Prod.fst) S from by rw [HRK.out]; exact kids_stop HKC.out)
          obtain ⟨K0, ck0, hvK⟩ := row_form HN9.out.r
          subst hvK
          obtain ⟨n0, n1, n2, n3, n4⟩ := HN9.out.n.cells
          by_cases he0 : text = noB ∧ ps.map Prod.fst = []
          · have hk1 : (text.toList == []) = true := by rw [he0.1, Lib.toList_data]; rfl
            have hk2 : text.toList = [] := by rw [he0.1, Lib.toList_data]; rfl
            have hpl : ps.length = 0 := by simpa using congrArg List.length he0.2
            have hkz : ((ps.length : Int) == 0) = true := by rw [hpl]; rfl
            obtain ⟨a, bad, st, ha, hr4, hat⟩ := qst_at HN9.out.q
            obtain ⟨a0, a1, a2, a3⟩ := hr4.cells
            have CF := Lib.hid (qfail_any P s a S w9 HN9.out.q ha)
            have HE0 := Lib.hid he0; have HAT := Lib.hid hat
            clear he0 hpl hr4 hat
            go_wp2_with fail
            refine CF.out.mono ?_
            rintro e wA ⟨rfl, hqA, hkA⟩
            have HNA := Lib.hid (HN9.out.step hkA hqA)
            obtain ⟨S4, hS4⟩ : ∃ S4, S4 = failR (s.size - a) S := ⟨_, rfl⟩
            rw [← hS4] at HNA
            have H4 := Lib.hid (show (¬ (text = noB ∧ ps.map Prod.fst = []) ∧ S4 = S) ∨ ((text = noB ∧ ps.map Prod.fst = []) ∧ S4 = failR (s.size - a) S ∧ ∀ u r, S = .ok u r → r.length = s.size - a) from .inr ⟨HE0.out, hS4, HAT.out⟩)
            clear hqA hkA CF HN9 n0 n1 n2 n3 n4 a0 a1 a2 a3 hk1 hk2 hkz
            clear hS4
            have CA := Lib.hid (qmust_any P s ⟨#[60, 47]⟩ S4 wA HNA.out.q (by omega))
            go_wp2_with fail
            refine CA.out.mono ?_
            rintro e wB ⟨rfl, hqB, hkB⟩
            have HNB := Lib.hid (show NdS P D s w tag key text l A ca ps (.slice K0 ps.length ck0) (S4.then (preP [60, 47])) wB from HNA.out.step hkB hqB)
            have CB := Lib.hid (qmust_any P s tag (S4.then (preP [60, 47])) wB HNB.out.q (by omega))
            clear hqB hkB CA HNA
            obtain ⟨m0, m1, m2, m3, m4⟩ := HNB.out.n.cells
            go_wp2_with fail
            refine CB.out.mono ?_
            rintro e wC ⟨rfl, hqC, hkC⟩
            have HNC := Lib.hid (show NdS P D s w tag key text l A ca ps (.slice K0 ps.length ck0) ((S4.then (preP [60, 47])).then (preP tag.data.toList)) wC from HNB.out.step hkC hqC)
            have CC := Lib.hid (qmust_any P s ⟨#[62]⟩ ((S4.then (preP [60, 47])).then (preP tag.data.toList)) wC HNC.out.q (by omega))
            clear hqC hkC CB HNB m0 m1 m2 m3 m4
            go_wp2_with fail
            refine CC.out.mono ?_
            rintro e wE ⟨rfl, hqE, hkE⟩
            have hnE : NdS P D s w tag key text l A ca ps (.slice K0 ps.length ck0) (((S4.then (preP [60, 47])).then (preP tag.data.toList)).then (preP [62])) wE := HNC.out.step hkE hqE
            obtain ⟨f1, f2, f3⟩ := HLONG.out (ps.map Prod.fst) S _ S4 HRE.out H4.out
            obtain ⟨K1, ck1, hvK1, hfin⟩ := node_fin hnE f1 f2 f3
            obtain ⟨rfl, rfl⟩ : K0 = K1 ∧ ck0 = ck1 := by cases hvK1; exact ⟨rfl, rfl⟩
            have HF := Lib.hid hfin
            have hz := hnE.z
            have HZ := Lib.hid (hz.put (.string tag) (.string key) (.string text) (.slice A l.length ca) (.slice K0 ps.length ck0))
            obtain ⟨m0, m1, m2, m3, m4⟩ := hnE.n.cells
            obtain ⟨z0, z1, z2, z3, z4⟩ := hz.cells
            have y0 := hz.frozen 0; have y1 := hz.frozen 1; have y2 := hz.frozen 2; have y3 := hz.frozen 3; have y4 := hz.frozen 4
            clear hqE hkE hnE f1 f2 f3 hvK1 hfin hz CC HNC H4 HRE
            go_wp2_with fail
            refine bodyPost_ret (res25 rfl _ _ w.heap.size _ _ _ _ _ rfl HZ.out) rfl ?_
            exact HF.out
          · have H4 := Lib.hid (show (¬ (text = noB ∧ ps.map Prod.fst = []) ∧ S = S) ∨ ((text = noB ∧ ps.map Prod.fst = []) ∧ S = failR 0 S ∧ ∀ u r, S = .ok u r → r.length = 0) from .inl ⟨he0, rfl⟩)
            have HNA := HN9
            obtain ⟨S4, hS4⟩ : ∃ S4, S4 = S := ⟨_, rfl⟩
            by_cases hk0 : text = noB
            · have hk1 : (text.toList == []) = true := by rw [hk0, Lib.toList_data]; rfl
              have hk2 : text.toList = [] := by rw [hk0, Lib.toList_data]; rfl
              have hkz : ((ps.length : Int) == 0) = false := by
                rw [beq_eq_false_iff_ne]
                intro e
                apply he0
                refine ⟨hk0, ?_⟩
                rw [List.eq_nil_of_length_eq_zero (show ps.length = 0 by omega)]; rfl
              have H4' := H4
              clear H4
              have H4 := Lib.hid (show (¬ (text = noB ∧ ps.map Prod.fst = []) ∧ S4 = S) ∨ ((text = noB ∧ ps.map Prod.fst = []) ∧ S4 = failR 0 S ∧ ∀ u r, S = .ok u r → r.length = 0) from by rw [hS4]; exact H4'.out)
              rw [← hS4] at HNA
              obtain ⟨wA, hwA⟩ : ∃ wA, wA = w9 := ⟨_, rfl⟩
              rw [← hwA] at HNA n0 n1 n2 n3 n4 ⊢
              clear hwA H4' hS4 he0 hk0 HN9
              have CA := Lib.hid (qmust_any P s ⟨#[60, 47]⟩ S4 wA HNA.out.q (by omega))
              go_wp2_with fail
              refine CA.out.mono ?_
              rintro e wB ⟨rfl, hqB, hkB⟩
              have HNB := Lib.hid (show NdS P D s w tag key text l A ca ps (.slice K0 ps.length ck0) (S4.then (preP [60, 47])) wB from HNA.out.step hkB hqB)
              have CB := Lib.hid (qmust_any P s tag (S4.then (preP [60, 47])) wB HNB.out.q (by omega))
              clear hqB hkB CA HNA n0 n1 n2 n3 n4
              obtain ⟨m0, m1, m2, m3, m4⟩ := HNB.out.n.cells
              go_wp2_with fail
              refine CB.out.mono ?_
              rintro e wC ⟨rfl, hqC, hkC⟩
              have HNC := Lib.hid (show NdS P D s w tag key text l A ca ps (.slice K0 ps.length ck0) ((S4.then (preP [60, 47])).then (preP tag.data.toList)) wC from HNB.out.step hkC hqC)
              have CC := Lib.hid (qmust_any P s ⟨#[62]⟩ ((S4.then (preP [60, 47])).then (preP tag.data.toList)) wC HNC.out.q (by omega))
              clear hqC hkC CB HNB m0 m1 m2 m3 m4
              go_wp2_with fail
              refine CC.out.mono ?_
              rintro e wE ⟨rfl, hqE, hkE⟩
              have hnE : NdS P D s w tag key text l A ca ps (.slice K0 ps.length ck0) (((S4.then (preP [60, 47])).then (preP tag.data.toList)).then (preP [62])) wE := HNC.out.step hkE hqE
              obtain ⟨f1, f2, f3⟩ := HLONG.out (ps.map Prod.fst) S _ S4 HRE.out H4.out
              obtain ⟨K1, ck1, hvK1, hfin⟩ := node_fin hnE f1 f2 f3
              obtain ⟨rfl, rfl⟩ : K0 = K1 ∧ ck0 = ck1 := by cases hvK1; exact ⟨rfl, rfl⟩
              have HF := Lib.hid hfin
              have hz := hnE.z
              have HZ := Lib.hid (hz.put (.string tag) (.string key) (.string text) (.slice A l.length ca) (.slice K0 ps.length ck0))
              obtain ⟨m0, m1, m2, m3, m4⟩ := hnE.n.cells
              obtain ⟨z0, z1, z2, z3, z4⟩ := hz.cells
              have y0 := hz.frozen 0; have y1 := hz.frozen 1; have y2 := hz.frozen 2; have y3 := hz.frozen 3; have y4 := hz.frozen 4
              clear hqE hkE hnE f1 f2 f3 hvK1 hfin hz CC HNC H4 HRE
              go_wp2_with fail
              refine bodyPost_ret (res25 rfl _ _ w.heap.size _ _ _ _ _ rfl HZ.out) rfl ?_
              exact HF.out
            · have hk1 : (text.toList == []) = false := by
                rw [Lib.toList_data, beq_eq_false_iff_ne]
                intro e
                apply hk0
                rw [← strB_eq text, e]; rfl
              have hk2 : ¬ text.toList = [] := by simpa using hk1
              have H4' := H4
              clear H4
              have H4 := Lib.hid (show (¬ (text = noB ∧ ps.map Prod.fst = []) ∧ S4 = S) ∨ ((text = noB ∧ ps.map Prod.fst = []) ∧ S4 = failR 0 S ∧ ∀ u r, S = .ok u r → r.length = 0) from by rw [hS4]; exact H4'.out)
              rw [← hS4] at HNA
              obtain ⟨wA, hwA⟩ : ∃ wA, wA = w9 := ⟨_, rfl⟩
              rw [← hwA] at HNA n0 n1 n2 n3 n4 ⊢
              clear hwA H4' hS4 he0 hk0 HN9
              have CA := Lib.hid (qmust_any P s ⟨#[60, 47]⟩ S4 wA HNA.out.q (by omega))
              go_wp2_with fail
              refine CA.out.mono ?_
              rintro e wB ⟨rfl, hqB, hkB⟩
              have HNB := Lib.hid (show NdS P D s w tag key text l A ca ps (.slice K0 ps.length ck0) (S4.then (preP [60, 47])) wB from HNA.out.step hkB hqB)
              have CB := Lib.hid (qmust_any P s tag (S4.then (preP [60, 47])) wB HNB.out.q (by omega))
              clear hqB hkB CA HNA n0 n1 n2 n3 n4
              obtain ⟨m0, m1, m2, m3, m4⟩ := HNB.out.n.cells
              go_wp2_with fail
              refine CB.out.mono ?_
              rintro e wC ⟨rfl, hqC, hkC⟩
              have HNC := Lib.hid (show NdS P D s w tag key text l A ca ps (.slice K0 ps.length ck0) ((S4.then (preP [60, 47])).then (preP tag.data.toList)) wC from HNB.out.step hkC hqC)
              have CC := Lib.hid (qmust_any P s ⟨#[62]⟩ ((S4.then (preP [60, 47])).then (preP tag.data.toList)) wC HNC.out.q (by omega))
              clear hqC hkC CB HNB m0 m1 m2 m3 m4
              go_wp2_with fail
              refine CC.out.mono ?_
              rintro e wE ⟨rfl, hqE, hkE⟩
              have hnE : NdS P D s w tag key text l A ca ps (.slice K0 ps.length ck0) (((S4.then (preP [60, 47])).then (preP tag.data.toList)).then (preP [62])) wE := HNC.out.step hkE hqE
              obtain ⟨f1, f2, f3⟩ := HLONG.out (ps.map Prod.fst) S _ S4 HRE.out H4.out
              obtain ⟨K1, ck1, hvK1, hfin⟩ := node_fin hnE f1 f2 f3
              obtain ⟨rfl, rfl⟩ : K0 = K1 ∧ ck0 = ck1 := by cases hvK1; exact ⟨rfl, rfl⟩
              have HF := Lib.hid hfin
              have hz := hnE.z
              have HZ := Lib.hid (hz.put (.string tag) (.string key) (.string text) (.slice A l.length ca) (.slice K0 ps.length ck0))
              obtain ⟨m0, m1, m2, m3, m4⟩ := hnE.n.cells
              obtain ⟨z0, z1, z2, z3, z4⟩ := hz.cells
              have y0 := hz.frozen 0; have y1 := hz.frozen 1; have y2 := hz.frozen 2; have y3 := hz.frozen 3; have y4 := hz.frozen 4
              clear hqE hkE hnE f1 f2 f3 hvK1 hfin hz CC HNC H4 HRE
              go_wp2_with fail
              refine bodyPost_ret (res25 rfl _ _ w.heap.size _ _ _ _ _ rfl HZ.out) rfl ?_
              exact HF.out
        | false =>
          have hkc : kc S = true := HKC0.out
          obtain ⟨hme, hm1⟩ := kid_mes hkc
          obtain ⟨hl1, hl2⟩ := HL.out
          obtain ⟨vL, vcl, hvK⟩ := row_form HN9.out.r
          subst hvK
          obtain ⟨S', hS'⟩ : ∃ S', S' = unitR (S.then nodeP) := ⟨_, rfl⟩
          rw [← hS'] at hme
          have HSN := Lib.hid (show (∀ x r, S.then nodeP = .ok x r → ∃ y, S' = .ok y r) ∧ (∀ n e, S.then nodeP = .bad n e → ∃ e', S' = .bad n e') from ⟨fun x r h => by rw [hS', h]; exact ⟨_, rfl⟩, fun n e h => by rw [hS', h]; exact ⟨_, rfl⟩⟩)
          have HRK2 := Lib.hid (show ∀ t : Tr, (∀ t' r, S.then nodeP = .ok t' r → t = t') → RK = accK (ps.map Prod.fst ++ [t]) (S'.then kidsP) from fun t ht => by rw [HRK.out, hS']; exact kids_more hkc ht)
          have CP := Lib.hid (HPC.out S w9.drew (HN9.out.q.kept (kept_below (below_drewN _ w9 1) (fun _ => False)) (fun h => h)) (by omega))
          have hpl : ps.length ≤ 100001 := by omega
          have HHL := Lib.hid (show ps.length + 1 + mesS S' ≤ s.size + 1 ∧ mesS S' ≤ n - 1 ∧ mesS S' < mesS S from ⟨by omega, by omega, by omega⟩)
          obtain ⟨d0, d1, d2, d3, d4⟩ := HN9.out.n.cells
          have hD9 := HN9.out.hD
          have hP9 := HN9.out.hP
          clear hS' hkc HKC0 HRK HL hl1 hl2 hme hm1 d0 d1 d2 d3
          obtain ⟨wm, hwm⟩ : ∃ wm, wm = w9 := ⟨_, rfl⟩
          subst hwm
          go_wp2_with fail
          go_region_law ((first
            | (refine step_append_run rfl (.tmp 24) (.tmp 27) 23 rfl (.slice vL ps.length vcl) (.slice (some ⟨w6'.heap.size, 0, none⟩) 1 1) (by simp [Act.eval]) (by simp [Act.eval]) hr7.out ?_)
            | (go_simp; go_at_call 42; refine CP.out.mono ?_; rintro e w6' ⟨t, x, rfl, hti6, htt6, hrs6, hk6⟩; have HTT := Lib.hid htt6; have HK6 := Lib.hid (show Kept (· = P) wm w6' from (kept_drew wm 1 _).trans hk6); have HTI6 := Lib.hid hti6; have HG6 := Lib.hid (HN9.out.step HK6.out hrs6); have hs6 := HK6.out.size; obtain ⟨A7, c7, w7, hr7', ho7', hk7', hf7'⟩ := tree_app w6' (D + 1) _ ps t x HG6.out.r HG6.out.n.lt (by omega); have hr7 := Lib.hid hr7'; have ho7 := Lib.hid ho7'; have hk7 := Lib.hid hk7'; have hf7 := Lib.hid hf7'; have hDo : ¬ OwnB (.slice vL ps.length vcl) D := (fun e => by have := (HG6.out.r.lt _ e).1; omega); have f6 := HG6.out.n.cells.2.2.2.2; have f6a : (w6'.alloc (.cells #[.string t.tag, .string t.key, .string t.text, .slice x.A t.as.length x.ca, .slice x.K t.kids.length x.ck] 25)).cell? ⟨D, 4, none⟩ = some (.slice vL ps.length vcl) := cell_push f6; have hbx7 := HG6.out.n.kept hk7.out hDo; have f7 := hbx7.cells.2.2.2.2; have z7 := hbx7.frozen 4; clear hr7' ho7' hk7' hf7' hti6 htt6 hrs6 hk6 hbx7)))
          all_goals
            have HTI := Lib.hid (show TreeIn w6' (fun b => D + 1 ≤ b ∧ ¬ OwnB (.slice vL ps.length vcl) b) t x from HTI6.out.mono (fun b hb _ => by have hb' : wm.heap.size ≤ b := hb; have := HN9.out.n.lt; exact ⟨by omega, fun e => by have := (HN9.out.r.lt _ e).2; omega⟩))
            have HG8 := Lib.hid ((HG6.out.add (t := t) (x := x) (W' := w7) ho7.out hk7.out hf7.out HTI.out).to HSN.out.1 HSN.out.2)
            have HRK8 := Lib.hid (show RK = accK ((ps ++ [(t, x)]).map Prod.fst) (S'.then kidsP) from by rw [List.map_append]; exact HRK2.out t HTT.out)
            clear f6 f6a f7 z7 CP d4 HG6 HTI HTI6 HN9 HK6 hk7 ho7 hf7 hr7 HRK2 HSN HTT hDo
            go_wp2_with fail
            go_roundg (mesS S')
            case measure => have := HHL.out; omega
            case rel => exact ⟨ps ++ [(t, x)], _, S', HG8, HRK8, Nat.le_refl _, Lib.hid ⟨by have := HHL.out; simp only [List.length_append, List.length_singleton]; omega, HHL.out.2.1⟩⟩
end Go.Proofs.YtjnhcoflmechmaaGreatDoor.M
namespace Go.Proofs.YtjnhcoflmechmaaGreatDoor.M
open Go.RowKit Go.Sort
set_option linter.unusedVariables false
set_option maxRecDepth 100000
theorem res253 {fn : Func} {p u v : Tmp} (h : fn.results = #[.cell p 25, .tmp u, .tmp v]) (tmps : Array Value) (w : World) (B : Nat) (v0 v1 v2 v3 v4 x y : Value) (hp : tmps.getD p undef = .pointer (some ⟨B, 0, none⟩)) (hu : tmps.getD u undef = x) (hv : tmps.getD v undef = y) (hg : B5 w B 25 v0 v1 v2 v3 v4) :
    (results fn tmps).run Tryz.prog w = .ok (.tuple #[.agg #[v0, v1, v2, v3, v4], x, y]) w := by
  subst hu; subst hv
  simp only [results, h]
  have hp' : tmps[p]?.getD undef = .pointer (some ⟨B, 0, none⟩) := by simpa using hp
  simp [Result.andThen, hp', asAddr, run_loadVar_row w B 25 25 _ (0, 0) _ hg Tryz.underlying25 rfl (by kernel_rfl)]
theorem below_p5 {w W : World} {b : Nat} (hb : Below w.heap.size w W) (h : w.heap.size ≤ b) (v0 v1 v2 v3 v4 : Value) : Below w.heap.size w (put5 W b v0 v1 v2 v3 v4) := by
  unfold put5
  exact ((((hb.setCell h _).setCell h _).setCell h _).setCell h _).setCell h _
theorem parc_zero {s : ByteArray} {w W : World} {a er : Int} (h : ParseM s zeroT a er) (hb : Below w.heap.size w W) : ParseC s w (.returned (.tuple #[.agg #[.string ⟨#[]⟩, .string ⟨#[]⟩, .string ⟨#[]⟩, .slice none 0 0, .slice none 0 0], .int .i64 a, .int .i64 er])) W :=
  ⟨zeroT, ⟨none, 0, none, 0⟩, a, er, rfl, tin_zero _ _, h, hb⟩
set_option maxHeartbeats 16000000 in
theorem refParse_any (s : ByteArray) (w : World) (hs : s.size ≤ 100000) : Calls Tryz.prog 18 #[.string s] w (ParseC s w) := by
  obtain ⟨w1, hw1⟩ : ∃ w1, w1 = zeroNW w := ⟨_, rfl⟩
  have hb1 : Below w.heap.size w w1 := by rw [hw1]; exact (Below.refl _ _).alloc (Nat.le_refl _) _
  have hz1 : B5 w1 w.heap.size 25 (.string ⟨#[]⟩) (.string ⟨#[]⟩) (.string ⟨#[]⟩) (.slice none 0 0) (.slice none 0 0) := by rw [hw1]; exact B5.new _ _ _ _ _ _ _ _ rfl
  have hs1 : w1.heap.size = w.heap.size + 1 := by rw [hw1]; simp
  obtain ⟨P, hP⟩ : ∃ P, P = w.heap.size + 1 := ⟨_, rfl⟩
  obtain ⟨w2, hw2⟩ : ∃ w2, w2 = w1.alloc (.cells #[.string s, .int .i64 0, .bool false, .int .i64 0] 83) := ⟨_, rfl⟩
  have hk2 : Kept (fun _ => False) w1 w2 := by rw [hw2]; exact kept_alloc _ _ _
  have hb2 : Below w.heap.size w w2 := by rw [hw2]; exact hb1.alloc (by omega) _
  have hp2 : R4 w2 P s 0 false 0 := by rw [hw2, hP, ← hs1]; exact heap_alloc_new w1 _
  have hz2 := hz1.kept hk2 (fun h => h)
  have CV0 := qnode_any P s hs _ (.ok () (restL s 0)) w2 (qst_ok () (by omega) hp2) rfl
  rw [show (Rd.ok () (restL s 0)).then nodeP = nodeP (restL s 0) from rfl] at CV0
  obtain ⟨R, hR⟩ : ∃ R, R = nodeP (restL s 0) := ⟨_, rfl⟩
  rw [← hR] at CV0
  have HWH := Lib.hid (show wholeP s.data.toList = bnd R fun t l' => if l' = [] then .ok t [] else .bad l'.length 2 from by rw [hR]; rfl)
  have HG := Lib.hid (show ∀ t l, R = .ok t l → GoodT t from fun t l h => good_node (hR.symm.trans h) (by rw [restL_len]; omega))
  have CV := Lib.hid CV0; have HZ2 := Lib.hid hz2; have HB2 := Lib.hid hb2
  have HW1 := Lib.hid (show w.alloc (.cells #[.string ⟨#[]⟩, .string ⟨#[]⟩, .string ⟨#[]⟩, .slice none 0 0, .slice none 0 0] 25) = w1 from hw1.symm)
  have HW2 := Lib.hid hw2.symm
  have hs2 : w2.heap.size = w.heap.size + 1 + 1 := by rw [hw2]; simp; omega
  clear hw1 hb1 hz1 hw2 hk2 hb2 hp2 hz2 CV0 hR
  subst hP
  go_enter Tryz.func18, Tryz.ntmps18
  go_upto_region 1 with (fail)
  rw [HW1.out]
  go_upto_region 2 with (fail)
  rw [HW2.out]
  clear hs1 HW1 HW2
  go_wp2_with fail
  refine CV.out.mono ?_
  rintro e w3 ⟨t, x, rfl, hti, htt, hrs, hk3⟩
  clear CV
  have hs3 := hk3.size
  have hz3 := HZ2.out.kept hk3 (show ¬ w.heap.size = w.heap.size + 1 by omega)
  have hb3 : Below w.heap.size w w3 := HB2.out.trans (hk3.below (by omega) (fun k hk => by have h' : k = w.heap.size + 1 := hk; omega))
  obtain ⟨w4, hw4⟩ : ∃ w4, w4 = boxW w3 t x := ⟨_, rfl⟩
  have hk4 : Kept (fun _ => False) w3 w4 := by rw [hw4]; exact kept_alloc _ _ _
  have hz4 := hz3.kept hk4 (fun h => h)
  have hrs4 := hrs.kept hk4 (fun h => h)
  have hb4 : Below w.heap.size w w4 := by rw [hw4]; exact hb3.alloc (by omega) _
  have hx4 : KidCells w4 w3.heap.size 0 t x := by rw [hw4]; exact box_node _ _ _
  have hti4 := hti.kept hk4 (fun _ _ _ h => h)
  have hX : w3.heap.size < w4.heap.size := hx4.block_lt
  have HTI4 := Lib.hid hti4; have HW4 := Lib.hid hw4; have HX4 := Lib.hid hx4; have HZ4 := Lib.hid hz4; have HB4 := Lib.hid hb4; have HTT := Lib.hid htt
  clear hw4 hk4 hz4 hb4 hx4 hti4 hz3 hb3 hrs hk3 hti htt HZ2 HB2
  go_upto_region 3 with (fail)
  rw [box_out HW4]
  clear HW4
  rcases R with ⟨t', l⟩ | ⟨n, er⟩
  · obtain rfl := HTT.out t' l rfl
    obtain ⟨hl, hl2, hp4⟩ := hrs4
    obtain ⟨A, hA⟩ : ∃ A, A = s.size - l.length := ⟨_, rfl⟩
    rw [← hA] at hp4
    have HP4 := Lib.hid hp4
    obtain ⟨p0, p1, p2, p3⟩ := hp4.cells
    clear hp4 hl2
    by_cases hl0 : l = []
    · have HWO := Lib.hid (show wholeP s.data.toList = .ok t [] from by rw [HWH.out, hl0]; rfl)
      have hlen : l.length = 0 := by rw [hl0]; rfl
      have hA1 : decide ((A : Int) < (s.size : Int)) = false := by simp; omega
      have hA2 : ¬ (A : Int) < (s.size : Int) := by omega
      have CR := Lib.hid (icheck_any t x w4 HTI4.out.at (HG.out t l rfl))
      obtain ⟨x0, x1, x2, x3, x4⟩ := HX4.out
      clear hl0 hlen hA
      go_wp2_with fail
      refine CR.out.mono ?_
      rintro e w5 ⟨f, g, rfl, hfg, hb5⟩
      have hx5 := HX4.out.below hb5 hX
      have HFG := Lib.hid hfg
      have hz5 := HZ4.out.below hb5 HZ4.out.lt
      have hb05 := HB4.out.trans (hb5.mono HB4.out.size)
      have HTI5 := Lib.hid (HTI4.out.kept (kept_below hb5 (fun _ => False)) (fun _ _ _ h => h))
      clear x0 x1 x2 x3 x4 CR hfg p0 p1 p2 p3 hb5
      by_cases h0 : g = 0
      · subst h0
        obtain ⟨x0, x1, x2, x3, x4⟩ := hx5
        have HZF := Lib.hid (hz5.put (.string t.tag) (.string t.key) (.string t.text) (.slice x.A t.as.length x.ca) (.slice x.K t.kids.length x.ck))
        have HF := Lib.hid (show ParseC s w (.returned (.tuple #[nodeV t x, .int .i64 0, .int .i64 0])) (put5 w5 w.heap.size (.string t.tag) (.string t.key) (.string t.text) (.slice x.A t.as.length x.ca) (.slice x.K t.kids.length x.ck)) from ⟨t, x, 0, 0, rfl, (HTI5.out.kept (kept_put5 w5 w.heap.size (.string t.tag) (.string t.key) (.string t.text) (.slice x.A t.as.length x.ca) (.slice x.K t.kids.length x.ck)) (fun b hb _ e => by have e' : b = w.heap.size := e; have hb' : w2.heap.size ≤ b := hb; omega)).mono (fun b hb _ => by have hb' : w2.heap.size ≤ b := hb; omega), by unfold ParseM; rw [HWO.out]; exact ⟨f, 0, HFG.out, .inl ⟨rfl, rfl, rfl, rfl⟩⟩, below_p5 hb05 (Nat.le_refl _) _ _ _ _ _⟩)
        obtain ⟨z0, z1, z2, z3, z4⟩ := hz5.cells
        have y0 := hz5.frozen 0; have y1 := hz5.frozen 1; have y2 := hz5.frozen 2; have y3 := hz5.frozen 3; have y4 := hz5.frozen 4
        clear hz5 hb05
        go_wp2_with fail
        refine bodyPost_ret (res253 rfl _ _ w.heap.size _ _ _ _ _ _ _ rfl rfl rfl HZF.out) rfl ?_
        exact HF.out
      · have hne : (g != 0) = true := by simpa using h0
        have HZF := Lib.hid (hz5.put (.string ⟨#[]⟩) (.string ⟨#[]⟩) (.string ⟨#[]⟩) (.slice none 0 0) (.slice none 0 0))
        have HF := Lib.hid (parc_zero (s := s) (a := f) (er := g) (by unfold ParseM; rw [HWO.out]; exact ⟨f, g, HFG.out, .inr ⟨h0, rfl, rfl, rfl⟩⟩) (below_p5 hb05 (Nat.le_refl _) (.string ⟨#[]⟩) (.string ⟨#[]⟩) (.string ⟨#[]⟩) (.slice none 0 0) (.slice none 0 0)))
        obtain ⟨z0, z1, z2, z3, z4⟩ := hz5.cells
        have y0 := hz5.frozen 0; have y1 := hz5.frozen 1; have y2 := hz5.frozen 2; have y3 := hz5.frozen 3; have y4 := hz5.frozen 4
        clear hz5 hb05 h0
        go_wp2_with fail
        refine bodyPost_ret (res253 rfl _ _ w.heap.size _ _ _ _ _ _ _ rfl rfl rfl HZF.out) rfl ?_
        exact HF.out
    · have hlen : 0 < l.length := by cases l with | nil => exact absurd rfl hl0 | cons c r => simp
      have hA1 : decide ((A : Int) < (s.size : Int)) = true := by simp; omega
      have hA2 : (A : Int) < (s.size : Int) := by omega
      have CF := Lib.hid (qfail_new (w.heap.size + 1) s A 0 A w4 HP4.out)
      have HSY := Lib.hid (show ParseM s zeroT (A : Int) 2 from by
        unfold ParseM
        rw [show wholeP s.data.toList = .bad l.length 2 from by rw [HWH.out]; show (if l = [] then _ else _) = _; rw [if_neg hl0], hA]
        exact ⟨rfl, rfl, rfl⟩)
      clear hl0 hA
      go_wp2_with fail
      refine CF.out.mono ?_
      rintro e w5 ⟨rfl, hp5, hk5⟩
      have hz5 := HZ4.out.kept hk5 (show ¬ w.heap.size = w.heap.size + 1 by omega)
      have hb5 : Below w.heap.size w w5 := HB4.out.trans (hk5.below (by omega) (fun k hk => by have h' : k = w.heap.size + 1 := hk; omega))
      clear p0 p1 p2 p3 CF
      obtain ⟨p0, p1, p2, p3⟩ := hp5.cells
      clear hp5 hk5
      have hzF := hz5
      have HZF := Lib.hid (show B5 (put5 _ w.heap.size (.string ⟨#[]⟩) (.string ⟨#[]⟩) (.string ⟨#[]⟩) (.slice none 0 0) (.slice none 0 0)).drew w.heap.size 25 (.string ⟨#[]⟩) (.string ⟨#[]⟩) (.string ⟨#[]⟩) (.slice none 0 0) (.slice none 0 0) from hzF.put (.string ⟨#[]⟩) (.string ⟨#[]⟩) (.string ⟨#[]⟩) (.slice none 0 0) (.slice none 0 0))
      have HF := Lib.hid (parc_zero HSY.out (Below.drew (below_p5 hb5 (Nat.le_refl _) (.string ⟨#[]⟩) (.string ⟨#[]⟩) (.string ⟨#[]⟩) (.slice none 0 0) (.slice none 0 0))))
      obtain ⟨z0, z1, z2, z3, z4⟩ := hzF.cells
      have y0 := hzF.frozen 0; have y1 := hzF.frozen 1; have y2 := hzF.frozen 2; have y3 := hzF.frozen 3; have y4 := hzF.frozen 4
      clear hzF
      go_wp2_with fail
      go_region
      go_wp2_with fail
      refine bodyPost_ret (res253 rfl _ _ w.heap.size _ _ _ _ _ _ _ rfl rfl rfl HZF.out) rfl ?_
      exact HF.out
  · obtain ⟨hn, a', ha', hp4⟩ := hrs4
    have HSY := Lib.hid (show ParseM s zeroT ((s.size - n : Nat) : Int) 2 from by
      unfold ParseM
      rw [show wholeP s.data.toList = .bad n er from by rw [HWH.out]; rfl]
      exact ⟨rfl, rfl, rfl⟩)
    obtain ⟨A, hA⟩ : ∃ A, A = s.size - n := ⟨_, rfl⟩
    rw [← hA] at hp4 HSY
    obtain ⟨p0, p1, p2, p3⟩ := hp4.cells
    clear hp4 hA
    have hzF := HZ4.out
    have HZF := Lib.hid (show B5 (put5 _ w.heap.size (.string ⟨#[]⟩) (.string ⟨#[]⟩) (.string ⟨#[]⟩) (.slice none 0 0) (.slice none 0 0)).drew w.heap.size 25 (.string ⟨#[]⟩) (.string ⟨#[]⟩) (.string ⟨#[]⟩) (.slice none 0 0) (.slice none 0 0) from hzF.put (.string ⟨#[]⟩) (.string ⟨#[]⟩) (.string ⟨#[]⟩) (.slice none 0 0) (.slice none 0 0))
    have HF := Lib.hid (parc_zero HSY.out (Below.drew (below_p5 HB4.out (Nat.le_refl _) (.string ⟨#[]⟩) (.string ⟨#[]⟩) (.string ⟨#[]⟩) (.slice none 0 0) (.slice none 0 0))))
    obtain ⟨z0, z1, z2, z3, z4⟩ := hzF.cells
    have y0 := hzF.frozen 0; have y1 := hzF.frozen 1; have y2 := hzF.frozen 2; have y3 := hzF.frozen 3; have y4 := hzF.frozen 4
    clear hzF
    go_wp2_with fail
    go_region
    go_wp2_with fail
    refine bodyPost_ret (res253 rfl _ _ w.heap.size _ _ _ _ _ _ _ rfl rfl rfl HZF.out) rfl ?_
    exact HF.out
set_option maxHeartbeats 8000000 in
theorem law4_any (s : ByteArray) (w : World) (hv : Vars w) : Calls Tryz.prog 4 #[.string s] w (TrueP w) := by
  by_cases hbig : 3000 < s.size
  · have hb2 : (3000 : Int) < (s.size : Int) := by omega
    have CS := Lib.hid (same_any w hv)
    clear hv hbig
    go_enter Tryz.func4, Tryz.ntmps4
    go_wp2_with fail
    refine CS.out.mono ?_
    rintro e w1 ⟨rfl, hb⟩
    have HF := Lib.hid hb
    clear hb
    go_wp2_with fail
    go_ret
    exact ⟨rfl, HF.out⟩
  · have hs : s.size ≤ 3000 := by omega
    have hb2 : ¬ (3000 : Int) < (s.size : Int) := by omega
    have C1 := Lib.hid (parse_any s w (by omega) (Nat.le_trans (cntK_le _) (by rw [restL_len]; omega)) (fun t l h => good_node h (by rw [restL_len]; omega)) hv)
    have HV := Lib.hid hv
    clear hv hbig
    go_enter Tryz.func4, Tryz.ntmps4
    go_wp2_with fail
    refine C1.out.mono ?_
    rintro e w1 ⟨t, x, a, er, rfl, hti, hpm, hb1⟩
    obtain ⟨w2, hw2⟩ : ∃ w2, w2 = boxW w1 t x := ⟨_, rfl⟩
    have hb12 : Below w1.heap.size w1 w2 := by rw [hw2]; exact below_box _ _ _
    have hx2 : KidCells w2 w1.heap.size 0 t x := by rw [hw2]; exact box_node _ _ _
    have HB2 := Lib.hid (hb1.trans (hb12.mono hb1.size))
    have HW2 := Lib.hid hw2; have HA2 := Lib.hid (hti.at.up hb12); have HPM := Lib.hid hpm
    have HX2 := Lib.hid hx2
    have hX2 := hx2.block_lt
    have HGT := Lib.hid (show GoodT t from by
      by_cases h0 : er = 0
      · subst h0; exact (only_ok hpm (by omega)).2.2.1
      · obtain ⟨rfl, -⟩ := only_bad hpm h0
        exact .mk (Nat.zero_le _) (by decide) (by decide) (by decide) (fun x hx => by cases hx) (by decide) (fun k hk => by cases hk))
    have C2 := Lib.hid (refParse_any s w2 (by omega))
    clear hti hpm hb1 hw2 hb12 C1 hx2
    go_upto_region 4 with (fail)
    rw [box_out HW2]
    clear HW2
    go_wp2_with fail
    refine C2.out.mono ?_
    rintro e w3 ⟨t', x', a', er', rfl, hti, hpm, hb3⟩
    obtain ⟨rfl, rfl, rfl⟩ := parseM_unique HPM.out hpm
    obtain ⟨w4, hw4⟩ : ∃ w4, w4 = boxW w3 t x' := ⟨_, rfl⟩
    have hb34 : Below w3.heap.size w3 w4 := by rw [hw4]; exact below_box _ _ _
    have hx4 : KidCells w4 w3.heap.size 0 t x' := by rw [hw4]; exact box_node _ _ _
    have hb24 := hb3.trans (hb34.mono hb3.size)
    have HB4 := Lib.hid (HB2.out.trans (hb24.mono HB2.out.size))
    have HW4 := Lib.hid hw4
    have C4 := Lib.hid (nodes_any t t x x' w4 (HA2.out.up hb24) (hti.at.up hb34) HGT.out HGT.out)
    obtain ⟨p0, p1, p2, p3, p4⟩ := HX2.out.below hb24 hX2
    obtain ⟨q0, q1, q2, q3, q4⟩ := hx4
    clear hti hpm hb3 hw4 hb34 hb24 C2 HA2 HPM HX2 HB2 HGT
    go_upto_region 5 with (fail)
    rw [box_out HW4]
    clear HW4
    go_wp2_with fail
    refine C4.out.mono ?_
    rintro e w5 ⟨r, rfl, hr, hb5⟩
    obtain rfl : r = true := hr.2 rfl
    have HB5 := Lib.hid (HB4.out.trans (hb5.mono HB4.out.size))
    have CS := Lib.hid (same_any w5 (HV.out.belowC HB5.out))
    clear hr hb5 C4 HB4 p0 p1 p2 p3 p4 q0 q1 q2 q3 q4
    go_wp2_with fail
    refine CS.out.mono ?_
    rintro e w7 ⟨rfl, hb7⟩
    have HF := Lib.hid (HB5.out.trans (hb7.mono HB5.out.size))
    clear hb7 CS HB5
    go_wp2_with fail
    go_ret
    exact ⟨rfl, HF.out⟩
end Go.Proofs.YtjnhcoflmechmaaGreatDoor.M
