/-
  markup's parser: what is read of a node ahead of its kids.
-/
import Derived.Test.YtjnhcoflmechmaaGreatDoorMAttr
import Derived.Test.YtjnhcoflmechmaaGreatDoorMCut
namespace Go.Proofs.YtjnhcoflmechmaaGreatDoor.M
open Go.RowKit Go.Sort
set_option linter.unusedVariables false
set_option maxRecDepth 100000
/-- What follows the attributes. -/
def tailP (h : Hd) (l1 : Bytes) : Rd (Bool × Tr) := match preP [47, 62] l1 with
  | .ok _ l2 => .ok (false, .mk h.1 h.2.1 noB h.2.2 []) l2
  | .bad _ _ => bnd (preP [62] l1) fun _ l2 => bnd (txtP l2) fun t l3 => if t = noB ∧ kidC l3 = false then .bad l3.length 2 else .ok (true, .mk h.1 h.2.1 t h.2.2 []) l3
def attsT (tag key : ByteArray) (l : List At) (r : Bytes) : Rd (Bool × Tr) := bnd (attsP r) fun atz l4 => tailP (tag, key, l ++ atz) l4
theorem start_eq (l : Bytes) : startP l = bnd (preP [60] l) fun _ l1 => bnd (wordP l1) fun tag l2 => bnd (keyP l2) fun key l3 => attsT tag key [] l3 := by
  have e : startP l = bnd (headP l) tailP := rfl
  rw [e]
  unfold headP
  simp only [bnd_assoc]
  rfl
theorem attsT_no {tag key : ByteArray} {l : List At} {r : Bytes} {n : Nat} {e : Int} (h : preP [32] r = .bad n e) : attsT tag key l r = tailP (tag, key, l) r := by
  unfold attsT
  rw [attsP_eq, h]
  simp [bnd]
theorem attsT_bad {tag key : ByteArray} {l : List At} {r r0 : Bytes} {u : Unit} {n : Nat} {e : Int} (h : preP [32] r = .ok u r0) (ha : attP r0 = .bad n e) : attsT tag key l r = .bad n e := by
  unfold attsT
  rw [attsP_eq, h]
  simp only
  rw [ha]
  rfl
theorem attsT_more {tag key : ByteArray} {l : List At} {x : At} {r r0 r1 : Bytes} {u : Unit} (h : preP [32] r = .ok u r0) (ha : attP r0 = .ok x r1) : attsT tag key l r = attsT tag key (l ++ [x]) r1 := by
  unfold attsT
  rw [attsP_eq, h]
  simp only
  rw [ha, bnd_okE]
  cases attsP r1 with
  | bad n e => rfl
  | ok atz l2 => simp [bnd]
/-- What start says: the node ahead of its kids, or the panic. -/
def StartC (P g o : Nat) (s : ByteArray) (b : Nat) (R : Rd (Bool × Tr)) (w : World) (e : Ending) (w' : World) : Prop :=
  (match R with
  | .ok p q => ∃ (a' : Nat) (vA : Value), a' ≤ s.size ∧ q = restL s a' ∧ e = .returned (.bool p.1) ∧ P3 w' P s a' b ∧ NodAt w' g o p.2.tag p.2.key p.2.text vA (.slice none 0 0) ∧ w'.ownsRow w.heap.size 63 2 vA (kept65 p.2.as).length (ats (kept65 p.2.as)) ∧ Nbr g o w w'
  | .bad n _ => e = PanE (s.size - n) ∧ n ≤ s.size) ∧ Kept (fun k => k = P ∨ k = g) w w'
theorem st_bad {P g o : Nat} {s : ByteArray} {b n a : Nat} {er : Int} {R : Rd (Bool × Tr)} {w w' : World} (hR : R = .bad n er) (hn : n ≤ s.size) (ha : a = s.size - n) (hk : Kept (fun k => k = P ∨ k = g) w w') : StartC P g o s b R w (PanE a) w' := by
  subst hR; subst ha; exact ⟨⟨rfl, hn⟩, hk⟩
theorem st_ok {P g o a' : Nat} {s : ByteArray} {b : Nat} {op : Bool} {t : Tr} {vA : Value} {R : Rd (Bool × Tr)} {w w' : World} (hR : R = .ok (op, t) (restL s a')) (ha : a' ≤ s.size) (hp : P3 w' P s a' b) (hn : NodAt w' g o t.tag t.key t.text vA (.slice none 0 0)) (ho : w'.ownsRow w.heap.size 63 2 vA (kept65 t.as).length (ats (kept65 t.as))) (hk : Kept (fun k => k = P ∨ k = g) w w') (hb : Nbr g o w w') : StartC P g o s b R w (.returned (.bool op)) w' := by
  subst hR; exact ⟨⟨a', vA, ha, rfl, rfl, hp, hn, ho, hb⟩, hk⟩
/-- The state while a node is being read. -/
structure StS (P g o : Nat) (s : ByteArray) (b : Nat) (w W : World) (a : Nat) (tag key text : ByteArray) (l : List At) (vA : Value) : Prop where
  p : P3 W P s a b
  nod : NodAt W g o tag key text vA (.slice none 0 0)
  row : W.ownsRow w.heap.size 63 2 vA (kept65 l).length (ats (kept65 l))
  k : Kept (fun k => k = P ∨ k = g) w W
  nb : Nbr g o w W
  v : Vars W
  hP : P < w.heap.size
  hg : g < w.heap.size
  hPg : P ≠ g
  hP4 : 4 ≤ P
  hg4 : 4 ≤ g
  ha : a ≤ s.size
section
variable {P g o : Nat} {s : ByteArray} {b : Nat} {w W W' : World} {a a' : Nat} {tag key text : ByteArray} {l : List At} {vA : Value}
/-- A step of the parser. -/
theorem StS.step (h : StS P g o s b w W a tag key text l vA) (hk : Kept (· = P) W W') (hp : P3 W' P s a' b) (ha : a' ≤ s.size) : StS P g o s b w W' a' tag key text l vA :=
  ⟨hp, h.nod.kept hk (fun e => h.hPg e.symm), hk.own h.row (fun k hk e => by have := (h.row.lt k hk).1; have := h.hP; have e' : k = P := e; omega), h.k.trans (hk.mono (fun k _ h => .inl h)), h.nb.trans (.kept hk (Nat.lt_of_lt_of_le h.hg h.k.size) (fun e => h.hPg e.symm)), h.v.keptP h.hP4 hk, h.hP, h.hg, h.hPg, h.hP4, h.hg4, ha⟩
theorem StS.keptG (h : StS P g o s b w W a tag key text l vA) (hk : Kept (· = P) W W') : Kept (fun k => k = P ∨ k = g) w W' := h.k.trans (hk.mono (fun k _ h => .inl h))
theorem StS.sets (h : StS P g o s b w W a tag key text l vA) {j : Nat} {u : Value} (hj : o ≤ j ∧ j < o + 5) {tag' key' text' : ByteArray} (hn : NodAt (W.setCell ⟨g, j, none⟩ u) g o tag' key' text' vA (.slice none 0 0)) : StS P g o s b w (W.setCell ⟨g, j, none⟩ u) a tag' key' text' l vA := by
  have hk : Kept (· = g) W (W.setCell ⟨g, j, none⟩ u) := kept_setCell W ⟨g, j, none⟩ u
  exact ⟨h.p.kept hk h.hPg, hn, hk.own h.row (fun k hk e => by have := (h.row.lt k hk).1; have := h.hg; have e' : k = g := e; omega), h.k.trans (hk.mono (fun k _ h => .inr h)), h.nb.trans (.set j u hj), h.v.keptP h.hg4 hk, h.hP, h.hg, h.hPg, h.hP4, h.hg4, h.ha⟩
theorem StS.set0 (h : StS P g o s b w W a tag key text l vA) (u : ByteArray) : StS P g o s b w (W.setCell ⟨g, o, none⟩ (.string u)) a u key text l vA := h.sets (by omega) (h.nod.set0 u)
theorem StS.set1 (h : StS P g o s b w W a tag key text l vA) (u : ByteArray) : StS P g o s b w (W.setCell ⟨g, o + 1, none⟩ (.string u)) a tag u text l vA := h.sets (by omega) (h.nod.set1 u)
theorem StS.set2 (h : StS P g o s b w W a tag key text l vA) (u : ByteArray) : StS P g o s b w (W.setCell ⟨g, o + 2, none⟩ (.string u)) a tag key u l vA := h.sets (by omega) (h.nod.set2 u)
/-- One attribute more. -/
theorem StS.att (h : StS P g o s b w W a tag key text l vA) {x : At} {vA' : Value} (hp : P3 W' P s a' b) (ha : a' ≤ s.size) (hn : NodAt W' g o tag key text vA' (.slice none 0 0)) (ho : W'.ownsRow w.heap.size 63 2 vA' (kept65 (l ++ [x])).length (ats (kept65 (l ++ [x])))) (hk : Kept (fun k => k = P ∨ k = g ∨ w.heap.size ≤ k) W W') (hb : Nbr g o W W') : StS P g o s b w W' a' tag key text (l ++ [x]) vA' :=
  ⟨hp, hn, ho, h.k.trans' hk (fun k hk e => by rcases e with e | e | e; exact .inl e; exact .inr e; omega), h.nb.trans hb, h.v.below (Nat.le_refl 4) (hk.below h.v.2.2.2 (fun k hk => by have := h.hP4; have := h.hg4; have := h.hP; rcases hk with e | e | e <;> omega)), h.hP, h.hg, h.hPg, h.hP4, h.hg4, ha⟩
end
set_option maxHeartbeats 8000000 in
theorem start_any (P g o : Nat) (s : ByteArray) (a b : Nat) (w : World) (h : P3 w P s a b) (hn : NodAt w g o ⟨#[]⟩ ⟨#[]⟩ ⟨#[]⟩ (.slice none 0 0) (.slice none 0 0)) (hPg : P ≠ g) (ha : a ≤ s.size) (hs : s.size ≤ 1000000000) (hv : Vars w) (hP4 : 4 ≤ P) (hg4 : 4 ≤ g) :
    Calls Tryz.prog 105 #[.pointer (some ⟨P, 0, none⟩), .pointer (some ⟨g, o, none⟩)] w (StartC P g o s b (startP (restL s a)) w) := by
  have C1 := mneed_any P s ⟨#[60]⟩ a b w h ha hs
  obtain ⟨R, hR⟩ : ∃ R, R = startP (restL s a) := ⟨_, rfl⟩
  rw [← hR]
  rw [start_eq] at hR
  obtain ⟨Q, hQ⟩ : ∃ Q, Q = preP [60] (restL s a) := ⟨_, rfl⟩
  rw [show preP (⟨#[60]⟩ : ByteArray).data.toList (restL s a) = Q from hQ.symm] at C1
  have HR := Lib.hid (show R = bnd Q fun _ l1 => bnd (wordP l1) fun tag l2 => bnd (keyP l2) fun key l3 => attsT tag key [] l3 by rw [hR, hQ])
  have HC := Lib.hid C1
  have HS0 := Lib.hid (show StS P g o s b w w a ⟨#[]⟩ ⟨#[]⟩ ⟨#[]⟩ [] (.slice none 0 0) from ⟨h, hn, World.ownsRow_nil w _ _ _, Kept.refl _ _, .refl _ _ _, hv, h.lt, hn.lt, hPg, hP4, hg4, ha⟩)
  clear C1 hR hQ h hn hv
  go_enter Tryz.func105, Tryz.ntmps105
  go_wp2_with fail
  refine HC.out.mono ?_
  rintro e w1 hst
  clear HC
  cases Q with
  | bad n er =>
    obtain ⟨rfl, hn, hk⟩ := hst.bad
    have HF := Lib.hid (show StartC P g o s b R w (PanE (s.size - n)) w1 from st_bad (HR.out.trans rfl) hn rfl (HS0.out.keptG hk))
    exact ⟨rfl, HF.out⟩
  | ok u q =>
    obtain ⟨a1, ha1, rfl, rfl, hp1, hk1⟩ := hst.ok
    have hs1 := HS0.out.step hk1 hp1 ha1
    have C2 := mword_any P s a1 b w1 hp1 ha1 hs
    obtain ⟨Q, hQ⟩ : ∃ Q, Q = wordP (restL s a1) := ⟨_, rfl⟩
    rw [← hQ] at C2
    have HR2 := Lib.hid (show R = bnd Q fun tag l2 => bnd (keyP l2) fun key l3 => attsT tag key [] l3 by rw [HR.out, hQ]; rfl)
    have HC2 := Lib.hid C2; have HS1 := Lib.hid hs1
    clear C2 hQ hp1 hk1 hst hs1 HR HS0
    go_wp2_with fail
    refine HC2.out.mono ?_
    rintro e w2 hst
    clear HC2
    cases Q with
    | bad n er =>
      obtain ⟨rfl, hn, hk⟩ := hst.bad
      have HF := Lib.hid (show StartC P g o s b R w (PanE (s.size - n)) w2 from st_bad (HR2.out.trans rfl) hn rfl (HS1.out.keptG hk))
      exact ⟨rfl, HF.out⟩
    | ok tag q =>
      obtain ⟨a2, ha2, rfl, rfl, hp2, hk2⟩ := hst.ok
      have hs2 := HS1.out.step hk2 hp2 ha2
      obtain ⟨w3, hw3⟩ : ∃ w3, w3 = w2.setCell ⟨g, o, none⟩ (.string tag) := ⟨_, rfl⟩
      have hs3 := hs2.set0 tag
      rw [← hw3] at hs3
      have HW3 := Lib.hid hw3.symm
      have c0 := hs2.nod.c0; have f0 := hs2.nod.fr o
      have HR3 := Lib.hid (show R = bnd (keyP (restL s a2)) fun key l3 => attsT tag key [] l3 from HR2.out.trans rfl)
      have C3 := mtake_any P s ⟨#[32, 35, 61, 34]⟩ a2 b w3 hs3.p ha2 hs
      obtain ⟨r, hr⟩ : ∃ r, r = isP ⟨#[32, 35, 61, 34]⟩ (restL s a2) := ⟨_, rfl⟩
      rw [← hr] at C3
      have HC3 := Lib.hid C3; have HS3 := Lib.hid hs3; have HRR := Lib.hid hr
      clear C3 hs3 hs2 hw3 hp2 hk2 hst hr HR2 HS1
      go_wp2_with fail
      rw [HW3.out]
      refine HC3.out.mono ?_
      rintro e w4 ⟨rfl, hp4, hk4⟩
      clear HC3 c0 f0 HW3
      obtain ⟨Q, hQ⟩ : ∃ Q, Q = keyP (restL s a2) := ⟨_, rfl⟩
      have HRK := Lib.hid (show R = bnd Q fun key l3 => attsT tag key [] l3 by rw [HR3.out, hQ])
      have HQ := Lib.hid hQ
      clear hQ HR3
      cases r with
      | true =>
        have hp4' : P3 w4 P s (a2 + 4) b := hp4
        have hle : a2 + 4 ≤ s.size := isP_len HRR.out.symm ha2
        have hs4 := HS3.out.step hk4 hp4' hle
        have e1 := isP_pre HRR.out.symm
        rw [size_list, restL_drop] at e1
        have C4 := mkey_any P s (a2 + 4) b w4 hp4' hle hs hs4.v
        have HQ2 := Lib.hid (show Q = key1P (restL s (a2 + 4)) by rw [HQ.out, keyP_1]; rw [show preP [32, 35, 61, 34] (restL s a2) = _ from e1]; rfl)
        rw [← HQ2.out] at C4
        have HC4 := Lib.hid C4; have HS4 := Lib.hid hs4
        clear C4 hp4 hp4' hk4 e1 hs4 HQ HS3
        go_wp2_with fail
        refine HC4.out.mono ?_
        rintro e w5 hst
        clear HC4 HQ2
        cases Q with
        | bad n er =>
          obtain ⟨rfl, hn, hk⟩ := hst.bad
          have HF := Lib.hid (show StartC P g o s b R w (PanE (s.size - n)) w5 from st_bad (HRK.out.trans rfl) hn rfl (HS4.out.keptG hk))
          exact ⟨rfl, HF.out⟩
        | ok key q =>
          obtain ⟨a5, ha5, rfl, rfl, hp5, hk5⟩ := hst.ok
          have hs5 := HS4.out.step hk5 hp5 ha5
          obtain ⟨w6, hw6⟩ : ∃ w6, w6 = w5.setCell ⟨g, o + 1, none⟩ (.string key) := ⟨_, rfl⟩
          have hs6 := hs5.set1 key
          rw [← hw6] at hs6
          have HW6 := Lib.hid hw6.symm
          have c1 := hs5.nod.c1; have f1 := hs5.nod.fr (o + 1)
          have HRL := Lib.hid (show R = attsT tag key [] (restL s a5) from HRK.out.trans rfl)
          have HSL := Lib.hid hs6
          clear hs6 hs5 hw6 hp5 hk5 hst HRK HS4 HRR hle
          go_upto_region 5 with (fail)
          rw [HW6.out]
          clear c1 f1 HW6
          go_loopg [20] (s.size - a5) (fun m _ wr => ∃ a6 l vA, RowKit.Hid (StS P g o s b w wr a6 tag key ⟨#[]⟩ l vA) ∧ RowKit.Hid (R = attsT tag key l (restL s a6)) ∧ s.size - a6 ≤ m)
          case atStart => exact ⟨a5, [], _, HSL, HRL, Nat.le_refl _⟩
          case round =>
            obtain ⟨a6, l, vA, HS, HRR, hm⟩ := hrel
            clear HSL HRL
            have ha6 := HS.out.ha
            have C5 := mtake_any P s ⟨#[32]⟩ a6 b wr HS.out.p ha6 hs
            obtain ⟨r, hr⟩ : ∃ r, r = isP ⟨#[32]⟩ (restL s a6) := ⟨_, rfl⟩
            rw [← hr] at C5
            have HC5 := Lib.hid C5; have HR1 := Lib.hid hr
            clear C5 hr
            go_wp2_with fail
            refine HC5.out.mono ?_
            rintro e w7 ⟨rfl, hp7, hk7⟩
            clear HC5
            cases r with
            | true =>
              have hp7' : P3 w7 P s (a6 + 1) b := hp7
              have hle : a6 + 1 ≤ s.size := isP_len HR1.out.symm ha6
              have hs7 := HS.out.step hk7 hp7' hle
              have e1 := isP_pre HR1.out.symm
              rw [size_list, restL_drop] at e1
              have HE1 := Lib.hid (show preP [32] (restL s a6) = .ok () (restL s (a6 + 1)) from e1)
              have C6 := attr_any P g o s (a6 + 1) b w.heap.size tag key ⟨#[]⟩ l vA (.slice none 0 0) w7 hp7' hs7.nod hs7.row hs7.k.size hs7.hP hs7.hg hs7.hPg hle hs hs7.v hs7.hP4
              obtain ⟨Q, hQ⟩ : ∃ Q, Q = attP (restL s (a6 + 1)) := ⟨_, rfl⟩
              rw [← hQ] at C6
              have HC6 := Lib.hid C6; have HS7 := Lib.hid hs7; have HQA := Lib.hid hQ.symm
              clear C6 hp7 hp7' hk7 e1 hs7 hQ
              go_wp2_with fail
              refine HC6.out.mono ?_
              rintro e w8 hst
              clear HC6
              cases Q with
              | bad n er =>
                obtain ⟨rfl, hn, hk⟩ := hst
                have HF := Lib.hid (show StartC P g o s b R w (PanE (s.size - n)) w8 from st_bad (HRR.out.trans (attsT_bad HE1.out HQA.out)) hn rfl (HS7.out.keptG hk))
                clear hk
                exact ⟨rfl, HF.out⟩
              | ok x q =>
                obtain ⟨a8, vA8, ha8, rfl, rfl, hp8, hn8, ho8, hk8, hb8⟩ := hst
                have HS8 := Lib.hid (HS7.out.att hp8 ha8 hn8 ho8 hk8 hb8)
                have HR8 := Lib.hid (HRR.out.trans (attsT_more HE1.out HQA.out))
                have hlt := (attP_suf HQA.out).length_le
                rw [restL_len, restL_len] at hlt
                clear hp8 hn8 ho8 hk8 hb8
                go_wp2_with fail
                go_roundg (s.size - a8)
                case measure => omega
                case rel => exact ⟨a8, l ++ [x], vA8, HS8, HR8, Nat.le_refl _⟩
            | false =>
              have hp7' : P3 w7 P s a6 b := hp7
              have hs7 := HS.out.step hk7 hp7' ha6
              have HR7 := Lib.hid (show R = tailP (tag, key, l) (restL s a6) from HRR.out.trans (attsT_no (isP_no HR1.out.symm)))
              have C6 := mtake_any P s ⟨#[47, 62]⟩ a6 b w7 hp7' ha6 hs
              obtain ⟨r, hr⟩ : ∃ r, r = isP ⟨#[47, 62]⟩ (restL s a6) := ⟨_, rfl⟩
              rw [← hr] at C6
              have HC6 := Lib.hid C6; have HS7 := Lib.hid hs7; have HR2 := Lib.hid hr
              clear C6 hr hp7 hp7' hk7 hs7 HRR HR1 HS
              go_wp2_with fail
              refine HC6.out.mono ?_
              rintro e w8 ⟨rfl, hp8, hk8⟩
              clear HC6
              cases r with
              | true =>
                have hp8' : P3 w8 P s (a6 + 2) b := hp8
                have hle : a6 + 2 ≤ s.size := isP_len HR2.out.symm ha6
                have hs8 := HS7.out.step hk8 hp8' hle
                have e1 := isP_pre HR2.out.symm
                rw [size_list, restL_drop] at e1
                have HF := Lib.hid (show StartC P g o s b R w (.returned (.bool false)) w8 from st_ok (t := .mk tag key noB l []) (by rw [HR7.out]; unfold tailP; rw [show preP [47, 62] (restL s a6) = _ from e1]; rfl) hle hs8.p hs8.nod hs8.row hs8.k hs8.nb)
                clear hp8 hp8' hk8 hs8 e1
                go_wp2_with fail
                go_ret
                exact HF.out
              | false =>
                have hp8' : P3 w8 P s a6 b := hp8
                have hs8 := HS7.out.step hk8 hp8' ha6
                have e1 := isP_no HR2.out.symm
                have C7 := mneed_any P s ⟨#[62]⟩ a6 b w8 hp8' ha6 hs
                obtain ⟨Q, hQ⟩ : ∃ Q, Q = preP [62] (restL s a6) := ⟨_, rfl⟩
                rw [show preP (⟨#[62]⟩ : ByteArray).data.toList (restL s a6) = Q from hQ.symm] at C7
                have HR8 := Lib.hid (show R = bnd Q fun _ l2 => bnd (txtP l2) fun t l3 => if t = noB ∧ kidC l3 = false then .bad l3.length 2 else .ok (true, .mk tag key t l []) l3 by
                  rw [HR7.out, hQ]; unfold tailP; rw [show preP [47, 62] (restL s a6) = _ from e1])
                have HC7 := Lib.hid C7; have HS8 := Lib.hid hs8
                clear C7 hQ hp8 hp8' hk8 hs8 e1 HR7 HR2 HS7
                go_wp2_with fail
                refine HC7.out.mono ?_
                rintro e w9 hst
                clear HC7
                cases Q with
                | bad n er =>
                  obtain ⟨rfl, hn, hk⟩ := hst.bad
                  have HF := Lib.hid (show StartC P g o s b R w (PanE (s.size - n)) w9 from st_bad (HR8.out.trans rfl) hn rfl (HS8.out.keptG hk))
                  exact ⟨rfl, HF.out⟩
                | ok u q =>
                  obtain ⟨a9, ha9, rfl, rfl, hp9, hk9⟩ := hst.ok
                  have hs9 := HS8.out.step hk9 hp9 ha9
                  have C8 := mescaped_any P s a9 b w9 hp9 ha9 hs hs9.v
                  obtain ⟨Q, hQ⟩ : ∃ Q, Q = txtP (restL s a9) := ⟨_, rfl⟩
                  rw [← hQ] at C8
                  have HR9 := Lib.hid (show R = bnd Q fun t l3 => if t = noB ∧ kidC l3 = false then .bad l3.length 2 else .ok (true, .mk tag key t l []) l3 by rw [HR8.out, hQ]; rfl)
                  have HC8 := Lib.hid C8; have HS9 := Lib.hid hs9
                  clear C8 hQ hp9 hk9 hst hs9 HR8 HS8
                  go_wp2_with fail
                  refine HC8.out.mono ?_
                  rintro e w10 hst
                  clear HC8
                  cases Q with
                  | bad n er =>
                    obtain ⟨rfl, hn, hk⟩ := hst.bad
                    have HF := Lib.hid (show StartC P g o s b R w (PanE (s.size - n)) w10 from st_bad (HR9.out.trans rfl) hn rfl (HS9.out.keptG hk))
                    exact ⟨rfl, HF.out⟩
                  | ok tx q =>
                    obtain ⟨a10, ha10, rfl, rfl, hp10, hk10⟩ := hst.ok
                    have hs10 := HS9.out.step hk10 hp10 ha10
                    obtain ⟨w11, hw11⟩ : ∃ w11, w11 = w10.setCell ⟨g, o + 2, none⟩ (.string tx) := ⟨_, rfl⟩
                    have hs11 := hs10.set2 tx
                    rw [← hw11] at hs11
                    have HW11 := Lib.hid hw11.symm
                    have c2 := hs10.nod.c2; have f2 := hs10.nod.fr (o + 2)
                    have d2 := hs11.nod.c2
                    have HR10 := Lib.hid (show R = if tx = noB ∧ kidC (restL s a10) = false then .bad (restL s a10).length 2 else .ok (true, .mk tag key tx l []) (restL s a10) from HR9.out.trans rfl)
                    have HS11 := Lib.hid hs11
                    clear hs10 hs11 hw11 hp10 hk10 hst HR9 HS9
                    go_upto_region 11 with (fail)
                    rw [HW11.out]
                    clear c2 f2 HW11
                    by_cases hk0 : tx = noB
                    · have hkl : tx.toList = [] := by rw [hk0, Lib.toList_data]; rfl
                      have C9 := matKid_any P s a10 b w11 HS11.out.p ha10 hs
                      obtain ⟨kc, hkc⟩ : ∃ kc, kc = kidC (restL s a10) := ⟨_, rfl⟩
                      rw [← hkc] at C9
                      have HC9 := Lib.hid C9
                      have HR11 := Lib.hid (show R = if kc = false then .bad (restL s a10).length 2 else .ok (true, .mk tag key tx l []) (restL s a10) by rw [HR10.out, hkc]; simp [hk0])
                      clear C9 hkc HR10 hk0
                      go_wp2_with fail
                      refine HC9.out.mono ?_
                      rintro e w12 ⟨rfl, hp12, hk12⟩
                      have hs12 := HS11.out.step hk12 hp12 ha10
                      clear HC9
                      cases kc with
                      | true =>
                        have HF := Lib.hid (show StartC P g o s b R w (.returned (.bool true)) w12 from st_ok (t := .mk tag key tx l []) (HR11.out.trans rfl) ha10 hs12.p hs12.nod hs12.row hs12.k hs12.nb)
                        clear hp12 hk12 hs12 d2
                        go_wp2_with fail
                        go_ret
                        exact HF.out
                      | false =>
                        have CX := Lib.hid (mfail_any P s a10 b w12 hp12)
                        have HF := Lib.hid (show StartC P g o s b R w (PanE a10) w12 from st_bad (n := s.size - a10) (by rw [HR11.out, restL_len]; rfl) (by omega) (by omega) hs12.k)
                        clear hp12 hk12 hs12 d2
                        go_wp2_with fail
                        refine CX.out.mono ?_
                        rintro e w13 ⟨rfl, rfl⟩
                        exact ⟨rfl, HF.out⟩
                    · have hkl : (tx.toList == []) = false := by
                        rw [Lib.toList_data, beq_eq_false_iff_ne]
                        intro e
                        apply hk0
                        rw [← strB_eq tx, e]; rfl
                      have hkl2 : ¬ tx.toList = [] := by simpa using hkl
                      have HF := Lib.hid (show StartC P g o s b R w (.returned (.bool true)) w11 from st_ok (t := .mk tag key tx l []) (by rw [HR10.out]; exact if_neg (fun e => hk0 e.1)) ha10 HS11.out.p HS11.out.nod HS11.out.row HS11.out.k HS11.out.nb)
                      clear HR10 hk0
                      go_wp2_with fail
                      go_ret
                      exact HF.out
      | false =>
        have hp4' : P3 w4 P s a2 b := hp4
        have hs4 := HS3.out.step hk4 hp4' ha2
        obtain ⟨key, hkey⟩ : ∃ key : ByteArray, key = ⟨#[]⟩ := ⟨_, rfl⟩
        have hrl : R = attsT tag key [] (restL s a2) := by
          have e1 := isP_no HRR.out.symm
          rw [HRK.out, HQ.out, keyP_1, show preP [32, 35, 61, 34] (restL s a2) = _ from e1, hkey]
          rfl
        have hs4' : StS P g o s b w w4 a2 tag key ⟨#[]⟩ [] (.slice none 0 0) := by rw [hkey]; exact hs4
        have HRL := Lib.hid hrl
        have HSL := Lib.hid hs4'
        obtain ⟨a5, ha5⟩ : ∃ a5, a5 = a2 := ⟨_, rfl⟩
        rw [← ha5] at HRL HSL
        clear hp4 hp4' hk4 hs4 hs4' hrl hkey ha5 HQ HS3 HRK HRR
        go_upto_region 5 with (fail)
        go_loopg [20] (s.size - a5) (fun m _ wr => ∃ a6 l vA, RowKit.Hid (StS P g o s b w wr a6 tag key ⟨#[]⟩ l vA) ∧ RowKit.Hid (R = attsT tag key l (restL s a6)) ∧ s.size - a6 ≤ m)
        case atStart => exact ⟨a5, [], _, HSL, HRL, Nat.le_refl _⟩
        case round =>
          obtain ⟨a6, l, vA, HS, HRR, hm⟩ := hrel
          clear HSL HRL
          have ha6 := HS.out.ha
          have C5 := mtake_any P s ⟨#[32]⟩ a6 b wr HS.out.p ha6 hs
          obtain ⟨r, hr⟩ : ∃ r, r = isP ⟨#[32]⟩ (restL s a6) := ⟨_, rfl⟩
          rw [← hr] at C5
          have HC5 := Lib.hid C5; have HR1 := Lib.hid hr
          clear C5 hr
          go_wp2_with fail
          refine HC5.out.mono ?_
          rintro e w7 ⟨rfl, hp7, hk7⟩
          clear HC5
          cases r with
          | true =>
            have hp7' : P3 w7 P s (a6 + 1) b := hp7
            have hle : a6 + 1 ≤ s.size := isP_len HR1.out.symm ha6
            have hs7 := HS.out.step hk7 hp7' hle
            have e1 := isP_pre HR1.out.symm
            rw [size_list, restL_drop] at e1
            have HE1 := Lib.hid (show preP [32] (restL s a6) = .ok () (restL s (a6 + 1)) from e1)
            have C6 := attr_any P g o s (a6 + 1) b w.heap.size tag key ⟨#[]⟩ l vA (.slice none 0 0) w7 hp7' hs7.nod hs7.row hs7.k.size hs7.hP hs7.hg hs7.hPg hle hs hs7.v hs7.hP4
            obtain ⟨Q, hQ⟩ : ∃ Q, Q = attP (restL s (a6 + 1)) := ⟨_, rfl⟩
            rw [← hQ] at C6
            have HC6 := Lib.hid C6; have HS7 := Lib.hid hs7; have HQA := Lib.hid hQ.symm
            clear C6 hp7 hp7' hk7 e1 hs7 hQ
            go_wp2_with fail
            refine HC6.out.mono ?_
            rintro e w8 hst
            clear HC6
            cases Q with
            | bad n er =>
              obtain ⟨rfl, hn, hk⟩ := hst
              have HF := Lib.hid (show StartC P g o s b R w (PanE (s.size - n)) w8 from st_bad (HRR.out.trans (attsT_bad HE1.out HQA.out)) hn rfl (HS7.out.keptG hk))
              clear hk
              exact ⟨rfl, HF.out⟩
            | ok x q =>
              obtain ⟨a8, vA8, ha8, rfl, rfl, hp8, hn8, ho8, hk8, hb8⟩ := hst
              have HS8 := Lib.hid (HS7.out.att hp8 ha8 hn8 ho8 hk8 hb8)
              have HR8 := Lib.hid (HRR.out.trans (attsT_more HE1.out HQA.out))
              have hlt := (attP_suf HQA.out).length_le
              rw [restL_len, restL_len] at hlt
              clear hp8 hn8 ho8 hk8 hb8
              go_wp2_with fail
              go_roundg (s.size - a8)
              case measure => omega
              case rel => exact ⟨a8, l ++ [x], vA8, HS8, HR8, Nat.le_refl _⟩
          | false =>
            have hp7' : P3 w7 P s a6 b := hp7
            have hs7 := HS.out.step hk7 hp7' ha6
            have HR7 := Lib.hid (show R = tailP (tag, key, l) (restL s a6) from HRR.out.trans (attsT_no (isP_no HR1.out.symm)))
            have C6 := mtake_any P s ⟨#[47, 62]⟩ a6 b w7 hp7' ha6 hs
            obtain ⟨r, hr⟩ : ∃ r, r = isP ⟨#[47, 62]⟩ (restL s a6) := ⟨_, rfl⟩
            rw [← hr] at C6
            have HC6 := Lib.hid C6; have HS7 := Lib.hid hs7; have HR2 := Lib.hid hr
            clear C6 hr hp7 hp7' hk7 hs7 HRR HR1 HS
            go_wp2_with fail
            refine HC6.out.mono ?_
            rintro e w8 ⟨rfl, hp8, hk8⟩
            clear HC6
            cases r with
            | true =>
              have hp8' : P3 w8 P s (a6 + 2) b := hp8
              have hle : a6 + 2 ≤ s.size := isP_len HR2.out.symm ha6
              have hs8 := HS7.out.step hk8 hp8' hle
              have e1 := isP_pre HR2.out.symm
              rw [size_list, restL_drop] at e1
              have HF := Lib.hid (show StartC P g o s b R w (.returned (.bool false)) w8 from st_ok (t := .mk tag key noB l []) (by rw [HR7.out]; unfold tailP; rw [show preP [47, 62] (restL s a6) = _ from e1]; rfl) hle hs8.p hs8.nod hs8.row hs8.k hs8.nb)
              clear hp8 hp8' hk8 hs8 e1
              go_wp2_with fail
              go_ret
              exact HF.out
            | false =>
              have hp8' : P3 w8 P s a6 b := hp8
              have hs8 := HS7.out.step hk8 hp8' ha6
              have e1 := isP_no HR2.out.symm
              have C7 := mneed_any P s ⟨#[62]⟩ a6 b w8 hp8' ha6 hs
              obtain ⟨Q, hQ⟩ : ∃ Q, Q = preP [62] (restL s a6) := ⟨_, rfl⟩
              rw [show preP (⟨#[62]⟩ : ByteArray).data.toList (restL s a6) = Q from hQ.symm] at C7
              have HR8 := Lib.hid (show R = bnd Q fun _ l2 => bnd (txtP l2) fun t l3 => if t = noB ∧ kidC l3 = false then .bad l3.length 2 else .ok (true, .mk tag key t l []) l3 by
                rw [HR7.out, hQ]; unfold tailP; rw [show preP [47, 62] (restL s a6) = _ from e1])
              have HC7 := Lib.hid C7; have HS8 := Lib.hid hs8
              clear C7 hQ hp8 hp8' hk8 hs8 e1 HR7 HR2 HS7
              go_wp2_with fail
              refine HC7.out.mono ?_
              rintro e w9 hst
              clear HC7
              cases Q with
              | bad n er =>
                obtain ⟨rfl, hn, hk⟩ := hst.bad
                have HF := Lib.hid (show StartC P g o s b R w (PanE (s.size - n)) w9 from st_bad (HR8.out.trans rfl) hn rfl (HS8.out.keptG hk))
                exact ⟨rfl, HF.out⟩
              | ok u q =>
                obtain ⟨a9, ha9, rfl, rfl, hp9, hk9⟩ := hst.ok
                have hs9 := HS8.out.step hk9 hp9 ha9
                have C8 := mescaped_any P s a9 b w9 hp9 ha9 hs hs9.v
                obtain ⟨Q, hQ⟩ : ∃ Q, Q = txtP (restL s a9) := ⟨_, rfl⟩
                rw [← hQ] at C8
                have HR9 := Lib.hid (show R = bnd Q fun t l3 => if t = noB ∧ kidC l3 = false then .bad l3.length 2 else .ok (true, .mk tag key t l []) l3 by rw [HR8.out, hQ]; rfl)
                have HC8 := Lib.hid C8; have HS9 := Lib.hid hs9
                clear C8 hQ hp9 hk9 hst hs9 HR8 HS8
                go_wp2_with fail
                refine HC8.out.mono ?_
                rintro e w10 hst
                clear HC8
                cases Q with
                | bad n er =>
                  obtain ⟨rfl, hn, hk⟩ := hst.bad
                  have HF := Lib.hid (show StartC P g o s b R w (PanE (s.size - n)) w10 from st_bad (HR9.out.trans rfl) hn rfl (HS9.out.keptG hk))
                  exact ⟨rfl, HF.out⟩
                | ok tx q =>
                  obtain ⟨a10, ha10, rfl, rfl, hp10, hk10⟩ := hst.ok
                  have hs10 := HS9.out.step hk10 hp10 ha10
                  obtain ⟨w11, hw11⟩ : ∃ w11, w11 = w10.setCell ⟨g, o + 2, none⟩ (.string tx) := ⟨_, rfl⟩
                  have hs11 := hs10.set2 tx
                  rw [← hw11] at hs11
                  have HW11 := Lib.hid hw11.symm
                  have c2 := hs10.nod.c2; have f2 := hs10.nod.fr (o + 2)
                  have d2 := hs11.nod.c2
                  have HR10 := Lib.hid (show R = if tx = noB ∧ kidC (restL s a10) = false then .bad (restL s a10).length 2 else .ok (true, .mk tag key tx l []) (restL s a10) from HR9.out.trans rfl)
                  have HS11 := Lib.hid hs11
                  clear hs10 hs11 hw11 hp10 hk10 hst HR9 HS9
                  go_upto_region 11 with (fail)
                  rw [HW11.out]
                  clear c2 f2 HW11
                  by_cases hk0 : tx = noB
                  · have hkl : tx.toList = [] := by rw [hk0, Lib.toList_data]; rfl
                    have C9 := matKid_any P s a10 b w11 HS11.out.p ha10 hs
                    obtain ⟨kc, hkc⟩ : ∃ kc, kc = kidC (restL s a10) := ⟨_, rfl⟩
                    rw [← hkc] at C9
                    have HC9 := Lib.hid C9
                    have HR11 := Lib.hid (show R = if kc = false then .bad (restL s a10).length 2 else .ok (true, .mk tag key tx l []) (restL s a10) by rw [HR10.out, hkc]; simp [hk0])
                    clear C9 hkc HR10 hk0
                    go_wp2_with fail
                    refine HC9.out.mono ?_
                    rintro e w12 ⟨rfl, hp12, hk12⟩
                    have hs12 := HS11.out.step hk12 hp12 ha10
                    clear HC9
                    cases kc with
                    | true =>
                      have HF := Lib.hid (show StartC P g o s b R w (.returned (.bool true)) w12 from st_ok (t := .mk tag key tx l []) (HR11.out.trans rfl) ha10 hs12.p hs12.nod hs12.row hs12.k hs12.nb)
                      clear hp12 hk12 hs12 d2
                      go_wp2_with fail
                      go_ret
                      exact HF.out
                    | false =>
                      have CX := Lib.hid (mfail_any P s a10 b w12 hp12)
                      have HF := Lib.hid (show StartC P g o s b R w (PanE a10) w12 from st_bad (n := s.size - a10) (by rw [HR11.out, restL_len]; rfl) (by omega) (by omega) hs12.k)
                      clear hp12 hk12 hs12 d2
                      go_wp2_with fail
                      refine CX.out.mono ?_
                      rintro e w13 ⟨rfl, rfl⟩
                      exact ⟨rfl, HF.out⟩
                  · have hkl : (tx.toList == []) = false := by
                      rw [Lib.toList_data, beq_eq_false_iff_ne]
                      intro e
                      apply hk0
                      rw [← strB_eq tx, e]; rfl
                    have hkl2 : ¬ tx.toList = [] := by simpa using hkl
                    have HF := Lib.hid (show StartC P g o s b R w (.returned (.bool true)) w11 from st_ok (t := .mk tag key tx l []) (by rw [HR10.out]; exact if_neg (fun e => hk0 e.1)) ha10 HS11.out.p HS11.out.nod HS11.out.row HS11.out.k HS11.out.nb)
                    clear HR10 hk0
                    go_wp2_with fail
                    go_ret
                    exact HF.out
end Go.Proofs.YtjnhcoflmechmaaGreatDoor.M
