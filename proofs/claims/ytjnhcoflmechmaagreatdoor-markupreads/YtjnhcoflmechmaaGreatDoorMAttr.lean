/-
  markup's parser: an attribute of the node that is being read.
-/
import Derived.Test.YtjnhcoflmechmaaGreatDoorMKey
import Derived.Test.YtjnhcoflmechmaaGreatDoorSurvey
namespace Go.Proofs.YtjnhcoflmechmaaGreatDoor.M
open Go.RowKit Go.Sort
set_option linter.unusedVariables false
set_option maxRecDepth 100000
/-- The node that is being read: its five cells. -/
structure NodAt (W : World) (g o : Nat) (tag key text : ByteArray) (vA vK : Value) : Prop where
  c0 : W.cell? ⟨g, o, none⟩ = some (.string tag)
  c1 : W.cell? ⟨g, o + 1, none⟩ = some (.string key)
  c2 : W.cell? ⟨g, o + 2, none⟩ = some (.string text)
  c3 : W.cell? ⟨g, o + 3, none⟩ = some vA
  c4 : W.cell? ⟨g, o + 4, none⟩ = some vK
  fr : ∀ j, W.frozen? ⟨g, j, none⟩ = false
section
variable {W : World} {g o : Nat} {tag key text : ByteArray} {vA vK : Value}
theorem NodAt.lt (h : NodAt W g o tag key text vA vK) : g < W.heap.size := World.block_lt_of_cell? W _ h.c0
theorem NodAt.kept {W' : World} (h : NodAt W g o tag key text vA vK) {S : Nat → Prop} (hk : Kept S W W') (hs : ¬ S g) : NodAt W' g o tag key text vA vK :=
  ⟨hk.cellOf h.c0 hs, hk.cellOf h.c1 hs, hk.cellOf h.c2 hs, hk.cellOf h.c3 hs, hk.cellOf h.c4 hs, fun j => (hk.frozen (a := ⟨g, j, none⟩) h.lt hs).trans (h.fr j)⟩
theorem ne_off {g i j : Nat} (h : i ≠ j) : (⟨g, i, none⟩ : Addr) ≠ ⟨g, j, none⟩ := fun e => h (by cases e; rfl)
theorem NodAt.set0 (h : NodAt W g o tag key text vA vK) (u : ByteArray) : NodAt (W.setCell ⟨g, o, none⟩ (.string u)) g o u key text vA vK :=
  ⟨World.cell?_setCell_same _ _ _ h.c0, (World.cell?_setCell_other _ _ _ _ (ne_off (by omega))).trans h.c1, (World.cell?_setCell_other _ _ _ _ (ne_off (by omega))).trans h.c2, (World.cell?_setCell_other _ _ _ _ (ne_off (by omega))).trans h.c3, (World.cell?_setCell_other _ _ _ _ (ne_off (by omega))).trans h.c4, fun j => by rw [World.frozen?_setCell]; exact h.fr j⟩
theorem NodAt.set1 (h : NodAt W g o tag key text vA vK) (u : ByteArray) : NodAt (W.setCell ⟨g, o + 1, none⟩ (.string u)) g o tag u text vA vK :=
  ⟨(World.cell?_setCell_other _ _ _ _ (ne_off (by omega))).trans h.c0, World.cell?_setCell_same _ _ _ h.c1, (World.cell?_setCell_other _ _ _ _ (ne_off (by omega))).trans h.c2, (World.cell?_setCell_other _ _ _ _ (ne_off (by omega))).trans h.c3, (World.cell?_setCell_other _ _ _ _ (ne_off (by omega))).trans h.c4, fun j => by rw [World.frozen?_setCell]; exact h.fr j⟩
theorem NodAt.set2 (h : NodAt W g o tag key text vA vK) (u : ByteArray) : NodAt (W.setCell ⟨g, o + 2, none⟩ (.string u)) g o tag key u vA vK :=
  ⟨(World.cell?_setCell_other _ _ _ _ (ne_off (by omega))).trans h.c0, (World.cell?_setCell_other _ _ _ _ (ne_off (by omega))).trans h.c1, World.cell?_setCell_same _ _ _ h.c2, (World.cell?_setCell_other _ _ _ _ (ne_off (by omega))).trans h.c3, (World.cell?_setCell_other _ _ _ _ (ne_off (by omega))).trans h.c4, fun j => by rw [World.frozen?_setCell]; exact h.fr j⟩
theorem NodAt.set3 (h : NodAt W g o tag key text vA vK) (u : Value) : NodAt (W.setCell ⟨g, o + 3, none⟩ u) g o tag key text u vK :=
  ⟨(World.cell?_setCell_other _ _ _ _ (ne_off (by omega))).trans h.c0, (World.cell?_setCell_other _ _ _ _ (ne_off (by omega))).trans h.c1, (World.cell?_setCell_other _ _ _ _ (ne_off (by omega))).trans h.c2, World.cell?_setCell_same _ _ _ h.c3, (World.cell?_setCell_other _ _ _ _ (ne_off (by omega))).trans h.c4, fun j => by rw [World.frozen?_setCell]; exact h.fr j⟩
theorem NodAt.set4 (h : NodAt W g o tag key text vA vK) (u : Value) : NodAt (W.setCell ⟨g, o + 4, none⟩ u) g o tag key text vA u :=
  ⟨(World.cell?_setCell_other _ _ _ _ (ne_off (by omega))).trans h.c0, (World.cell?_setCell_other _ _ _ _ (ne_off (by omega))).trans h.c1, (World.cell?_setCell_other _ _ _ _ (ne_off (by omega))).trans h.c2, (World.cell?_setCell_other _ _ _ _ (ne_off (by omega))).trans h.c3, World.cell?_setCell_same _ _ _ h.c4, fun j => by rw [World.frozen?_setCell]; exact h.fr j⟩
end
theorem info63 : (Tryz.prog.info? 63).map (fun i => (i.zero, i.size, i.bytes)) = some (some (.agg #[.string ⟨#[]⟩, .string ⟨#[]⟩]), 2, 32) := by kernel_rfl
/-- The attributes that are kept. -/
def kept65 (l : List At) : List At := l.take 65
theorem kept65_more {l : List At} {a : At} (h : (kept65 l).length ≤ 64) : kept65 (l ++ [a]) = kept65 l ++ [a] := by
  unfold kept65 at h ⊢
  rw [List.length_take] at h
  have h1 : l.length ≤ 64 := by omega
  rw [List.take_of_length_le (by simp; omega), List.take_of_length_le (by omega)]
theorem kept65_full {l : List At} {a : At} (h : ¬ (kept65 l).length ≤ 64) : kept65 (l ++ [a]) = kept65 l := by
  unfold kept65 at h ⊢
  rw [List.length_take] at h
  rw [List.take_append_of_le_length (by omega)]
theorem kept65_len (l : List At) : (kept65 l).length ≤ 65 := by unfold kept65; rw [List.length_take]; omega
/-- Only the node at (g, o) turns in its block. -/
def Nbr (g o : Nat) (W W' : World) : Prop := ∀ cur ty, W.heap[g]? = some (.cells cur ty (0, 0)) → ∃ cur', W'.heap[g]? = some (.cells cur' ty (0, 0)) ∧ cur'.size = cur.size ∧ ∀ j, (j < o ∨ o + 5 ≤ j) → cur'[j]? = cur[j]?
theorem Nbr.same {g o : Nat} {W W' : World} (h : W'.heap[g]? = W.heap[g]?) : Nbr g o W W' := fun cur ty hc => ⟨cur, h.trans hc, rfl, fun _ _ => rfl⟩
theorem Nbr.refl (g o : Nat) (W : World) : Nbr g o W W := .same rfl
theorem Nbr.trans {g o : Nat} {a b c : World} (h : Nbr g o a b) (k : Nbr g o b c) : Nbr g o a c := fun cur ty hc => by
  obtain ⟨c1, e1, s1, j1⟩ := h cur ty hc
  obtain ⟨c2, e2, s2, j2⟩ := k c1 ty e1
  exact ⟨c2, e2, s2.trans s1, fun j hj => (j2 j hj).trans (j1 j hj)⟩
theorem Nbr.set {g o : Nat} {W : World} (j : Nat) (u : Value) (hj : o ≤ j ∧ j < o + 5) : Nbr g o W (W.setCell ⟨g, j, none⟩ u) := fun cur ty hc =>
  ⟨_, heap_setCell_same W g j cur ty u hc, by simp, fun i hi => by rw [Array.getElem?_setIfInBounds_ne (by omega)]⟩
theorem Nbr.kept {g o : Nat} {W W' : World} {S : Nat → Prop} (hk : Kept S W W') (hg : g < W.heap.size) (hs : ¬ S g) : Nbr g o W W' := .same (hk.block g hg hs)
/-- What attr says: the node has one attribute more, or the panic. -/
def AttrC (P g o : Nat) (s : ByteArray) (b base : Nat) (tag key text : ByteArray) (l : List At) (vK : Value) (R : Rd At) (w : World) (e : Ending) (w' : World) : Prop :=
  match R with
  | .ok x q => ∃ (a' : Nat) (vA' : Value), a' ≤ s.size ∧ q = restL s a' ∧ e = .returned (.tuple #[]) ∧ P3 w' P s a' b ∧ NodAt w' g o tag key text vA' vK ∧ w'.ownsRow base 63 2 vA' (kept65 (l ++ [x])).length (ats (kept65 (l ++ [x]))) ∧ Kept (fun k => k = P ∨ k = g ∨ base ≤ k) w w' ∧ Nbr g o w w'
  | .bad n _ => e = PanE (s.size - n) ∧ n ≤ s.size ∧ Kept (· = P) w w'
theorem attr_bad {P g o : Nat} {s : ByteArray} {b base n : Nat} {er : Int} {tag key text : ByteArray} {l : List At} {vK : Value} {R : Rd At} {w w' : World} (hR : R = .bad n er) (hn : n ≤ s.size) (hk : Kept (· = P) w w') : AttrC P g o s b base tag key text l vK R w (PanE (s.size - n)) w' := by
  subst hR; exact ⟨rfl, hn, hk⟩
theorem attr_ok {P g o a' : Nat} {s : ByteArray} {b base : Nat} {tag key text : ByteArray} {l : List At} {x : At} {vA' vK : Value} {R : Rd At} {w w' : World} (hR : R = .ok x (restL s a')) (ha : a' ≤ s.size) (hp : P3 w' P s a' b) (hn : NodAt w' g o tag key text vA' vK) (ho : w'.ownsRow base 63 2 vA' (kept65 (l ++ [x])).length (ats (kept65 (l ++ [x])))) (hk : Kept (fun k => k = P ∨ k = g ∨ base ≤ k) w w') (hb : Nbr g o w w') : AttrC P g o s b base tag key text l vK R w (.returned (.tuple #[])) w' := by
  subst hR; exact ⟨a', vA', ha, rfl, rfl, hp, hn, ho, hk, hb⟩
set_option maxHeartbeats 8000000 in
theorem attr_any (P g o : Nat) (s : ByteArray) (a b base : Nat) (tag key text : ByteArray) (l : List At) (vA vK : Value) (w : World) (h : P3 w P s a b) (hn : NodAt w g o tag key text vA vK) (hr : w.ownsRow base 63 2 vA (kept65 l).length (ats (kept65 l))) (hbase : base ≤ w.heap.size) (hPb : P < base) (hgb : g < base) (hPg : P ≠ g) (ha : a ≤ s.size) (hs : s.size ≤ 1000000000) (hv : Vars w) (hP4 : 4 ≤ P) :
    Calls Tryz.prog 135 #[.pointer (some ⟨P, 0, none⟩), .pointer (some ⟨g, o, none⟩)] w (AttrC P g o s b base tag key text l vK (attP (restL s a)) w) := by
  obtain ⟨i0, hi, hz0, hz1, hz2⟩ := info_parts info63
  have C1 := mword_any P s a b w h ha hs
  obtain ⟨R, hR⟩ : ∃ R, R = attP (restL s a) := ⟨_, rfl⟩
  rw [← hR]
  obtain ⟨Q, hQ⟩ : ∃ Q, Q = wordP (restL s a) := ⟨_, rfl⟩
  rw [← hQ] at C1
  have HR := Lib.hid (show R = bnd Q fun n l1 => bnd (preP [61, 34] l1) fun _ l2 => bnd (txtP l2) fun v l3 => bnd (preP [34] l3) fun _ l4 => .ok (n, v) l4 by rw [hR, hQ]; rfl)
  have HC := Lib.hid C1; have HV := Lib.hid hv; have HN := Lib.hid hn; have HO := Lib.hid hr
  obtain ⟨A, cap, hvA⟩ := row_form hr
  have hlen := kept65_len l
  have HVA := Lib.hid hvA
  clear C1 hR hQ h hn hr hv hvA
  go_enter Tryz.func135, Tryz.ntmps135
  go_wp2_with fail
  refine HC.out.mono ?_
  rintro e w1 hst
  clear HC
  cases Q with
  | bad n er =>
    obtain ⟨rfl, hn, hk⟩ := hst.bad
    have HF := Lib.hid (attr_bad (g := g) (o := o) (b := b) (base := base) (tag := tag) (key := key) (text := text) (l := l) (vK := vK) (R := R) (HR.out.trans rfl) hn hk)
    clear hst hk
    exact ⟨rfl, HF.out⟩
  | ok nm q =>
    obtain ⟨a1, ha1, rfl, rfl, hp1, hk1⟩ := hst.ok
    have C2 := mneed_any P s ⟨#[61, 34]⟩ a1 b w1 hp1 ha1 hs
    obtain ⟨Q, hQ⟩ : ∃ Q, Q = preP [61, 34] (restL s a1) := ⟨_, rfl⟩
    rw [show preP (⟨#[61, 34]⟩ : ByteArray).data.toList (restL s a1) = Q from hQ.symm] at C2
    have HR2 := Lib.hid (show R = bnd Q fun _ l2 => bnd (txtP l2) fun v l3 => bnd (preP [34] l3) fun _ l4 => .ok (nm, v) l4 by rw [HR.out, hQ]; rfl)
    have HC2 := Lib.hid C2; have HK1 := Lib.hid hk1
    clear C2 hQ hp1 hk1 hst HR
    go_wp2_with fail
    refine HC2.out.mono ?_
    rintro e w2 hst
    clear HC2
    cases Q with
    | bad n er =>
      obtain ⟨rfl, hn, hk⟩ := hst.bad
      have HF := Lib.hid (attr_bad (g := g) (o := o) (b := b) (base := base) (tag := tag) (key := key) (text := text) (l := l) (vK := vK) (R := R) (HR2.out.trans rfl) hn (HK1.out.trans hk))
      clear hst hk
      exact ⟨rfl, HF.out⟩
    | ok u q =>
      obtain ⟨a2, ha2, rfl, rfl, hp2, hk2⟩ := hst.ok
      have HK2 := Lib.hid (HK1.out.trans hk2)
      have C3 := mescaped_any P s a2 b w2 hp2 ha2 hs (HV.out.keptP hP4 HK2.out)
      obtain ⟨Q, hQ⟩ : ∃ Q, Q = txtP (restL s a2) := ⟨_, rfl⟩
      rw [← hQ] at C3
      have HR3 := Lib.hid (show R = bnd Q fun v l3 => bnd (preP [34] l3) fun _ l4 => .ok (nm, v) l4 by rw [HR2.out, hQ]; rfl)
      have HC3 := Lib.hid C3
      clear C3 hQ hp2 hk2 hst HR2 HK1
      go_wp2_with fail
      refine HC3.out.mono ?_
      rintro e w3 hst
      clear HC3
      cases Q with
      | bad n er =>
        obtain ⟨rfl, hn, hk⟩ := hst.bad
        have HF := Lib.hid (attr_bad (g := g) (o := o) (b := b) (base := base) (tag := tag) (key := key) (text := text) (l := l) (vK := vK) (R := R) (HR3.out.trans rfl) hn (HK2.out.trans hk))
        clear hst hk
        exact ⟨rfl, HF.out⟩
      | ok vl q =>
        obtain ⟨a3, ha3, rfl, rfl, hp3, hk3⟩ := hst.ok
        have C4 := mneed_any P s ⟨#[34]⟩ a3 b w3 hp3 ha3 hs
        obtain ⟨Q, hQ⟩ : ∃ Q, Q = preP [34] (restL s a3) := ⟨_, rfl⟩
        rw [show preP (⟨#[34]⟩ : ByteArray).data.toList (restL s a3) = Q from hQ.symm] at C4
        have HR4 := Lib.hid (show R = bnd Q fun _ l4 => .ok (nm, vl) l4 by rw [HR3.out, hQ]; rfl)
        have HC4 := Lib.hid C4; have HK3 := Lib.hid (HK2.out.trans hk3)
        clear C4 hQ hp3 hk3 hst HR3 HK2
        go_wp2_with fail
        refine HC4.out.mono ?_
        rintro e w4 hst
        clear HC4
        cases Q with
        | bad n er =>
          obtain ⟨rfl, hn, hk⟩ := hst.bad
          have HF := Lib.hid (attr_bad (g := g) (o := o) (b := b) (base := base) (tag := tag) (key := key) (text := text) (l := l) (vK := vK) (R := R) (HR4.out.trans rfl) hn (HK3.out.trans hk))
          clear hst hk
          exact ⟨rfl, HF.out⟩
        | ok u q =>
          obtain ⟨a4, ha4, rfl, rfl, hp4, hk4⟩ := hst.ok
          have hk := HK3.out.trans hk4
          have hnod := HN.out.kept hk (show ¬ g = P from fun h => hPg h.symm)
          have hrow := hk.own HO.out (fun k hk e => by have := (HO.out.lt k hk).1; have e' : k = P := e; omega)
          have HR5 := Lib.hid (show R = .ok (nm, vl) (restL s a4) from HR4.out.trans rfl)
          have HK4 := Lib.hid hk; have HN4 := Lib.hid hnod; have HP4 := Lib.hid hp4
          have hgl := hnod.lt
          have HNB := Lib.hid (show Nbr g o w w4 from .kept hk HN.out.lt (fun h => hPg h.symm))
          have hbs := Nat.le_trans hbase hk.size
          have hrv := hrow
          rw [HVA.out] at hrv
          have HROW := Lib.hid hrow; have HRV := Lib.hid hrv
          obtain ⟨c0, c1, c2, c3, c4, hfr⟩ := hnod
          rw [HVA.out] at c3
          have f3 := hfr (o + 3)
          clear hp4 hk4 hk hst hrow hrv c0 c1 c2 c4 hfr HR4 HK3 HN HO
          obtain ⟨n, hn⟩ : ∃ n, n = (kept65 l).length := ⟨_, rfl⟩
          rw [← hn] at c3 HRV hlen
          have HNL := Lib.hid hn; clear hn
          by_cases h64 : n ≤ 64
          · have hd : (n : Int) ≤ 64 := by omega
            have HM := Lib.hid (show kept65 (l ++ [(nm, vl)]) = kept65 l ++ [(nm, vl)] from kept65_more (by rw [← HNL.out]; exact h64))
            have hfin : ∀ v' w', w'.ownsRow base 63 2 v' (n + 1) (ats (kept65 l) ++ [.string nm, .string vl]) → Below base w4 w' → Kept (OwnB (.slice A n cap)) w4 w' → AttrC P g o s b base tag key text l vK R w (.returned (.tuple #[])) (w'.setCell ⟨g, o + 3, none⟩ v') := fun v' w' ho hb hk => by
              have hP' := HP4.out.below hb hPb
              have hN' := HN4.out.kept hk (fun e => by have := (HRV.out.lt g e).1; omega)
              have hks : Kept (· = g) w' (w'.setCell ⟨g, o + 3, none⟩ v') := kept_setCell w' ⟨g, o + 3, none⟩ v'
              refine attr_ok HR5.out ha4 (hP'.kept hks hPg) (hN'.set3 v') ?_ ?_ ?_
              · rw [HM.out]
                have ho2 := hks.own ho (fun k hk e => by have := (ho.lt k hk).1; have e' : k = g := e; omega)
                refine own_ats ho2 (by rw [ats_append]; rfl) (by rw [HNL.out]; simp)
              · refine ((HK4.out.mono (fun k _ h => .inl h)).trans (hk.mono (fun k _ h => .inr (.inr (HRV.out.lt k h).1)))).trans (hks.mono (fun k _ h => .inr (.inl h)))
              · exact (HNB.out.trans (.kept hk (by omega) (fun e => by have := (HRV.out.lt g e).1; omega))).trans (.set (o + 3) v' (by omega))
            have HFIN := Lib.hid hfin
            have HFR := Lib.hid (show ∀ w', Kept (OwnB (.slice A n cap)) w4 w' → w'.cell? ⟨g, o + 3, none⟩ = some (.slice A n cap) ∧ w'.frozen? ⟨g, o + 3, none⟩ = false from fun w' hk => ⟨hk.cellOf c3 (fun e => by have := (HRV.out.lt g e).1; omega), (hk.frozen (a := ⟨g, o + 3, none⟩) hgl (fun e => by have := (HRV.out.lt g e).1; omega)).trans f3⟩)
            clear hfin
            go_wp2_with (at_builtin; refine wpList_appS rfl _ _ 22 rfl base 63 i0 (.agg #[.string ⟨#[]⟩, .string ⟨#[]⟩]) 2 32 Tryz.underlying22 hi hz0 hz1 hz2 rfl (by omega) (by omega) _ n (ats (kept65 l)) rfl HRV.out #[.string nm, .string vl] rfl (encA_one (nm, vl)) _ (by simp) rfl (by omega) hbs ?_; intro v5 w5 hown5 hb5 hk5 hf5; obtain ⟨A5, c5, h5⟩ := row_form hown5; subst h5; have hfz := HFR.out w5 hk5; obtain ⟨hz1', hz2'⟩ := hfz)
            go_end0
            exact HFIN.out _ w5 hown5 hb5 hk5
          · have hd : ¬ (n : Int) ≤ 64 := by omega
            have HF := Lib.hid (show AttrC P g o s b base tag key text l vK R w (.returned (.tuple #[])) w4 from attr_ok HR5.out ha4 HP4.out HN4.out (by rw [kept65_full (by rw [← HNL.out]; exact h64)]; exact HROW.out) (HK4.out.mono (fun k _ h => .inl h)) HNB.out)
            go_wp2_with fail
            go_end0
            exact HF.out
end Go.Proofs.YtjnhcoflmechmaaGreatDoor.M
