/-
  match.labelsOf and match.families. | match.families; match.Labels.
-/
import Derived.Test.YtlkdklpglmglkaaMMath
import Derived.Test.YtlkdklpglmglkaaFLists
namespace Go.Proofs.Ytlkdklpglmglkaa
open Go.RowKit Go.Sort Go.Lib
open K (Lab LRow lrow_at)
set_option linter.unusedVariables false
set_option maxRecDepth 100000
theorem nds_cons (p : KV) (l : List KV) : nds (p :: l) = nodeCells p.1 p.2 ++ nds l := rfl
theorem nds_put : ∀ (l : List KV) (i : Nat) (t : Tr) (x : NV), i < l.length → ((((((nds l).set (i * 5) (.string t.tag)).set (i * 5 + 1) (.string t.key)).set (i * 5 + 2) (.string t.text)).set (i * 5 + 3) (.slice x.A t.as.length x.ca)).set (i * 5 + 4) (.slice x.K t.kids.length x.ck)) = nds (l.set i (t, x))
  | y :: l, 0, t, x, _ => rfl
  | y :: l, i + 1, t, x, h => by
    have ih := nds_put l i t x (by simpa using h)
    have e : (i + 1) * 5 = i * 5 + 1 + 1 + 1 + 1 + 1 := by omega
    rw [List.set_cons_succ, nds_cons, nds_cons, e, ← ih]
    rfl
theorem made_nds (n : Nat) : (madeCells (Value.agg #[.string ⟨#[]⟩, .string ⟨#[]⟩, .string ⟨#[]⟩, .slice none 0 0, .slice none 0 0]).cells (n * 5)).toList = nds (List.replicate n (noT, leafNV)) := by
  have hz : (Value.agg #[.string ⟨#[]⟩, .string ⟨#[]⟩, .string ⟨#[]⟩, .slice none 0 0, .slice none 0 0]).cells = #[.string ⟨#[]⟩, .string ⟨#[]⟩, .string ⟨#[]⟩, .slice none 0 0, .slice none 0 0] := rfl
  rw [hz]
  have e : ∀ m, (madeCells #[.string ⟨#[]⟩, .string ⟨#[]⟩, .string ⟨#[]⟩, .slice none 0 0, .slice none 0 0] m).toList = (List.range m).map (fun j => (#[.string ⟨#[]⟩, .string ⟨#[]⟩, .string ⟨#[]⟩, .slice none 0 0, .slice none 0 0] : Array Value)[j % 5]!) := fun m => by
    simp [madeCells]
  rw [e]
  induction n with
  | zero => rfl
  | succ n ih =>
    have e2 : (n + 1) * 5 = n * 5 + 1 + 1 + 1 + 1 + 1 := by omega
    rw [e2, List.range_succ, List.range_succ, List.range_succ, List.range_succ, List.range_succ, List.map_append, List.map_append, List.map_append, List.map_append, List.map_append, ih, List.replicate_succ', nds_append]
    have m0 : n * 5 % 5 = 0 := by omega
    have m1 : (n * 5 + 1) % 5 = 1 := by omega
    have m2 : (n * 5 + 1 + 1) % 5 = 2 := by omega
    have m3 : (n * 5 + 1 + 1 + 1) % 5 = 3 := by omega
    have m4 : (n * 5 + 1 + 1 + 1 + 1) % 5 = 4 := by omega
    simp only [List.map_cons, List.map_nil, m0, m1, m2, m3, m4, List.append_assoc]
    rfl
def ndOut (rs : List Rw) (ks : List Nat) (i : Nat) : List KV := (ks.take i).map (fun k => (ndR rs k, leafNV)) ++ List.replicate (ks.length - i) (noT, leafNV)
theorem ndOut_length (rs : List Rw) (ks : List Nat) {i : Nat} (h : i ≤ ks.length) : (ndOut rs ks i).length = ks.length := by
  simp [ndOut]; omega
theorem ndOut_set (rs : List Rw) (ks : List Nat) {i : Nat} (h : i < ks.length) : (ndOut rs ks i).set i (ndR rs ks[i], leafNV) = ndOut rs ks (i + 1) := by
  unfold ndOut
  have hl : ((ks.take i).map (fun k => (ndR rs k, leafNV))).length = i := by simp; omega
  have e2 : ks.take (i + 1) = ks.take i ++ [ks[i]] := by simp
  rw [List.set_append_right i _ (by rw [hl]; exact Nat.le_refl _), hl, Nat.sub_self, show ks.length - i = (ks.length - (i + 1)) + 1 by omega, List.replicate_succ, List.set_cons_zero, e2, List.map_append, List.append_assoc]
  rfl
def putNd (W : World) (b i : Nat) (v0 v1 v2 v3 v4 : Value) : World := ((((W.setCell ⟨b, i * 5, none⟩ v0).setCell ⟨b, i * 5 + 1, none⟩ v1).setCell ⟨b, i * 5 + 2, none⟩ v2).setCell ⟨b, i * 5 + 3, none⟩ v3).setCell ⟨b, i * 5 + 4, none⟩ v4
theorem own_putNd {W : World} {base b n : Nat} {l : List KV} (h : W.ownsRow base 25 5 (.slice (some ⟨b, 0, none⟩) n n) n (nds l)) (i : Nat) (t : Tr) (x : NV) (hi : i < l.length) : (putNd W b i (.string t.tag) (.string t.key) (.string t.text) (.slice x.A t.as.length x.ca) (.slice x.K t.kids.length x.ck)).ownsRow base 25 5 (.slice (some ⟨b, 0, none⟩) n n) n (nds (l.set i (t, x))) := by
  rw [← nds_put l i t x hi]
  exact (((((h.stored (i * 5) _).1.stored (i * 5 + 1) _).1.stored (i * 5 + 2) _).1.stored (i * 5 + 3) _).1.stored (i * 5 + 4) _).1
theorem below_putNd {B : Nat} {W0 W : World} {b : Nat} (h : Below B W0 W) (hb : B ≤ b) (i : Nat) (v0 v1 v2 v3 v4 : Value) : Below B W0 (putNd W b i v0 v1 v2 v3 v4) := by
  unfold putNd
  exact ((((h.setCell (p := ⟨b, i * 5, none⟩) hb v0).setCell (p := ⟨b, i * 5 + 1, none⟩) hb v1).setCell (p := ⟨b, i * 5 + 2, none⟩) hb v2).setCell (p := ⟨b, i * 5 + 3, none⟩) hb v3).setCell (p := ⟨b, i * 5 + 4, none⟩) hb v4
def labsK (rs : List Rw) (h : Nat) : List Lab := (kidsH rs h).map (fun k => labR rs (k - 1))
theorem labsK_length (rs : List Rw) (h : Nat) : (labsK rs h).length = (kidsH rs h).length := by simp [labsK]
theorem leaf_at (w : World) (B : Nat) (a b : ByteArray) : TreeAt w B (.mk a b noB [] []) leafNV := .mk (fun _ => leafNV) (TRow.nil _ _ _) (Nat.le_refl _) (by simp [leafNV, maxLen]) (fun _ => rfl) (Nat.le_refl _) (by simp [leafNV, maxLen]) (fun _ => rfl) (fun h => by simp [Tr.kids] at h) (fun j h => by simp [Tr.kids] at h)
theorem good_nd {rs : List Rw} (G : GoodRs rs) {k : Nat} (hk : k - 1 < rs.length) : GoodT (ndR rs k) := by
  have g := G (rwAt rs (k - 1)) (by rw [rwAt_eq hk]; exact List.getElem_mem _)
  exact .mk (by have := g.tag; show (rwAt rs (k - 1)).tag.size ≤ maxLen; unfold maxLen; omega) g.key (by show noB.size ≤ 100000000; decide) (by show ([] : List At).length ≤ 1000000; decide) (fun x hx => by simp [ndR, Tr.as] at hx) (by show ([] : List Tr).length ≤ 1000000; decide) (fun k hk => by simp [ndR, Tr.kids] at hk)
set_option maxHeartbeats 8000000 in
theorem labelsOf_any (A : Option Addr) (c : Nat) (rs : List Rw) (h : Nat) (Ak : Option Addr) (ck : Nat) (w : World) (H : RRow w w.heap.size A rs) (G : GoodRs rs) (hl : rs.length ≤ 1000) (HK : I.Row w w.heap.size Ak (nums (kidsH rs h))) :
    Calls Try.prog 69 #[.slice A rs.length c, .slice Ak (kidsH rs h).length ck] w (MadeLO w (labsK rs h)) := by
  have nf : ¬ (False : Prop) := fun h => h
  obtain ⟨ks, hks⟩ : ∃ ks, ks = kidsH rs h := ⟨_, rfl⟩
  have hkl : ks.length ≤ 1000 := by rw [hks]; have := kidsTo_len rs h rs.length; unfold kidsH; omega
  have HKM := Lib.hid (show ∀ k ∈ ks, 1 ≤ k ∧ k ≤ rs.length from fun k hk => by
    rw [hks] at hk
    obtain ⟨h1, h2, _⟩ := mem_kidsTo.1 hk
    exact ⟨h1, h2⟩)
  have HLK := Lib.hid (show labsOf (ks.map (ndR rs)) = labsK rs h by rw [hks, labs_kids]; rfl)
  rw [← hks] at HK ⊢
  have HR := Lib.hid H; have HG := Lib.hid G; have HKR := Lib.hid HK
  obtain ⟨i0, hi, hz0, hz1, hz2⟩ := info_parts Try.info25
  have HBY := Lib.hid (show i0.bytes * ks.length ≤ 281474976710656 by rw [hz2]; omega)
  clear H G HK hks
  go_enter Try.func69, Try.ntmps69
  go_wp2_with (at_make; refine wpList_make_full _ rfl (.tmp 9) (.tmp 9) 23 rfl w.heap.size 25 i0 (.agg #[.string ⟨#[]⟩, .string ⟨#[]⟩, .string ⟨#[]⟩, .slice none 0 0, .slice none 0 0]) 5 Try.underlying23 hi hz0 hz1 .i64 .i64 _ _ ks.length rfl rfl rfl rfl HBY.out (by unfold maxLen; omega) (Nat.le_refl _) ?_; intro w1 hown1 hg1; rw [made_nds] at hown1; have HG1 := Lib.hid hg1; clear hg1; have HO1 := Lib.hid hown1; clear hown1)
  have hb1 : Below w.heap.size w w1 := (Below.refl _ _).grown HG1.out (Nat.le_refl _) (fun k hk => by cases hk)
  obtain ⟨g, hgg⟩ : ∃ g, g = w.heap.size := ⟨_, rfl⟩
  have HGG := Lib.hid hgg
  have HB1 := Lib.hid hb1
  rw [← hgg] at HO1 ⊢
  clear hgg hb1 HG1
  go_loopg [6, 7, 13] ks.length (fun q _ _ s13 wr => ∃ i : Nat, s13 = .int .i64 i ∧ i ≤ ks.length ∧ ks.length - i ≤ q ∧ RowKit.Hid (wr.ownsRow g 25 5 (.slice (some ⟨g, 0, none⟩) ks.length ks.length) ks.length (nds (ndOut rs ks i))) ∧ RowKit.Hid (Below g w wr))
  case atStart => exact ⟨0, rfl, by omega, by omega, Lib.hid (by have := HO1.out; simpa [ndOut] using this), Lib.hid (by rw [HGG.out]; exact HB1.out)⟩
  case round =>
    obtain ⟨i, rfl, hi', hq, HO, HB⟩ := hrel
    have hbw : Below w.heap.size w wr := by rw [← HGG.out]; exact HB.out
    have HBW := Lib.hid hbw
    clear hbw
    by_cases hlt : i < ks.length
    · have h1 : (i : Int) < (ks.length : Int) := by omega
      obtain ⟨b2, off2, z, hKA, hb2, hz, hzc⟩ := I.row_at ((HKR.out.below HBW.out).mono HBW.out.size) (j := i) (by simpa [nums] using hlt)
      obtain ⟨k, hk⟩ : ∃ k, k = ks[i] := ⟨_, rfl⟩
      obtain ⟨k1, k2⟩ := HKM.out k (by rw [hk]; exact List.getElem_mem _)
      have hzk : z = (k : Int) := by
        rw [hz, hk]
        simp [nums, List.getD_eq_getElem?_getD, hlt]
      subst hzk
      obtain ⟨k', hk'⟩ : ∃ k', k' = k - 1 := ⟨_, rfl⟩
      have hkl2 : k' < rs.length := by omega
      have hki : (k' : Int) < (rs.length : Int) := by omega
      have hwk : IntKind.i64.wrap ((k : Int) - 1) = (k' : Int) := by rw [IntKind.wrap_i64]; omega
      obtain ⟨b, off, r, x, hA, hb, hr, hc, -⟩ := rrow_at (HR.out.up HBW.out) hkl2
      obtain ⟨c0, c1, c2, c3, c4, c5⟩ := hc
      have hil : i < (ndOut rs ks i).length := by rw [ndOut_length rs ks hi']; exact hlt
      have z0 : ∀ j, wr.frozen? ⟨g, j, none⟩ = false := fun j => HO.out.frozenAt j
      have kc := own_kid (ps := ndOut rs ks i) (cap := ks.length) (n := ks.length) (g := g) (base := g) (w := wr) (by rw [ndOut_length rs ks hi']; exact HO.out) hil
      obtain ⟨p, hp⟩ : ∃ p, p = (ndOut rs ks i)[i] := ⟨_, rfl⟩
      rw [← hp] at kc
      obtain ⟨q0, q1, q2, q3, q4⟩ := kc
      rw [Nat.zero_add] at q0 q1 q2 q3 q4
      obtain ⟨w5, hw5⟩ : ∃ w5, w5 = putNd wr g i (.string r.tag) (.string r.key) (.string ⟨#[]⟩) (.slice none 0 0) (.slice none 0 0) := ⟨_, rfl⟩
      have HW5 := Lib.hid hw5
      have HBX := Lib.hid (show Below g w w5 by rw [hw5]; exact below_putNd HB.out (Nat.le_refl _) _ _ _ _ _ _)
      have HNX := Lib.hid (show w5.ownsRow g 25 5 (.slice (some ⟨g, 0, none⟩) ks.length ks.length) ks.length (nds (ndOut rs ks (i + 1))) by
        have hW := HO.out
        have h3 := own_putNd hW i (ndR rs k) leafNV hil
        have e3 : (ndOut rs ks i).set i (ndR rs k, leafNV) = ndOut rs ks (i + 1) := by rw [hk]; exact ndOut_set rs ks hlt
        rw [e3] at h3
        have e5 : (ndR rs k).tag = r.tag := by show (rwAt rs (k - 1)).tag = _; rw [← hk', rwAt_eq hkl2, hr]
        have e6 : (ndR rs k).key = r.key := by show (rwAt rs (k - 1)).key = _; rw [← hk', rwAt_eq hkl2, hr]
        rw [e5, e6] at h3
        rw [hw5]
        exact h3)
      clear hz hk hk' hr hp hil k1 k2 hw5
      go_upto_region 5 with (fail)
      go_region
      all_goals
        rw [show ((((wr.setCell ⟨g, i * 5, none⟩ (.string r.tag)).setCell ⟨g, i * 5 + 1, none⟩ (.string r.key)).setCell ⟨g, i * 5 + 2, none⟩ (.string ⟨#[]⟩)).setCell ⟨g, i * 5 + 3, none⟩ (.slice none 0 0)).setCell ⟨g, i * 5 + 4, none⟩ (.slice none 0 0) = w5 from HW5.out.symm]
        clear q0 q1 q2 q3 q4 z0 c0 c1 c2 c3 c4 c5 hzc
        go_wp2_with fail
        try rw [← hKA]
        try rw [← hA]
        go_roundg (ks.length - (i + 1))
        case measure => omega
        case rel => exact ⟨i + 1, by go_num, by omega, by omega, HNX, Lib.hid (HBX.out.trans (below_drewN _ _ 1))⟩
    · have h1 : ¬ (i : Int) < (ks.length : Int) := by omega
      obtain rfl : i = ks.length := by omega
      have HFULL := Lib.hid (show ndOut rs ks ks.length = ks.map (fun k => (ndR rs k, leafNV)) by simp [ndOut])
      have hlen : (ks.map (fun k => (ndR rs k, leafNV))).length = ks.length := by simp
      have ho := HO.out
      rw [HFULL.out] at ho
      have hkid : ∀ j, (hj : j < ks.length) → KidCells wr g (0 + j * 5) (ndR rs ks[j]) leafNV := fun j hj => by
        have := own_kid (ps := ks.map (fun k => (ndR rs k, leafNV))) (cap := ks.length) (n := ks.length) (g := g) (base := g) (w := wr) (by rw [hlen]; exact ho) (by rw [hlen]; exact hj)
        simpa using this
      have hglt : g < wr.heap.size := (ho.lt g rfl).2
      have ht : TreeAt wr wr.heap.size (.mk noB noB noB [] (ks.map (ndR rs))) ⟨none, 0, some ⟨g, 0, none⟩, ks.length⟩ := by
        refine .mk (fun _ => leafNV) (TRow.nil _ _ _) (Nat.le_refl _) (by simp [maxLen]) (fun _ => rfl) (by simp [Tr.kids]) (by simp [maxLen]; omega) (fun h => by cases h) (fun _ => ⟨g, 0, rfl, hglt, fun j hj => ?_⟩) (fun j hj => ?_)
        · have hj' : j < ks.length := by simpa [Tr.kids] using hj
          have := hkid j hj'
          simpa [Tr.kids] using this
        · have hj' : j < ks.length := by simpa [Tr.kids] using hj
          have e : (Tr.mk noB noB noB [] (ks.map (ndR rs))).kids[j] = ndR rs ks[j] := by simp [Tr.kids]
          rw [e]
          exact leaf_at _ _ _ _
      have hg : GoodT (.mk noB noB noB [] (ks.map (ndR rs))) := .mk (by show noB.size ≤ maxLen; decide) (by show noB.size ≤ 100000000; decide) (by show noB.size ≤ 100000000; decide) (by show ([] : List At).length ≤ 1000000; decide) (fun x hx => by simp [Tr.as] at hx) (by simp [Tr.kids]; omega) (fun k hk => by
        obtain ⟨q, hq, rfl⟩ := List.mem_map.1 (show k ∈ ks.map (ndR rs) from hk)
        exact good_nd HG.out (by have := HKM.out q hq; omega))
      have C := Lib.hid (labOf_any (.mk noB noB noB [] (ks.map (ndR rs))) ⟨none, 0, some ⟨g, 0, none⟩, ks.length⟩ wr ht hg)
      rw [show (Tr.mk noB noB noB [] (ks.map (ndR rs))).kids = ks.map (ndR rs) from rfl, HLK.out, List.length_map] at C
      clear ho hkid hglt ht hg hlen
      go_wp2_with fail
      refine C.out.mono ?_
      rintro e w2 ⟨A2, c2, rfl, ho2, hb2⟩
      have HO2 := Lib.hid ho2; have HB2 := Lib.hid (HBW.out.trans (hb2.mono HBW.out.size))
      have HS2 := Lib.hid HBW.out.size
      clear ho2 hb2 C
      go_wp2_with fail
      go_ret
      refine ⟨A2, c2, rfl, ?_, HB2.out⟩
      have := HO2.out
      refine ⟨this.1, ?_⟩
      rcases this.2 with hn | ⟨g', cap, cur, he, hg', rest⟩
      · exact .inl hn
      · exact .inr ⟨g', cap, cur, he, Nat.le_trans HS2.out hg', rest⟩
end Go.Proofs.Ytlkdklpglmglkaa

namespace Go.Proofs.Ytlkdklpglmglkaa
open Go.RowKit Go.Sort Go.Lib
open K (Lab LRow lrow_at)
set_option linter.unusedVariables false
set_option maxRecDepth 100000
structure FW (w : World) (g m k : Nat) (V : List Value) (rs : List Rw) : Prop where
  row : w.ownsRow g 83 2 (.slice (some ⟨g, 0, none⟩) m m) m V
  fam : ∀ j, j < k → ∃ Ak ck Al cl, V[j * 2]? = some (.slice Ak (kidsH rs j).length ck) ∧ V[j * 2 + 1]? = some (.slice Al (labsK rs j).length cl) ∧ I.Row w g Ak (nums (kidsH rs j)) ∧ w.ownsRow (g + 1) 58 3 (.slice Al (labsK rs j).length cl) (labsK rs j).length (labs (labsK rs j))
theorem FW.len {w : World} {g m k : Nat} {V : List Value} {rs : List Rw} (h : FW w g m k V rs) : V.length = m * 2 := h.row.1
theorem FW.below {w w' : World} {g m k : Nat} {V : List Value} {rs : List Rw} (h : FW w g m k V rs) (hb : Below w.heap.size w w') : FW w' g m k V rs := by
  have nf : ¬ (False : Prop) := fun h => h
  refine ⟨(kept_below hb (fun _ => False)).own h.row (fun _ _ => nf), fun j hj => ?_⟩
  obtain ⟨Ak, ck, Al, cl, h1, h2, h3, h4⟩ := h.fam j hj
  have hg : g < w.heap.size := (h.row.lt g rfl).2
  exact ⟨Ak, ck, Al, cl, h1, h2, h3.below (hb.mono (by omega)), (kept_below hb (fun _ => False)).own h4 (fun _ _ => nf)⟩
theorem FW.step {w : World} {g m k : Nat} {V : List Value} {rs : List Rw} (h : FW w g m k V rs) (hk : k < m) {Ak : Option Addr} {ck : Nat} {Al : Option Addr} {cl : Nat} (hr : I.Row w g Ak (nums (kidsH rs k))) (ho : w.ownsRow (g + 1) 58 3 (.slice Al (labsK rs k).length cl) (labsK rs k).length (labs (labsK rs k))) :
    FW ((w.setCell ⟨g, k * 2, none⟩ (.slice Ak (kidsH rs k).length ck)).setCell ⟨g, k * 2 + 1, none⟩ (.slice Al (labsK rs k).length cl)) g m (k + 1) ((V.set (k * 2) (.slice Ak (kidsH rs k).length ck)).set (k * 2 + 1) (.slice Al (labsK rs k).length cl)) rs := by
  have hV := h.len
  have hb : Below g w ((w.setCell ⟨g, k * 2, none⟩ (.slice Ak (kidsH rs k).length ck)).setCell ⟨g, k * 2 + 1, none⟩ (.slice Al (labsK rs k).length cl)) := ((Below.refl g w).setCell (p := ⟨g, k * 2, none⟩) (Nat.le_refl _) _).setCell (p := ⟨g, k * 2 + 1, none⟩) (Nat.le_refl _) _
  have hown : ∀ {v : Value} {n : Nat} {xs : List Value}, w.ownsRow (g + 1) 58 3 v n xs → ((w.setCell ⟨g, k * 2, none⟩ (.slice Ak (kidsH rs k).length ck)).setCell ⟨g, k * 2 + 1, none⟩ (.slice Al (labsK rs k).length cl)).ownsRow (g + 1) 58 3 v n xs := fun h1 => ownsRow_setCell_below (ownsRow_setCell_below h1 (a := ⟨g, k * 2, none⟩) (by simp) _) (a := ⟨g, k * 2 + 1, none⟩) (by simp) _
  refine ⟨((h.row.stored (k * 2) _).1.stored (k * 2 + 1) _).1, fun j hj => ?_⟩
  by_cases hjk : j = k
  · subst hjk
    refine ⟨Ak, ck, Al, cl, ?_, ?_, hr.below hb, hown ho⟩
    · rw [List.getElem?_set_ne (by omega), List.getElem?_set_self (by omega)]
    · rw [List.getElem?_set_self (by simp; omega)]
  · obtain ⟨Bk, dk, Bl, dl, h1, h2, h3, h4⟩ := h.fam j (by omega)
    refine ⟨Bk, dk, Bl, dl, ?_, ?_, h3.below hb, hown h4⟩
    · rw [List.getElem?_set_ne (by omega), List.getElem?_set_ne (by omega)]; exact h1
    · rw [List.getElem?_set_ne (by omega), List.getElem?_set_ne (by omega)]; exact h2
/-- Families, to be read. -/
def FamL (w : World) (B : Nat) (A : Option Addr) (m : Nat) (rs : List Rw) : Prop := 0 < m → ∃ g, A = some ⟨g, 0, none⟩ ∧ g < B ∧ ∀ j, j < m → ∃ Ak ck Al cl, w.cell? ⟨g, j * 2, none⟩ = some (.slice Ak (kidsH rs j).length ck) ∧ w.cell? ⟨g, j * 2 + 1, none⟩ = some (.slice Al (kidsH rs j).length cl) ∧ I.Row w B Ak (nums (kidsH rs j)) ∧ LRow w B Al (labsK rs j)
theorem FamL.below {w w' : World} {B : Nat} {A : Option Addr} {m : Nat} {rs : List Rw} (h : FamL w B A m rs) (hb : Below B w w') : FamL w' B A m rs := by
  intro h0
  obtain ⟨g, hA, hlt, hc⟩ := h h0
  refine ⟨g, hA, hlt, fun j hj => ?_⟩
  obtain ⟨Ak, ck, Al, cl, h1, h2, h3, h4⟩ := hc j hj
  exact ⟨Ak, ck, Al, cl, (hb.cell (p := ⟨g, j * 2, none⟩) hlt).trans h1, (hb.cell (p := ⟨g, j * 2 + 1, none⟩) hlt).trans h2, h3.below hb, h4.below hb⟩
theorem FamL.mono {w : World} {B B' : Nat} {A : Option Addr} {m : Nat} {rs : List Rw} (h : FamL w B A m rs) (hb : B ≤ B') : FamL w B' A m rs := by
  intro h0
  obtain ⟨g, hA, hlt, hc⟩ := h h0
  refine ⟨g, hA, by omega, fun j hj => ?_⟩
  obtain ⟨Ak, ck, Al, cl, h1, h2, h3, h4⟩ := hc j hj
  exact ⟨Ak, ck, Al, cl, h1, h2, h3.mono hb, h4.mono hb⟩
theorem FamL.up {w w' : World} {A : Option Addr} {m : Nat} {rs : List Rw} (h : FamL w w.heap.size A m rs) (hb : Below w.heap.size w w') : FamL w' w'.heap.size A m rs := (h.below hb).mono hb.size
theorem FamL.at {w : World} {B : Nat} {A : Option Addr} {m : Nat} {rs : List Rw} (h : FamL w B A m rs) {j : Nat} (hj : j < m) : ∃ g Ak ck Al cl, A = some ⟨g, 0, none⟩ ∧ g < B ∧ w.cell? ⟨g, j * 2, none⟩ = some (.slice Ak (kidsH rs j).length ck) ∧ w.cell? ⟨g, j * 2 + 1, none⟩ = some (.slice Al (kidsH rs j).length cl) ∧ I.Row w B Ak (nums (kidsH rs j)) ∧ LRow w B Al (labsK rs j) := by
  obtain ⟨g, hA, hlt, hc⟩ := h (by omega)
  obtain ⟨Ak, ck, Al, cl, h1, h2, h3, h4⟩ := hc j hj
  exact ⟨g, Ak, ck, Al, cl, hA, hlt, h1, h2, h3, h4⟩
theorem FW.read {w : World} {g m : Nat} {V : List Value} {rs : List Rw} (h : FW w g m m V rs) : FamL w w.heap.size (some ⟨g, 0, none⟩) m rs := fun h0 => by
  have hg : g < w.heap.size := (h.row.lt g rfl).2
  have hV := h.len
  refine ⟨g, rfl, hg, fun j hj => ?_⟩
  obtain ⟨Ak, ck, Al, cl, h1, h2, h3, h4⟩ := h.fam j hj
  refine ⟨Ak, ck, Al, cl, ?_, ?_, h3.mono (by omega), ?_⟩
  · rw [h.row.cellAt (j * 2) (by omega), h1]
  · rw [h.row.cellAt (j * 2 + 1) (by omega), h2, labsK_length]
  · obtain ⟨A', c', he, hr, _⟩ := lrow_own h4
    simp at he
    obtain ⟨rfl, -⟩ := he
    exact hr
theorem Try.info83 : (Try.prog.info? 83).map (fun i => (i.zero, i.size, i.bytes)) = some (some (.agg #[.slice none 0 0, .slice none 0 0]), 2, 48) := by kernel_rfl
def FamPost (rs : List Rw) (w : World) (e : Ending) (w' : World) : Prop := ∃ m A c, ((m = 0 ∧ errR rs ≠ 0) ∨ (m = rs.length + 1 ∧ errR rs = 0)) ∧ e = .returned (.slice A m c) ∧ FamL w' w'.heap.size A m rs ∧ Below w.heap.size w w'
set_option maxHeartbeats 8000000 in
theorem families_any (A : Option Addr) (c : Nat) (rs : List Rw) (w : World) (H : RRow w w.heap.size A rs) (G : GoodRs rs) (hl : rs.length ≤ 1000) (hc : rs.length ≤ c) :
    Calls Try.prog 57 #[.slice A rs.length c] w (FamPost rs w) := by
  have C := Lib.hid (lists_any A c rs w H G hl hc)
  have HR := Lib.hid H; have HG := Lib.hid G
  obtain ⟨i0, hi, hz0, hz1, hz2⟩ := info_parts Try.info83
  clear H G hc
  go_enter Try.func57, Try.ntmps57
  go_wp2_with fail
  refine C.out.mono ?_
  intro e w2 hpost
  obtain ⟨m, Al, cl, hm, rfl, hLL, hb2⟩ : ∃ m Al cl, ((m = 0 ∧ errR rs ≠ 0) ∨ (m = rs.length + 1 ∧ errR rs = 0)) ∧ e = .returned (.slice Al m cl) ∧ LL w2 w2.heap.size Al m (fun j => nums (kidsH rs j)) ∧ Below w.heap.size w w2 := by
    rcases hpost with ⟨hne, rfl, hb⟩ | ⟨heq, A2, rfl, hL, hb⟩
    · exact ⟨0, none, 0, .inl ⟨rfl, hne⟩, rfl, fun h => by omega, hb⟩
    · exact ⟨rs.length + 1, A2, rs.length + 1, .inr ⟨rfl, heq⟩, rfl, hL, hb⟩
  have hml : m ≤ 1001 := by omega
  have HM := Lib.hid hm; have HL2 := Lib.hid hLL; have HB2 := Lib.hid hb2; have HR2 := Lib.hid (HR.out.up hb2)
  have HBY := Lib.hid (show i0.bytes * m ≤ 281474976710656 by rw [hz2]; omega)
  clear hm hLL hb2 hpost C
  go_wp2_with (at_make; refine wpList_make_full _ rfl (.tmp 10) (.tmp 10) 80 rfl w2.heap.size 83 i0 (.agg #[.slice none 0 0, .slice none 0 0]) 2 Try.underlying80 hi hz0 hz1 .i64 .i64 _ _ m rfl rfl rfl rfl HBY.out (by unfold maxLen; omega) (Nat.le_refl _) ?_; intro w3 hown3 hg3; have HG3 := Lib.hid hg3; clear hg3; have HO3 := Lib.hid hown3; clear hown3)
  have hb3 : Below w2.heap.size w2 w3 := (Below.refl _ _).grown HG3.out (Nat.le_refl _) (fun k hk => by cases hk)
  obtain ⟨g, hgg⟩ : ∃ g, g = w2.heap.size := ⟨_, rfl⟩
  have HGG := Lib.hid hgg
  have HB3 := Lib.hid hb3
  rw [← hgg] at HO3 ⊢
  clear hgg hb3 HG3
  go_loopg [5, 6, 14] m (fun q _ _ s14 wr => ∃ (k : Nat) (V : List Value), s14 = .int .i64 k ∧ k ≤ m ∧ m - k ≤ q ∧ RowKit.Hid (FW wr g m k V rs) ∧ RowKit.Hid (Below g w2 wr))
  case atStart => exact ⟨0, _, rfl, by omega, by omega, Lib.hid ⟨HO3.out, fun j hj => by omega⟩, Lib.hid (by rw [HGG.out]; exact HB3.out)⟩
  case round =>
    obtain ⟨k, V, rfl, hk, hq, HF, HB⟩ := hrel
    have HBW := Lib.hid (show Below w2.heap.size w2 wr by rw [← HGG.out]; exact HB.out)
    by_cases hlt : k < m
    · have h1 : (k : Int) < (m : Int) := by omega
      obtain ⟨g2, A', c', hAl, hg2, hcell, hrow, hlc⟩ := (HL2.out.below HBW.out).at hlt
      obtain ⟨n, hn⟩ : ∃ n, n = (kidsH rs k).length := ⟨_, rfl⟩
      have hnn : (nums (kidsH rs k)).length = n := by rw [hn]; simp [nums]
      rw [hnn] at hcell
      have C2 := Lib.hid (labelsOf_any A c rs k A' c' wr (HR2.out.up HBW.out) HG.out hl (hrow.mono HBW.out.size))
      rw [← hn] at C2
      have HROW := Lib.hid (show I.Row wr g A' (nums (kidsH rs k)) by rw [HGG.out]; exact hrow)
      have HN := Lib.hid hn
      have HSZ := Lib.hid (show g < wr.heap.size from (HF.out.row.lt g rfl).2)
      clear hrow hlc hnn hn
      go_wp2_with fail
      refine C2.out.mono ?_
      rintro e w5 ⟨A2, c2, rfl, ho2, hb5⟩
      have hf5 := HF.out.below hb5
      have hlen := hf5.len
      have HOW := Lib.hid (show w5.ownsRow (g + 1) 58 3 (.slice A2 (labsK rs k).length c2) (labsK rs k).length (labs (labsK rs k)) from ⟨ho2.1, by
        rcases ho2.2 with hx | ⟨g', cap, cur, he, hg', rest⟩
        · exact .inl hx
        · exact .inr ⟨g', cap, cur, he, by have := HSZ.out; omega, rest⟩⟩)
      have HF6 := Lib.hid (hf5.step hlt (ck := c') (HROW.out.below (hb5.mono (by have := HSZ.out; omega))) HOW.out)
      rw [← HN.out] at HF6
      have HB6 := Lib.hid (show Below g w2 ((w5.setCell ⟨g, k * 2, none⟩ (.slice A' n c')).setCell ⟨g, k * 2 + 1, none⟩ (.slice A2 (labsK rs k).length c2)) from ((HB.out.trans (hb5.mono (by have := HSZ.out; omega))).setCell (p := ⟨g, k * 2, none⟩) (Nat.le_refl _) _).setCell (p := ⟨g, k * 2 + 1, none⟩) (Nat.le_refl _) _)
      obtain ⟨v0, hv0⟩ : ∃ v, V[k * 2]? = some v := ⟨_, List.getElem?_eq_getElem (by omega)⟩
      obtain ⟨v1, hv1⟩ : ∃ v, V[k * 2 + 1]? = some v := ⟨_, List.getElem?_eq_getElem (by omega)⟩
      have p0 : w5.cell? ⟨g, k * 2, none⟩ = some v0 := (hf5.row.cellAt (k * 2) (by omega)).trans hv0
      have p1 : w5.cell? ⟨g, k * 2 + 1, none⟩ = some v1 := (hf5.row.cellAt (k * 2 + 1) (by omega)).trans hv1
      have z0 := hf5.row.frozenAt (k * 2)
      have z1 := hf5.row.frozenAt (k * 2 + 1)
      obtain ⟨n2, hn2⟩ : ∃ n2, n2 = (labsK rs k).length := ⟨_, rfl⟩
      rw [← hn2] at HF6 HB6 ⊢
      clear ho2 hb5 hf5 hlen hv0 hv1 C2 hcell hn2
      go_wp2_with fail
      generalize (w5.setCell ⟨g, k * 2, none⟩ (.slice A' n c')).setCell ⟨g, k * 2 + 1, none⟩ (.slice A2 n2 c2) = w6 at HF6 HB6 ⊢
      try rw [← hAl]
      go_roundg (m - (k + 1))
      case measure => omega
      case rel => exact ⟨k + 1, _, by go_num, by omega, by omega, HF6, HB6⟩
    · have h1 : ¬ (k : Int) < (m : Int) := by omega
      obtain rfl : k = m := by omega
      go_wp2_with fail
      go_ret
      exact ⟨k, some ⟨g, 0, none⟩, k, HM.out, rfl, HF.out.read, HB2.out.trans (HBW.out.mono HB2.out.size)⟩
end Go.Proofs.Ytlkdklpglmglkaa
