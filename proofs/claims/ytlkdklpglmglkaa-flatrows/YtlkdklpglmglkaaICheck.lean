/-
  The reference's Items, Check, Right and Depth. | The reference's Check tells the first fault of the items.
-/
import Derived.Test.YtlkdklpglmglkaaItems
import Derived.Deep.DeepCutAuto
namespace Go.Proofs.Ytlkdklpglmglkaa
open Go.RowKit Go.Sort
set_option linter.unusedVariables false
set_option maxRecDepth 100000
structure ItCells (w : World) (g o : Nat) (p : IV) : Prop where
  kid : KidCells w g o p.1.t p.2
  c5 : w.cell? ⟨g, o + 5, none⟩ = some (.int .i64 p.1.d)
  c6 : w.cell? ⟨g, o + 6, none⟩ = some (.int .i64 p.1.up)
def IRow (w : World) (B : Nat) (A : Option Addr) (ps : List IV) : Prop := 0 < ps.length → ∃ g, A = some ⟨g, 0, none⟩ ∧ g < B ∧ ∀ j, (hj : j < ps.length) → ItCells w g (j * 7) ps[j]
theorem irow_own {w : World} {base : Nat} {A : Option Addr} {n cap : Nat} {ps : List IV} (h : w.ownsRow base 69 7 (.slice A n cap) ps.length (its ps)) : n = ps.length ∧ IRow w w.heap.size A ps := by
  rcases h.2 with ⟨he, hn⟩ | ⟨g, c, cur, he, _, hg, hnc, hcm, _, _⟩
  · simp at he
    exact ⟨by omega, fun h0 => by omega⟩
  · simp at he
    obtain ⟨rfl, rfl, rfl⟩ := he
    refine ⟨rfl, fun _ => ⟨g, rfl, (Array.getElem?_eq_some_iff.1 hg).1, fun j hj => ?_⟩⟩
    have key : ∀ r, r < 7 → w.cell? ⟨g, j * 7 + r, none⟩ = (encI ps[j])[r]? := by
      intro r hr
      rw [World.ownsRow.cellAt h (j * 7 + r) (by omega), its_at ps j hj r hr]
    exact ⟨⟨key 0 (by omega), key 1 (by omega), key 2 (by omega), key 3 (by omega), key 4 (by omega)⟩, key 5 (by omega), key 6 (by omega)⟩
theorem IRow.up {w w' : World} {A : Option Addr} {ps : List IV} (h : IRow w w.heap.size A ps) (hb : Below w.heap.size w w') : IRow w' w'.heap.size A ps := by
  intro h0
  obtain ⟨g, hA, hlt, hc⟩ := h h0
  refine ⟨g, hA, Nat.lt_of_lt_of_le hlt hb.size, fun j hj => ⟨(hc j hj).kid.below hb hlt, (hb.cell (p := ⟨g, j * 7 + 5, none⟩) hlt).trans (hc j hj).c5, (hb.cell (p := ⟨g, j * 7 + 6, none⟩) hlt).trans (hc j hj).c6⟩⟩
theorem irow_at {w : World} {B : Nat} {A : Option Addr} {ps : List IV} (h : IRow w B A ps) {j : Nat} (hj : j < ps.length) : ∃ g p, A = some ⟨g, 0, none⟩ ∧ g < B ∧ p = ps[j] ∧ ItCells w g (j * 7) p := by
  obtain ⟨g, hA, hlt, hc⟩ := h (by omega)
  exact ⟨g, _, hA, hlt, rfl, hc j hj⟩
mutual
theorem belowL_all {P : Tr → Prop} (hP : ∀ t, P t → ∀ k ∈ t.kids, P k) : ∀ (t : Tr) (d : Nat) (up : Int) (l : List It), P t → (∀ y ∈ l, P y.t) → ∀ y ∈ belowL t d up l, P y.t
  | .mk a b c s kids, d, up, l, ht, hl => by
    have hs : ∀ y ∈ l ++ [(⟨.mk a b c s kids, d, up⟩ : It)], P y.t := by
      intro y hy
      rcases List.mem_append.1 hy with hy | hy
      · exact hl y hy
      · simp at hy; subst hy; exact ht
    rw [belowL]
    split
    · exact hl
    · split
      · exact hs
      · exact belowK_all hP kids _ _ _ (hP _ ht) hs
theorem belowK_all {P : Tr → Prop} (hP : ∀ t, P t → ∀ k ∈ t.kids, P k) : ∀ (ks : List Tr) (d : Nat) (up : Int) (l : List It), (∀ k ∈ ks, P k) → (∀ y ∈ l, P y.t) → ∀ y ∈ belowK ks d up l, P y.t
  | [], _, _, l, _, hl => by rw [belowK]; exact hl
  | k :: ks, d, up, l, hk, hl => by
    rw [belowK]
    split
    · exact hl
    · exact belowK_all hP ks _ _ _ (fun y hy => hk y (List.mem_cons_of_mem _ hy)) (belowL_all hP k d up l (hk k List.mem_cons_self) hl)
end
theorem items_good {t : Tr} (h : GoodT t) : ∀ y ∈ itemsL t, GoodT y.t := belowL_all (P := GoodT) (fun t ht k hk => by cases ht with | mk h1 h2 h3 h4 h5 h6 sub => exact sub k hk) t 1 (-1) [] h (fun y hy => by simp at hy)
mutual
theorem belowL_len : ∀ (t : Tr) (d : Nat) (up : Int) (l : List It), l.length ≤ 4097 → (belowL t d up l).length ≤ 4097
  | .mk a b c s kids, d, up, l, hl => by
    rw [belowL]
    split
    · exact hl
    · split
      · simp; omega
      · exact belowK_len kids _ _ _ (by simp; omega)
theorem belowK_len : ∀ (ks : List Tr) (d : Nat) (up : Int) (l : List It), l.length ≤ 4097 → (belowK ks d up l).length ≤ 4097
  | [], _, _, l, hl => by rw [belowK]; exact hl
  | k :: ks, d, up, l, hl => by
    rw [belowK]
    split
    · exact hl
    · exact belowK_len ks _ _ _ (belowL_len k d up l hl)
end
mutual
theorem belowL_depth : ∀ (t : Tr) (d : Nat) (up : Int) (l : List It), d ≤ 65 → (∀ y ∈ l, y.d ≤ 65) → ∀ y ∈ belowL t d up l, y.d ≤ 65
  | .mk a b c s kids, d, up, l, hd, hl => by
    have hs : ∀ y ∈ l ++ [(⟨.mk a b c s kids, d, up⟩ : It)], y.d ≤ 65 := by
      intro y hy
      rcases List.mem_append.1 hy with hy | hy
      · exact hl y hy
      · simp at hy; subst hy; exact hd
    rw [belowL]
    split
    · exact hl
    · split
      · exact hs
      · exact belowK_depth kids _ _ _ (by omega) hs
theorem belowK_depth : ∀ (ks : List Tr) (d : Nat) (up : Int) (l : List It), d ≤ 65 → (∀ y ∈ l, y.d ≤ 65) → ∀ y ∈ belowK ks d up l, y.d ≤ 65
  | [], _, _, l, _, hl => by rw [belowK]; exact hl
  | k :: ks, d, up, l, hd, hl => by
    rw [belowK]
    split
    · exact hl
    · exact belowK_depth ks _ _ _ hd (belowL_depth k d up l hd hl)
end
theorem items_depth (t : Tr) : ∀ y ∈ itemsL t, y.d ≤ 65 := belowL_depth t 1 (-1) [] (by omega) (fun y hy => by simp at hy)
theorem items_len (t : Tr) : (itemsL t).length ≤ 4097 := belowL_len t 1 (-1) [] (by simp)
def IPost (w : World) (t : Tr) (e : Ending) (w' : World) : Prop := ∃ A c ps, e = .returned (.slice A ps.length c) ∧ IRow w' w'.heap.size A ps ∧ ps.map Prod.fst = itemsL t ∧ (∀ p ∈ ps, TreeAt w' w.heap.size p.1.t p.2) ∧ Below w.heap.size w w'
set_option maxHeartbeats 2000000 in
theorem items_any (t : Tr) (x : NV) (w : World) (h : TreeAt w w.heap.size t x) : Calls Try.prog 45 #[nodeV t x] w (IPost w t) := by
  obtain ⟨w1, hw1⟩ : ∃ w1, w1 = boxW w t x := ⟨_, rfl⟩
  have hb1 : Below w.heap.size w w1 := by rw [hw1]; exact below_box w t x
  obtain ⟨c0, c1, c2, c3, c4⟩ : KidCells w1 w.heap.size 0 t x := by rw [hw1]; exact box_node w t x
  have C := Lib.hid (below_any w.heap.size w1.heap.size hb1.size t x 1 (-1) (.slice none 0 0) [] w1 (h.keepB hb1) (fun p hp => by simp at hp) (Nat.le_refl _) (World.ownsRow_nil _ _ _ _) (by omega))
  have HW := Lib.hid hw1; have HB1 := Lib.hid hb1
  clear h hw1 hb1
  go_enter Try.func45, Try.ntmps45
  go_wp2_with fail
  rw [box_out HW]
  refine C.out.mono ?_
  rintro e w2 ⟨v, ps, rfl, ho, hm, ha, hb, -, -⟩
  obtain ⟨A, cap, rfl⟩ := row_form ho
  have HO := Lib.hid (irow_own ho); have HM := Lib.hid hm; have HA := Lib.hid ha; have HB := Lib.hid (HB1.out.trans (hb.mono HB1.out.size))
  clear ho hm ha hb c0 c1 c2 c3 c4 C
  go_wp2_with fail
  go_ret
  exact ⟨A, cap, ps, rfl, HO.out.2, HM.out, HA.out, HB.out⟩
theorem take_len {α : Type} {l : List α} {i : Nat} (h : i < l.length) : (l.take i).length = i := by simp; omega
theorem nodeF_many {al : Tr → Int} {pre : List It} {x : It} (h : pre.length = 4096) : nodeF al pre x = 12 := by rw [nodeF, if_pos h]
theorem nodeF_deep {al : Tr → Int} {pre : List It} {x : It} (h : ¬ pre.length = 4096) (hd : 64 < x.d) : nodeF al pre x = 11 := by rw [nodeF, if_neg h, if_pos hd]
theorem nodeF_al {al : Tr → Int} {pre : List It} {x : It} (h : ¬ pre.length = 4096) (hd : ¬ 64 < x.d) (ha : al x.t ≠ 0) : nodeF al pre x = al x.t := by rw [nodeF, if_neg h, if_neg hd, if_pos ha]
theorem nodeF_twice {al : Tr → Int} {pre : List It} {x : It} (h : ¬ pre.length = 4096) (hd : ¬ 64 < x.d) (ha : al x.t = 0) (hk : 0 ≤ x.up ∧ x.t.key ≠ noB ∧ hasKey pre x.up x.t.key) : nodeF al pre x = 10 := by rw [nodeF, if_neg h, if_neg hd, if_neg (by simpa using ha), if_pos hk]
theorem nodeF_ok {al : Tr → Int} {pre : List It} {x : It} (h : ¬ pre.length = 4096) (hd : ¬ 64 < x.d) (ha : al x.t = 0) (hk : ¬ (0 ≤ x.up ∧ x.t.key ≠ noB ∧ hasKey pre x.up x.t.key)) : nodeF al pre x = 0 := by rw [nodeF, if_neg h, if_neg hd, if_neg (by simpa using ha), if_neg hk]
def CPost (w : World) (t : Tr) (e : Ending) (w' : World) : Prop := ∃ a f, e = .returned (.tuple #[.int .i64 a, .int .i64 f]) ∧ FirstF aloneT (itemsL t) a f ∧ Below w.heap.size w w'
def NoHit (ps : List IV) (x : It) (k : Nat) : Prop := ∀ j, (hj : j < ps.length) → j < k → ¬ (0 ≤ x.up ∧ ps[j].1.up = x.up ∧ x.t.key ≠ noB ∧ ps[j].1.t.key = x.t.key)
theorem NoHit.step {ps : List IV} {x : It} {k : Nat} (h : NoHit ps x k) (hk : k < ps.length) (hn : ¬ (0 ≤ x.up ∧ ps[k].1.up = x.up ∧ x.t.key ≠ noB ∧ ps[k].1.t.key = x.t.key)) : NoHit ps x (k + 1) := by
  intro j hj hjk
  rcases Nat.lt_or_ge j k with h1 | h1
  · exact h j hj h1
  · have : j = k := by omega
    subst this; exact hn
theorem NoHit.none {ps : List IV} {x : It} {i : Nat} (h : NoHit ps x i) : ¬ (0 ≤ x.up ∧ x.t.key ≠ noB ∧ hasKey ((ps.map Prod.fst).take i) x.up x.t.key) := by
  rintro ⟨h1, h2, y, hy, h3, h4⟩
  obtain ⟨j, hj, rfl⟩ := List.mem_iff_getElem.1 hy
  simp at hj
  refine h j (by omega) (by omega) ⟨h1, ?_, h2, ?_⟩
  · simpa using h3
  · simpa using h4
theorem hit_has {ps : List IV} {x : It} {i k : Nat} (hk : k < ps.length) (hki : k < i) (h1 : ps[k].1.up = x.up) (h2 : ps[k].1.t.key = x.t.key) : hasKey ((ps.map Prod.fst).take i) x.up x.t.key :=
  ⟨ps[k].1, List.mem_iff_getElem.2 ⟨k, by simp; omega, by simp⟩, h1, h2⟩
end Go.Proofs.Ytlkdklpglmglkaa

namespace Go.Proofs.Ytlkdklpglmglkaa
open Go.RowKit Go.Sort
set_option linter.unusedVariables false
set_option maxRecDepth 100000
set_option maxHeartbeats 8000000 in
set_option maxRecDepth 100000 in
theorem icheck_any (t : Tr) (x : NV) (w : World) (h : TreeAt w w.heap.size t x) (hg : GoodT t) : Calls Try.prog 44 #[nodeV t x] w (CPost w t) := by
  obtain ⟨w1, hw1⟩ : ∃ w1, w1 = boxW w t x := ⟨_, rfl⟩
  have hb1 : Below w.heap.size w w1 := by rw [hw1]; exact below_box w t x
  obtain ⟨c0, c1, c2, c3, c4⟩ : KidCells w1 w.heap.size 0 t x := by rw [hw1]; exact box_node w t x
  have C := Lib.hid (items_any t x w1 (h.up hb1))
  have HW := Lib.hid hw1; have HB1 := Lib.hid hb1
  have HGI := Lib.hid (items_good hg)
  have HLEN := Lib.hid (items_len t)
  have HDEP := Lib.hid (items_depth t)
  clear h hw1 hb1 hg
  go_enter Try.func44, Try.ntmps44
  go_wp2_with fail
  rw [box_out HW]
  refine C.out.mono ?_
  rintro e w2 ⟨A, cap, ps, rfl, hrow, hm, ha, hb2⟩
  have HROW := Lib.hid hrow; have HM := Lib.hid hm
  have HB2 := Lib.hid (HB1.out.trans (hb2.mono HB1.out.size))
  have HTA := Lib.hid (show ∀ p ∈ ps, TRow w2 w2.heap.size p.2.A p.1.t.as from fun p hp => ((ha p hp).att).mono hb2.size)
  have hlen : ps.length ≤ 4097 := by have := HLEN.out; rw [← hm] at this; simpa using this
  have HGP := Lib.hid (show ∀ p ∈ ps, GoodT p.1.t from fun p hp => HGI.out p.1 (by rw [← hm]; exact List.mem_map_of_mem hp))
  have HDP := Lib.hid (show ∀ p ∈ ps, p.1.d ≤ 65 from fun p hp => HDEP.out p.1 (by rw [← hm]; exact List.mem_map_of_mem hp))
  clear hrow hm ha hb2 c0 c1 c2 c3 c4 C HLEN HDEP HGI
  go_wp2_with fail
  go_loopg [12] ps.length (fun g s12 wr => ∃ i : Nat, s12 = .int .i64 i ∧ i ≤ ps.length ∧ ps.length - i ≤ g ∧ RowKit.Hid (∀ j, (hj : j < (itemsL t).length) → j < i → nodeF aloneT ((itemsL t).take j) (itemsL t)[j] = 0) ∧ RowKit.Hid (Below w2.heap.size w2 wr))
  case atStart => exact ⟨0, rfl, by omega, by omega, Lib.hid (fun j hj h => by omega), Lib.hid (Below.refl _ _)⟩
  case round =>
    obtain ⟨i, rfl, hi, hg, HF, HB⟩ := hrel
    by_cases hlt : i < ps.length
    · have h1 : (i : Int) < (ps.length : Int) := by omega
      obtain ⟨gb, p, rfl, hgb, hp, hpc⟩ := irow_at (HROW.out.up HB.out) hlt
      have hpm : p ∈ ps := by rw [hp]; exact List.getElem_mem _
      have hmi : i < (itemsL t).length := by rw [← HM.out]; simpa using hlt
      have HPI := Lib.hid (show (itemsL t)[i] = p.1 by simp only [← HM.out]; rw [List.getElem_map, hp])
      have HTL := Lib.hid (show ((itemsL t).take i).length = i from take_len hmi)
      have FAIL := Lib.hid (show ∀ (f : Int) (W : World), nodeF aloneT ((itemsL t).take i) p.1 = f → f ≠ 0 → Below w2.heap.size w2 W → CPost w t (.returned (.tuple #[.int .i64 i, .int .i64 f])) W from fun f W hf h0 hW => ⟨i, f, rfl, .inl ⟨i, hmi, rfl, by rw [HPI.out]; exact hf.symm, h0, HF.out⟩, HB2.out.trans (hW.mono HB2.out.size)⟩)
      have PASS := Lib.hid (show nodeF aloneT ((itemsL t).take i) p.1 = 0 → ∀ j, (hj : j < (itemsL t).length) → j < i + 1 → nodeF aloneT ((itemsL t).take j) (itemsL t)[j] = 0 from fun h0 j hj hji => by
        rcases Nat.lt_or_ge j i with h2 | h2
        · exact HF.out j hj h2
        · have : j = i := by omega
          subst this
          rw [HPI.out]; exact h0)
      obtain ⟨⟨q0, q1, q2, q3, q4⟩, q5, q6⟩ := hpc
      have HPP := Lib.hid hp
      clear hp
      by_cases h96 : i = 4096
      · have HR := Lib.hid (FAIL.out 12 wr (nodeF_many (by rw [HTL.out]; exact h96)) (by decide) HB.out)
        have h96' : ((i : Int) == 4096) = true := by rw [h96]; rfl
        clear h96
        go_wp2_with fail
        go_ret2
        exact HR.out
      · have h96' : ((i : Int) == 4096) = false := by rw [beq_eq_false_iff_ne]; omega
        have HN96 := Lib.hid (show ¬ ((itemsL t).take i).length = 4096 by rw [HTL.out]; exact h96)
        clear h96
        by_cases hdp : 64 < p.1.d
        · have HR := Lib.hid (FAIL.out 11 wr (nodeF_deep HN96.out hdp) (by decide) HB.out)
          have hdp' : (p.1.d : Int) > 64 := by omega
          go_wp2_with fail
          go_ret2
          exact HR.out
        · have hdp' : ¬ (p.1.d : Int) > 64 := by omega
          have CA := Lib.hid (alone_any p.1.t p.2 wr ((HTA.out p hpm).up HB.out) (HGP.out p hpm))
          have HAL := Lib.hid (show ∀ f, f = aloneT p.1.t → f ≠ 0 → nodeF aloneT ((itemsL t).take i) p.1 = f from fun f hf h0 => by rw [nodeF_al HN96.out hdp (by rw [← hf]; exact h0), hf])
          have HTW := Lib.hid (show aloneT p.1.t = 0 → (0 ≤ p.1.up ∧ p.1.t.key ≠ noB ∧ hasKey ((itemsL t).take i) p.1.up p.1.t.key) → nodeF aloneT ((itemsL t).take i) p.1 = 10 from fun h0 hk => nodeF_twice HN96.out hdp h0 hk)
          have HNO := Lib.hid (show aloneT p.1.t = 0 → ¬ (0 ≤ p.1.up ∧ p.1.t.key ≠ noB ∧ hasKey ((itemsL t).take i) p.1.up p.1.t.key) → nodeF aloneT ((itemsL t).take i) p.1 = 0 from fun h0 hk => nodeF_ok HN96.out hdp h0 hk)
          obtain ⟨al, hal⟩ : ∃ al, al = aloneT p.1.t := ⟨_, rfl⟩
          rw [← hal] at CA
          have HALE := Lib.hid hal
          clear hal hdp
          go_wp2_with fail
          refine CA.out.mono ?_
          rintro e w3 ⟨rfl, hb3⟩
          have HB3 := Lib.hid (HB.out.trans (hb3.mono HB.out.size))
          clear hb3 CA HB q0 q1 q2 q3 q4 q5 q6
          by_cases haz : al = 0
          · subst haz
            go_wp2_with fail
            go_loopg [36] i (fun g s36 wr => ∃ k : Nat, s36 = .int .i64 k ∧ k ≤ i ∧ i - k ≤ g ∧ RowKit.Hid (NoHit ps p.1 k) ∧ RowKit.Hid (Below w2.heap.size w2 wr))
            case atStart => exact ⟨0, rfl, by omega, by omega, Lib.hid (fun j hj h => by omega), HB3⟩
            case round =>
              obtain ⟨k, rfl, hk, hg2, HNH, HBk⟩ := hrel
              by_cases hki : k < i
              · have h3 : (k : Int) < (i : Int) := by omega
                have h4 : (k : Int) < (ps.length : Int) := by omega
                obtain ⟨gb', p', hgg, -, hp', hpc'⟩ := irow_at (HROW.out.up HBk.out) hlt
                obtain ⟨gb'', y, hgg', -, hy, hyc⟩ := irow_at (HROW.out.up HBk.out) (show k < ps.length by omega)
                obtain rfl : gb = gb' := by simpa using hgg
                obtain rfl : gb = gb'' := by simpa using hgg'
                obtain rfl : p = p' := by rw [hp']; exact HPP.out
                have hyl : k < ps.length := by omega
                have HYK := Lib.hid hy
                obtain ⟨⟨q0, q1, q2, q3, q4⟩, q5, q6⟩ := hpc'
                obtain ⟨⟨y0, y1, y2, y3, y4⟩, y5, y6⟩ := hyc
                clear hgg hgg' hp' hy q0 q2 q3 q4 q5 y0 y2 y3 y4 y5
                by_cases t1 : 0 ≤ p.1.up
                · have t1' : decide (0 ≤ p.1.up) = true := decide_eq_true t1
                  by_cases t2 : y.1.up = p.1.up
                  · have t2' : (y.1.up == p.1.up) = true := by simpa using t2
                    by_cases t3 : p.1.t.key = noB
                    · have t3' : p.1.t.key.toList.isEmpty = true := isEmpty_noB.2 t3
                      have T3 := Lib.hid t3
                      clear t3
                      have HMS := Lib.hid (show ¬ (0 ≤ p.1.up ∧ ps[k].1.up = p.1.up ∧ p.1.t.key ≠ noB ∧ ps[k].1.t.key = p.1.t.key) from by rw [← HYK.out]; exact fun hh => hh.2.2.1 T3.out)
                      go_wp2_with fail
                      go_quiet (fail)
                      go_wp2_with fail
                      go_roundg (i - (k + 1))
                      case measure => omega
                      case rel => exact ⟨k + 1, by go_num, by omega, by omega, Lib.hid (HNH.out.step hyl HMS.out), Lib.hid (HBk.out.trans (below_drewN _ _ _))⟩
                    · have t3' : p.1.t.key.toList.isEmpty = false := by
                        cases hb : p.1.t.key.toList.isEmpty with
                        | true => exact absurd (isEmpty_noB.1 hb) t3
                        | false => rfl
                      by_cases t4 : y.1.t.key = p.1.t.key
                      · have t4' : (y.1.t.key.toList == p.1.t.key.toList) = true := by rw [eqB]; exact decide_eq_true t4
                        have HHIT := Lib.hid (HTW.out HALE.out.symm ⟨t1, t3, by rw [← HM.out]; exact hit_has hyl hki (by rw [← HYK.out]; exact t2) (by rw [← HYK.out]; exact t4)⟩)
                        clear t2 t3 t4
                        go_wp2_with fail
                        go_quiet (fail)
                        go_wp2_with fail
                        go_ret2
                        exact FAIL.out 10 _ HHIT.out (by decide) (HBk.out.trans (below_drewN _ _ _))
                      · have t4' : (y.1.t.key.toList == p.1.t.key.toList) = false := by rw [eqB]; exact decide_eq_false t4
                        have T4 := Lib.hid t4
                        clear t2 t3 t4
                        have HMS := Lib.hid (show ¬ (0 ≤ p.1.up ∧ ps[k].1.up = p.1.up ∧ p.1.t.key ≠ noB ∧ ps[k].1.t.key = p.1.t.key) from by rw [← HYK.out]; exact fun hh => T4.out hh.2.2.2)
                        go_wp2_with fail
                        go_quiet (fail)
                        go_wp2_with fail
                        go_roundg (i - (k + 1))
                        case measure => omega
                        case rel => exact ⟨k + 1, by go_num, by omega, by omega, Lib.hid (HNH.out.step hyl HMS.out), Lib.hid (HBk.out.trans (below_drewN _ _ _))⟩
                  · have t2' : (y.1.up == p.1.up) = false := by simpa using t2
                    have T2 := Lib.hid t2
                    clear t2
                    have HMS := Lib.hid (show ¬ (0 ≤ p.1.up ∧ ps[k].1.up = p.1.up ∧ p.1.t.key ≠ noB ∧ ps[k].1.t.key = p.1.t.key) from by rw [← HYK.out]; exact fun hh => T2.out hh.2.1)
                    go_wp2_with fail
                    go_quiet (fail)
                    go_wp2_with fail
                    go_roundg (i - (k + 1))
                    case measure => omega
                    case rel => exact ⟨k + 1, by go_num, by omega, by omega, Lib.hid (HNH.out.step hyl HMS.out), Lib.hid (HBk.out.trans (below_drewN _ _ _))⟩
                · have t1' : decide (0 ≤ p.1.up) = false := decide_eq_false t1
                  have T1 := Lib.hid t1
                  clear t1
                  have HMS := Lib.hid (show ¬ (0 ≤ p.1.up ∧ ps[k].1.up = p.1.up ∧ p.1.t.key ≠ noB ∧ ps[k].1.t.key = p.1.t.key) from by rw [← HYK.out]; exact fun hh => T1.out hh.1)
                  go_wp2_with fail
                  go_quiet (fail)
                  go_wp2_with fail
                  go_roundg (i - (k + 1))
                  case measure => omega
                  case rel => exact ⟨k + 1, by go_num, by omega, by omega, Lib.hid (HNH.out.step hyl HMS.out), Lib.hid (HBk.out.trans (below_drewN _ _ _))⟩
              · have h3 : ¬ (k : Int) < (i : Int) := by omega
                have HOK := Lib.hid (HNO.out HALE.out.symm (by rw [← HM.out]; exact NoHit.none (fun j hj hji => HNH.out j hj (by omega))))
                go_wp2_with fail
                go_roundg (ps.length - (i + 1))
                case measure => omega
                case rel => exact ⟨i + 1, by go_num, by omega, by omega, Lib.hid (PASS.out HOK.out), HBk⟩
          · have hz' : (al != 0) = true := by simpa using haz
            have HZ := Lib.hid haz
            clear haz
            go_wp2_with fail
            go_ret2
            exact FAIL.out al _ (HAL.out al HALE.out HZ.out) HZ.out HB3.out
    · have h1 : ¬ (i : Int) < (ps.length : Int) := by omega
      have hml : (itemsL t).length = ps.length := by rw [← HM.out]; simp
      have HML := Lib.hid hml
      clear hml
      go_wp2_with fail
      go_ret2
      exact ⟨0, 0, rfl, .inr ⟨rfl, rfl, fun j hj => HF.out j hj (by have := HML.out; omega)⟩, HB2.out.trans (HB.out.mono HB2.out.size)⟩
end Go.Proofs.Ytlkdklpglmglkaa
