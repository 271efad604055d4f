/-
  tendrillaw11.twin: a tree laid anew.
-/
import Derived.Test.YtlebcebihieiiaaBoxN
namespace Go.Proofs.Ytlebcebihieiiaa
open Go.RowKit Go.Sort Go.Lib
set_option linter.unusedVariables false
def TwinPost (t : Tr) (w : World) (e : Ending) (w' : World) : Prop := ∃ x', e = .returned (nodeV t x') ∧ TreeIn w' (NewIn w w') t x' ∧ Below w.heap.size w w'
theorem Kept.own {S : Nat → Prop} {w w' : World} (h : Kept S w w') {base : Nat} {e : TypeId} {size : Nat} {v : Value} {n : Nat} {xs : List Value} (ho : w.ownsRow base e size v n xs) (hs : ∀ k, v.ownBlock = some k → ¬ S k) : w'.ownsRow base e size v n xs := by
  refine ⟨ho.1, ?_⟩
  rcases ho.2 with hn | ⟨g, cap, cur, rfl, hg, hh, r⟩
  · exact .inl hn
  · exact .inr ⟨g, cap, cur, rfl, hg, (h.block g (Array.getElem?_eq_some_iff.1 hh).1 (hs g rfl)).trans hh, r⟩
theorem twin_app {rb : Nat} (w6 : World) (kd : Tr) (x6 : NV) (Av : Option Addr) (k cv : Nat) (ps : List KV) (hown : w6.ownsRow rb 25 5 (.slice Av k cv) ps.length (nds ps)) (hpl : ps.length = k) (hk : k ≤ 1000000) (hrb : rb ≤ w6.heap.size) :
    ∃ A7 c7 w7, (Builtin.append_ #[23, 23] 23 #[.slice Av k cv, .slice (some ⟨w6.heap.size, 0, none⟩) 1 1]).run Try.prog (w6.alloc (.cells #[.string kd.tag, .string kd.key, .string kd.text, .slice x6.A kd.as.length x6.ca, .slice x6.K kd.kids.length x6.ck] 25)) = .ok (.slice A7 (k + 1) c7) w7 ∧
      w7.ownsRow rb 25 5 (.slice A7 (k + 1) c7) (ps ++ [(kd, x6)]).length (nds (ps ++ [(kd, x6)])) ∧ Kept (OwnB (.slice Av k cv)) w6 w7 ∧ Fresh w6 (.slice Av k cv) (.slice A7 (k + 1) c7) := by
  obtain ⟨i0, hi, hz0, hz1, hz2⟩ := info_parts Try.info25
  have hown' : (w6.alloc (.cells #[.string kd.tag, .string kd.key, .string kd.text, .slice x6.A kd.as.length x6.ca, .slice x6.K kd.kids.length x6.ck] 25)).ownsRow rb 25 5 (.slice Av k cv) k (nds ps) := by
    have := hown.alloc (.cells #[.string kd.tag, .string kd.key, .string kd.text, .slice x6.A kd.as.length x6.ca, .slice x6.K kd.kids.length x6.ck] 25)
    rw [hpl] at this
    exact this
  obtain ⟨v7, w7, hrun, ho, hgr, _, hloc⟩ := run_append_own_at (P := Try.prog) (w6.alloc (.cells #[.string kd.tag, .string kd.key, .string kd.text, .slice x6.A kd.as.length x6.ca, .slice x6.K kd.kids.length x6.ck] 25)) rb 23 23 25 i0 _ 5 96 Try.underlying23 hi hz0 hz1 hz2 rfl (by omega) (.slice Av k cv) k (nds ps) hown' ⟨w6.heap.size, 0, none⟩ 1 1 (nodeCells kd x6) (by simp [nodeCells]) (arr_new _ _ _ _ rfl) (nodeCells_one kd x6) (by unfold maxLen; omega) (by omega) (by simp; omega)
  obtain ⟨A7, c7, rfl⟩ := row_form ho
  refine ⟨A7, c7, w7, hrun, ?_, (kept_alloc w6 _ _).trans ((kept_grown hgr).mono (fun b _ hb => hb.symm)), fun j hj hb => ?_⟩
  · rw [nds_append]
    simpa [nds, hpl] using ho
  · rcases hloc with hl | hl
    · rw [← hl]; exact hb
    · rw [hl] at hb
      simp at hb
      omega
/-- A tree from its two rows. -/
theorem tree_of_rows {w : World} {P : Nat → Prop} {rb : Nat} (t : Tr) (ps : List KV) {A' Av : Option Addr} {ca' cv : Nat} (how : w.ownsRow rb 25 5 (.slice Av t.kids.length cv) ps.length (nds ps)) (hpl : ps.length = t.kids.length) (hpm : ps.map Prod.fst = t.kids) (hti : ∀ p ∈ ps, TreeIn w P p.1 p.2)
    (hatt : TRowP w P A' t.as) (hA1 : t.as.length ≤ ca') (hA2 : ca' ≤ maxLen) (hA3 : A' = none → ca' = 0) (hown : ∀ b, OwnB (.slice Av t.kids.length cv) b → P b) : TreeIn w P t ⟨A', ca', Av, cv⟩ := by
  have hkid : ∀ j, (h : j < t.kids.length) → ∃ h' : j < ps.length, t.kids[j] = ps[j].1 := fun j h => ⟨by omega, by simp only [← hpm]; rw [List.getElem_map]⟩
  have hcap : t.kids.length ≤ cv ∧ cv ≤ maxLen ∧ (Av = none → cv = 0) := by
    rcases how.2 with ⟨he, hn⟩ | ⟨g, c, cur, he, _, _, h1, h2, _⟩
    · simp at he
      obtain ⟨h1, h2, h3⟩ := he
      exact ⟨by omega, by rw [h3]; simp [maxLen], fun _ => h3⟩
    · simp at he
      obtain ⟨h3, h4, h5⟩ := he
      rw [hpl] at h1
      exact ⟨by omega, by omega, fun h => by rw [h3] at h; cases h⟩
  refine .mk (fun j => (ps.getD j (t, ⟨none, 0, none, 0⟩)).2) hatt hA1 hA2 hA3 hcap.1 hcap.2.1 hcap.2.2 (fun h0 => ?_) (fun j hj => ?_)
  · rcases how.2 with ⟨he, hn⟩ | ⟨g, c, cur, he, hr⟩
    · omega
    · simp at he
      obtain ⟨rfl, h4, rfl⟩ := he
      refine ⟨g, 0, rfl, hown g rfl, fun j hj => ?_⟩
      obtain ⟨h', e⟩ := hkid j hj
      have e2 : (ps.getD j (t, ⟨none, 0, none, 0⟩)).2 = ps[j].2 := by simp [List.getD_eq_getElem?_getD, h']
      rw [e, e2]
      exact own_kid how h'
  · obtain ⟨h', e⟩ := hkid j hj
    have e2 : (ps.getD j (t, ⟨none, 0, none, 0⟩)).2 = ps[j].2 := by simp [List.getD_eq_getElem?_getD, h']
    rw [e, e2]
    exact hti _ (List.getElem_mem _)
/-- What is new, above the three boxes, and not in the row that is still written. -/
def NewOut (n3 : Nat) (v : Value) (w' : World) : Nat → Prop := fun b => n3 ≤ b ∧ b < w'.heap.size ∧ ¬ OwnB v b
theorem NewOut.step {n3 : Nat} {v v' : Value} {w w' : World} (hf : Fresh w v v') (hs : w.heap.size ≤ w'.heap.size) {b : Nat} (h : NewOut n3 v w b) : NewOut n3 v' w' b := ⟨h.1, Nat.lt_of_lt_of_le h.2.1 hs, fun hb => h.2.2 (hf b h.2.1 hb)⟩
set_option maxHeartbeats 8000000 in
set_option maxRecDepth 100000 in
theorem twin_any : ∀ t : Tr, ∀ (x : NV) (w : World), TreeAt w w.heap.size t x → GoodT t → Calls Try.prog 18 #[nodeV t x] w (TwinPost t w) := by
  refine tr_ind (fun t ih => ?_)
  intro x w htree hgood
  obtain ⟨s1, s2, s3, s4, s5, s6⟩ := hgood.sizes
  obtain ⟨q1, q2, q3, q4, q5, q6⟩ := htree.caps
  obtain ⟨i0, hi, hz0, hz1, hz2⟩ := info_parts Try.info25
  obtain ⟨w3, hw3⟩ : ∃ w3, w3 = triW w t x := ⟨_, rfl⟩
  obtain ⟨bx1, bx2, bx3, hsz3⟩ := triW_boxes w t x
  have hb3 : Below w.heap.size w w3 := by rw [hw3]; exact triW_below w t x
  rw [← hw3] at bx1 bx2 bx3 hsz3
  have ht3 := htree.up hb3
  obtain ⟨vA, w4, hrun, ⟨A', ca', hvA, hrA, hA1, hA2, hA3⟩, hb4⟩ := att_copy w3.drew 22 x.A x.ca t.as (show TRow w3.drew w3.drew.heap.size x.A t.as from ht3.att) s4 q3
  have hb34 : Below w3.heap.size w3 w4 := (below_drewN _ w3 1).trans hb4
  have nf : ¬ (False : Prop) := fun h => h
  have by1 := bx1.kept (kept_below hb34 (fun _ => False)) nf
  have by2 := bx2.kept (kept_below hb34 (fun _ => False)) nf
  have by3 := bx3.kept (kept_below hb34 (fun _ => False)) nf
  have HIH := Lib.hid ih; have HT := Lib.hid htree; have HG := Lib.hid hgood; have HW3 := Lib.hid hw3; have HB3 := Lib.hid hb3; have HRUN := Lib.hid hrun; have HB34 := Lib.hid hb34
  obtain ⟨c0, c1, c2, c3, c4⟩ := bx1.cells
  obtain ⟨d0, d1, d2, d3, d4⟩ := by3.cells
  have z3 := by3.frozen 3
  clear ih htree hgood hw3 hb3 hrun hb4 hb34
  subst hvA
  go_enter Try.func18, Try.ntmps18
  go_wp2_with fail
  rw [tri_out HW3]
  go_region_law (refine step_append_run rfl (.tmp 8) (.tmp 10) 22 rfl (.slice x.A 0 0) (.slice x.A t.as.length x.ca) (by simp [Act.eval, Act.put]) (by simp [Act.eval, Act.put]) HRUN.out ?_)
  all_goals
    obtain ⟨w5, hw5⟩ : ∃ w5, w5 = (w4.setCell ⟨w.heap.size + 1 + 1, 3, none⟩ (.slice A' t.as.length ca')).setCell ⟨w.heap.size + 1 + 1, 4, none⟩ (.slice none 0 0) := ⟨_, rfl⟩
    have hk45 : Kept (· = w.heap.size + 1 + 1) w4 w5 := by rw [hw5]; exact (kept_setCell _ ⟨w.heap.size + 1 + 1, 3, none⟩ _).trans (kept_setCell _ ⟨w.heap.size + 1 + 1, 4, none⟩ _)
    have bz3 : BoxN w5 (w.heap.size + 1 + 1) (.string t.tag) (.string t.key) (.string t.text) (.slice A' t.as.length ca') (.slice none 0 0) := by rw [hw5]; exact (by3.set3 _).set4 _
    have bz1 := by1.kept hk45 (by omega)
    have bz2 := by2.kept hk45 (by omega)
    have hs34 : w3.heap.size ≤ w4.heap.size := HB34.out.size
    have hs45 := hk45.size
    have HATT := Lib.hid (show TRowP w5 (NewOut w3.heap.size (.slice none 0 0) w5) A' t.as from hrA.kept hk45 (fun b hb => by have h1 : w3.heap.size ≤ b := hb.1; omega) (fun b hb => ⟨hb.1, Nat.lt_of_lt_of_le hb.2 hs45, fun h => by cases h⟩))
    have HB5 := Lib.hid (show Below w.heap.size w w5 from (HB3.out.trans (HB34.out.mono HB3.out.size)).trans (hk45.below (Nat.le_trans HB3.out.size hs34) (fun k h => by omega)))
    have HW5 := Lib.hid hw5; have HBZ1 := Lib.hid bz1; have HBZ2 := Lib.hid bz2; have HBZ3 := Lib.hid bz3
    have z4 := by3.frozen 4
    have e4 : (w4.setCell ⟨w.heap.size + 1 + 1, 3, none⟩ (.slice A' t.as.length ca')).cell? ⟨w.heap.size + 1 + 1, 4, none⟩ = some (.slice x.K t.kids.length x.ck) := (by3.set3 _).cells.2.2.2.2
    obtain ⟨g0, g1, g2, g3, g4⟩ := bz1.cells
    rw [hw5] at g4
    clear hw5 hk45 bz1 bz2 bz3 g0 g1 g2 g3 c0 c1 c2 c3 hrA
    go_wp2_with fail
    rw [show (w4.setCell ⟨w.heap.size + 1 + 1, 3, none⟩ (.slice A' t.as.length ca')).setCell ⟨w.heap.size + 1 + 1, 4, none⟩ (.slice none 0 0) = w5 from HW5.out.symm]
    clear g4 z3 z4 e4 d0 d1 d2 d3 d4 c4
    go_loopg [17] t.kids.length (fun g s17 wr => ∃ (k : Nat) (Av : Option Addr) (cv : Nat) (ps : List KV), s17 = .int .i64 k ∧ k ≤ t.kids.length ∧ t.kids.length - k ≤ g ∧ ps.length = k ∧ RowKit.Hid (ps.map Prod.fst = t.kids.take k) ∧ RowKit.Hid (wr.ownsRow w5.heap.size 25 5 (.slice Av k cv) ps.length (nds ps)) ∧ RowKit.Hid (∀ p ∈ ps, TreeIn wr (NewOut w3.heap.size (.slice Av k cv) wr) p.1 p.2) ∧ RowKit.Hid (TRowP wr (NewOut w3.heap.size (.slice Av k cv) wr) A' t.as) ∧ RowKit.Hid (BoxN wr w.heap.size (.string t.tag) (.string t.key) (.string t.text) (.slice x.A t.as.length x.ca) (.slice x.K t.kids.length x.ck)) ∧ RowKit.Hid (BoxN wr (w.heap.size + 1) (.string ⟨#[]⟩) (.string ⟨#[]⟩) (.string ⟨#[]⟩) (.slice none 0 0) (.slice none 0 0)) ∧ RowKit.Hid (BoxN wr (w.heap.size + 1 + 1) (.string t.tag) (.string t.key) (.string t.text) (.slice A' t.as.length ca') (.slice Av k cv)) ∧ RowKit.Hid (Below w.heap.size w wr ∧ w5.heap.size ≤ wr.heap.size))
    case atStart => exact ⟨0, none, 0, [], rfl, by omega, by omega, rfl, Lib.hid rfl, Lib.hid (World.ownsRow_nil _ _ _ _), Lib.hid (fun p hp => by simp at hp), HATT, HBZ1, HBZ2, HBZ3, Lib.hid ⟨HB5.out, Nat.le_refl _⟩⟩
    case round =>
      obtain ⟨k, Av, cv, ps, rfl, hk, hg, hpl, HPM, HOW, HTI, HAT, HX1, HX2, HX3, HBS⟩ := hrel
      have hsz5 : w3.heap.size ≤ w5.heap.size := Nat.le_trans hs34 hs45
      have HOLT := Lib.hid (show ∀ b, OwnB (.slice Av k cv) b → w5.heap.size ≤ b ∧ b < wr.heap.size from fun b hb => HOW.out.lt b hb)
      by_cases hlt : k < t.kids.length
      · have h1 : (k : Int) < (t.kids.length : Int) := by omega
        obtain ⟨bb, off, kd, y, hK, hbb, hkd, hkc, hkt⟩ := (HT.out.keepB HBS.out.1).kid hlt
        obtain ⟨r0, r1, r2, r3, r4⟩ := hkc
        have C := Lib.hid (HIH.out kd (by rw [hkd]; exact List.getElem_mem _) y wr.drew ((hkt.mono HBS.out.1.size).keepB (below_drewN _ wr 1)) (HG.out.kid hlt hkd))
        have HKD := Lib.hid hkd
        obtain ⟨g0, g1, g2, g3, g4⟩ := HX1.out.cells
        obtain ⟨f0, f1, f2, f3, f4⟩ := HX3.out.cells
        clear hkd hkt g0 g1 g2 g3 f0 f1 f2 f3
        go_wp2_with fail
        go_region_law ((first
          | (refine step_append_run rfl (.tmp 21) (.tmp 28) 23 rfl (.slice Av k cv) (.slice (some ⟨w6.heap.size, 0, none⟩) 1 1) (by simp [Act.eval]) (by simp [Act.eval]) hr7.out ?_)
          | (go_simp; go_at_call 18; refine C.out.mono ?_; rintro e w6 ⟨x6, rfl, hin6, hb6⟩; have hb6' := Lib.hid ((below_drewN _ wr 1).trans hb6); have hx6 := HX3.out.kept (kept_below hb6'.out (fun _ => False)) nf; obtain ⟨A7, c7, w7, hr7', ho7', hk7', hf7'⟩ := twin_app w6 kd x6 Av k cv ps ((kept_below hb6'.out (fun _ => False)).own HOW.out (fun _ _ => nf)) hpl (by omega) (Nat.le_trans HBS.out.2 hb6'.out.size); have hr7 := Lib.hid hr7'; have ho7 := Lib.hid ho7'; have hk7 := Lib.hid hk7'; have hf7 := Lib.hid hf7'; have hin := Lib.hid hin6; have hx7 := Lib.hid (hx6.kept hk7' (fun h => by have := HOLT.out _ h; omega)); have f6 := hx6.cells.2.2.2.2; have f6a : (w6.alloc (.cells #[.string kd.tag, .string kd.key, .string kd.text, .slice x6.A kd.as.length x6.ca, .slice x6.K kd.kids.length x6.ck] 25)).cell? ⟨w.heap.size + 1 + 1, 4, none⟩ = some (.slice Av k cv) := cell_push f6; have f7 := hx7.out.cells.2.2.2.2; have z7 := hx7.out.frozen 4; clear hr7' ho7' hk7' hf7' hin6 hb6 hx6)))
        all_goals
          have HK8 := Lib.hid (kept_setCell w7 ⟨w.heap.size + 1 + 1, 4, none⟩ (.slice A7 (k + 1) c7))
          have HX8 := Lib.hid (hx7.out.set4 (.slice A7 (k + 1) c7))
          clear f6 f6a f7 z7 C r0 r1 r2 r3 r4 g4 f4
          generalize w7.setCell ⟨w.heap.size + 1 + 1, 4, none⟩ (.slice A7 (k + 1) c7) = w8 at HK8 HX8 ⊢
          have HKA := Lib.hid (show Kept (fun b => OwnB (.slice Av k cv) b ∨ b = w.heap.size + 1 + 1) w6 w8 from (hk7.out.mono (fun _ _ h => .inl h)).trans (HK8.out.mono (fun _ _ h => .inr h)))
          have HKB := Lib.hid (show Kept (fun b => OwnB (.slice Av k cv) b ∨ b = w.heap.size + 1 + 1) wr w8 from (kept_below hb6'.out _).trans HKA.out)
          have HFR := Lib.hid (show Fresh wr (.slice Av k cv) (.slice A7 (k + 1) c7) from fun b hb h => hf7.out b (Nat.lt_of_lt_of_le hb hb6'.out.size) h)
          have hs8 : wr.heap.size ≤ w8.heap.size := HKB.out.size
          have HAT8 := Lib.hid (HAT.out.kept HKB.out (fun b hb h => h.elim hb.2.2 (fun e => by have := hb.1; omega)) (fun b hb => NewOut.step HFR.out hs8 hb))
          have HTI8 := Lib.hid (show ∀ p ∈ ps ++ [(kd, x6)], TreeIn w8 (NewOut w3.heap.size (.slice A7 (k + 1) c7) w8) p.1 p.2 from fun p hp => by
            rcases List.mem_append.1 hp with hp | hp
            · exact (HTI.out p hp).kept HKB.out (fun b hb h => h.elim hb.2.2 (fun e => by have := hb.1; omega)) (fun b hb => NewOut.step HFR.out hs8 hb)
            · simp at hp
              subst hp
              have hw5r := HBS.out.2
              refine hin.out.kept HKA.out (fun b hb h => ?_) (fun b hb => ⟨?_, Nat.lt_of_lt_of_le hb.2 HKA.out.size, fun h => ?_⟩)
              · have h2 : wr.heap.size ≤ b := hb.1
                rcases h with h | h
                · have := HOLT.out b h; omega
                · omega
              · have h2 : wr.heap.size ≤ b := hb.1
                omega
              · have h2 : wr.heap.size ≤ b := hb.1
                have := HOLT.out b (hf7.out b hb.2 h)
                omega)
          have HOW8 := Lib.hid (HK8.out.own ho7.out (fun b hb h => by have := (ho7.out.lt b hb).1; have h' : b = w.heap.size + 1 + 1 := h; omega))
          have HX18 := Lib.hid (HX1.out.kept HKB.out (fun h => h.elim (fun h => by have := HOLT.out _ h; omega) (fun h => by omega)))
          have HX28 := Lib.hid (HX2.out.kept HKB.out (fun h => h.elim (fun h => by have := HOLT.out _ h; omega) (fun h => by omega)))
          have HB8 := Lib.hid (And.intro (HBS.out.1.trans (HKB.out.below HBS.out.1.size (fun b h => h.elim (fun h => by have := HOLT.out _ h; omega) (fun h => by omega)))) (Nat.le_trans HBS.out.2 hs8))
          have HPM8 := Lib.hid (show (ps ++ [(kd, x6)]).map Prod.fst = t.kids.take (k + 1) by
            have e : t.kids.take (k + 1) = t.kids.take k ++ [t.kids[k]] := by simp
            rw [e, List.map_append, HPM.out, ← HKD.out]; rfl)
          go_wp2_with fail
          try rw [← hK]
          go_roundg (t.kids.length - (k + 1))
          case measure => omega
          case rel => exact ⟨k + 1, A7, c7, ps ++ [(kd, x6)], by go_num, by omega, by omega, by simp [hpl], HPM8, HOW8, HTI8, HAT8, HX18, HX28, HX8, HB8⟩
      · obtain rfl : k = t.kids.length := by omega
        have h1 : ¬ (t.kids.length : Int) < (t.kids.length : Int) := by omega
        obtain ⟨f0, f1, f2, f3, f4⟩ := HX3.out.cells
        obtain ⟨g0, g1, g2, g3, g4⟩ := HX2.out.cells
        have z0 := HX2.out.frozen 0
        have z1 := HX2.out.frozen 1
        have z2 := HX2.out.frozen 2
        have z3 := HX2.out.frozen 3
        have z4 := HX2.out.frozen 4
        obtain ⟨wE, hwE⟩ : ∃ wE, wE = putN wr (w.heap.size + 1) (.string t.tag) (.string t.key) (.string t.text) (.slice A' t.as.length ca') (.slice Av t.kids.length cv) := ⟨_, rfl⟩
        have hkE : Kept (· = w.heap.size + 1) wr wE := by rw [hwE]; exact kept_putN _ _ _ _ _ _ _
        have bE : BoxN wE (w.heap.size + 1) (.string t.tag) (.string t.key) (.string t.text) (.slice A' t.as.length ca') (.slice Av t.kids.length cv) := by rw [hwE]; exact HX2.out.put _ _ _ _ _
        have HWE := Lib.hid hwE; have HKE := Lib.hid hkE; have HBE := Lib.hid bE
        clear hwE hkE bE
        go_wp2_with fail
        rw [show ((((wr.setCell ⟨w.heap.size + 1, 0, none⟩ (.string t.tag)).setCell ⟨w.heap.size + 1, 1, none⟩ (.string t.key)).setCell ⟨w.heap.size + 1, 2, none⟩ (.string t.text)).setCell ⟨w.heap.size + 1, 3, none⟩ (.slice A' t.as.length ca')).setCell ⟨w.heap.size + 1, 4, none⟩ (.slice Av t.kids.length cv) = wE from HWE.out.symm]
        refine bodyPost_ret (results_tree18 _ _ (w.heap.size + 1) _ _ _ _ _ rfl HBE.out) rfl ?_
        have hsE : wr.heap.size ≤ wE.heap.size := HKE.out.size
        have how : wE.ownsRow w5.heap.size 25 5 (.slice Av t.kids.length cv) ps.length (nds ps) := HKE.out.own HOW.out (fun b hb h => by have := HOLT.out b hb; have h' : b = w.heap.size + 1 := h; omega)
        have hti : ∀ p ∈ ps, TreeIn wE (NewIn w wE) p.1 p.2 := fun p hp => (HTI.out p hp).kept HKE.out (fun b hb h => by have := hb.1; have h' : b = w.heap.size + 1 := h; omega) (fun b hb => ⟨by have := hb.1; omega, Nat.lt_of_lt_of_le hb.2.1 hsE⟩)
        refine ⟨⟨A', ca', Av, cv⟩, rfl, ?_, HBS.out.1.trans (HKE.out.below HBS.out.1.size (fun b h => by omega))⟩
        exact tree_of_rows t ps how hpl (by rw [HPM.out, List.take_of_length_le (Nat.le_refl _)]) hti (HAT.out.kept HKE.out (fun b hb h => by have := hb.1; have h' : b = w.heap.size + 1 := h; omega) (fun b hb => ⟨by have := hb.1; omega, Nat.lt_of_lt_of_le hb.2.1 hsE⟩)) hA1 hA2 hA3 (fun b hb => ⟨by have := HOLT.out b hb; omega, by have := HOLT.out b hb; omega⟩)
end Go.Proofs.Ytlebcebihieiiaa
