/-
  attrs.With: the list with a value for a name.
-/
import Derived.Test.YteamnjaepgfcmaaConcat
import Derived.Test.YteamnjaepgfcmaaNorm
import Derived.BigRegion
namespace Go.Proofs.Yteamnjaepgfcmaa
open Go.RowKit Go.Sort Go.Lib
set_option linter.unusedVariables false
theorem with_hit {l : List At} {n v : ByteArray} {k : Nat} (hk : k < l.length) (h1 : l[k].1 = n) (h2 : ∀ j, (hj : j < l.length) → j < k → ¬ l[j].1 = n) : withL l n v = l.set k (n, v) := by
  unfold withL
  rw [if_pos (hasL_iff.2 ⟨l[k], List.getElem_mem _, h1⟩)]
  exact replL_set n v l k hk h1 h2
theorem with_miss {l : List At} {n v : ByteArray} {t : Nat} (h : ∀ x ∈ l, ¬ x.1 = n) (hp : PlaceAt l n t) : withL l n v = l.take t ++ (n, v) :: l.drop t := by
  unfold withL
  rw [hasL_not.2 h, if_neg (by simp)]
  exact insL_take n v l t hp.1 hp.2.1 hp.2.2
theorem box_at (w : World) (n v : ByteArray) : (w.alloc (.cells #[.string n, .string v] 56)).cell? ⟨w.heap.size, 0, none⟩ = some (.string n) ∧ (w.alloc (.cells #[.string n, .string v] 56)).cell? ⟨w.heap.size, 1, none⟩ = some (.string v) := box_cells w (n, v)
/-- The three slices that are joined. -/
def joinW (w3 : World) (n v : ByteArray) (A : Option Addr) (t c : Nat) (A3 : Option Addr) (m c3 : Nat) : World := (w3.drew.alloc (.cells #[.string n, .string v] 56)).alloc (.cells #[.slice A t c, .slice (some ⟨w3.heap.size, 0, none⟩) 1 1, .slice A3 m c3] 22)
theorem joined (w3 : World) (n v : ByteArray) (A : Option Addr) (c t : Nat) (l : List At) (hr : TRow w3 w3.heap.size A l) (hc0 : A = none → c = 0) (ht : t ≤ l.length) (hl : l.length ≤ 100000) (A3 : Option Addr) (c3 : Nat) (h3 : TRow w3 w3.heap.size A3 (l.drop t)) (hc3 : A3 = none → c3 = 0) :
    Calls Try.prog 39 #[.slice (some ⟨w3.heap.size + 1, 0, none⟩) 3 3] (joinW w3 n v A t c A3 (l.length - t) c3) fun e w' => MadeA w3 (l.take t ++ (n, v) :: l.drop t) e w' := by
  have hb1 : Below w3.heap.size w3 (w3.drew.alloc (.cells #[.string n, .string v] 56)) := (Below.refl _ w3).drew.alloc (Nat.le_refl _) _
  have hs1 : (w3.drew.alloc (.cells #[.string n, .string v] 56)).heap.size = w3.heap.size + 1 := by show _ = w3.drew.heap.size + 1; simp
  have hb2 : Below w3.heap.size w3 (joinW w3 n v A t c A3 (l.length - t) c3) := hb1.alloc (by rw [hs1]; omega) _
  have hbx : Below (w3.drew.alloc (.cells #[.string n, .string v] 56)).heap.size (w3.drew.alloc (.cells #[.string n, .string v] 56)) (joinW w3 n v A t c A3 (l.length - t) c3) := (Below.refl _ _).alloc (Nat.le_refl _) _
  have hnew : ∀ j u, (#[Value.slice A t c, .slice (some ⟨w3.heap.size, 0, none⟩) 1 1, .slice A3 (l.length - t) c3] : Array Value)[0 + j]? = some u → (joinW w3 n v A t c A3 (l.length - t) c3).cell? ⟨w3.heap.size + 1, 0 + j, none⟩ = some u := by
    intro j u hj
    have e1 : (joinW w3 n v A t c A3 (l.length - t) c3).cell? ⟨(w3.drew.alloc (.cells #[.string n, .string v] 56)).heap.size, 0 + j, none⟩ = _ := cell_of_row _ _ _ _ _ (0, 0) (heap_alloc_new _ _)
    rw [hs1] at e1
    rw [e1, hj]
  have hcc := concat_any (w3.heap.size + 1) 3 [⟨A, c, l.take t⟩, ⟨some ⟨w3.heap.size, 0, none⟩, 1, [(n, v)]⟩, ⟨A3, c3, l.drop t⟩] (joinW w3 n v A t c A3 (l.length - t) c3) ⟨?_, ?_, ?_⟩ (by simp) ?_ ?_
  · have e : flatP [⟨A, c, l.take t⟩, ⟨some ⟨w3.heap.size, 0, none⟩, 1, [(n, v)]⟩, ⟨A3, c3, l.drop t⟩] = l.take t ++ (n, v) :: l.drop t := by simp [flatP]
    rw [e] at hcc
    refine hcc.mono ?_
    rintro e' w' ⟨u, rfl, ho, hb⟩
    refine ⟨u, rfl, ?_, hb2.trans (hb.mono hb2.size)⟩
    refine ⟨ho.1, ?_⟩
    rcases ho.2 with q | ⟨g, cap, cur, q1, q2, q3⟩
    · exact .inl q
    · exact .inr ⟨g, cap, cur, q1, Nat.le_trans hb2.size q2, q3⟩
  · intro j hj
    match j, hj with
    | 0, _ => have := hnew 0 _ rfl; simpa [Part.v, Nat.min_eq_left ht] using this
    | 1, _ => have := hnew 1 _ rfl; simpa [Part.v] using this
    | 2, _ => have := hnew 2 _ rfl; simpa [Part.v] using this
  · intro p hp
    simp at hp
    rcases hp with rfl | rfl | rfl
    · exact (trow_take hr t).up hb2
    · intro _
      obtain ⟨q1, q2⟩ := box_at w3.drew n v
      have hz : w3.drew.heap.size < (w3.drew.alloc (.cells #[.string n, .string v] 56)).heap.size := by simp
      refine ⟨w3.heap.size, 0, rfl, Nat.lt_of_lt_of_le hz hbx.size, fun j hj => ?_⟩
      have hj0 : j = 0 := by simp at hj; exact hj
      subst hj0
      exact ⟨(hbx.cell (p := ⟨w3.drew.heap.size, 0, none⟩) hz).trans q1, (hbx.cell (p := ⟨w3.drew.heap.size, 1, none⟩) hz).trans q2⟩
    · exact h3.up hb2
  · intro p hp
    simp at hp
    rcases hp with rfl | rfl | rfl
    · exact hc0
    · intro h; cases h
    · exact hc3
  · simp [flatP]; omega
  · simp [flatP]; omega
set_option maxHeartbeats 4000000 in
set_option maxRecDepth 100000 in
theorem with_any (A : Option Addr) (c : Nat) (l : List At) (n v : ByteArray) (w : World) (h : TRow w w.heap.size A l) (hl : l.length ≤ 100000) (hc : l.length ≤ c) (hcm : c ≤ maxLen) (hc0 : A = none → c = 0) :
    Calls Try.prog 16 #[.slice A l.length c, .string n, .string v] w (MadeN w (withL l n v)) := by
  obtain ⟨w1, hw1⟩ : ∃ w1, w1 = w.alloc (.cells #[.string n, .string v] 56) := ⟨_, rfl⟩
  have hb1 : Below w.heap.size w w1 := by rw [hw1]; exact (Below.refl _ _).alloc (Nat.le_refl _) _
  have hs1 : w.heap.size < w1.heap.size := by rw [hw1]; simp
  obtain ⟨d1, d2⟩ := box_at w n v
  rw [← hw1] at d1 d2
  have HR1 := Lib.hid (h.up hb1)
  have HC := Lib.hid (indexOf_any A c l n w1 HR1.out (by omega))
  have HW := Lib.hid hw1; have HB1 := Lib.hid hb1
  clear hw1 h hb1
  unfold maxLen at hcm
  go_enter Try.func16, Try.ntmps16
  go_wp2_with fail
  rw [show w.alloc (.cells #[.string n, .string v] 56) = w1 from HW.out.symm]
  refine HC.out.mono ?_
  rintro e w2 ⟨r, rfl, hr, hb2⟩
  have HB2 := Lib.hid (HB1.out.trans (hb2.mono HB1.out.size))
  have HR2 := Lib.hid (HR1.out.up hb2)
  have e1 : w2.cell? ⟨w.heap.size, 0, none⟩ = some (.string n) := (hb2.cell (p := ⟨w.heap.size, 0, none⟩) hs1).trans d1
  have e2 : w2.cell? ⟨w.heap.size, 1, none⟩ = some (.string v) := (hb2.cell (p := ⟨w.heap.size, 1, none⟩) hs1).trans d2
  have hs2 : w.heap.size < w2.heap.size := Nat.lt_of_lt_of_le hs1 hb2.size
  clear hb2 d1 d2 HC
  rcases hr with ⟨k, hk, rfl, h1, h2⟩ | ⟨rfl, h1⟩
  · have HE := Lib.hid (with_hit (v := v) hk h1 h2)
    clear h1 h2
    have h3 : (k : Int) ≥ 0 := by omega
    have hkz : (k : Int) < (l.length : Int) := by omega
    have HCl := Lib.hid (clone_own A c l w2 HR2.out (by omega) hc0)
    go_wp2_with fail
    refine HCl.out.mono ?_
    rintro e w3 ⟨v3, rfl, hown, hb3⟩
    obtain ⟨A', c', rfl, hO, k1, k2, k3⟩ := own_of hown
    obtain ⟨g, rfl, hg, R⟩ := hO (fun h0 => by subst h0; simp at hk)
    have HB3 := Lib.hid (HB2.out.trans (hb3.mono HB2.out.size))
    have f1 : w3.cell? ⟨w.heap.size, 0, none⟩ = some (.string n) := (hb3.cell (p := ⟨w.heap.size, 0, none⟩) hs2).trans e1
    have f2 : w3.cell? ⟨w.heap.size, 1, none⟩ = some (.string v) := (hb3.cell (p := ⟨w.heap.size, 1, none⟩) hs2).trans e2
    have S0 : SW w3 g 0 l.toArray w3 := SWK.start R.hH
    have hka : k < l.toArray.size := by simpa using hk
    have S1 := Lib.hid (SW.set S0 R.hblk k (n, v) hka)
    obtain ⟨⟨g1, g2⟩, f3, f4⟩ := SW.cells S0 R rfl k hka
    rw [Nat.zero_add] at g1 g2 f3 f4
    have HRR := Lib.hid R
    clear S0 R hown hb3 hO HCl e1 e2
    go_wp2_with fail
    have S2 := Lib.hid (show SW w3 g 0 (l.toArray.setIfInBounds k (n, v)) ((w3.setCell ⟨g, k * 2, none⟩ (.string n)).setCell ⟨g, k * 2 + 1, none⟩ (.string v)) by have := S1.out; rwa [Nat.zero_add] at this)
    clear S1 g1 g2 f1 f2 f3 f4
    generalize (w3.setCell ⟨g, k * 2, none⟩ (.string n)).setCell ⟨g, k * 2 + 1, none⟩ (.string v) = w4 at S2 ⊢
    go_ret
    refine ⟨some ⟨g, 0, none⟩, c', ?_, ?_, ?_, k2, (fun h => by cases h), ?_⟩
    · rw [HE.out]; simp
    · have := SW.trow S2.out HRR.out (by simp)
      rw [HE.out]; simpa using this
    · rw [HE.out]; simpa using k1
    · exact HB3.out.trans (SW.below S2.out (Nat.le_trans (Nat.le_of_lt hs2) hg) HB3.out.size)
  · have HM := Lib.hid h1
    clear h1
    have HP := Lib.hid (placeOf_any A c l n w2 HR2.out (by omega))
    go_wp2_with fail
    refine HP.out.mono ?_
    rintro e w3 ⟨t, rfl, ht, hb3⟩
    have HE := Lib.hid (with_miss (v := v) HM.out ht)
    have htl : t ≤ l.length := ht.1
    have HB3 := Lib.hid (HB2.out.trans (hb3.mono HB2.out.size))
    have HR3 := Lib.hid (HR2.out.up hb3)
    have f1 : w3.cell? ⟨w.heap.size, 0, none⟩ = some (.string n) := (hb3.cell (p := ⟨w.heap.size, 0, none⟩) hs2).trans e1
    have f2 : w3.cell? ⟨w.heap.size, 1, none⟩ = some (.string v) := (hb3.cell (p := ⟨w.heap.size, 1, none⟩) hs2).trans e2
    clear ht hb3 HP HM HR2 e1 e2
    have htz : (t : Int) ≤ (l.length : Int) := by omega
    have htc : (t : Int) ≤ (c : Int) := by omega
    have HJ := Lib.hid (joined w3 n v A c t l HR3.out hc0 htl hl)
    unfold joinW at HJ
    have FIN := Lib.hid (show ∀ (u : Value) (w4 : World), w4.ownsRow w3.heap.size 56 2 u (l.take t ++ (n, v) :: l.drop t).length (ats (l.take t ++ (n, v) :: l.drop t)) → Below w3.heap.size w3 w4 → MadeN w (withL l n v) (.returned u) w4 from fun u w4 ho hb4 => by
      rw [HE.out]
      obtain ⟨A', c', rfl, r1, r2, r3, r4⟩ := trow_own ho
      exact ⟨A', c', rfl, r1, r2, r3, r4, HB3.out.trans (hb4.mono HB3.out.size)⟩)
    clear HE
    cases A with
    | none =>
      have hln := trow_none HR3.out
      subst hln
      obtain rfl := hc0 rfl
      obtain rfl : t = 0 := by simpa using htl
      go_wp2_with fail
      go_region_with (go_at_call 39; refine (HJ.out none 0 (TRow.nil _ _ _) (fun _ => rfl)).mono ?_; rintro e w4 ⟨u, rfl, ho, hb4⟩)
      all_goals
        go_wp2_with fail
        go_ret
        exact FIN.out _ _ ho hb4
    | some ad =>
      by_cases hl0 : l = []
      · subst hl0
        obtain rfl : t = 0 := by simpa using htl
        obtain ⟨b, off, sp⟩ := ad
        by_cases hcz : c = 0
        · subst hcz
          go_wp2_with fail
          go_region_with (go_at_call 39; refine (HJ.out _ _ (TRow.nil _ _ _) (fun h => by cases h)).mono ?_; rintro e w4 ⟨u, rfl, ho, hb4⟩)
          all_goals
            go_wp2_with fail
            go_ret
            exact FIN.out _ _ ho hb4
        · have hc1 : 0 < c := by omega
          have hc2 : (0 : Int) < (c : Int) := by omega
          go_wp2_with fail
          go_region_with (go_at_call 39; refine (HJ.out _ _ (TRow.nil _ _ _) (fun h => by cases h)).mono ?_; rintro e w4 ⟨u, rfl, ho, hb4⟩)
          all_goals
            go_wp2_with fail
            go_ret
            exact FIN.out _ _ ho hb4
      · obtain ⟨b, off, hA, hb, _⟩ := HR3.out (List.length_pos_iff.2 hl0)
        cases hA
        by_cases htc2 : t < c
        · have htc3 : (t : Int) < (c : Int) := by omega
          have HC3 := Lib.hid (trow_cut HR3.out t)
          go_wp2_with fail
          go_region_with (go_at_call 39; refine (HJ.out _ _ HC3.out (fun h => by cases h)).mono ?_; rintro e w4 ⟨u, rfl, ho, hb4⟩)
          all_goals
            go_wp2_with fail
            go_ret
            exact FIN.out _ _ ho hb4
        · have e0 : t = c := by omega
          have HD := Lib.hid (show l.drop t = [] from List.drop_of_length_le (by omega))
          have HC3 := Lib.hid (show ∀ A3, TRow w3 w3.heap.size A3 (l.drop t) from fun A3 => by rw [HD.out]; exact TRow.nil _ _ _)
          clear HD
          have HJ0 := Lib.hid (fun A3 c3 a b => by have := HJ.out A3 c3 a b; rw [show l.length - t = 0 by omega] at this; exact this)
          subst e0
          go_wp2_with fail
          go_region_with (go_at_call 39; refine (HJ0.out _ _ (HC3.out _) (fun h => by cases h)).mono ?_; rintro e w4 ⟨u, rfl, ho, hb4⟩)
          all_goals
            go_wp2_with fail
            go_ret
            exact FIN.out _ _ ho hb4
end Go.Proofs.Yteamnjaepgfcmaa
