/-
  lis.Ends, lis.Length: what they answer.
-/
import Derived.Test.YtlpjjnpafmakhaaFind
namespace Go.Proofs.Ytlpjjnpafmakhaa
open Go.RowKit
set_option linter.unusedVariables false

/-- What Ends has written after k rounds. -/
def fillE (l : List Int) (k : Nat) : List Int := (List.range l.length).map (fun i => if i < k then ((en l i : Nat) : Int) else 0)
theorem fillE_zero (l : List Int) : List.replicate l.length (0 : Int) = fillE l 0 := by
  apply List.ext_getElem <;> simp [fillE]
theorem fillE_length (l : List Int) (k : Nat) : (fillE l k).length = l.length := by simp [fillE]
theorem fillE_full (l : List Int) : fillE l l.length = endsL l := by
  apply List.ext_getElem
  · simp [fillE_length, endsL_length]
  · intro i h1 h2
    rw [fillE_length] at h1
    rw [← getD_lt (d := 0) h2, endsL_at h1]
    simp [fillE, h1]
theorem fillE_set {l : List Int} {k : Nat} (hk : k < l.length) : (fillE l k).set k ((en l k : Nat) : Int) = fillE l (k + 1) := by
  apply List.ext_getElem
  · simp [fillE]
  · intro i h1 h2
    rw [List.getElem_set]
    simp only [fillE, List.getElem_map, List.getElem_range]
    by_cases h : k = i
    · subst h; simp
    · rw [if_neg h]
      by_cases h' : i < k
      · rw [if_pos h', if_pos (by omega)]
      · rw [if_neg h', if_neg (by omega)]
theorem fillE_skip {l : List Int} {k : Nat} (hk : k < l.length) (h0 : el l k < 0) : fillE l (k + 1) = fillE l k := by
  apply List.ext_getElem
  · simp [fillE]
  · intro i h1 h2
    simp only [fillE, List.getElem_map, List.getElem_range]
    by_cases h : i = k
    · subst h; simp [en_neg h0]
    · by_cases h' : i < k
      · rw [if_pos h', if_pos (by omega)]
      · rw [if_neg h', if_neg (by omega)]

theorem own_shape {w : World} {base : Nat} {v : Value} {n : Nat} {xs : List Value} (h : w.ownsRow base 3 1 v n xs) (hn : 0 < n) : ∃ g c, v = .slice (some ⟨g, 0, none⟩) n c ∧ base ≤ g ∧ n ≤ c ∧ c ≤ maxLen := by
  rcases h.2 with ⟨rfl, h0⟩ | ⟨g, cap, cur, rfl, hb, _, hnc, hcm, _⟩
  · omega
  · exact ⟨g, cap, rfl, hb, hnc, hcm⟩
theorem own_keep {w w' : World} {base g n c B : Nat} {xs : List Value} (ho : w.ownsRow base 3 1 (.slice (some ⟨g, 0, none⟩) n c) n xs) (hb : Below B w w') (hg : g < B) : w'.ownsRow base 3 1 (.slice (some ⟨g, 0, none⟩) n c) n xs := by
  refine ⟨ho.1, ?_⟩
  rcases ho.2 with ⟨hn, _⟩ | ⟨g', cap, cur, he, hbg, hh, r⟩
  · cases hn
  · have : g = g' := by simp at he; exact he.1
    subst this
    exact .inr ⟨g, cap, cur, he, hbg, (hb.block g hg).trans hh, r⟩

theorem ints_set (T : List Int) (p : Nat) (x : Int) : (ints T).set p (.int .i64 x) = ints (T.set p x) := by simp [ints, List.map_set]
theorem ends_step {w wA : World} {l T : List Int} {k gt m c2 p : Nat} {x y : Int} (hown : wA.ownsRow w.heap.size 3 1 (.slice (some ⟨w.heap.size, 0, none⟩) l.length l.length) l.length (ints (fillE l k)))
    (ht : wA.ownsRow (w.heap.size + 1) 3 1 (.slice (some ⟨gt, 0, none⟩) m c2) m (ints T)) (hgt : w.heap.size + 1 ≤ gt) (hbel : Below w.heap.size w wA) (hset : (fillE l k).set k y = fillE l (k + 1)) :
    ((wA.setCell ⟨gt, p, none⟩ (.int .i64 x)).setCell ⟨w.heap.size, k, none⟩ (.int .i64 y)).ownsRow w.heap.size 3 1 (.slice (some ⟨w.heap.size, 0, none⟩) l.length l.length) l.length (ints (fillE l (k + 1))) ∧
    ((wA.setCell ⟨gt, p, none⟩ (.int .i64 x)).setCell ⟨w.heap.size, k, none⟩ (.int .i64 y)).ownsRow (w.heap.size + 1) 3 1 (.slice (some ⟨gt, 0, none⟩) m c2) m (ints (T.set p x)) ∧
    Below w.heap.size w ((wA.setCell ⟨gt, p, none⟩ (.int .i64 x)).setCell ⟨w.heap.size, k, none⟩ (.int .i64 y)) ∧ wA.heap.size ≤ ((wA.setCell ⟨gt, p, none⟩ (.int .i64 x)).setCell ⟨w.heap.size, k, none⟩ (.int .i64 y)).heap.size := by
  have h1 := ht.stored p (.int .i64 x)
  rw [ints_set] at h1
  have hb1 : Below (w.heap.size + 1) wA (wA.setCell ⟨gt, p, none⟩ (.int .i64 x)) := (Below.refl _ _).setCell hgt _
  have h2 := (own_keep hown hb1 (by omega)).stored k (.int .i64 y)
  rw [ints_set, hset] at h2
  have hb2 : Below w.heap.size (wA.setCell ⟨gt, p, none⟩ (.int .i64 x)) ((wA.setCell ⟨gt, p, none⟩ (.int .i64 x)).setCell ⟨w.heap.size, k, none⟩ (.int .i64 y)) := (Below.refl _ _).setCell (p := ⟨w.heap.size, k, none⟩) (Nat.le_refl _) _
  exact ⟨h2.1, ownsRow_setCell_below h1.1 (a := ⟨w.heap.size, k, none⟩) (by simp) _, (hbel.trans (hb1.mono (by omega))).trans hb2, Nat.le_trans hb1.size hb2.size⟩

def ERel (w : World) (l : List Int) (tops i : Value) (wr : World) : Prop :=
  ∃ (k : Nat) (T : List Int), k ≤ l.length ∧ i = .int .i64 k ∧ wr.ownsRow w.heap.size 3 1 (.slice (some ⟨w.heap.size, 0, none⟩) l.length l.length) l.length (ints (fillE l k)) ∧
    OwnI wr (w.heap.size + 1) tops T ∧ Tops l k T ∧ Below w.heap.size w wr ∧ w.heap.size + 1 ≤ wr.heap.size

set_option maxRecDepth 100000 in
set_option maxHeartbeats 2000000 in
theorem ends_any (A : Option Addr) (c : Nat) (l : List Int) (w : World) (hr : Row w w.heap.size A l) (hl : l.length ≤ 1000000) :
    Calls Try.prog 38 #[.slice A l.length c] w (Made w (endsL l)) := by
  obtain ⟨i0, hi, hz0, hz1, hz2⟩ := info_parts Try.info3
  have hby : i0.bytes * l.length ≤ 281474976710656 := by rw [hz2]; omega
  have HBY := Lib.hid hby; clear hby
  go_enter Try.func38, Try.ntmps38
  go_wp2_with (at_make; refine wpList_make_full _ rfl (.tmp 9) (.tmp 9) 22 rfl w.heap.size 3 i0 (.int .i64 0) 1 Try.underlying22 hi hz0 hz1 .i64 .i64 _ _ l.length rfl rfl rfl rfl HBY.out (by unfold maxLen; omega) (Nat.le_refl _) ?_; intro w1 hown1 hg1; rw [made_ints, fillE_zero] at hown1)
  have hb1 : Below w.heap.size w w1 := (Below.refl _ _).grown hg1 (Nat.le_refl _) (fun k hk => by cases hk)
  clear hg1
  have hsz1 := (hown1.lt w.heap.size rfl).2
  go_loopw [4, 13] (ERel w l) (fun _ i _ => l.length - (intOf i).toNat)
  case atStart => exact ⟨0, [], by omega, rfl, hown1, by simpa [OwnI] using World.ownsRow_nil _ _ _ _, Tops.start l, hb1, by omega⟩
  case round =>
    clear hown1 hb1 hsz1
    obtain ⟨k, T, hk, rfl, hown, htop, hT, hbel, hsz⟩ := hrel
    have hTl := hT.len
    have HT := Lib.hid hT; clear hT
    by_cases hlt : k < l.length
    · obtain ⟨b, off, x, rfl, hb, hx, hc⟩ := row_at (hr.below hbel) hlt
      have hxe : el l k = x := hx.symm
      clear hx
      by_cases h0 : x < 0
      · have hskip := fillE_skip hlt (by rw [hxe]; exact h0)
        have hTs := HT.out.skip (by rw [hxe]; exact h0)
        rw [← hskip] at hown
        have HO := Lib.hid hown; clear hown hskip hxe
        go_wp2_with fail
        exact ⟨⟨k + 1, T, by omega, by go_num, HO.out, htop, hTs, hbel, hsz⟩, by simp [intOf]; omega⟩
      · obtain ⟨At, ct, rfl, hrt, hct, hctm, hnt⟩ := row_own htop
        have cf := find_any At ct T x _ wr hrt HT.out.up (by omega)
        have CF := Lib.hid cf
        have HX := Lib.hid hxe
        clear cf hxe hnt hrt
        go_wp2_with fail
        refine CF.out.mono ?_
        rintro e w2 ⟨p, rfl, hpile, rfl⟩
        have hpl := hpile.le
        have hpile' : Pile T (el l k) p := by rw [HX.out]; exact hpile
        have hen := HT.out.en (by rw [HX.out]; omega) hpile'
        have HEN := Lib.hid hen; clear hen hpile
        have hset : (fillE l k).set k ((p : Int) + 1) = fillE l (k + 1) := by
          have := fillE_set hlt
          rw [HEN.out] at this
          simpa using this
        have HSET := Lib.hid hset; clear hset
        by_cases hp : p = T.length
        · subst hp
          have hpush := HT.out.push (by rw [HX.out]; omega) hpile'
          rw [HX.out] at hpush
          have HP := Lib.hid hpush; clear hpush hpile' hpl
          unfold OwnI at htop
          go_wp2_with (at_builtin; refine wpList_app1 rfl (.tmp 27) (.tmp 29) 22 rfl (w.heap.size + 1) 3 i0 (.int .i64 0) 8 Try.underlying22 hi hz0 hz1 hz2 rfl _ _ _ rfl htop (.int .i64 x) rfl rfl (by omega) (by simp [maxLen]; omega) (by omega) ?_; intro v2 w2 htop2 hbel2; have HB2 := Lib.hid hbel2; clear hbel2; obtain ⟨gt, c2, rfl, hgt, hc2, hcm2⟩ := own_shape htop2 (by omega); have hfz := htop2.frozenAt T.length; have hcs2 : w2.cell? ⟨gt, T.length, none⟩ = some (.int .i64 x) := (by rw [htop2.cellAt T.length (by omega)]; simp); have hfo := (own_keep hown HB2.out (by omega)).frozenAt k; have hco : ∃ u, w2.cell? ⟨w.heap.size, k, none⟩ = some (.int .i64 u) := ⟨(fillE l k).getD k 0, by rw [(own_keep hown HB2.out (by omega)).cellAt k (by omega)]; simp [fillE, hlt]⟩; obtain ⟨uo, hco⟩ := hco)
          have hown2 := own_keep hown HB2.out (by omega)
          have htop2' : w2.ownsRow (w.heap.size + 1) 3 1 (.slice (some ⟨gt, 0, none⟩) (T.length + 1) c2) (T.length + 1) (ints (T ++ [x])) := by simpa using htop2
          obtain ⟨s1, s2, s3, s4⟩ := ends_step (p := T.length) (x := x) (y := (T.length : Int) + 1) hown2 htop2' hgt (hbel.trans (HB2.out.mono (by omega))) HSET.out
          have e1 : (T ++ [x]).set T.length x = T ++ [x] := by simp
          rw [e1] at s2
          refine ⟨⟨k + 1, T ++ [x], by omega, by go_num, s1, ?_, HP.out, s3, by have := HB2.out.size; omega⟩, by simp [intOf]; omega⟩
          unfold OwnI
          simpa using s2
        · have hp' : ((p : Int) == (T.length : Int)) = false := by simp only [beq_eq_false_iff_ne, ne_eq]; omega
          have hpT : p < T.length := by omega
          have hTs := HT.out.set (by rw [HX.out]; omega) hpile' hpT
          rw [HX.out] at hTs
          have HP := Lib.hid hTs; clear hTs hpile' hpl hp
          unfold OwnI at htop
          obtain ⟨gt, c2, hv, hgt, hc2, hcm2⟩ := own_shape htop (by omega)
          obtain ⟨rfl, rfl⟩ : At = some ⟨gt, 0, none⟩ ∧ ct = c2 := by simpa using hv
          clear hv
          have hfz := htop.frozenAt p
          have hcs2 : wr.cell? ⟨gt, p, none⟩ = some (.int .i64 (T.getD p 0)) := by rw [htop.cellAt p (by omega)]; simp [hpT]
          have hfo := hown.frozenAt k
          have hco : ∃ u, wr.cell? ⟨w.heap.size, k, none⟩ = some (.int .i64 u) := ⟨(fillE l k).getD k 0, by rw [hown.cellAt k (by omega)]; simp [fillE, hlt]⟩
          obtain ⟨uo, hco⟩ := hco
          have hst := ends_step (p := p) (x := x) (y := (p : Int) + 1) hown htop hgt hbel HSET.out
          have HST := Lib.hid hst; clear hst
          have hne : ¬ w.heap.size = gt := by omega
          go_wp2_with fail
          obtain ⟨s1, s2, s3, s4⟩ := HST.out
          refine ⟨⟨k + 1, T.set p x, by omega, by go_num, s1, ?_, HP.out, s3, by omega⟩, by simp [intOf]; omega⟩
          unfold OwnI
          simpa using s2
    · obtain rfl : k = l.length := by omega
      rw [fillE_full] at hown
      go_wp2
      go_ret
      refine made_own (base := w.heap.size) ?_ hbel
      unfold OwnI
      rw [endsL_length]; exact hown

theorem mxs_ends (l : List Int) : mxs (enTo l l.length) (enTo l l.length).length = lenL l := by
  unfold mxs lenL
  rw [enTo_length]
  exact mx_congr (fun k hk => enTo_at l hk)
end Go.Proofs.Ytlpjjnpafmakhaa
