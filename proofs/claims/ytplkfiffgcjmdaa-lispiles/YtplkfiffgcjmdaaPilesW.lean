/-
  lis.Piles: what it answers.
-/
import Derived.Test.YtplkfiffgcjmdaaPiles
namespace Go.Proofs.Ytplkfiffgcjmdaa
open Go.RowKit
set_option linter.unusedVariables false

theorem Try.info22 : (Try.prog.info? 22).map (fun i => (i.zero, i.size, i.bytes)) = some (some (.slice none 0 0), 1, 24) := by kernel_rfl
theorem made_nils (n : Nat) : (madeCells (Value.slice none 0 0).cells (n * 1)).toList = List.replicate n nilV := by
  have : (Value.slice none 0 0).cells = #[.slice none 0 0] := rfl
  rw [this, toList_madeCells_one]; simp
theorem pw_start {w : World} {g m : Nat} (h : w.ownsRow g 22 1 (.slice (some ⟨g, 0, none⟩) m m) m (List.replicate m nilV)) (l : List Int) : PW w g m (List.replicate m nilV) (fun j => nats (pileTo l 0 j)) := by
  have hn : ∀ j, (List.replicate m nilV).getD j nilV = nilV := fun j => by
    rw [List.getD_eq_getElem?_getD, List.getElem?_replicate]; split <;> rfl
  refine ⟨h, fun j hj => ?_, fun i j hi hj hij b hb => ?_⟩
  · rw [hn]; exact World.ownsRow_nil _ _ _ _
  · rw [hn] at hb; simp [Value.ownBlock] at hb

def PPost (w : World) (l : List Int) (e : Ending) (w' : World) : Prop :=
  ∃ g V, e = .returned (.slice (some ⟨g, 0, none⟩) (lenL l) (lenL l)) ∧ w.heap.size ≤ g ∧ PW w' g (lenL l) V (fun j => nats (pileL l j)) ∧ Below w.heap.size w w'
def PRel (w1 : World) (l : List Int) (i : Value) (wr : World) : Prop :=
  ∃ (k : Nat) (V : List Value), k ≤ l.length ∧ i = .int .i64 k ∧ PW wr w1.heap.size (lenL l) V (fun j => nats (pileTo l k j)) ∧ Below w1.heap.size w1 wr

set_option maxRecDepth 100000 in
set_option maxHeartbeats 4000000 in
theorem piles_any (A : Option Addr) (c : Nat) (l : List Int) (w : World) (hr : Row w w.heap.size A l) (hl : l.length ≤ 1000000) :
    Calls Try.prog 16 #[.slice A l.length c] w (PPost w l) := by
  obtain ⟨i0, hi, hz0, hz1, hz2⟩ := info_parts Try.info3
  obtain ⟨i2, hi2, hy0, hy1, hy2⟩ := info_parts Try.info22
  have hll := lenL_le l
  have hby : i2.bytes * lenL l ≤ 281474976710656 := by rw [hy2]; omega
  have HBY := Lib.hid hby; clear hby
  go_enter Try.func16, Try.ntmps16
  go_wp2_with fail
  refine (ends_any A c l w hr hl).mono ?_
  rintro e w1 ⟨A1, c1, rfl, hrow, -, -, -, hb1⟩
  have hel := endsL_length l
  rw [hel]
  have HEL := Lib.hid hel; clear hel
  have cg := greatest_any A1 c1 (enTo l l.length) _ w1 hrow (by rw [enTo_length]; exact hl)
  rw [mxs_ends, enTo_length] at cg
  have CG := Lib.hid cg; clear cg
  go_wp2_with fail
  refine CG.out.mono ?_
  rintro e w1' ⟨rfl, rfl⟩
  obtain ⟨m, hm⟩ : ∃ m, m = lenL l := ⟨_, rfl⟩
  rw [← hm] at hll HBY ⊢
  have HM := Lib.hid hm; clear hm
  go_wp2_with (at_make; refine wpList_make_full _ rfl (.tmp 10) (.tmp 10) 28 rfl w1.heap.size 22 i2 (.slice none 0 0) 1 Try.underlying28 hi2 hy0 hy1 .i64 .i64 _ _ m rfl rfl rfl rfl HBY.out (by unfold maxLen; omega) (Nat.le_refl _) ?_; intro w2 hown2 hg2; rw [made_nils] at hown2; have HG2 := Lib.hid hg2; clear hg2; have HO2 := Lib.hid hown2; clear hown2)
  have hb2 : Below w1.heap.size w1 w2 := (Below.refl _ _).grown HG2.out (Nat.le_refl _) (fun k hk => by cases hk)
  go_loopw [14] (PRel w1 l) (fun i _ => l.length - (intOf i).toNat)
  case atStart => exact ⟨0, _, by omega, rfl, by rw [← HM.out]; exact pw_start HO2.out l, hb2⟩
  case round =>
    clear hb2
    obtain ⟨k, V, hk, rfl, hpw, hbel⟩ := hrel
    rw [← HM.out] at hpw
    by_cases hlt : k < l.length
    · obtain ⟨b, off, x, rfl, hb, hx, hc⟩ := row_at (hrow.below hbel) (show k < (endsL l).length by rw [HEL.out]; exact hlt)
      rw [endsL_at hlt] at hx
      obtain ⟨q, hq⟩ : ∃ q, en l k = q := ⟨_, rfl⟩
      rw [hq] at hx
      subst hx
      have hqm : q ≤ m := by rw [HM.out, ← hq]; exact mx_le (en l) hlt
      cases q with
      | zero =>
        have hnext := hpw.congr (L' := fun j => nats (pileTo l (k + 1) j)) (fun j hj => by rw [pileTo_miss (by omega)])
        have HN := Lib.hid hnext; clear hnext hpw hq
        go_wp2_with fail
        exact ⟨⟨k + 1, V, by omega, by go_num, by rw [← HM.out]; exact HN.out, hbel⟩, by simp [intOf]; omega⟩
      | succ p =>
        obtain ⟨Ap, cp, hv, hcell, -⟩ := hpw.cell (show p < m by omega)
        have hpl := pileTo_length l k p
        have hnl := nats_length (pileTo l k p)
        have hfz := hpw.row.frozenAt p
        have hownp := hpw.own p (by omega)
        rw [hv] at hownp
        have HPW := Lib.hid hpw; clear hpw
        have HQ := Lib.hid hq; clear hq
        have HV := Lib.hid hv; clear hv
        rw [hnl] at hcell hownp
        have hsz := (HPW.out.row.lt w1.heap.size rfl).2
        have HNL := Lib.hid hnl; clear hnl
        have hng : ¬ (Value.slice Ap (pileTo l k p).length cp).ownBlock = some w1.heap.size := fun e => by have := (World.ownsRow.lt hownp _ e).1; omega
        have hngA : ∀ w3, Kept (fun k' => (Value.slice Ap (pileTo l k p).length cp).ownBlock = some k') wr w3 → w3.cell? ⟨w1.heap.size, p, none⟩ = some (.slice Ap (pileTo l k p).length cp) ∧ w3.frozen? ⟨w1.heap.size, p, none⟩ = false := fun w3 hk3 => ⟨hk3.cellOf hcell hng, (row_keep HPW.out.row hk3 hng).frozenAt p⟩
        have HNG := Lib.hid hngA; clear hngA hng
        go_wp2_with (at_builtin; refine wpList_app1F rfl (.tmp 28) (.tmp 30) 22 rfl (w1.heap.size + 1) i0 Try.underlying22 hi hz0 hz1 hz2 (.slice Ap (pileTo l k p).length cp) (nats (pileTo l k p)) rfl hownp (k : Int) rfl (by rw [HNL.out]; omega) (by omega) ?_; intro v' w3 hown3 hk3 hf3; have HO3 := Lib.hid hown3; have HF3 := Lib.hid hf3; have HK3 := Lib.hid hk3; obtain ⟨Av, cv, hv', -⟩ := row_own hown3; have HV' := Lib.hid hv'; clear hown3 hf3 hk3; obtain ⟨hcell3, hfz3⟩ := HNG.out w3 HK3.out; clear hcell hfz; subst hv')
        have hkk : Kept (fun k' => (V.getD p nilV).ownBlock = some k') wr w3 := by rw [HV.out, HNL.out]; exact HK3.out
        have hstep := HPW.out.step (p := p) (by omega) (v' := .slice Av ((nats (pileTo l k p)).length + 1) cv) (zs := nats (pileTo l k p) ++ [(k : Int)]) (by simpa using HO3.out) hkk (by rw [HV.out, HNL.out]; simpa [HNL.out] using HF3.out)
        have hnext := hstep.congr (L' := fun j => nats (pileTo l (k + 1) j)) (fun j hj => by
          by_cases hpj : p = j
          · subst hpj
            rw [if_pos rfl, pileTo_hit HQ.out]; simp [nats]
          · rw [if_neg hpj, pileTo_miss (by have := HQ.out; omega)])
        have hb3 : Below w1.heap.size w1 w3 := hbel.trans (hkk.below hbel.size (fun k' hk' => by have := (World.ownsRow.lt (HPW.out.own p (by omega)) k' hk').1; omega))
        exact ⟨⟨k + 1, _, by omega, by go_num, by rw [← HM.out]; exact hnext, hb3.setCell (Nat.le_refl _) _⟩, by simp [intOf]; omega⟩
    · obtain rfl : k = l.length := by omega
      go_wp2
      go_ret
      refine ⟨w1.heap.size, V, by rw [← HM.out]; rfl, hb1.size, by rw [← HM.out]; exact hpw, hb1.trans (hbel.mono hb1.size)⟩
end Go.Proofs.Ytplkfiffgcjmdaa
