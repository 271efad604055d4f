/-
  slices.Grow and slices.Concat at attributes.
-/
import Derived.Test.YteamnjaepgfcmaaApp
import Derived.Test.YteamnjaepgfcmaaFind
import Derived.Test.YteamnjaepgfcmaaShelfg
namespace Go.Proofs.Yteamnjaepgfcmaa
open Go.RowKit Go.Sort Go.Lib
set_option linter.unusedVariables false
theorem grow_any (n : Nat) (w : World) (h0 : 0 < n) (hn : n ≤ 3000000) : Calls Try.prog 55 #[.slice none 0 0, .int .i64 n] w (MadeA w []) := by
  obtain ⟨i0, hi, hz0, hz1, hz2⟩ := info_parts Try.info56
  have hc := Go.Proofs.Any8.slices_Grow_grow Try.layGrow i0 _ hi hz0 (by rw [hz1]; omega) none 0 0 n [] w (by omega) (by omega) (by rw [hz2]; omega) (by omega) (by simp) (fun _ => rfl) (fun a h => by cases h)
  change Calls Try.prog 55 _ _ _ at hc
  refine hc.mono ?_
  rintro e w' ⟨rfl, rfl⟩
  obtain ⟨G, hG⟩ : ∃ G, G = grownCap w (0 + n) 0 (Try.layGrow_ren.t 25) := ⟨_, rfl⟩
  rw [← hG]
  have hGn : 0 + n ≤ G := by rw [hG]; exact grownCap_ge w _ _ _
  have hGm : G ≤ maxLen := by rw [hG]; exact grownCap_le_maxLen w _ _ _ (by unfold maxLen; omega)
  refine ⟨_, rfl, ⟨rfl, .inr ⟨w.heap.size, G, _, rfl, Nat.le_refl _, heap_alloc_new w.drew _, Nat.zero_le _, hGm, ?_, by simp [ats]⟩⟩, ((Below.refl _ w).drew).alloc (Nat.le_refl _) _⟩
  simp [Builtin.zeroCells, Value.cells]
  omega
/-- A slice among those that are joined. -/
structure Part where
  A : Option Addr
  c : Nat
  l : List At
def Part.v (p : Part) : Value := .slice p.A p.l.length p.c
def flatP (ps : List Part) : List At := ps.flatMap Part.l
structure Parts (w : World) (R : Nat) (ps : List Part) : Prop where
  cell : ∀ j, (hj : j < ps.length) → w.cell? ⟨R, j, none⟩ = some ps[j].v
  row : ∀ p ∈ ps, TRow w w.heap.size p.A p.l
  nil : ∀ p ∈ ps, p.A = none → p.c = 0
theorem flatP_take (ps : List Part) (k : Nat) (h : k < ps.length) : flatP (ps.take (k + 1)) = flatP (ps.take k) ++ ps[k].l := by
  have e : ps.take (k + 1) = ps.take k ++ [ps[k]] := by rw [List.take_add_one, List.getElem?_eq_getElem h]; rfl
  unfold flatP
  rw [e, List.flatMap_append, List.flatMap_singleton]
theorem flatP_le (ps : List Part) (k : Nat) : (flatP (ps.take k)).length ≤ (flatP ps).length := by
  have := congrArg (fun x => (flatP x).length) (List.take_append_drop k ps)
  simp only [flatP, List.flatMap_append, List.length_append] at this ⊢
  omega
set_option maxHeartbeats 2000000 in
theorem concat_any (R c : Nat) (ps : List Part) (w : World) (h : Parts w R ps) (hn : ps.length ≤ 1000) (hl : (flatP ps).length ≤ 1000000) (h0 : 0 < (flatP ps).length) :
    Calls Try.prog 39 #[.slice (some ⟨R, 0, none⟩) ps.length c] w (MadeA w (flatP ps)) := by
  obtain ⟨i0, hi, hz0, hz1, hz2⟩ := info_parts Try.info56
  have H := Lib.hid h
  clear h
  go_enter Try.func39, Try.ntmps39
  go_wp2
  go_loopg [3, 5, 11] ps.length (fun g s3 _ s11 wr => ∃ k : Nat, s11 = .int .i64 k ∧ s3 = .int .i64 (flatP (ps.take k)).length ∧ k ≤ ps.length ∧ ps.length - k ≤ g ∧ w = wr)
  case atStart => exact ⟨0, rfl, rfl, by omega, by omega, rfl⟩
  case round =>
    obtain ⟨k, rfl, rfl, hk, hg, rfl⟩ := hrel
    by_cases hlt : k < ps.length
    · have h1 : (k : Int) < (ps.length : Int) := by omega
      have c1 := H.out.cell k hlt
      unfold Part.v at c1
      have hf1 := flatP_take ps k hlt
      have hle1 := flatP_le ps k
      have hle2 := flatP_le ps (k + 1)
      have hsum : (flatP (ps.take (k + 1))).length = (flatP (ps.take k)).length + ps[k].l.length := by rw [hf1, List.length_append]
      have HS := Lib.hid hsum
      have hnn : ¬ ((flatP (ps.take k)).length : Int) + (ps[k].l.length : Int) < 0 := by omega
      clear hf1 hsum
      generalize ps[k] = q at c1 HS hnn
      obtain ⟨A, c', l⟩ := q
      simp only at c1 HS hnn
      have hql : l.length ≤ 1000000 := by have := HS.out; omega
      generalize (flatP (ps.take k)).length = m at HS hle1 hnn
      go_wp2_with fail
      go_roundg (ps.length - (k + 1))
      case measure => omega
      case rel => exact ⟨k + 1, by go_num, by congr 1; rw [HS.out]; go_num, by omega, by omega, rfl⟩
    · have h1 : ¬ (k : Int) < (ps.length : Int) := by omega
      have e : ps.take k = ps := List.take_of_length_le (by omega)
      rw [e]
      have HG := Lib.hid (grow_any (flatP ps).length w h0 (by omega))
      clear e
      go_wp2_with fail
      refine HG.out.mono ?_
      rintro e w1 ⟨v, rfl, hown, hb⟩
      have HO := Lib.hid hown; have HB := Lib.hid hb
      clear hown hb HG
      go_wp2_with fail
      go_loopg [6, 8, 27] ps.length (fun g s6 _ s27 wr2 => ∃ k : Nat, s27 = .int .i64 k ∧ k ≤ ps.length ∧ ps.length - k ≤ g ∧ RowKit.Hid (wr2.ownsRow w.heap.size 56 2 s6 (flatP (ps.take k)).length (ats (flatP (ps.take k)))) ∧ RowKit.Hid (Below w.heap.size w wr2))
      case atStart => exact ⟨0, rfl, by omega, by omega, HO, HB⟩
      case round =>
        clear HO HB
        obtain ⟨j, rfl, hj, hg2, HO, HB⟩ := hrel
        by_cases hlt2 : j < ps.length
        · have h2 : (j : Int) < (ps.length : Int) := by omega
          have hcl := H.out.cell j hlt2
          have c1 : wr.cell? ⟨R, j, none⟩ = some ps[j].v := (HB.out.cell (p := ⟨R, j, none⟩) (World.block_lt_of_cell? _ _ hcl)).trans hcl
          unfold Part.v at c1
          have hr := Lib.hid ((H.out.row ps[j] (List.getElem_mem _)).up HB.out)
          have hn0 := Lib.hid (H.out.nil ps[j] (List.getElem_mem _))
          have HF := Lib.hid (flatP_take ps j hlt2)
          have hle2 := flatP_le ps (j + 1)
          have hsz := HB.out.size
          have hsum : (flatP (ps.take (j + 1))).length = (flatP (ps.take j)).length + ps[j].l.length := by rw [HF.out, List.length_append]
          have hbyt : (flatP (ps.take j)).length + ps[j].l.length ≤ 10000000 := by omega
          clear hcl hsum
          generalize ps[j] = q at c1 hr hn0 HF hbyt
          obtain ⟨A, c', l⟩ := q
          simp only at c1 hr hn0 hbyt
          go_wp2_with (at_builtin; refine wpList_appT rfl _ _ 22 rfl w.heap.size 56 i0 _ Try.underlying22 hi hz0 hz1 hz2 rfl _ _ _ rfl HO.out A l.length c' l rfl rfl hr.out hn0.out hbyt hsz ?_; intro v1 w3 hown2 hb2)
          have HB3 := Lib.hid (HB.out.trans hb2)
          have HO3 := Lib.hid (own_ats (zs := flatP (ps.take (j + 1))) hown2 (by rw [HF.out, ats_append]) (by rw [HF.out, List.length_append]))
          clear hown2 hb2 HO HB
          go_roundg (ps.length - (j + 1))
          case measure => omega
          case rel => exact ⟨j + 1, by go_num, by omega, by omega, HO3, HB3⟩
        · have h2 : ¬ (j : Int) < (ps.length : Int) := by omega
          have e : ps.take j = ps := List.take_of_length_le (by omega)
          rw [e] at HO
          clear e
          go_wp2_with fail
          go_ret
          exact ⟨_, rfl, HO.out, HB.out⟩
end Go.Proofs.Yteamnjaepgfcmaa
