/-
  vtree.Copy.
-/
import Derived.Test.YtlkdklpglmglkaaDup
namespace Go.Proofs.Ytlkdklpglmglkaa
open Go.RowKit Go.Sort Go.Lib
set_option linter.unusedVariables false
set_option maxRecDepth 100000
def noT : Tr := .mk noB noB noB [] []
def CopyPost (t : Tr) (w : World) (e : Ending) (w' : World) : Prop :=
  (¬ okT t ∧ e = .returned (.tuple #[nodeV noT leafNV, .bool false]) ∧ Below w.heap.size w w') ∨
  (okT t ∧ ∃ x' ps, e = .returned (.tuple #[nodeV t x', .bool true]) ∧ TreeIn w' (NewIn w w') t x' ∧ w'.ownsRow w.heap.size 74 2 (.slice x'.A t.as.length x'.ca) t.as.length (ats t.as) ∧ w'.ownsRow w.heap.size 25 5 (.slice x'.K t.kids.length x'.ck) ps.length (nds ps) ∧ ps.map Prod.fst = t.kids ∧ Below w.heap.size w w')
theorem results_copy (tmps : Array Value) (w : World) (B : Nat) (v0 v1 v2 v3 v4 u : Value) (hp : tmps.getD 2 undef = .pointer (some ⟨B, 0, none⟩)) (hu : tmps.getD 3 undef = u) (hg : BoxN w B v0 v1 v2 v3 v4) :
    (results Try.f48 tmps).run Try.prog w = .ok (.tuple #[.agg #[v0, v1, v2, v3, v4], u]) w := by
  rw [results_cell_tmp rfl, hp, hu]
  simp [asAddr, run_loadVar_row w B 25 25 _ (0, 0) _ hg Try.underlying25 rfl (by kernel_rfl)]
abbrev duoW (w : World) (t : Tr) (x : NV) : World := (w.alloc (.cells #[.string t.tag, .string t.key, .string t.text, .slice x.A t.as.length x.ca, .slice x.K t.kids.length x.ck] 25)).alloc (.cells #[.string ⟨#[]⟩, .string ⟨#[]⟩, .string ⟨#[]⟩, .slice none 0 0, .slice none 0 0] 25)
theorem duo_out {w w1 : World} {t : Tr} {x : NV} (h : RowKit.Hid (w1 = duoW w t x)) : (w.alloc (.cells #[.string t.tag, .string t.key, .string t.text, .slice x.A t.as.length x.ca, .slice x.K t.kids.length x.ck] 25)).alloc (.cells #[.string ⟨#[]⟩, .string ⟨#[]⟩, .string ⟨#[]⟩, .slice none 0 0, .slice none 0 0] 25) = w1 := h.out.symm
set_option maxHeartbeats 4000000 in
theorem copy_any (t : Tr) (x : NV) (w : World) (h : TreeAt w w.heap.size t x) (hg : GoodT t) : Calls Try.prog 48 #[nodeV t x] w (CopyPost t w) := by
  have nf : ¬ (False : Prop) := fun h => h
  obtain ⟨w1, hw1⟩ : ∃ w1, w1 = duoW w t x := ⟨_, rfl⟩
  have hb1 : Below w.heap.size w w1 := by rw [hw1]; exact ((Below.refl _ w).alloc (Nat.le_refl _) _).alloc (by simp) _
  have bx1 : BoxN w1 w.heap.size (.string t.tag) (.string t.key) (.string t.text) (.slice x.A t.as.length x.ca) (.slice x.K t.kids.length x.ck) := by rw [hw1]; exact (BoxN.new w _ _ _ _ _ _ rfl).kept (kept_alloc _ _ (fun _ => False)) nf
  have bx2 : BoxN w1 (w.heap.size + 1) (.string ⟨#[]⟩) (.string ⟨#[]⟩) (.string ⟨#[]⟩) (.slice none 0 0) (.slice none 0 0) := by rw [hw1]; exact BoxN.new _ _ _ _ _ _ _ (by simp)
  have hs1 : w1.heap.size = w.heap.size + 1 + 1 := by rw [hw1]; simp
  have ht1 := h.up hb1
  have C1 := Lib.hid (isValid_any t x w1 ht1 hg)
  have HW := Lib.hid hw1; have HB1 := Lib.hid hb1; have HX1 := Lib.hid bx1; have HX2 := Lib.hid bx2; have HT1 := Lib.hid ht1; have HG := Lib.hid hg
  obtain ⟨c0, c1, c2, c3, c4⟩ := bx1.cells
  clear h hg hw1 hb1 ht1 bx1 bx2
  go_enter Try.func48, Try.ntmps48
  go_wp2_with fail
  rw [duo_out HW]
  refine C1.out.mono ?_
  rintro e w2 ⟨b, rfl, hb, hb2⟩
  have HB2 := Lib.hid (HB1.out.trans (hb2.mono HB1.out.size)); have HOK := Lib.hid hb
  have hk2 := kept_below hb2 (fun _ => False)
  have by1 := HX1.out.kept hk2 nf
  have by2 := HX2.out.kept hk2 nf
  have HT2 := Lib.hid (HT1.out.up hb2)
  have hs2 : w.heap.size + 1 + 1 ≤ w2.heap.size := by have := hb2.size; omega
  have HY2 := Lib.hid by2
  clear c0 c1 c2 c3 c4 C1
  obtain ⟨c0, c1, c2, c3, c4⟩ := by1.cells
  obtain ⟨g0, g1, g2, g3, g4⟩ := by2.cells
  have z0 := by2.frozen 0
  have z1 := by2.frozen 1
  have z2 := by2.frozen 2
  have z3 := by2.frozen 3
  have z4 := by2.frozen 4
  clear hb hb2 hk2 by1 by2
  cases b with
  | false =>
    have HN := Lib.hid (show ¬ okT t from fun h => by have := HOK.out.2 h; cases this)
    clear HOK
    have HE := Lib.hid (HY2.out.put (.string ⟨#[]⟩) (.string ⟨#[]⟩) (.string ⟨#[]⟩) (.slice none 0 0) (.slice none 0 0))
    have HKE := Lib.hid (kept_putN w2 (w.heap.size + 1) (.string ⟨#[]⟩) (.string ⟨#[]⟩) (.string ⟨#[]⟩) (.slice none 0 0) (.slice none 0 0))
    go_wp2_with fail
    refine bodyPost_ret (results_copy _ _ (w.heap.size + 1) _ _ _ _ _ _ rfl rfl HE.out) rfl ?_
    exact .inl ⟨HN.out, rfl, HB2.out.trans (HKE.out.below HB2.out.size (fun b h => by omega))⟩
  | true =>
    have HN := Lib.hid (HOK.out.1 rfl)
    clear HOK
    have C2 := Lib.hid (dup_any t x w2 HT2.out HG.out)
    go_wp2_with fail
    refine C2.out.mono ?_
    rintro e w3 ⟨x', ps, rfl, hti, hoa, hok, hpm, hb3⟩
    have hy3 := HY2.out.kept (kept_below hb3 (fun _ => False)) nf
    have HE := Lib.hid (hy3.put (.string t.tag) (.string t.key) (.string t.text) (.slice x'.A t.as.length x'.ca) (.slice x'.K t.kids.length x'.ck))
    have HKE := Lib.hid (kept_putN w3 (w.heap.size + 1) (.string t.tag) (.string t.key) (.string t.text) (.slice x'.A t.as.length x'.ca) (.slice x'.K t.kids.length x'.ck))
    have HTI := Lib.hid hti; have HOA := Lib.hid hoa; have HOK := Lib.hid hok; have HPM := Lib.hid hpm; have HB3 := Lib.hid (HB2.out.trans (hb3.mono HB2.out.size))
    clear g0 g1 g2 g3 g4 z0 z1 z2 z3 z4
    obtain ⟨g0, g1, g2, g3, g4⟩ := hy3.cells
    have z0 := hy3.frozen 0
    have z1 := hy3.frozen 1
    have z2 := hy3.frozen 2
    have z3 := hy3.frozen 3
    have z4 := hy3.frozen 4
    clear hti hoa hok hpm hb3 hy3 C2 c0 c1 c2 c3 c4
    go_wp2_with fail
    refine bodyPost_ret (results_copy _ _ (w.heap.size + 1) _ _ _ _ _ _ rfl rfl HE.out) rfl ?_
    have hsE := HKE.out.size
    refine .inr ⟨HN.out, x', ps, rfl, HTI.out.kept HKE.out (fun b hb h => ?_) (fun b hb => ⟨?_, Nat.lt_of_lt_of_le hb.2 hsE⟩), own_lower (HKE.out.own HOA.out (fun b hb h => ?_)) (by omega), own_lower (HKE.out.own HOK.out (fun b hb h => ?_)) (by omega), HPM.out, HB3.out.trans (HKE.out.below HB3.out.size (fun b h => by omega))⟩
    · have h1 : w2.heap.size ≤ b := hb.1
      have h2 : b = w.heap.size + 1 := h
      omega
    · have h1 : w2.heap.size ≤ b := hb.1
      omega
    · have h1 := (HOA.out.lt b hb).1
      have h2 : b = w.heap.size + 1 := h
      omega
    · have h1 := (HOK.out.lt b hb).1
      have h2 : b = w.heap.size + 1 := h
      omega
end Go.Proofs.Ytlkdklpglmglkaa
