/-
  Proved: the law WireBack answers true for every list of items, and the list reads afterwards as before. No condition.
-/
import Derived.Test.YtkdmhcllnpiakaaRows
import Derived.WalkKit
import Derived.ProofKit
import Derived.OpenShut
import Derived.ShutString
import Derived.ChangeOld
import Derived.Below
import Derived.Test.YtkdmhcllnpiakaaBackWalk
import Derived.Test.YtkdmhcllnpiakaaOpen3
namespace Go.Proofs.Ytkdmhcllnpiakaa.wireBack
open Go.ChangeShapes Go.WideShapes Go.ChangeAt Go.RowKit
open Go.ChangeMaps (open_string shut_string)
set_option linter.unusedVariables false

theorem own : ownKnob Try.prog.godebug = none := by kernel_rfl
theorem laidOut : laidOutB Try.prog = true := by kernel_rfl

theorem u64_wf {n : Int} (h : (Lit.int .u64 n).wf = true) : 0 ≤ n ∧ n < 18446744073709551616 := by
  have h' : 0 ≤ n ∧ n ≤ 18446744073709551615 := by simpa [Lit.wf, IntKind.min, IntKind.max, IntKind.signed, IntKind.bits] using h
  omega

set_option maxRecDepth 100000 in
theorem lifted (os : Os) (started : os.Started) (H : Type) (enc : TypeId × Value → H) :
    ReturnsInHanded {} Try.checked os 3 .any (Rows.wireBackSpec.pre6 enc Try.prog Try.f3 Rows.wireBackRow.domain false) (Rows.wireBackSpec.post enc Try.prog Try.f3 false true false false) := by
  refine returnsInHanded_of_change (C := Try.checked) own started (by kernel_rfl) Try.func3
    (ChangeSpec.witness6 (enc := enc) (C := Try.checked) false ⟨#[], #[.slice none 0 0], []⟩ 8 (by kernel_rfl) (by kernel_rfl) (by kernel_rfl) (by kernel_rfl)) ?_
  intro W base args ds gs before hval0 hW hcnd _
  have hval : ∀ (j : Nat) t v, Try.f3.params[j]? = some t → args[j]? = some v → Value.okWide Try.prog W .any base t v := hval0
  have hW' := hW
  obtain ⟨p, q, hA0, hV, rfl, hfz, hnd⟩ := hW
  have hA : DataW.TrodAll enc Try.prog W 0 (fun _ => true) true Try.f3.params.toList args.toList ds p := hA0
  rw [Try.params3] at hA hval
  obtain ⟨v0, vs0, d0, ds0, p0, q0, hargs, rfl, rfl, h0, r0⟩ := trodAll_cons hA
  obtain ⟨rfl, rfl, rfl⟩ := trodAll_nil r0
  obtain rfl : args = #[v0] := by cases args; simp_all
  obtain ⟨rfl, rfl⟩ := trodVars_none hV
  obtain ⟨a0, len0, cap0, rfl⟩ := okWide_slice Try.underlying22 (hval 0 22 v0 rfl rfl)
  have k0 := h0
  have lt0 : ∀ x ∈ p0, x.block < W.heap.size := by obtain ⟨m, hm⟩ := k0; exact DataW.trod_lt m _ _ _ hm
  obtain ⟨l, rfl, hits, hiwf, hlc, hlm⟩ : ∃ l : List Item3, l.length = len0 ∧ Its W W.heap.size a0 l ∧ ItWf l ∧ l.length ≤ cap0 ∧ cap0 ≤ maxLen := by
    obtain ⟨fuel, hf⟩ := h0
    obtain ⟨hlc, hlm, -, hcells⟩ := open3 (P := Try.prog) Try.underlying22 Try.underlying29 (by kernel_rfl) rfl rfl rfl (by kernel_rfl) (by kernel_rfl) (by kernel_rfl) hf
    by_cases hpos : 0 < len0
    · obtain ⟨b, off, hA1, hb, hc⟩ := hcells hpos
      obtain ⟨l, hl, hq⟩ := choose_list (d := noItem) (fun i x => (W.cell? ⟨b, off + i * 3, none⟩ = some (.bool x.1) ∧ W.cell? ⟨b, off + i * 3 + 1, none⟩ = some (.int .u64 x.2.1) ∧ W.cell? ⟨b, off + i * 3 + 2, none⟩ = some (.string x.2.2)) ∧ 0 ≤ x.2.1 ∧ x.2.1 < 18446744073709551616 ∧ x.2.2.size ≤ maxLen) len0 (by
        intro i hi
        obtain ⟨u0, u1, u2, n, y0, y1, y2, e0, e1, e2, g0, g1, g2⟩ := hc i hi
        obtain ⟨n0, hn0, -⟩ := DataW.trod_bool Try.underlying4 g0
        obtain ⟨n1, hn1, -, hw1⟩ := DataW.trod_int Try.underlying27 g1
        obtain ⟨n2, hn2, -, hw2⟩ := DataW.trod_string Try.underlying9 g2
        simp at hn0 hn1 hn2
        subst hn0 hn1 hn2
        exact ⟨(n0, n1, n2), ⟨e0, e1, e2⟩, (u64_wf hw1).1, (u64_wf hw1).2, hw2⟩)
      exact ⟨l, hl, fun _ => ⟨b, off, hA1, hb, fun j hj => (hq j (by omega)).1⟩, fun j hj => (hq j (by omega)).2, by omega, hlm⟩
    · obtain rfl : len0 = 0 := by omega
      exact ⟨[], rfl, fun h => by simp at h, fun j hj => by simp at hj, by simp, hlm⟩
  clear hA0 hval0
  refine (back_any a0 cap0 l W hits hiwf hlc hlm).mono fun e W' ⟨he, bel⟩ => ?_
  subst he
  exact ⟨_, rfl, _, _, _, [], _, [], hW', trodAll_mk1 (shut_bool Try.underlying4 _), (trodAll_cons_mk (Below.trod laidOut (by kernel_rfl) (of_decide_eq_true (by kernel_rfl)) k0 bel lt0) trodAll_mk0), rfl, bel.frame _, fun h => by cases h⟩

theorem over : Rows.wireBackRow.holds Try.pinned (OpenSpec.ofChange Rows.wireBackSpec) :=
  OpenClaim.holds_of_wide 3 Try.f3 rfl rfl rfl rfl rfl rfl rfl ⟨rfl, rfl, rfl, rfl, rfl⟩ rfl rfl rfl rfl rfl (by kernel_rfl) Try.func3 (by kernel_rfl)
    (of_decide_eq_true (by kernel_rfl)) (by unfold Func.isWrapper; first | (rw [if_pos (by decide +kernel)]; kernel_rfl) | (rw [if_neg (by decide +kernel)]; exact ⟨rfl, rfl⟩))
    (fun os started H enc _ => lifted os started H enc)

theorem proved : Rows.WireBackSaid := over
end Go.Proofs.Ytkdmhcllnpiakaa.wireBack
namespace Go.Proofs.Ytkdmhcllnpiakaa
theorem wireBack_holds : Rows.WireBackSaid := wireBack.proved
#print axioms wireBack_holds
end Go.Proofs.Ytkdmhcllnpiakaa
