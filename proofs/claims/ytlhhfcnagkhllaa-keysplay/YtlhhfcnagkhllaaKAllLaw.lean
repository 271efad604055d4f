/-
  The law's all.
-/
import Derived.Test.YtlhhfcnagkhllaaKDrop
namespace Go.Proofs.Ytlhhfcnagkhllaa
open Go.RowKit Go.Maps
set_option linter.unusedVariables false

def ALRel (w : World) (es : List En) (i : Value) (wr : World) : Prop := ∃ k : Nat, k ≤ es.length ∧ i = .int .i64 k ∧ Below w.heap.size w wr
theorem look_in {es : List En} {q : En} (h : q ∈ es) : Look es q.1 q.2 true := ⟨fun _ => h, fun h0 => by cases h0⟩
set_option maxRecDepth 100000 in
set_option maxHeartbeats 4000000 in
theorem allLaw_any (base X bm : Nat) (A : Option Addr) (c : Nat) (es : List En) (w : World) (h : Ix w base X bm es) (he : EV w A c es) (hl : es.length ≤ 1000000) (hs : Sorted es) (hwf : ∀ p ∈ es, LWf p.1) :
    Calls Try.prog 16 #[.pointer (some ⟨X, 0, none⟩), .slice A es.length c] w fun e w' => e = .returned (.bool true) ∧ Below w.heap.size w w' := by
  have H := Lib.hid h; have HE := Lib.hid he; have HS := Lib.hid hs; have HF := Lib.hid hwf
  clear h he hs hwf
  go_enter Try.func16, Try.ntmps16
  go_wp2_with fail
  refine (all_any base X bm es w H.out hl HS.out).mono ?_
  rintro e w1 ⟨A1, c1, rfl, hr1, hc1, hb1⟩
  rw [List.length_map]
  have H1 := Lib.hid (H.out.below hb1); have HE1 := Lib.hid (HE.out.up hb1); have HR1 := Lib.hid hr1; have HB1 := Lib.hid hb1
  clear hr1 hb1
  have hd1 : ((es.length : Int) != (es.length : Int)) = false := by simp
  go_wp2_with fail
  refine (len_any base X bm es w1 H1.out).mono ?_
  rintro e w2 ⟨rfl, rfl⟩
  go_wp2_with fail
  go_loopw [25] (ALRel w1 es) (fun i _ => es.length - (intOf i).toNat)
  case atStart => exact ⟨0, by omega, rfl, Below.refl _ _⟩
  case round =>
    obtain ⟨k, hk, rfl, hbel⟩ := hrel
    by_cases hlt : k < es.length
    · obtain ⟨b, off, q, rfl, hb, hq, d1, d2, d3, d4⟩ := erow_at (HE1.out.row.below hbel) hlt
      obtain ⟨b2, off2, L, rfl, hb2, hL, f1, f2, f3⟩ := lrow_at (HR1.out.below hbel) (j := k) (by simpa using hlt)
      have e1 : L = q.1 := by rw [hL, hq]; simp
      subst e1
      have hqm : q ∈ es := by rw [hq]; exact List.getElem_mem _
      have hqw : LWf q.1 := HF.out _ hqm
      have HI := Lib.hid (get_any base X bm es q.1 q.2 true wr (H1.out.below hbel) hqw (look_in hqm))
      have hq1 := neq_is hqw hqw false (by simp [sameL])
      have HB := Lib.hid hbel
      clear hL hq hqm hqw hbel
      have hd2 : (q.2 != q.2) = false := by simp
      go_wp2_with fail
      refine HI.out.mono ?_
      rintro e w3 ⟨rfl, hb3⟩
      replace d1 := (hb3.cell (World.block_lt_of_cell? _ _ d1)).trans d1
      replace d2 := (hb3.cell (World.block_lt_of_cell? _ _ d2)).trans d2
      replace d3 := (hb3.cell (World.block_lt_of_cell? _ _ d3)).trans d3
      replace d4 := (hb3.cell (World.block_lt_of_cell? _ _ d4)).trans d4
      replace f1 := (hb3.cell (World.block_lt_of_cell? _ _ f1)).trans f1
      replace f2 := (hb3.cell (World.block_lt_of_cell? _ _ f2)).trans f2
      replace f3 := (hb3.cell (World.block_lt_of_cell? _ _ f3)).trans f3
      have HB3 := Lib.hid (HB.out.trans (hb3.mono HB.out.size))
      clear hb3
      go_wp2_with fail
      go_quiet (fail)
      go_wp2_with fail
      exact ⟨⟨k + 1, by omega, by go_num, HB3.out.trans (below_drewN _ _ _)⟩, by simp [intOf]; omega⟩
    · obtain rfl : k = es.length := by omega
      have HB := Lib.hid hbel
      clear hbel
      go_wp2_with fail
      go_ret
      exact ⟨rfl, HB1.out.trans (HB.out.mono HB1.out.size)⟩
end Go.Proofs.Ytlhhfcnagkhllaa
