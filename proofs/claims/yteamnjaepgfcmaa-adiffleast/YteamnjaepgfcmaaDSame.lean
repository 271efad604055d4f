/-
  tendrillaw10.same: true.
-/
import Derived.Test.YteamnjaepgfcmaaDDo
import Derived.Test.YteamnjaepgfcmaaDRef
import Derived.Test.YteamnjaepgfcmaaLawC
namespace Go.Proofs.Yteamnjaepgfcmaa
open Go.RowKit Go.Sort Go.Lib
set_option linter.unusedVariables false
def qA : List At := [({ data := #[97] }, { data := #[49] }), ({ data := #[98] }, { data := #[50] })]
def qB : List At := [({ data := #[98] }, { data := #[51] }), ({ data := #[99] }, { data := #[52] })]
def qD : List Ch := [({ data := #[97] }, { data := #[] }, true), ({ data := #[98] }, { data := #[51] }, false), ({ data := #[99] }, { data := #[52] }, false)]
theorem qD_is : diffD qA qB = qD := by decide +kernel
theorem qB_is : doL qA qD = qB := by decide +kernel
theorem short2 (a b c d : ByteArray) (ha : a.size ≤ 10000000) (hb : b.size ≤ 10000000) (hc : c.size ≤ 10000000) (hd : d.size ≤ 10000000) : Short [(a, b), (c, d)] := by
  intro x hx
  simp at hx
  rcases hx with rfl | rfl
  · exact ⟨ha, hb⟩
  · exact ⟨hc, hd⟩
theorem qA_short : Short qA := short2 _ _ _ _ (by decide) (by decide) (by decide) (by decide)
theorem qB_short : Short qB := short2 _ _ _ _ (by decide) (by decide) (by decide) (by decide)
set_option maxHeartbeats 4000000 in
theorem same10_any (w : World) : Calls Try.prog 26 #[] w (TrueB w) := by
  obtain ⟨w2, hw2⟩ : ∃ w2, w2 = (w.alloc (.cells #[.string { data := #[97] }, .string { data := #[49] }, .string { data := #[98] }, .string { data := #[50] }] 56)).alloc (.cells #[.string { data := #[98] }, .string { data := #[51] }, .string { data := #[99] }, .string { data := #[52] }] 56) := ⟨_, rfl⟩
  have hb1 : Below w.heap.size w (w.alloc (.cells #[.string { data := #[97] }, .string { data := #[49] }, .string { data := #[98] }, .string { data := #[50] }] 56)) := (Below.refl _ _).alloc (Nat.le_refl _) _
  have hb2 : Below (w.alloc (.cells #[.string { data := #[97] }, .string { data := #[49] }, .string { data := #[98] }, .string { data := #[50] }] 56)).heap.size (w.alloc (.cells #[.string { data := #[97] }, .string { data := #[49] }, .string { data := #[98] }, .string { data := #[50] }] 56)) w2 := by rw [hw2]; exact (Below.refl _ _).alloc (Nat.le_refl _) _
  have HB2 := Lib.hid (hb1.trans (hb2.mono hb1.size))
  have HA := Lib.hid (show TRow w2 w2.heap.size (some ⟨w.heap.size, 0, none⟩) qA from (lit2_row w ({ data := #[97] }, { data := #[49] }) ({ data := #[98] }, { data := #[50] })).up hb2)
  have HBr := Lib.hid (show TRow w2 w2.heap.size (some ⟨w.heap.size + 1, 0, none⟩) qB by
    rw [hw2]
    have := lit2_row (w.alloc (.cells #[.string { data := #[97] }, .string { data := #[49] }, .string { data := #[98] }, .string { data := #[50] }] 56)) ({ data := #[98] }, { data := #[51] }) ({ data := #[99] }, { data := #[52] })
    rw [World.size_alloc w] at this
    exact this)
  have C1 := Lib.hid (of_any _ _ 2 2 qA qB w2 HA.out HBr.out (by decide) (by decide) qA_short qB_short (by decide) (by decide) (by decide) (by decide) (fun h => by cases h) (fun h => by cases h))
  rw [qD_is] at C1
  have C1' : Hid (Calls Try.prog 27 #[.slice (some ⟨w.heap.size, 0, none⟩) 2 2, .slice (some ⟨w.heap.size + 1, 0, none⟩) 2 2] w2 (MadeX w2 qD)) := C1
  clear hb1 hb2 C1
  go_enter Try.func26, Try.ntmps26
  go_wp2_with fail
  rw [← hw2]
  clear hw2
  refine C1'.out.mono ?_
  rintro e w3 ⟨A3, c3, rfl, r3, -, -, hb3⟩
  have HB3 := Lib.hid (HB2.out.trans (hb3.mono HB2.out.size))
  have HA3 := Lib.hid (HA.out.up hb3); have HBr3 := Lib.hid (HBr.out.up hb3)
  have HX3 := Lib.hid r3
  obtain ⟨b0, off, hA, hbb, hcc⟩ := r3 (by decide)
  subst hA
  obtain ⟨x0, x1, x2⟩ := hcc 0 (by decide)
  obtain ⟨-, y1, -⟩ := hcc 1 (by decide)
  obtain ⟨z0, -, -⟩ := hcc 2 (by decide)
  simp only [qD, List.getElem_cons_zero, List.getElem_cons_succ, Nat.zero_mul, Nat.one_mul, Nat.add_zero] at x0 x1 x2 y1 z0
  have hq : ∀ w : World, Sem.run Try.prog (binOp .eql 46 (.agg #[.string { data := #[97] }, .string { data := #[] }, .bool true]) (.agg #[.string { data := #[97] }, .string { data := #[] }, .bool true])) w = .ok (.bool true) w := fun w => eqlC ({ data := #[97] }, { data := #[] }, true) ({ data := #[97] }, { data := #[] }, true) w
  have C2 := Lib.hid (names_any _ _ 2 2 qA qB w3 HA3.out HBr3.out (by decide) (by decide) qA_short qB_short (by decide) (by decide) (by decide) (by decide) (fun h => by cases h) (fun h => by cases h))
  rw [qD_is] at C2
  have C2' : Hid (Calls Try.prog 29 #[.slice (some ⟨w.heap.size, 0, none⟩) 2 2, .slice (some ⟨w.heap.size + 1, 0, none⟩) 2 2] w3 fun e w' => e = .returned (.int .i64 3) ∧ Below w3.heap.size w3 w') := C2
  have eqd : (Value.slice (some ⟨b0, off, none⟩) qD.length c3) = .slice (some ⟨b0, off, none⟩) 3 c3 := rfl
  rw [eqd]
  clear hcc hbb C2 C1' HA HBr hb3 eqd
  go_wp2_with fail
  refine C2'.out.mono ?_
  rintro e w4 ⟨rfl, hb4⟩
  have HB4 := Lib.hid (HB3.out.trans (hb4.mono HB3.out.size))
  have HBr4 := Lib.hid (HBr3.out.up hb4)
  have C3 := Lib.hid (do_any _ _ 2 c3 qA qD w4 (HA3.out.up hb4) (HX3.out.up hb4) (by decide) (by decide) (fun h => by cases h))
  rw [qB_is] at C3
  have C3' : Hid (Calls Try.prog 30 #[.slice (some ⟨w.heap.size, 0, none⟩) 2 2, .slice (some ⟨b0, off, none⟩) 3 c3] w4 (MadeN w4 qB)) := C3
  clear hb4 C2' C3 x0 x1 x2 y1 z0 hq HA3 HBr3 HX3
  go_wp2_with fail
  refine C3'.out.mono ?_
  rintro e w5 ⟨A5, c5, rfl, r5, -, -, -, hb5⟩
  have HB5 := Lib.hid (HB4.out.trans (hb5.mono HB4.out.size))
  have C4 := Lib.hid (attrs_any A5 _ c5 2 qB qB w5 r5 (HBr4.out.up hb5) (by decide) (by decide))
  rw [decide_eq_true rfl] at C4
  have C4' : Hid (Calls Try.prog 19 #[.slice A5 2 c5, .slice (some ⟨w.heap.size + 1, 0, none⟩) 2 2] w5 fun e w' => e = .returned (.bool true) ∧ ∃ q, w' = w5.drewN q) := C4
  have eqd : (Value.slice A5 qB.length c5) = .slice A5 2 c5 := rfl
  rw [eqd]
  clear C4 C3' r5 hb5 HBr4 eqd
  go_wp2_with fail
  refine C4'.out.mono ?_
  rintro e w6 ⟨rfl, q6, rfl⟩
  go_wp2_with fail
  go_ret
  exact ⟨rfl, HB5.out.trans (below_drewN _ _ _)⟩
end Go.Proofs.Yteamnjaepgfcmaa
