/-
  tendrillaw14.right and the statements' own example.
-/
import Derived.Test.YtlkdklpglmglkaaMGone
import Derived.Test.YtlkdklpglmglkaaMFew
import Derived.Test.YtlkdklpglmglkaaFS13
import Derived.Test.YtlkdklpglmglkaaFLaw6
namespace Go.Proofs.Ytlkdklpglmglkaa
open Go.RowKit Go.Sort Go.Lib
set_option linter.unusedVariables false
set_option maxRecDepth 100000
def RightP (l : List Rw) : Prop := wtR l ≤ 200 ∧ errR l = 0
set_option maxHeartbeats 4000000 in
theorem right_any (A : Option Addr) (c : Nat) (l : List Rw) (w : World) (ha : RIn w A c l) : Calls Try.prog 34 #[.slice A l.length c] w (RPost (RightP l) w) := by
  have C := Lib.hid (fewX_any A c l 200 w ha.row ha.fit (by omega) ha.len)
  have HA := Lib.hid ha
  rw [show ((200 : Nat) : Int) = 200 from rfl] at C
  clear ha
  go_enter Try.func34, Try.ntmps34
  go_wp2_with fail
  refine C.out.mono ?_
  rintro e w1 ⟨b, rfl, hg, hb, hb1⟩
  cases b with
  | false =>
    have HN := Lib.hid (show ¬ RightP l from fun q => by have := hb.2 q.1; cases this)
    clear hg hb C
    go_wp2_with fail
    go_ret
    exact ⟨false, rfl, ⟨(fun h => by cases h), fun h => absurd h HN.out⟩, hb1⟩
  | true =>
    obtain ⟨G, hl⟩ := hg rfl
    have HW := Lib.hid (hb.1 rfl)
    have HB1 := Lib.hid hb1
    have CR := Lib.hid (rcheck_any A c l w1 (HA.out.row.up hb1) G (by omega))
    clear hg hb hb1 C
    go_wp2_with fail
    refine CR.out.mono ?_
    rintro e w2 ⟨rfl, hb2⟩
    have HB2 := Lib.hid (HB1.out.trans (hb2.mono HB1.out.size))
    obtain ⟨er, her⟩ : ∃ e, e = errR l := ⟨_, rfl⟩
    rw [← her]
    have HER := Lib.hid her
    clear hb2 her CR G
    by_cases hz : er = 0
    · have hz' : (er == 0) = true := by simpa using hz
      have HZ := Lib.hid hz
      clear hz
      go_wp2_with fail
      go_ret
      exact ⟨true, ret_bool (by simp), ⟨fun _ => ⟨HW.out, by rw [← HER.out]; exact HZ.out⟩, fun _ => rfl⟩, HB2.out⟩
    · have hz' : (er == 0) = false := by simpa using hz
      have HZ := Lib.hid hz
      clear hz
      go_wp2_with fail
      go_ret
      exact ⟨false, ret_bool (by simp), ⟨(fun h => by cases h), fun h => absurd (by rw [HER.out]; exact h.2) HZ.out⟩, HB2.out⟩
/-! The example: two kids, and four. -/
theorem rlit {w : World} (rs : List Rw) (h : ∀ r ∈ rs, r.as = []) (C : Array Value) (hC : C.toList = rws (rs.map (fun r => (r, (⟨none, 0⟩ : AV))))) (B : Nat) (hB : B = w.heap.size) : RRow (w.alloc (.cells C 56)) (w.heap.size + 1) (some ⟨B, 0, none⟩) rs := by
  subst hB
  intro h0
  refine ⟨w.heap.size, 0, fun _ => ⟨none, 0⟩, rfl, by omega, fun j hj => ?_⟩
  have hj' : j < (rs.map (fun r => (r, (⟨none, 0⟩ : AV)))).length := by simpa using hj
  have key : ∀ r, r < 6 → (w.alloc (.cells C 56)).cell? ⟨w.heap.size, 0 + j * 6 + r, none⟩ = (rCells rs[j] ⟨none, 0⟩)[r]? := fun r hr => by
    have e1 : (w.alloc (.cells C 56)).cell? ⟨w.heap.size, 0 + j * 6 + r, none⟩ = C[0 + j * 6 + r]? := cell_of_row _ _ _ _ _ (0, 0) (heap_alloc_new w _)
    rw [e1, ← Array.getElem?_toList, hC, Nat.zero_add, rws_at _ j hj' r hr]
    simp
  have ha := h rs[j] (List.getElem_mem _)
  exact ⟨⟨key 0 (by omega), key 1 (by omega), key 2 (by omega), key 3 (by omega), key 4 (by omega), key 5 (by omega)⟩, ⟨by rw [ha]; exact TRow.nil _ _ _, by rw [ha]; exact Nat.le_refl _, by simp [maxLen], fun _ => rfl⟩⟩
def exUl : Tr := .mk sUl noB noB [] []
def exTA : Tr := .mk sP noB noB [] [exLi, exLi]
def exTB : Tr := .mk sP noB noB [] [exLi, exUl, exLi, exLi]
def exA : List Rw := [⟨0, 0, sP, noB, noB, []⟩, ⟨0, 1, sLi, noB, noB, []⟩, ⟨0, 1, sLi, noB, noB, []⟩]
def exB : List Rw := [⟨0, 0, sP, noB, noB, []⟩, ⟨0, 1, sLi, noB, noB, []⟩, ⟨0, 1, sUl, noB, noB, []⟩, ⟨0, 1, sLi, noB, noB, []⟩, ⟨0, 1, sLi, noB, noB, []⟩]
theorem exA_rows : rowsT exTA 0 0 = exA := by simp [exTA, exLi, exA, rowsT, rowsK]
theorem exB_rows : rowsT exTB 0 0 = exB := by simp [exTB, exLi, exUl, exB, rowsT, rowsK]
theorem al_ul : aloneT exUl = 0 := alone_ex _ _ _ _ (by kernel_rfl) (by decide) (by decide)
theorem al_ta : aloneT exTA = 0 := alone_ex _ _ _ _ (by kernel_rfl) (by decide) (by decide)
theorem al_tb : aloneT exTB = 0 := alone_ex _ _ _ _ (by kernel_rfl) (by decide) (by decide)
theorem leaf_seen {t : Tr} (ha : aloneT t = 0) (hk : t.key = noB) (hs : t.kids = []) (d : Nat) (u : Int) (l : List It) (hd : d ≤ 10) (hl : l.length < 10) : visitL aloneT t d u l = (l ++ [⟨t, d, u⟩], 0) := by
  rw [visitL_eq, if_pos (nodeF_ok (by omega) (by simp only; omega) ha (fun h => h.2.1 hk))]
  rw [hs]
  simp [visitK]
theorem seen_ta : (seenL aloneT exTA).2 = 0 := by
  unfold seenL
  rw [visitL_eq, if_pos (nodeF_ok (by simp) (by simp) al_ta (fun h => by simp at h))]
  show (visitK aloneT [exLi, exLi] 2 0 [⟨exTA, 1, -1⟩]).2 = _
  rw [visitK, leaf_seen al_li rfl rfl 2 _ _ (by omega) (by simp), if_pos rfl, visitK, leaf_seen al_li rfl rfl 2 _ _ (by omega) (by simp), if_pos rfl, visitK]
theorem seen_tb : (seenL aloneT exTB).2 = 0 := by
  unfold seenL
  rw [visitL_eq, if_pos (nodeF_ok (by simp) (by simp) al_tb (fun h => by simp at h))]
  show (visitK aloneT [exLi, exUl, exLi, exLi] 2 0 [⟨exTB, 1, -1⟩]).2 = _
  rw [visitK, leaf_seen al_li rfl rfl 2 _ _ (by omega) (by simp), if_pos rfl, visitK, leaf_seen al_ul rfl rfl 2 _ _ (by omega) (by simp), if_pos rfl, visitK, leaf_seen al_li rfl rfl 2 _ _ (by omega) (by simp), if_pos rfl, visitK, leaf_seen al_li rfl rfl 2 _ _ (by omega) (by simp), if_pos rfl, visitK]
theorem exA_err : errR exA = 0 := by
  rw [errR_ok (by rw [← exA_rows]; exact form_rows exTA) (by simp [exA]), show treeR exA 1 = exTA by rw [← exA_rows]; exact tree_rows exTA]
  exact seen_ta
theorem exB_err : errR exB = 0 := by
  rw [errR_ok (by rw [← exB_rows]; exact form_rows exTB) (by simp [exB]), show treeR exB 1 = exTB by rw [← exB_rows]; exact tree_rows exTB]
  exact seen_tb
theorem good_ea : GoodRs exA := by
  intro r hr
  simp [exA] at hr
  rcases hr with rfl | rfl | rfl <;> exact ⟨by decide, by decide, by decide, by decide, short_nil⟩
theorem good_eb : GoodRs exB := by
  intro r hr
  simp [exB] at hr
  rcases hr with rfl | rfl | rfl | rfl | rfl <;> exact ⟨by decide, by decide, by decide, by decide, short_nil⟩
theorem mt_ab : mtL exA exB 5 = [1, 2, 0, 3, 0] := by decide +kernel
theorem mt_ab2 : mtL exA exB exB.length = [1, 2, 0, 3, 0] := mt_ab
theorem ex_pairs : pairsL exA exB = [1, 2, 0, 3, 0] := by rw [pairsL, if_pos ⟨exA_err, exB_err⟩, mt_ab2]; rfl
theorem ex_fresh : freshL exA exB = [3, 5] := by rw [freshL, if_pos ⟨exA_err, exB_err⟩]; have : freshTo exA exB exB.length = [3, 5] := by decide +kernel
                                                 rw [this]; rfl
theorem ex_gone : goneL exB exA = [3, 5] := by rw [goneL, if_pos ⟨exB_err, exA_err⟩]; have : goneTo exB exA exB.length = [3, 5] := by decide +kernel
                                               rw [this]; rfl
set_option maxHeartbeats 8000000 in
theorem same14_any (w : World) : Calls Try.prog 30 #[] w (TrueB w) := by
  have nf : ¬ (False : Prop) := fun h => h
  obtain ⟨w0, hw0⟩ : ∃ w0, w0 = w.alloc (.cells #[.int .i64 0, .int .i64 0, .string ⟨#[112]⟩, .string ⟨#[]⟩, .string ⟨#[]⟩, .slice none 0 0, .int .i64 0, .int .i64 1, .string ⟨#[108, 105]⟩, .string ⟨#[]⟩, .string ⟨#[]⟩, .slice none 0 0, .int .i64 0, .int .i64 1, .string ⟨#[108, 105]⟩, .string ⟨#[]⟩, .string ⟨#[]⟩, .slice none 0 0] 56) := ⟨_, rfl⟩
  obtain ⟨w1, hw1⟩ : ∃ w1, w1 = w0.alloc (.cells #[.int .i64 0, .int .i64 0, .string ⟨#[112]⟩, .string ⟨#[]⟩, .string ⟨#[]⟩, .slice none 0 0, .int .i64 0, .int .i64 1, .string ⟨#[108, 105]⟩, .string ⟨#[]⟩, .string ⟨#[]⟩, .slice none 0 0, .int .i64 0, .int .i64 1, .string ⟨#[117, 108]⟩, .string ⟨#[]⟩, .string ⟨#[]⟩, .slice none 0 0, .int .i64 0, .int .i64 1, .string ⟨#[108, 105]⟩, .string ⟨#[]⟩, .string ⟨#[]⟩, .slice none 0 0, .int .i64 0, .int .i64 1, .string ⟨#[108, 105]⟩, .string ⟨#[]⟩, .string ⟨#[]⟩, .slice none 0 0] 56) := ⟨_, rfl⟩
  have hs0 : w0.heap.size = w.heap.size + 1 := by rw [hw0]; simp
  have hb0 : Below w.heap.size w w0 := by rw [hw0]; exact (Below.refl _ _).alloc (Nat.le_refl _) _
  have hb01 : Below w0.heap.size w0 w1 := by rw [hw1]; exact (Below.refl _ _).alloc (Nat.le_refl _) _
  have hb1 : Below w.heap.size w w1 := hb0.trans (hb01.mono hb0.size)
  have ra0 : RRow w0 w0.heap.size (some ⟨w.heap.size, 0, none⟩) exA := by
    rw [hs0, hw0]
    exact rlit exA (fun r hr => by simp [exA] at hr; rcases hr with rfl | rfl | rfl <;> rfl) _ rfl _ rfl
  have rb1 : RRow w1 w1.heap.size (some ⟨w.heap.size + 1, 0, none⟩) exB := by
    have hs1 : w1.heap.size = w0.heap.size + 1 := by rw [hw1]; simp
    rw [hs1, hw1]
    exact rlit exB (fun r hr => by simp [exB] at hr; rcases hr with rfl | rfl | rfl | rfl | rfl <;> rfl) _ rfl _ hs0.symm
  have HRA := Lib.hid (ra0.up hb01); have HRB := Lib.hid rb1; have HB1 := Lib.hid hb1
  have C1 := Lib.hid (pairs_any (some ⟨w.heap.size, 0, none⟩) (some ⟨w.heap.size + 1, 0, none⟩) 3 5 exA exB w1 HRA.out HRB.out good_ea good_eb (by decide) (by decide) (by decide) (by decide))
  rw [ex_pairs, show exA.length = 3 from rfl, show exB.length = 5 from rfl] at C1
  have HW := Lib.hid (show (w.alloc (.cells #[.int .i64 0, .int .i64 0, .string ⟨#[112]⟩, .string ⟨#[]⟩, .string ⟨#[]⟩, .slice none 0 0, .int .i64 0, .int .i64 1, .string ⟨#[108, 105]⟩, .string ⟨#[]⟩, .string ⟨#[]⟩, .slice none 0 0, .int .i64 0, .int .i64 1, .string ⟨#[108, 105]⟩, .string ⟨#[]⟩, .string ⟨#[]⟩, .slice none 0 0] 56)).alloc (.cells #[.int .i64 0, .int .i64 0, .string ⟨#[112]⟩, .string ⟨#[]⟩, .string ⟨#[]⟩, .slice none 0 0, .int .i64 0, .int .i64 1, .string ⟨#[108, 105]⟩, .string ⟨#[]⟩, .string ⟨#[]⟩, .slice none 0 0, .int .i64 0, .int .i64 1, .string ⟨#[117, 108]⟩, .string ⟨#[]⟩, .string ⟨#[]⟩, .slice none 0 0, .int .i64 0, .int .i64 1, .string ⟨#[108, 105]⟩, .string ⟨#[]⟩, .string ⟨#[]⟩, .slice none 0 0, .int .i64 0, .int .i64 1, .string ⟨#[108, 105]⟩, .string ⟨#[]⟩, .string ⟨#[]⟩, .slice none 0 0] 56) = w1 by rw [hw1, hw0])
  clear hw0 hw1 hs0 hb0 hb01 hb1 ra0 rb1
  go_enter Try.func30, Try.ntmps30
  go_upto_region 3 with (fail)
  rw [HW.out]
  go_wp2_with fail
  refine C1.out.mono ?_
  rintro e w2 ⟨A2, c2, rfl, hr2, -, -, -, hb2⟩
  have hba : Below w2.heap.size w2 (w2.alloc (.cells #[.int .i64 1, .int .i64 2, .int .i64 0, .int .i64 3, .int .i64 0] 3)) := (Below.refl _ _).alloc (Nat.le_refl _) _
  have CI := Lib.hid (I.ints_any A2 (some ⟨w2.heap.size, 0, none⟩) c2 5 [1, 2, 0, 3, 0] (w2.alloc (.cells #[.int .i64 1, .int .i64 2, .int .i64 0, .int .i64 3, .int .i64 0] 3)) ((hr2.below hba).mono hba.size) ((I.row_lit (w := w2) 3 [1, 2, 0, 3, 0]).mono (by simp)) (by decide))
  have HB2 := Lib.hid (hb2.trans (hba.mono hb2.size))
  rw [show ([1, 2, 0, 3, 0] : List Int).length = 5 from rfl] at CI ⊢
  clear hr2 hb2 hba C1
  go_wp2_with fail
  refine CI.out.mono ?_
  rintro e w3 ⟨rfl, hb3⟩
  have HB3 := Lib.hid (HB2.out.trans (hb3.mono HB2.out.size))
  have C2 := Lib.hid (fresh_any (some ⟨w.heap.size, 0, none⟩) (some ⟨w.heap.size + 1, 0, none⟩) 3 5 exA exB w3 (HRA.out.up HB3.out) (HRB.out.up HB3.out) good_ea good_eb (by decide) (by decide) (by decide) (by decide))
  rw [ex_fresh, show exA.length = 3 from rfl, show exB.length = 5 from rfl] at C2
  clear hb3 CI
  go_wp2_with fail
  refine C2.out.mono ?_
  rintro e w4 ⟨A4, c4, rfl, hr4, -, -, -, hb4⟩
  have hba : Below w4.heap.size w4 (w4.alloc (.cells #[.int .i64 3, .int .i64 5] 3)) := (Below.refl _ _).alloc (Nat.le_refl _) _
  have CI := Lib.hid (I.ints_any A4 (some ⟨w4.heap.size, 0, none⟩) c4 2 [3, 5] (w4.alloc (.cells #[.int .i64 3, .int .i64 5] 3)) ((hr4.below hba).mono hba.size) ((I.row_lit (w := w4) 3 [3, 5]).mono (by simp)) (by decide))
  have HB4 := Lib.hid (HB3.out.trans ((hb4.trans (hba.mono hb4.size)).mono HB3.out.size))
  rw [show ([3, 5] : List Int).length = 2 from rfl] at CI ⊢
  clear hr4 hb4 hba C2
  go_wp2_with fail
  refine CI.out.mono ?_
  rintro e w5 ⟨rfl, hb5⟩
  have HB5 := Lib.hid (HB4.out.trans (hb5.mono HB4.out.size))
  have C3 := Lib.hid (gone_any (some ⟨w.heap.size + 1, 0, none⟩) (some ⟨w.heap.size, 0, none⟩) 5 3 exB exA w5 (HRB.out.up HB5.out) (HRA.out.up HB5.out) good_eb good_ea (by decide) (by decide) (by decide) (by decide))
  rw [ex_gone, show exA.length = 3 from rfl, show exB.length = 5 from rfl] at C3
  clear hb5 CI
  go_wp2_with fail
  refine C3.out.mono ?_
  rintro e w6 ⟨A6, c6, rfl, hr6, -, -, -, hb6⟩
  have hba : Below w6.heap.size w6 (w6.alloc (.cells #[.int .i64 3, .int .i64 5] 3)) := (Below.refl _ _).alloc (Nat.le_refl _) _
  have CI := Lib.hid (I.ints_any A6 (some ⟨w6.heap.size, 0, none⟩) c6 2 [3, 5] (w6.alloc (.cells #[.int .i64 3, .int .i64 5] 3)) ((hr6.below hba).mono hba.size) ((I.row_lit (w := w6) 3 [3, 5]).mono (by simp)) (by decide))
  have HB6 := Lib.hid (HB5.out.trans ((hb6.trans (hba.mono hb6.size)).mono HB5.out.size))
  rw [show ([3, 5] : List Int).length = 2 from rfl] at CI ⊢
  clear hr6 hb6 hba C3
  go_wp2_with fail
  refine CI.out.mono ?_
  rintro e w7 ⟨rfl, hb7⟩
  have HB7 := Lib.hid (HB6.out.trans (hb7.mono HB6.out.size))
  clear hb7 CI
  go_wp2_with fail
  go_ret
  exact ⟨ret_bool (by simp), HB1.out.trans (HB7.out.mono HB1.out.size)⟩
end Go.Proofs.Ytlkdklpglmglkaa
