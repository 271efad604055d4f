/-
  The statements' own example: four nodes (tendrillaw13.same).
-/
import Derived.Test.YtlkdklpglmglkaaFApp
import Derived.Test.YtlkdklpglmglkaaFSpan
import Derived.Test.YtlkdklpglmglkaaNodes
import Derived.Deep.DeepCutAuto
namespace Go.Proofs.Ytlkdklpglmglkaa
open Go.RowKit Go.Sort Go.Lib
set_option linter.unusedVariables false
set_option maxRecDepth 100000
theorem leaf_tree (w : World) (B : Nat) (a b c : ByteArray) : TreeAt w B (.mk a b c [] []) leafNV := .mk (fun _ => leafNV) (TRow.nil _ _ _) (Nat.le_refl _) (by simp [leafNV, maxLen]) (fun _ => rfl) (Nat.le_refl _) (by simp [leafNV, maxLen]) (fun _ => rfl) (fun h => by simp [Tr.kids] at h) (fun j h => by simp [Tr.kids] at h)
theorem short_nil : Short [] := fun x hx => by simp at hx
theorem attE_nil : attE [] = 0 := (attE_of (a := 0) (e := 0) (.inr ⟨rfl, rfl, fun j hj => by simp at hj⟩)).symm
theorem alone_ex (a b c : ByteArray) (ks : List Tr) (ha : wfB tagB a = true) (hb : b.size ≤ 65536) (hc : c.size ≤ 65536) : aloneT (.mk a b c [] ks) = 0 := by
  rw [alone_att (t := .mk a b c [] ks) ha hb hc]; exact attE_nil
def sP : ByteArray := ⟨#[112]⟩
def sLi : ByteArray := ⟨#[108, 105]⟩
def sUl : ByteArray := ⟨#[117, 108]⟩
def exLi : Tr := .mk sLi noB noB [] []
def exU : Tr := .mk sUl noB noB [] [exLi]
def exT : Tr := .mk sP noB noB [] [exLi, exU]
def exR : List Rw := [⟨0, 0, sP, noB, noB, []⟩, ⟨0, 1, sLi, noB, noB, []⟩, ⟨0, 1, sUl, noB, noB, []⟩, ⟨0, 3, sLi, noB, noB, []⟩]
theorem al_li : aloneT exLi = 0 := alone_ex _ _ _ _ (by kernel_rfl) (by decide) (by decide)
theorem al_u : aloneT exU = 0 := alone_ex _ _ _ _ (by kernel_rfl) (by decide) (by decide)
theorem al_t : aloneT exT = 0 := alone_ex _ _ _ _ (by kernel_rfl) (by decide) (by decide)
theorem exR_rows : rowsT exT 0 0 = exR := by
  simp [exT, exU, exLi, exR, rowsT, rowsK, sizeT, sizeK]
theorem exR_tree : treeR exR 1 = exT := by rw [← exR_rows]; exact tree_rows exT
theorem seen_ex : (seenL aloneT exT).2 = 0 := by
  unfold seenL
  rw [visitL_eq, if_pos (nodeF_ok (by simp) (by simp) al_t (fun h => by simp at h))]
  have k1 : ∀ (d : Nat) (u : Int) (l : List It), d ≤ 10 → l.length < 10 → visitL aloneT exLi d u l = (l ++ [⟨exLi, d, u⟩], 0) := by
    intro d u l hd hl
    rw [visitL_eq, if_pos (nodeF_ok (by omega) (by simp only; omega) al_li (fun h => h.2.1 rfl))]
    simp [exLi, Tr.kids, visitK]
  have k2 : ∀ (l : List It), l.length < 8 → visitL aloneT exU 2 0 l = (l ++ [⟨exU, 2, 0⟩] ++ [⟨exLi, 3, l.length⟩], 0) := by
    intro l hl
    rw [visitL_eq, if_pos (nodeF_ok (by omega) (by simp) al_u (fun h => h.2.1 rfl))]
    show visitK aloneT [exLi] 3 l.length (l ++ [⟨exU, 2, 0⟩]) = _
    rw [visitK, k1 3 _ _ (by omega) (by simp; omega), if_pos rfl, visitK]
  show (visitK aloneT [exLi, exU] 2 0 [⟨exT, 1, -1⟩]).2 = _
  rw [visitK, k1 2 _ _ (by omega) (by simp), if_pos rfl, visitK, k2 _ (by simp), if_pos rfl, visitK]
theorem good_li : GoodT exLi := .mk (by decide) (by decide) (by decide) (by decide) short_nil (by decide) (fun k hk => by simp [exLi, Tr.kids] at hk)
theorem good_u : GoodT exU := .mk (by decide) (by decide) (by decide) (by decide) short_nil (by decide) (fun k hk => by simp [exU, Tr.kids] at hk; subst hk; exact good_li)
theorem good_t : GoodT exT := .mk (by decide) (by decide) (by decide) (by decide) short_nil (by decide) (fun k hk => by
  simp [exT, Tr.kids] at hk
  rcases hk with rfl | rfl
  · exact good_li
  · exact good_u)
theorem good_r : GoodRs exR := by
  intro r hr
  simp [exR] at hr
  rcases hr with rfl | rfl | rfl | rfl <;> exact ⟨by decide, by decide, by decide, by decide, short_nil⟩
theorem exR_form : FormTo exR exR.length := by rw [← exR_rows]; exact form_rows exT
theorem exR_err : errR exR = 0 := by rw [errR_ok exR_form (by simp [exR]), exR_tree]; exact seen_ex
theorem exR_errO : errO exR = 0 := by rw [errO_ne (by simp [exR])]; exact exR_err
theorem exR_spans : spansR exR = [4, 4, 1, 2, 1] := by
  rw [spansR, if_pos exR_err]
  have s1 : sizeT (treeR exR 1) = 4 := by rw [exR_tree]; simp [exT, exU, exLi, sizeT, sizeK]
  have s2 : sizeT (treeR exR 2) = 1 := by
    rw [show treeR exR 2 = exLi from rfl]; simp [exLi, sizeT, sizeK]
  have s3 : sizeT (treeR exR 3) = 2 := by
    rw [show treeR exR 3 = exU from rfl]; simp [exU, exLi, sizeT, sizeK]
  have s4 : sizeT (treeR exR 4) = 1 := by
    rw [show treeR exR 4 = exLi from rfl]; simp [exLi, sizeT, sizeK]
  have s0 : spanAt exR 0 0 = 4 := by rw [spanAt_end exR_form (by simp [exR]), spanTo_zero]; rfl
  have h1 : spanAt exR 0 1 = 4 := by rw [spanAt, if_pos (by omega), s1]
  have h2 : spanAt exR 0 2 = 1 := by rw [spanAt, if_pos (by omega), s2]
  have h3 : spanAt exR 0 3 = 2 := by rw [spanAt, if_pos (by omega), s3]
  have h4 : spanAt exR 0 4 = 1 := by rw [spanAt, if_pos (by omega), s4]
  unfold spansL spL
  rw [show exR.length + 1 = 5 from rfl]
  simp [List.range, List.range.loop, s0, h1, h2, h3, h4]
def exW (w : World) : World := ((w.alloc (.cells #[.string ⟨#[108, 105]⟩, .string ⟨#[]⟩, .string ⟨#[]⟩, .slice none 0 0, .slice none 0 0] 25)).alloc (.cells #[.string ⟨#[108, 105]⟩, .string ⟨#[]⟩, .string ⟨#[]⟩, .slice none 0 0, .slice none 0 0, .string ⟨#[117, 108]⟩, .string ⟨#[]⟩, .string ⟨#[]⟩, .slice none 0 0, .slice (some ⟨w.heap.size, 0, none⟩) 1 1] 25)).alloc (.cells #[.string ⟨#[112]⟩, .string ⟨#[]⟩, .string ⟨#[]⟩, .slice none 0 0, .slice (some ⟨w.heap.size + 1, 0, none⟩) 2 2] 25)
abbrev exNV (w : World) : NV := ⟨none, 0, some ⟨w.heap.size + 1, 0, none⟩, 2⟩
theorem exW_cells (w : World) : KidCells (exW w) w.heap.size 0 exLi leafNV ∧ KidCells (exW w) (w.heap.size + 1) 0 exLi leafNV ∧ KidCells (exW w) (w.heap.size + 1) 5 exU ⟨none, 0, some ⟨w.heap.size, 0, none⟩, 1⟩ ∧ KidCells (exW w) (w.heap.size + 1 + 1) 0 exT (exNV w) := by
  obtain ⟨C0, hC0⟩ : ∃ C : Array Value, C = #[.string ⟨#[108, 105]⟩, .string ⟨#[]⟩, .string ⟨#[]⟩, .slice none 0 0, .slice none 0 0] := ⟨_, rfl⟩
  obtain ⟨C1, hC1⟩ : ∃ C : Array Value, C = #[.string ⟨#[108, 105]⟩, .string ⟨#[]⟩, .string ⟨#[]⟩, .slice none 0 0, .slice none 0 0, .string ⟨#[117, 108]⟩, .string ⟨#[]⟩, .string ⟨#[]⟩, .slice none 0 0, .slice (some ⟨w.heap.size, 0, none⟩) 1 1] := ⟨_, rfl⟩
  obtain ⟨C2, hC2⟩ : ∃ C : Array Value, C = #[.string ⟨#[112]⟩, .string ⟨#[]⟩, .string ⟨#[]⟩, .slice none 0 0, .slice (some ⟨w.heap.size + 1, 0, none⟩) 2 2] := ⟨_, rfl⟩
  have hW : exW w = ((w.alloc (.cells C0 25)).alloc (.cells C1 25)).alloc (.cells C2 25) := by unfold exW; rw [hC0, hC1, hC2]
  have e0 : ∀ j u, C0[j]? = some u → (exW w).cell? ⟨w.heap.size, j, none⟩ = some u := fun j u h => by
    rw [hW]
    exact cell_push (cell_push ((cell_of_row _ _ _ _ _ (0, 0) (heap_alloc_new w _)).trans h))
  have e1 : ∀ j u, C1[j]? = some u → (exW w).cell? ⟨w.heap.size + 1, j, none⟩ = some u := fun j u h => by
    rw [hW, show w.heap.size + 1 = (w.alloc (.cells C0 25)).heap.size by simp]
    exact cell_push ((cell_of_row _ _ _ _ _ (0, 0) (heap_alloc_new (w.alloc (.cells C0 25)) _)).trans h)
  have e2 : ∀ j u, C2[j]? = some u → (exW w).cell? ⟨w.heap.size + 1 + 1, j, none⟩ = some u := fun j u h => by
    rw [hW, show w.heap.size + 1 + 1 = ((w.alloc (.cells C0 25)).alloc (.cells C1 25)).heap.size by simp]
    exact (cell_of_row _ _ _ _ _ (0, 0) (heap_alloc_new ((w.alloc (.cells C0 25)).alloc (.cells C1 25)) _)).trans h
  exact ⟨⟨e0 0 _ (by rw [hC0]; rfl), e0 1 _ (by rw [hC0]; rfl), e0 2 _ (by rw [hC0]; rfl), e0 3 _ (by rw [hC0]; rfl), e0 4 _ (by rw [hC0]; rfl)⟩, ⟨e1 0 _ (by rw [hC1]; rfl), e1 1 _ (by rw [hC1]; rfl), e1 2 _ (by rw [hC1]; rfl), e1 3 _ (by rw [hC1]; rfl), e1 4 _ (by rw [hC1]; rfl)⟩, ⟨e1 5 _ (by rw [hC1]; rfl), e1 6 _ (by rw [hC1]; rfl), e1 7 _ (by rw [hC1]; rfl), e1 8 _ (by rw [hC1]; rfl), e1 9 _ (by rw [hC1]; rfl)⟩, ⟨e2 0 _ (by rw [hC2]; rfl), e2 1 _ (by rw [hC2]; rfl), e2 2 _ (by rw [hC2]; rfl), e2 3 _ (by rw [hC2]; rfl), e2 4 _ (by rw [hC2]; rfl)⟩⟩
theorem ex_tree {w : World} {B b0 b1 : Nat} (h0 : b0 < B) (h1 : b1 < B) (k0 : KidCells w b0 0 exLi leafNV) (k1 : KidCells w b1 0 exLi leafNV) (k2 : KidCells w b1 5 exU ⟨none, 0, some ⟨b0, 0, none⟩, 1⟩) : TreeAt w B exT ⟨none, 0, some ⟨b1, 0, none⟩, 2⟩ := by
  have hu : TreeAt w B exU ⟨none, 0, some ⟨b0, 0, none⟩, 1⟩ := by
    refine .mk (fun _ => leafNV) (TRow.nil _ _ _) (Nat.le_refl _) (by simp [maxLen]) (fun _ => rfl) (Nat.le_refl _) (by simp [maxLen]) (fun h => by cases h) (fun _ => ⟨b0, 0, rfl, h0, fun j hj => ?_⟩) (fun j hj => ?_)
    · match j, hj with
      | 0, _ => exact k0
    · match j, hj with
      | 0, _ => exact leaf_tree _ _ _ _ _
  refine .mk (fun j => if j = 0 then leafNV else ⟨none, 0, some ⟨b0, 0, none⟩, 1⟩) (TRow.nil _ _ _) (Nat.le_refl _) (by simp [maxLen]) (fun _ => rfl) (Nat.le_refl _) (by simp [maxLen]) (fun h => by cases h) (fun _ => ⟨b1, 0, rfl, h1, fun j hj => ?_⟩) (fun j hj => ?_)
  · match j, hj with
    | 0, _ => exact k1
    | 1, _ => exact k2
  · match j, hj with
    | 0, _ => exact leaf_tree _ _ _ _ _
    | 1, _ => exact hu
theorem exW_out {w w1 : World} (h : RowKit.Hid (w1 = exW w)) : ((w.alloc (.cells #[.string ⟨#[108, 105]⟩, .string ⟨#[]⟩, .string ⟨#[]⟩, .slice none 0 0, .slice none 0 0] 25)).alloc (.cells #[.string ⟨#[108, 105]⟩, .string ⟨#[]⟩, .string ⟨#[]⟩, .slice none 0 0, .slice none 0 0, .string ⟨#[117, 108]⟩, .string ⟨#[]⟩, .string ⟨#[]⟩, .slice none 0 0, .slice (some ⟨w.heap.size, 0, none⟩) 1 1] 25)).alloc (.cells #[.string ⟨#[112]⟩, .string ⟨#[]⟩, .string ⟨#[]⟩, .slice none 0 0, .slice (some ⟨w.heap.size + 1, 0, none⟩) 2 2] 25) = w1 := h.out.symm
set_option maxHeartbeats 8000000 in
theorem same13_any (w : World) : Calls Try.prog 11 #[] w (TrueB w) := by
  have nf : ¬ (False : Prop) := fun h => h
  obtain ⟨w1, hw1⟩ : ∃ w1, w1 = exW w := ⟨_, rfl⟩
  have hb1 : Below w.heap.size w w1 := by
    rw [hw1]; unfold exW
    exact (((Below.refl _ w).alloc (Nat.le_refl _) _).alloc (by simp) _).alloc (by simp; omega) _
  obtain ⟨k0, k1, k2, kb⟩ := exW_cells w
  rw [← hw1] at k0 k1 k2 kb
  have hlt : w.heap.size + 1 + 1 < w1.heap.size := kb.block_lt
  have ht1 : TreeAt w1 w1.heap.size exT (exNV w) := ex_tree (by omega) (by omega) k0 k1 k2
  have C1 := Lib.hid (frows_any exT (exNV w) w1 ht1 good_t (by simp [exT, exU, exLi, sizeT, sizeK]))
  have HW := Lib.hid hw1; have HB1 := Lib.hid hb1; have HT1 := Lib.hid ht1; have HKB := Lib.hid kb
  have HLT := Lib.hid hlt
  rw [show nodeV exT (exNV w) = .agg #[.string ⟨#[112]⟩, .string ⟨#[]⟩, .string ⟨#[]⟩, .slice none 0 0, .slice (some ⟨w.heap.size + 1, 0, none⟩) 2 2] from rfl] at C1
  clear hw1 hb1 ht1 k0 k1 k2 kb hlt
  go_enter Try.func11, Try.ntmps11
  go_wp2_with fail
  rw [exW_out HW]
  refine C1.out.mono ?_
  rintro e w2 (⟨hne, _⟩ | ⟨_, A, c, rfl, hr2, hc, hb2⟩)
  · exact absurd seen_ex hne
  · rw [exR_rows] at hr2 hc ⊢
    have HR2 := Lib.hid hr2
    have HC := Lib.hid hc
    have HB2 := Lib.hid (HB1.out.trans (hb2.mono HB1.out.size))
    have hk2 := kept_below hb2 (fun _ => False)
    have HT2 := Lib.hid (HT1.out.up hb2); have HKB2 := Lib.hid (HKB.out.kept hk2 nf)
    have C2 := Lib.hid (ftree_any A c exR w2 hr2 good_r (by decide) hc)
    rw [show exR.length = 4 from rfl] at C2 ⊢
    clear hr2 hc hb2 hk2 C1
    go_wp2_with fail
    refine C2.out.mono ?_
    rintro e w3 (⟨hne, _⟩ | ⟨_, _, _, y, rfl, ht3, _, _, hb3⟩)
    · exact absurd exR_errO hne
    · rw [exR_tree] at ht3 ⊢
      obtain ⟨w4, hw4⟩ : ∃ w4, w4 = boxW w3 exT y := ⟨_, rfl⟩
      have hb34 : Below w3.heap.size w3 w4 := by rw [hw4]; exact below_box _ _ _
      have hb24 : Below w2.heap.size w2 w4 := hb3.trans (hb34.mono hb3.size)
      have hkc : KidCells w4 w3.heap.size 0 exT y := by rw [hw4]; exact box_node _ _ _
      have ht4 := ht3.up hb34
      have HT4 := Lib.hid ht4; have HTN4 := Lib.hid (HT2.out.up hb24)
      have hrr := HR2.out.up hb24
      obtain ⟨b, off, X, hA, hbl, hcs⟩ := hrr (by decide)
      have HRR := Lib.hid hrr
      subst hA
      obtain ⟨p0, p1, p2, p3, p4, p5⟩ := (hcs 3 (by decide)).1
      obtain ⟨q0, q1, q2, q3, q4, q5⟩ := (hcs 2 (by decide)).1
      obtain ⟨c0, c1, c2, c3, c4⟩ := hkc
      obtain ⟨d0, d1, d2, d3, d4⟩ := HKB2.out.kept (kept_below hb24 (fun _ => False)) nf
      have p1' : w4.cell? ⟨b, off + 18 + 1, none⟩ = some (.int .i64 3) := p1
      have q1' : w4.cell? ⟨b, off + 12 + 1, none⟩ = some (.int .i64 1) := q1
      have HB4 := Lib.hid (HB2.out.trans (hb24.mono HB2.out.size)); have HW4 := Lib.hid hw4
      have CN := Lib.hid (nodes_any exT exT y (exNV w) w4 ht4 HTN4.out good_t good_t)
      rw [show nodeV exT (exNV w) = .agg #[.string ⟨#[112]⟩, .string ⟨#[]⟩, .string ⟨#[]⟩, .slice none 0 0, .slice (some ⟨w.heap.size + 1, 0, none⟩) 2 2] from rfl, node_val exT y] at CN
      rw [node_val exT y]
      clear C2 hb3 hb34 hb24 ht3 ht4 hrr hcs hw4 p0 p1 p2 p3 p4 p5 q0 q1 q2 q3 q4 q5
      go_upto_region 4 with (fail)
      rw [box_out HW4]
      go_wp2_with fail
      refine CN.out.mono ?_
      rintro e w5 ⟨r5, rfl, hr5, hb5⟩
      obtain rfl : r5 = true := hr5.2 rfl
      have CS := Lib.hid (spans_any (some ⟨b, off, none⟩) c exR w5 (HRR.out.up hb5) good_r (by decide) HC.out)
      rw [exR_spans, show exR.length = 4 from rfl] at CS
      have HB5 := Lib.hid (HB4.out.trans (hb5.mono HB4.out.size))
      clear hr5 hb5 CN c0 c1 c2 c3 c4 d0 d1 d2 d3 d4 p1' q1'
      go_wp2_with fail
      refine CS.out.mono ?_
      rintro e w6 ⟨A6, c6, rfl, hr6, h61, h62, h63, hb6⟩
      have hb7 : Below w6.heap.size w6 (w6.alloc (.cells #[.int .i64 4, .int .i64 4, .int .i64 1, .int .i64 2, .int .i64 1] 3)) := (Below.refl _ w6).alloc (Nat.le_refl _) _
      have CI := Lib.hid (I.ints_any A6 (some ⟨w6.heap.size, 0, none⟩) c6 5 [4, 4, 1, 2, 1] (w6.alloc (.cells #[.int .i64 4, .int .i64 4, .int .i64 1, .int .i64 2, .int .i64 1] 3)) ((hr6.below hb7).mono hb7.size) ((I.row_lit (w := w6) 3 [4, 4, 1, 2, 1]).mono (by simp)) (by decide))
      have HB7 := Lib.hid ((HB5.out.trans (hb6.mono HB5.out.size)).trans (hb7.mono (HB5.out.trans (hb6.mono HB5.out.size)).size))
      rw [show ([4, 4, 1, 2, 1] : List Int).length = 5 from rfl] at CI ⊢
      clear hr6 h61 h62 h63 hb6 hb7 CS
      go_wp2_with fail
      refine CI.out.mono ?_
      rintro e w8 ⟨rfl, hb8⟩
      have HB8 := Lib.hid (HB7.out.trans (hb8.mono HB7.out.size))
      clear hb8 CI
      go_wp2_with fail
      go_ret
      exact ⟨ret_bool (by simp), HB8.out⟩
end Go.Proofs.Ytlkdklpglmglkaa
