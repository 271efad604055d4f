/-
  The reference's Of.
-/
import Derived.Test.YtlebcebihieiiaaDoorLOfW
import Derived.Test.YtlebcebihieiiaaDoorLEq
import Derived.BigQuiet
namespace Go.Proofs.YtlebcebihieiiaaDoor
open Go.RowKit Go.Sort Go.Maps
set_option linter.unusedVariables false
/-- The number of a kid after the first j. -/
def numK (ks : List Tr) (k : Tr) (j : Nat) : Nat := if k.key = noS then cnt (ks.take j) k.tag else 0
theorem numK_le (ks : List Tr) (k : Tr) (j : Nat) : numK ks k j ≤ j := by
  unfold numK
  split
  · exact cnt_le ks j _
  · omega
theorem numK_zero (ks : List Tr) (k : Tr) : numK ks k 0 = 0 := by have := numK_le ks k 0; omega
theorem numK_yes {ks : List Tr} {k kj : Tr} {j : Nat} (hj : ks[j]? = some kj) (h1 : k.key = noS) (h2 : kj.key = noS) (h3 : kj.tag = k.tag) : numK ks k (j + 1) = numK ks k j + 1 := by
  unfold numK
  rw [if_pos h1, if_pos h1, cnt_succ hj, if_pos (by simp [free, h2, h3])]
theorem numK_no {ks : List Tr} {k kj : Tr} {j : Nat} (hj : ks[j]? = some kj) (h : ¬ (k.key = noS ∧ kj.key = noS ∧ kj.tag = k.tag)) : numK ks k (j + 1) = numK ks k j := by
  unfold numK
  by_cases h1 : k.key = noS
  · rw [if_pos h1, if_pos h1, cnt_succ hj, if_neg (by simp [free]; exact fun a b => h ⟨h1, a, b⟩)]; rfl
  · rw [if_neg h1, if_neg h1]
theorem numK_lab {ks : List Tr} {k : Tr} (i : Nat) : labOf (ks.take (i + 1)) k = ⟨k.tag, k.key, (numK ks k (i + 1) : Int)⟩ := by
  unfold labOf numK
  by_cases h1 : k.key = noS
  · rw [if_pos h1, if_pos h1]
  · rw [if_neg h1, if_neg h1]; rfl
set_option maxRecDepth 100000 in
set_option maxHeartbeats 8000000 in
theorem refOf_any (t : Tr) (x : NV) (w : World) (h : TreeAt w w.heap.size t x) (hg : GoodT t) : Calls Tryd.prog 10 #[.slice x.K t.kids.length x.ck] w (MadeL w (labsOf t.kids)) := by
  obtain ⟨i0, hi0, hz0, hz1, hz2⟩ := info_parts Tryd.info33
  obtain ⟨n, hn⟩ : ∃ n, n = t.kids.length := ⟨_, rfl⟩
  have hnl : n ≤ 1000000 := by rw [hn]; exact hg.sizes.2.2.2.2.2
  have HT := Lib.hid h; have HG := Lib.hid hg; have HN := Lib.hid hn
  rw [← hn]
  clear h hg hn
  go_enter Tryd.func10, Tryd.ntmps10
  go_wp2_with fail
  go_loopg [3, 9] n (fun g s3 s9 wr => ∃ i : Nat, s9 = .int .i64 i ∧ i ≤ n ∧ n - i ≤ g ∧ RowKit.Hid (wr.ownsRow w.heap.size 33 3 s3 i (labs (firstL t.kids i))) ∧ RowKit.Hid (Below w.heap.size w wr))
  case atStart => exact ⟨0, rfl, by omega, by omega, Lib.hid ⟨rfl, .inl ⟨rfl, rfl⟩⟩, Lib.hid (Below.refl _ _)⟩
  case round =>
    obtain ⟨i, rfl, hi, hgi, HO, HB⟩ := hrel
    by_cases hlt : i < n
    · have h1 : (i : Int) < (n : Int) := by omega
      obtain ⟨b, off, kd, y, hK, hb, hkd, hkc, hkt⟩ := (HT.out.up HB.out).kid (j := i) (by rw [← HN.out]; exact hlt)
      obtain ⟨q0, q1, q2, q3, q4⟩ := hkc
      have HKD := Lib.hid (show t.kids[i]? = some kd by rw [hkd]; exact List.getElem?_eq_getElem _)
      clear hkd hkt
      go_wp2_with fail
      go_region
      have h7 : ∀ W : World, W.drew = W.drewN 1 := fun _ => rfl
      obtain ⟨wb, hwb⟩ : ∃ wb, wb = (lboxW wr ⟨kd.tag, kd.key, 0⟩).drew := ⟨_, rfl⟩
      rw [show (wr.alloc (.cells #[.string kd.tag, .string kd.key, .int .i64 0] 33)).drew = wb from hwb.symm]
      have hbd : Below (lboxW wr ⟨kd.tag, kd.key, 0⟩).heap.size (lboxW wr ⟨kd.tag, kd.key, 0⟩) (lboxW wr ⟨kd.tag, kd.key, 0⟩).drew := ⟨rfl, rfl, rfl, Nat.le_refl _, fun _ _ => rfl⟩
      have hbb : Below wr.heap.size wr wb := by rw [hwb]; exact (below_lbox wr _).trans (hbd.mono (below_lbox wr _).size)
      have hxb : BoxL wb wr.heap.size ⟨kd.tag, kd.key, 0⟩ := by rw [hwb]; exact BoxL.new wr _
      have HBB := Lib.hid hbb; have HXB := Lib.hid hxb
      obtain ⟨bx, hbx⟩ : ∃ bx, bx = wr.heap.size := ⟨_, rfl⟩
      have HBX := Lib.hid hbx
      rw [← hbx] at hxb
      rw [← hbx]
      have HXB := Lib.hid hxb
      have HTB := Lib.hid (show TreeAt wb bx t x by rw [hbx]; exact (HT.out.up HB.out).keepB hbb)
      have HOB := Lib.hid (show wb.ownsRow w.heap.size 33 3 u3 i (labs (firstL t.kids i)) from kept_own (kept_below hbb (fun _ => False)) HO.out (fun _ _ h => h))
      have HWB := Lib.hid (show Below w.heap.size w wb from HB.out.trans (hbb.mono HB.out.size))
      have HWX := Lib.hid (show w.heap.size ≤ bx by rw [hbx]; exact HB.out.size)
      have HOX := Lib.hid (show ∀ b, u3.ownBlock = some b → b < bx by rw [hbx]; exact fun b hb => (HO.out.lt b hb).2)
      clear HO HB HBB HBX hb
      clear hbd hbb hxb hwb h7 hbx q0 q1 q2 q3 q4
      go_wp2_with fail
      go_loopg [6] (i + 1) (fun g s6 wx => ∃ k : Nat, s6 = .int .i64 k ∧ k ≤ i + 1 ∧ i + 1 - k ≤ g ∧ RowKit.Hid (BoxL wx bx ⟨kd.tag, kd.key, (numK t.kids kd k : Int)⟩) ∧ RowKit.Hid (Below bx wb wx))
      case atStart => exact ⟨0, rfl, by omega, by omega, Lib.hid (by rw [numK_zero]; exact HXB.out), Lib.hid (Below.refl _ _)⟩
      case round =>
        obtain ⟨k, rfl, hk, hgk, HXK, HBK⟩ := hrel
        obtain ⟨d0, d1, d2⟩ := HXK.out.cells
        have hnk := numK_le t.kids kd k
        by_cases hlk : k ≤ i
        · have h2 : (k : Int) ≤ (i : Int) := by omega
          obtain ⟨b', off', kj, y', hK', hb', hkj, hkc', hkt'⟩ := (HTB.out.keepB HBK.out).kid (j := k) (by rw [← HN.out]; omega)
          obtain ⟨rfl, rfl⟩ : b = b' ∧ off = off' := by have := hK.symm.trans hK'; simpa using this
          obtain ⟨q0, q1, q2, q3, q4⟩ := hkc'
          have HKJ := Lib.hid (show t.kids[k]? = some kj by rw [hkj]; exact List.getElem?_eq_getElem _)
          clear hkj hkt' hK'
          by_cases ha : kd.key = noS ∧ kj.key = noS ∧ kj.tag = kd.tag
          · obtain ⟨ha1, ha2, ha3⟩ := ha
            have e1 : kd.key.toList.isEmpty = true := isEmpty_noS.2 ha1
            have e2 : kj.key.toList.isEmpty = true := isEmpty_noS.2 ha2
            have e3 : (kj.tag.toList == kd.tag.toList) = true := by rw [ha3]; simp
            have HY := Lib.hid (numK_yes HKJ.out ha1 ha2 ha3)
            obtain ⟨v, hv⟩ : ∃ v, v = numK t.kids kd k := ⟨_, rfl⟩
            rw [← hv] at d2 hnk HY
            have hwr : IntKind.i64.wrap ((v : Int) + 1) = (v : Int) + 1 := IntWalk.i64_in _ (by omega)
            have z2 := HXK.out.frozen 2
            clear ha1 ha2 ha3 hv
            go_wp2_with fail
            go_quiet (fail)
            go_wp2_with fail
            try rw [← hK]
            go_roundg (i + 1 - (k + 1))
            case measure => omega
            case rel => exact ⟨k + 1, by go_num, by omega, by omega, Lib.hid (by rw [HY.out]; exact BoxL.num (show BoxL (wr.drewN nq) bx _ from HXK.out) _), Lib.hid ((HBK.out.trans (below_drewN _ _ _)).setCell (p := ⟨bx, 2, none⟩) (Nat.le_refl _) _)⟩
          · have HY := Lib.hid (numK_no HKJ.out ha)
            have hcase : kd.key.toList.isEmpty = false ∨ (kd.key.toList.isEmpty = true ∧ kj.key.toList.isEmpty = false) ∨ (kd.key.toList.isEmpty = true ∧ kj.key.toList.isEmpty = true ∧ (kj.tag.toList == kd.tag.toList) = false) := by
              by_cases a1 : kd.key = noS
              · by_cases a2 : kj.key = noS
                · exact .inr (.inr ⟨isEmpty_noS.2 a1, isEmpty_noS.2 a2, by rw [eqBa]; exact decide_eq_false (fun a3 => ha ⟨a1, a2, a3⟩)⟩)
                · exact .inr (.inl ⟨isEmpty_noS.2 a1, Bool.eq_false_iff.2 (fun h => a2 (isEmpty_noS.1 h))⟩)
              · exact .inl (Bool.eq_false_iff.2 (fun h => a1 (isEmpty_noS.1 h)))
            clear ha
            rcases hcase with e1 | ⟨e1, e2⟩ | ⟨e1, e2, e3⟩
            all_goals
              go_wp2_with fail
              go_quiet (fail)
              go_wp2_with fail
              try rw [← hK]
              go_roundg (i + 1 - (k + 1))
              case measure => omega
              case rel => exact ⟨k + 1, by go_num, by omega, by omega, Lib.hid (by rw [HY.out]; exact HXK.out), Lib.hid (HBK.out.trans (below_drewN _ _ _))⟩
        · have h2 : ¬ (k : Int) ≤ (i : Int) := by omega
          obtain ⟨v, hv⟩ : ∃ v, v = numK t.kids kd k := ⟨_, rfl⟩
          have HLB := Lib.hid (show labOf (t.kids.take (i + 1)) kd = ⟨kd.tag, kd.key, (v : Int)⟩ by rw [numK_lab, hv, show k = i + 1 by omega])
          rw [← hv] at d2
          have HO2 := Lib.hid (show wr.ownsRow w.heap.size 33 3 u3 i (labs (firstL t.kids i)) from kept_own (⟨HBK.out.os, HBK.out.tape, HBK.out.output, HBK.out.size, fun j hj hs => HBK.out.block j (by omega)⟩ : Kept (fun j => bx ≤ j) _ _) HOB.out (fun b hb h => by have := HOX.out b hb; omega))
          have HB2 := Lib.hid (HWB.out.trans (HBK.out.mono HWX.out))
          clear hv
          go_wp2_with (refine wpList_app3 rfl _ _ 28 rfl w.heap.size 33 i0 (.agg #[.string ⟨#[]⟩, .string ⟨#[]⟩, .int .i64 0]) 40 Tryd.underlying28 hi0 hz0 hz1 hz2 rfl _ i _ rfl HO2.out (.string kd.tag) (.string kd.key) (.int .i64 v) _ rfl rfl rfl rfl rfl (by omega) (by unfold maxLen; omega) HB2.out.size ?_; intro v3 w3 ho3 hg3; have HO3 := Lib.hid ho3; have HG3 := Lib.hid hg3; clear ho3 hg3)
          have HB3 := Lib.hid (((HB2.out.alloc (o := .cells #[.string kd.tag, .string kd.key, .int .i64 v] 33) HB2.out.size).grown HG3.out (by have := HB2.out.size; simp; omega) (fun k hk => (HO2.out.lt k hk).1)))
          try rw [← hK]
          go_roundg (n - (i + 1))
          case measure => omega
          case rel => exact ⟨i + 1, by go_num, by omega, by omega, Lib.hid (by rw [firstL_succ HKD.out, labs_snoc, HLB.out]; exact HO3.out), HB3⟩
    · have h1 : ¬ (i : Int) < (n : Int) := by omega
      obtain rfl : i = n := by omega
      have HF := Lib.hid (show wr.ownsRow w.heap.size 33 3 u3 (labsOf t.kids).length (labs (labsOf t.kids)) by
        have := HO.out
        rw [firstL_length (Nat.le_refl _), ← HN.out]
        rw [show firstL t.kids i = labsOf t.kids by rw [HN.out]] at this
        exact this)
      go_wp2_with fail
      go_ret
      obtain ⟨A, cap, rfl, hr, hcl, hcm⟩ := lrow_own HF.out
      exact ⟨A, cap, rfl, hr, hcl, hcm, HB.out⟩
end Go.Proofs.YtlebcebihieiiaaDoor
