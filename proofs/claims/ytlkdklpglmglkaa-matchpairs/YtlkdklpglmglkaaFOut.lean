/-
  flat.outline.
-/
import Derived.Test.YtlkdklpglmglkaaFAsm
import Derived.Test.YtlkdklpglmglkaaCopy
import Derived.Deep.DeepCutAuto
namespace Go.Proofs.Ytlkdklpglmglkaa
open Go.RowKit Go.Sort Go.Lib
set_option linter.unusedVariables false
set_option maxRecDepth 100000
theorem good_treeR {rs : List Rw} (hf : FormTo rs rs.length) (hg : GoodRs rs) (hl : rs.length ≤ 1000) : ∀ (q h : Nat), rs.length - h ≤ q → 1 ≤ h → h ≤ rs.length → GoodT (treeR rs h) := by
  intro q
  induction q with
  | zero =>
    intro h hq h1 hh
    have g := hg (rwAt rs (h - 1)) (by rw [rwAt_eq (show h - 1 < rs.length by omega)]; exact List.getElem_mem _)
    rw [treeR_eq hf, kids_last hf (by omega)]
    exact g.node
  | succ q ih =>
    intro h hq h1 hh
    have g := hg (rwAt rs (h - 1)) (by rw [rwAt_eq (show h - 1 < rs.length by omega)]; exact List.getElem_mem _)
    rw [treeR_eq hf]
    refine .mk (by have := g.tag; show (rwAt rs (h - 1)).tag.size ≤ maxLen; unfold maxLen; omega) g.key g.text g.len g.short ?_ (fun k hk => ?_)
    · show ((kidsH rs h).map (treeR rs)).length ≤ 1000000
      have := kidsTo_len rs h rs.length
      simp only [List.length_map]
      unfold kidsH
      omega
    · obtain ⟨j, hj, rfl⟩ := List.mem_map.1 (show k ∈ (kidsH rs h).map (treeR rs) from hk)
      have := kid_gt hf hj
      exact ih j (by omega) (by omega) this.2
open Classical in
noncomputable def errO (rs : List Rw) : Int := if rs = [] then 23 else errR rs
theorem errO_nil : errO [] = 23 := by rw [errO, if_pos rfl]
theorem errO_ne {rs : List Rw} (h : rs ≠ []) : errO rs = errR rs := by rw [errO, if_neg h]
def OutPost (rs : List Rw) (w : World) (e : Ending) (w' : World) : Prop :=
  (errO rs ≠ 0 ∧ e = .returned (.tuple #[nodeV noT leafNV, .int .i64 (errO rs)]) ∧ Below w.heap.size w w') ∨
  (errO rs = 0 ∧ rs ≠ [] ∧ FormTo rs rs.length ∧ ∃ x, e = .returned (.tuple #[nodeV (treeR rs 1) x, .int .i64 0]) ∧ TreeAt w' w'.heap.size (treeR rs 1) x ∧ GoodT (treeR rs 1) ∧ okT (treeR rs 1) ∧ Below w.heap.size w w')
theorem results_out (tmps : Array Value) (w : World) (B : Nat) (v0 v1 v2 v3 v4 u : Value) (hp : tmps.getD 2 undef = .pointer (some ⟨B, 0, none⟩)) (hu : tmps.getD 3 undef = u) (hg : BoxN w B v0 v1 v2 v3 v4) :
    (results Try.f47 tmps).run Try.prog w = .ok (.tuple #[.agg #[v0, v1, v2, v3, v4], u]) w := by
  rw [results_cell_tmp rfl, hp, hu]
  simp [asAddr, run_loadVar_row w B 25 25 _ (0, 0) _ hg Try.underlying25 rfl (by kernel_rfl)]
set_option maxHeartbeats 8000000 in
theorem outline_any (A : Option Addr) (c : Nat) (rs : List Rw) (w : World) (H : RRow w w.heap.size A rs) (G : GoodRs rs) (hl : rs.length ≤ 1000) (hc : rs.length ≤ c) :
    Calls Try.prog 47 #[.slice A rs.length c] w (OutPost rs w) := by
  have nf : ¬ (False : Prop) := fun h => h
  obtain ⟨w1, hw1⟩ : ∃ w1, w1 = zboxW w := ⟨_, rfl⟩
  have hb1 : Below w.heap.size w w1 := by rw [hw1]; exact (Below.refl _ w).alloc (Nat.le_refl _) _
  have hbx : BoxN w1 w.heap.size (.string ⟨#[]⟩) (.string ⟨#[]⟩) (.string ⟨#[]⟩) (.slice none 0 0) (.slice none 0 0) := by rw [hw1]; exact BoxN.new w _ _ _ _ _ _ rfl
  have HR0 := Lib.hid (H.below hb1); have HR := Lib.hid (H.up hb1); have HG := Lib.hid G; have HB1 := Lib.hid hb1
  have HBX := Lib.hid hbx
  have HBAD := Lib.hid (show ∀ W f, Below w1.heap.size w1 W → errO rs = f → f ≠ 0 → BoxN (putN W w.heap.size (.string ⟨#[]⟩) (.string ⟨#[]⟩) (.string ⟨#[]⟩) (.slice none 0 0) (.slice none 0 0)) w.heap.size (.string ⟨#[]⟩) (.string ⟨#[]⟩) (.string ⟨#[]⟩) (.slice none 0 0) (.slice none 0 0) ∧ OutPost rs w (.returned (.tuple #[.agg #[.string ⟨#[]⟩, .string ⟨#[]⟩, .string ⟨#[]⟩, .slice none 0 0, .slice none 0 0], .int .i64 f])) (putN W w.heap.size (.string ⟨#[]⟩) (.string ⟨#[]⟩) (.string ⟨#[]⟩) (.slice none 0 0) (.slice none 0 0)) from fun W f hW hf h0 => by
    subst hf
    have hbl : Below w.heap.size w W := hb1.trans (hW.mono hb1.size)
    refine ⟨(hbx.kept (kept_below hW (fun _ => False)) nf).put _ _ _ _ _, .inl ⟨h0, rfl, hbl.trans ((kept_putN W w.heap.size _ _ _ _ _).below hbl.size (fun k hk => by have : k = w.heap.size := hk; omega))⟩⟩)
  have HBOX := Lib.hid (show ∀ W, Below w1.heap.size w1 W → BoxN W w.heap.size (.string ⟨#[]⟩) (.string ⟨#[]⟩) (.string ⟨#[]⟩) (.slice none 0 0) (.slice none 0 0) from fun W hW => hbx.kept (kept_below hW (fun _ => False)) nf)
  have HW := Lib.hid hw1
  clear H G hb1 hbx hw1
  by_cases h0 : rs = []
  · subst h0
    obtain ⟨hbe, hpost⟩ := HBAD.out w1 23 (Below.refl _ _) errO_nil (by decide)
    obtain ⟨g0, g1, g2, g3, g4⟩ := HBX.out.cells
    have z0 := HBX.out.frozen 0
    have z1 := HBX.out.frozen 1
    have z2 := HBX.out.frozen 2
    have z3 := HBX.out.frozen 3
    have z4 := HBX.out.frozen 4
    have HBE := Lib.hid hbe; have HPO := Lib.hid hpost
    clear hbe hpost
    go_enter Try.func47, Try.ntmps47
    go_upto_region 1 with (fail)
    rw [show w.alloc (.cells #[.string ⟨#[]⟩, .string ⟨#[]⟩, .string ⟨#[]⟩, .slice none 0 0, .slice none 0 0] 25) = w1 from HW.out.symm]
    go_wp2_with fail
    refine bodyPost_ret (results_out _ _ w.heap.size _ _ _ _ _ _ rfl rfl HBE.out) rfl ?_
    exact HPO.out
  · have hpos : 0 < rs.length := List.length_pos_iff.2 h0
    have hlen : ((rs.length : Int) == 0) = false := by rw [beq_eq_false_iff_ne]; omega
    have HNE := Lib.hid h0
    have HEO := Lib.hid (errO_ne h0)
    clear h0
    go_enter Try.func47, Try.ntmps47
    go_upto_region 1 with (fail)
    rw [show w.alloc (.cells #[.string ⟨#[]⟩, .string ⟨#[]⟩, .string ⟨#[]⟩, .slice none 0 0, .slice none 0 0] 25) = w1 from HW.out.symm]
    go_wp2_with fail
    go_loopg [4, 14] rs.length (fun g _ s14 wr => ∃ k : Nat, s14 = .int .i64 k ∧ k ≤ rs.length ∧ rs.length - k ≤ g ∧ RowKit.Hid (FormTo rs k) ∧ RowKit.Hid (w1 = wr))
    case atStart => exact ⟨0, rfl, by omega, by omega, Lib.hid (fun i hi => by omega), Lib.hid rfl⟩
    case round =>
      obtain ⟨k, rfl, hk, hg, HF, HWr⟩ := hrel
      by_cases hlt : k < rs.length
      · have h1 : (k : Int) < (rs.length : Int) := by omega
        have C := Lib.hid (inPlace_any A c rs k wr (by rw [← HWr.out]; exact HR.out) HF.out hlt (by omega))
        go_wp2_with fail
        refine C.out.mono ?_
        rintro e w2 ⟨q, rfl, hq, rfl⟩
        clear C
        cases q with
        | true =>
          have HOK := Lib.hid (hq.1 rfl)
          clear hq
          go_wp2_with fail
          go_roundg (rs.length - (k + 1))
          case measure => omega
          case rel => exact ⟨k + 1, by go_num, by omega, by omega, Lib.hid (HF.out.step HOK.out), HWr⟩
        | false =>
          obtain ⟨hbe, hpost⟩ := HBAD.out wr 2 (by rw [← HWr.out]; exact Below.refl _ _) (by rw [HEO.out]; exact errR_bad (fun h => by have := hq.2 (h k hlt); cases this)) (by decide)
          obtain ⟨g0, g1, g2, g3, g4⟩ := (HBOX.out wr (by rw [← HWr.out]; exact Below.refl _ _)).cells
          have hbx := HBOX.out wr (by rw [← HWr.out]; exact Below.refl _ _)
          have z0 := hbx.frozen 0
          have z1 := hbx.frozen 1
          have z2 := hbx.frozen 2
          have z3 := hbx.frozen 3
          have z4 := hbx.frozen 4
          have HBE := Lib.hid hbe; have HPO := Lib.hid hpost
          clear hq hbe hpost hbx
          go_wp2_with fail
          refine bodyPost_ret (results_out _ _ w.heap.size _ _ _ _ _ _ rfl rfl HBE.out) rfl ?_
          exact HPO.out
      · have h1 : ¬ (k : Int) < (rs.length : Int) := by omega
        obtain rfl : k = rs.length := by omega
        have hmin : min (rs.length : Int) 4097 = (rs.length : Int) := by omega
        have hrow : RRow wr wr.heap.size A rs := by rw [← HWr.out]; exact HR.out
        obtain ⟨b, off, X, hA, _⟩ := hrow hpos
        subst hA
        have C := Lib.hid (assemble_any w.heap.size (some ⟨b, off, none⟩) c rs wr (by rw [← HWr.out]; exact HB1.out.size) (by rw [← HWr.out]; exact HR0.out) HF.out hpos hl)
        have hcI : (rs.length : Int) ≤ (c : Int) := by omega
        clear hrow
        go_wp2_with fail
        refine C.out.mono ?_
        rintro e w3 ⟨x, rfl, htin3, hb3⟩
        have ht3 := htin3.tree (fun b hb => hb.2)
        have HTIN := Lib.hid htin3
        clear htin3
        obtain ⟨t, htt⟩ : ∃ t, t = treeR rs 1 := ⟨_, rfl⟩
        have hgt : GoodT t := by rw [htt]; exact good_treeR HF.out HG.out hl rs.length 1 (by omega) (by omega) hpos
        have herr : errO rs = (seenL aloneT t).2 := by rw [HEO.out, errR_ok HF.out HNE.out, htt]
        rw [← htt] at ht3 HTIN ⊢
        obtain ⟨w4, hw4⟩ : ∃ w4, w4 = boxW w3 t x := ⟨_, rfl⟩
        have hb4 : Below w3.heap.size w3 w4 := by rw [hw4]; exact below_box _ _ _
        have hkc : KidCells w4 w3.heap.size 0 t x := by rw [hw4]; exact box_node _ _ _
        have C2 := Lib.hid (vcheck_any t x w4 (ht3.up hb4) hgt)
        have HT4 := Lib.hid (ht3.up hb4); have HKC := Lib.hid hkc; have HGT := Lib.hid hgt; have HTT := Lib.hid htt; have HERR := Lib.hid herr; have HW4 := Lib.hid hw4
        have HB4 := Lib.hid (show Below w1.heap.size w1 w4 by rw [HWr.out]; exact hb3.trans (hb4.mono hb3.size))
        rw [show nodeV t x = .agg #[.string t.tag, .string t.key, .string t.text, .slice x.A t.as.length x.ca, .slice x.K t.kids.length x.ck] from rfl] at C2 ⊢
        obtain ⟨er, her⟩ : ∃ e, e = (seenL aloneT t).2 := ⟨_, rfl⟩
        rw [← her] at C2 HERR
        generalize (if er = 0 then (0 : Int) else ((seenL aloneT t).1.length : Int)) = ln at C2
        have HER := Lib.hid her
        have HB34 := Lib.hid hb4
        clear C ht3 hb3 hgt herr htt hw4 hb4 hkc her
        go_wp2_with fail
        rw [box_out HW4]
        refine C2.out.mono ?_
        rintro e w5 ⟨rfl, hb5⟩
        obtain ⟨c0, c1, c2, c3, c4⟩ := HKC.out.kept (kept_below hb5 (fun _ => False)) nf
        have hbx5 := HBOX.out w5 (HB4.out.trans (hb5.mono HB4.out.size))
        obtain ⟨g0, g1, g2, g3, g4⟩ := hbx5.cells
        have z0 := hbx5.frozen 0
        have z1 := hbx5.frozen 1
        have z2 := hbx5.frozen 2
        have z3 := hbx5.frozen 3
        have z4 := hbx5.frozen 4
        clear hmin hcI hlen h1 hl hc
        have HB35 := Lib.hid (show Below w3.heap.size w3 w5 from HB34.out.trans (hb5.mono HB34.out.size))
        have HB5 := Lib.hid (HB4.out.trans (hb5.mono HB4.out.size)); have HT5 := Lib.hid (HT4.out.up hb5)
        by_cases hz : er = 0
        · have hz' : (er != 0) = false := by simpa using hz
          have HE := Lib.hid (hbx5.put (.string t.tag) (.string t.key) (.string t.text) (.slice x.A t.as.length x.ca) (.slice x.K t.kids.length x.ck))
          have hkp := kept_putN w5 w.heap.size (.string t.tag) (.string t.key) (.string t.text) (.slice x.A t.as.length x.ca) (.slice x.K t.kids.length x.ck)
          have HKP := Lib.hid hkp
          have HZ := Lib.hid hz
          clear hz hbx5 hb5 C2 hkp
          go_wp2_with fail
          refine bodyPost_ret (results_out _ _ w.heap.size _ _ _ _ _ _ rfl rfl HE.out) rfl ?_
          refine .inr ⟨by rw [HERR.out]; exact HZ.out, HNE.out, HF.out, x, by rw [← HTT.out]; rfl, ?_, by rw [← HTT.out]; exact HGT.out, by unfold okT; rw [← HTT.out, ← HER.out]; exact HZ.out, ?_⟩
          · rw [← HTT.out]
            have hws : w.heap.size < w1.heap.size := HBX.out.lt
            have h35 := HB35.out
            exact ((HTIN.out.kept (kept_below h35 (fun _ => False)) (fun _ _ => nf) (fun _ h => h)).kept HKP.out (fun b hb e => by
              have e' : b = w.heap.size := e
              have h2 := hb.1
              rw [← HWr.out] at h2
              omega) (fun _ h => h)).tree (fun b hb => Nat.lt_of_lt_of_le hb.2 (Nat.le_trans h35.size HKP.out.size))
          · have hbl := HB1.out.trans (HB5.out.mono HB1.out.size)
            exact hbl.trans (HKP.out.below hbl.size (fun k hk => by have e' : k = w.heap.size := hk; omega))
        · have hz' : (er != 0) = true := by simpa using hz
          obtain ⟨hbe, hpost⟩ := HBAD.out w5 er HB5.out (by rw [HERR.out]) hz
          have HBE := Lib.hid hbe; have HPO := Lib.hid hpost
          clear hz hbx5 hb5 C2 hbe hpost
          go_wp2_with fail
          refine bodyPost_ret (results_out _ _ w.heap.size _ _ _ _ _ _ rfl rfl HBE.out) rfl ?_
          exact HPO.out
end Go.Proofs.Ytlkdklpglmglkaa
