/-
  flat.Tree and flat.Check.
-/
import Derived.Test.YtlkdklpglmglkaaFOut
namespace Go.Proofs.Ytlkdklpglmglkaa
open Go.RowKit Go.Sort Go.Lib
set_option linter.unusedVariables false
set_option maxRecDepth 100000
theorem results_treeF (tmps : Array Value) (w : World) (B : Nat) (v0 v1 v2 v3 v4 u : Value) (hp : tmps.getD 2 undef = .pointer (some ⟨B, 0, none⟩)) (hu : tmps.getD 3 undef = u) (hg : BoxN w B v0 v1 v2 v3 v4) :
    (results Try.f15 tmps).run Try.prog w = .ok (.tuple #[.agg #[v0, v1, v2, v3, v4], u]) w := by
  rw [results_cell_tmp rfl, hp, hu]
  simp [asAddr, run_loadVar_row w B 25 25 _ (0, 0) _ hg Try.underlying25 rfl (by kernel_rfl)]
theorem noT_val : nodeV noT leafNV = .agg #[.string ⟨#[]⟩, .string ⟨#[]⟩, .string ⟨#[]⟩, .slice none 0 0, .slice none 0 0] := rfl
theorem node_val (t : Tr) (x : NV) : nodeV t x = .agg #[.string t.tag, .string t.key, .string t.text, .slice x.A t.as.length x.ca, .slice x.K t.kids.length x.ck] := rfl
set_option maxHeartbeats 8000000 in
theorem ftree_any (A : Option Addr) (c : Nat) (rs : List Rw) (w : World) (H : RRow w w.heap.size A rs) (G : GoodRs rs) (hl : rs.length ≤ 1000) (hc : rs.length ≤ c) :
    Calls Try.prog 15 #[.slice A rs.length c] w (OutPost rs w) := by
  have nf : ¬ (False : Prop) := fun h => h
  obtain ⟨w1, hw1⟩ : ∃ w1, w1 = zboxW w := ⟨_, rfl⟩
  have hb1 : Below w.heap.size w w1 := by rw [hw1]; exact (Below.refl _ w).alloc (Nat.le_refl _) _
  have hbx : BoxN w1 w.heap.size (.string ⟨#[]⟩) (.string ⟨#[]⟩) (.string ⟨#[]⟩) (.slice none 0 0) (.slice none 0 0) := by rw [hw1]; exact BoxN.new w _ _ _ _ _ _ rfl
  have hs1 : w.heap.size < w1.heap.size := hbx.lt
  have C := Lib.hid (outline_any A c rs w1 (H.up hb1) G hl hc)
  have HB1 := Lib.hid hb1; have HBX := Lib.hid hbx; have HW := Lib.hid hw1; have HS1 := Lib.hid hs1
  clear H G hl hc hb1 hbx hw1 hs1
  go_enter Try.func15, Try.ntmps15
  go_upto_region 1 with (fail)
  rw [show w.alloc (.cells #[.string ⟨#[]⟩, .string ⟨#[]⟩, .string ⟨#[]⟩, .slice none 0 0, .slice none 0 0] 25) = w1 from HW.out.symm]
  go_wp2_with fail
  refine C.out.mono ?_
  rintro e w2 (⟨he, rfl, hb2⟩ | ⟨he, hne, hf, x, rfl, ht2, hgt, hok, hb2⟩)
  · obtain ⟨er, her⟩ : ∃ e, e = errO rs := ⟨_, rfl⟩
    rw [← her] at he ⊢
    have HER := Lib.hid her; have HE := Lib.hid he
    have he' : (er != 0) = true := by simpa using he
    obtain ⟨w3, hw3⟩ : ∃ w3, w3 = zboxW w2 := ⟨_, rfl⟩
    have hb3 : Below w1.heap.size w1 w3 := hb2.trans (by rw [hw3]; exact (Below.refl _ w2).alloc hb2.size _)
    have hbx3 := HBX.out.kept (kept_below hb3 (fun _ => False)) nf
    have HBE := Lib.hid (hbx3.put (.string ⟨#[]⟩) (.string ⟨#[]⟩) (.string ⟨#[]⟩) (.slice none 0 0) (.slice none 0 0))
    have hbl := HB1.out.trans (hb3.mono HB1.out.size)
    have HBL := Lib.hid (hbl.trans ((kept_putN w3 w.heap.size (.string ⟨#[]⟩) (.string ⟨#[]⟩) (.string ⟨#[]⟩) (.slice none 0 0) (.slice none 0 0)).below hbl.size (fun k hk => by have e' : k = w.heap.size := hk; omega)))
    obtain ⟨g0, g1, g2, g3, g4⟩ := hbx3.cells
    have z0 := hbx3.frozen 0
    have z1 := hbx3.frozen 1
    have z2 := hbx3.frozen 2
    have z3 := hbx3.frozen 3
    have z4 := hbx3.frozen 4
    have HW3 := Lib.hid hw3
    rw [noT_val]
    clear her he hw3 hb3 hbx3 hb2 hbl C
    go_upto_region 2 with (fail)
    rw [show w2.alloc (.cells #[.string ⟨#[]⟩, .string ⟨#[]⟩, .string ⟨#[]⟩, .slice none 0 0, .slice none 0 0] 25) = w3 from HW3.out.symm]
    go_wp2_with fail
    refine bodyPost_ret (results_treeF _ _ w.heap.size _ _ _ _ _ _ rfl rfl HBE.out) rfl ?_
    exact .inl ⟨by rw [← HER.out]; exact HE.out, by rw [← HER.out]; rfl, HBL.out⟩
  · obtain ⟨t, htt⟩ : ∃ t, t = treeR rs 1 := ⟨_, rfl⟩
    rw [← htt] at ht2 hgt hok ⊢
    obtain ⟨w3, hw3⟩ : ∃ w3, w3 = boxW w2 t x := ⟨_, rfl⟩
    have hb23 : Below w2.heap.size w2 w3 := by rw [hw3]; exact below_box _ _ _
    have hb3 : Below w1.heap.size w1 w3 := hb2.trans (hb23.mono hb2.size)
    have hkc : KidCells w3 w2.heap.size 0 t x := by rw [hw3]; exact box_node _ _ _
    have hnb : BoxN w3 w2.heap.size (.string t.tag) (.string t.key) (.string t.text) (.slice x.A t.as.length x.ca) (.slice x.K t.kids.length x.ck) := by rw [hw3]; exact BoxN.new w2 _ _ _ _ _ _ rfl
    have C2 := Lib.hid (copy_any t x w3 (ht2.up hb23) hgt)
    have hs12 := hb2.size
    have HTT := Lib.hid htt; have HGT := Lib.hid hgt; have HOK := Lib.hid hok; have HW3 := Lib.hid hw3; have HB3 := Lib.hid hb3; have HNB := Lib.hid hnb; have HE := Lib.hid he; have HNE := Lib.hid hne; have HF := Lib.hid hf
    have HS12 := Lib.hid hs12
    have HS3 := Lib.hid (show w2.heap.size < w3.heap.size from hkc.block_lt)
    obtain ⟨c0, c1, c2, c3, c4⟩ := hkc
    rw [node_val] at C2 ⊢
    clear htt hgt hok hw3 hb23 hb3 hnb ht2 he hne hf hb2 hs12 C
    go_upto_region 2 with (fail)
    rw [box_out HW3]
    go_wp2_with fail
    refine C2.out.mono ?_
    rintro e w4 (⟨hno, _, _⟩ | ⟨_, y, ps, rfl, hti, _, _, _, hb4⟩)
    · exact absurd HOK.out hno
    · have hn4 := HNB.out.kept (kept_below hb4 (fun _ => False)) nf
      have hbx4 := HBX.out.kept (kept_below (HB3.out.trans (hb4.mono HB3.out.size)) (fun _ => False)) nf
      have hne4 : ¬ w2.heap.size = w.heap.size := by have h1 := HS12.out; have h2 := HS1.out; omega
      have hne4' : ¬ w.heap.size = w2.heap.size := fun e => hne4 e.symm
      obtain ⟨d0, d1, d2, d3, d4⟩ := hn4.cells
      have y0 := hn4.frozen 0
      have y1 := hn4.frozen 1
      have y2 := hn4.frozen 2
      have y3 := hn4.frozen 3
      have y4 := hn4.frozen 4
      obtain ⟨w5, hw5⟩ : ∃ w5, w5 = putN w4 w2.heap.size (.string t.tag) (.string t.key) (.string t.text) (.slice y.A t.as.length y.ca) (.slice y.K t.kids.length y.ck) := ⟨_, rfl⟩
      have hk5 : Kept (· = w2.heap.size) w4 w5 := by rw [hw5]; exact kept_putN _ _ _ _ _ _ _
      have hn5 : BoxN w5 w2.heap.size (.string t.tag) (.string t.key) (.string t.text) (.slice y.A t.as.length y.ca) (.slice y.K t.kids.length y.ck) := by rw [hw5]; exact hn4.put _ _ _ _ _
      have hbx5 := hbx4.kept hk5 hne4'
      have hk6 := kept_putN w5 w.heap.size (.string t.tag) (.string t.key) (.string t.text) (.slice y.A t.as.length y.ca) (.slice y.K t.kids.length y.ck)
      have HBE := Lib.hid (hbx5.put (.string t.tag) (.string t.key) (.string t.text) (.slice y.A t.as.length y.ca) (.slice y.K t.kids.length y.ck))
      have hbl4 := HB1.out.trans ((HB3.out.trans (hb4.mono HB3.out.size)).mono HB1.out.size)
      have hbl5 := hbl4.trans (hk5.below hbl4.size (fun k hk => by have e' : k = w2.heap.size := hk; have h1 := HS12.out; have h2 := HS1.out; omega))
      have HBL := Lib.hid (hbl5.trans (hk6.below hbl5.size (fun k hk => by have e' : k = w.heap.size := hk; omega)))
      have HTA := Lib.hid (((hti.kept hk5 (fun b hb e => by have e' : b = w2.heap.size := e; have h1 := hb.1; have h2 := HS3.out; omega) (fun _ h => h)).kept hk6 (fun b hb e => by have e' : b = w.heap.size := e; have h1 := hb.1; have h2 := HS3.out; have h3 := HS12.out; have h4 := HS1.out; omega) (fun _ h => h)).tree (B := (putN w5 w.heap.size (.string t.tag) (.string t.key) (.string t.text) (.slice y.A t.as.length y.ca) (.slice y.K t.kids.length y.ck)).heap.size) (fun b hb => Nat.lt_of_lt_of_le hb.2 (Nat.le_trans hk5.size hk6.size)))
      obtain ⟨m0, m1, m2, m3, m4⟩ := hn5.cells
      obtain ⟨g0, g1, g2, g3, g4⟩ := hbx5.cells
      have z0 := hbx5.frozen 0
      have z1 := hbx5.frozen 1
      have z2 := hbx5.frozen 2
      have z3 := hbx5.frozen 3
      have z4 := hbx5.frozen 4
      have HW5 := Lib.hid hw5
      clear hti hb4 hn4 hbx4 hk5 hn5 hbx5 hk6 hbl4 hbl5 hw5 C2 c0 c1 c2 c3 c4 hne4 hne4'
      rw [node_val]
      go_upto_region 5 with (fail)
      rw [show ((((w4.setCell ⟨w2.heap.size, 0, none⟩ (.string t.tag)).setCell ⟨w2.heap.size, 1, none⟩ (.string t.key)).setCell ⟨w2.heap.size, 2, none⟩ (.string t.text)).setCell ⟨w2.heap.size, 3, none⟩ (.slice y.A t.as.length y.ca)).setCell ⟨w2.heap.size, 4, none⟩ (.slice y.K t.kids.length y.ck) = w5 from HW5.out.symm]
      clear d0 d1 d2 d3 d4 y0 y1 y2 y3 y4
      go_wp2_with fail
      refine bodyPost_ret (results_treeF _ _ w.heap.size _ _ _ _ _ _ rfl rfl HBE.out) rfl ?_
      exact .inr ⟨HE.out, HNE.out, HF.out, y, by rw [← HTT.out]; rfl, by rw [← HTT.out]; exact HTA.out, by rw [← HTT.out]; exact HGT.out, by rw [← HTT.out]; exact HOK.out, HBL.out⟩
set_option maxHeartbeats 4000000 in
theorem fcheck_any (A : Option Addr) (c : Nat) (rs : List Rw) (w : World) (H : RRow w w.heap.size A rs) (G : GoodRs rs) (hl : rs.length ≤ 1000) (hc : rs.length ≤ c) :
    Calls Try.prog 17 #[.slice A rs.length c] w (ErrPost rs w) := by
  by_cases h0 : rs = []
  · subst h0
    have HE := Lib.hid errR_nil
    clear H G
    go_enter Try.func17, Try.ntmps17
    go_wp2_with fail
    go_ret
    exact ⟨ret_int HE.out.symm, Below.refl _ _⟩
  · have hlen : ((rs.length : Int) == 0) = false := by
      have := List.length_pos_iff.2 h0
      rw [beq_eq_false_iff_ne]; omega
    have C := Lib.hid (outline_any A c rs w H G hl hc)
    have HEO := Lib.hid (errO_ne h0)
    clear H G hl hc h0
    go_enter Try.func17, Try.ntmps17
    go_wp2_with fail
    refine C.out.mono ?_
    rintro e w2 (⟨he, rfl, hb2⟩ | ⟨he, hne, hf, x, rfl, ht2, hgt, hok, hb2⟩)
    · rw [noT_val]
      have HB := Lib.hid (hb2.trans ((Below.refl _ w2).alloc hb2.size (.cells #[.string ⟨#[]⟩, .string ⟨#[]⟩, .string ⟨#[]⟩, .slice none 0 0, .slice none 0 0] 25)))
      clear he hb2 C
      generalize errO rs = er at HEO ⊢
      go_wp2_with fail
      go_ret
      exact ⟨ret_int HEO.out, HB.out⟩
    · have HE := Lib.hid he
      generalize treeR rs 1 = t
      have HB := Lib.hid (hb2.trans ((Below.refl _ w2).alloc hb2.size (.cells #[.string t.tag, .string t.key, .string t.text, .slice x.A t.as.length x.ca, .slice x.K t.kids.length x.ck] 25)))
      clear he hb2 C hne hf ht2 hgt hok
      rw [node_val]
      go_wp2_with fail
      go_ret
      exact ⟨ret_int (by rw [← HEO.out]; exact HE.out.symm), HB.out⟩
end Go.Proofs.Ytlkdklpglmglkaa
