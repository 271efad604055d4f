/-
  tendrilref13.Tree.
-/
import Derived.Test.YtlkdklpglmglkaaFAsm0
import Derived.Test.YtlkdklpglmglkaaTwin
import Derived.Test.YtlkdklpglmglkaaFLook
namespace Go.Proofs.Ytlkdklpglmglkaa
open Go.RowKit Go.Sort Go.Lib
set_option linter.unusedVariables false
set_option maxRecDepth 100000
def KO (n0 n3 : Nat) (v : Value) (w' : World) : Nat → Prop := fun b => (b < n0 ∨ n3 ≤ b) ∧ b < w'.heap.size ∧ ¬ OwnB v b
theorem KO.step {n0 n3 : Nat} {v v' : Value} {w w' : World} (hf : Fresh w v v') (hs : w.heap.size ≤ w'.heap.size) {b : Nat} (h : KO n0 n3 v w b) : KO n0 n3 v' w' b := ⟨h.1, Nat.lt_of_lt_of_le h.2.1 hs, fun hb => h.2.2 (hf b h.2.1 hb)⟩
def T20Post (n0 : Nat) (t : Tr) (w : World) (e : Ending) (w' : World) : Prop := ∃ x', e = .returned (nodeV t x') ∧ TreeIn w' (OldNew n0 w w') t x' ∧ Below w.heap.size w w'
/-- The new node's box, without kids. -/
abbrev nboxW (w : World) (r : Rw) (x : AV) : World := w.alloc (.cells #[.string r.tag, .string r.key, .string r.text, .slice x.A r.as.length x.ca, .slice none 0 0] 25)
theorem results_tree20 (tmps : Array Value) (w : World) (B : Nat) (v0 v1 v2 v3 v4 : Value) (hp : tmps.getD 4 undef = .pointer (some ⟨B, 0, none⟩)) (hg : BoxN w B v0 v1 v2 v3 v4) :
    (results Try.f20 tmps).run Try.prog w = .ok (.agg #[v0, v1, v2, v3, v4]) w := by
  exact results_cell_row rfl tmps w B 25 _ (0, 0) _ hp hg Try.underlying25 rfl (by kernel_rfl)
theorem nums_get {l : List Nat} {k : Nat} (hk : k < l.length) : (nums l).getD k 0 = ((l[k] : Nat) : Int) := by
  simp [nums, List.getD_eq_getElem?_getD, hk]
set_option maxHeartbeats 8000000 in
theorem rtree_any (n0 : Nat) (A : Option Addr) (c : Nat) (rs : List Rw) (hf : FormTo rs rs.length) (hl : rs.length ≤ 5000) :
    ∀ (q h : Nat), rs.length - h < q → 1 ≤ h → h ≤ rs.length → ∀ w, n0 ≤ w.heap.size → RRow w n0 A rs → Calls Try.prog 20 #[.slice A rs.length c, .int .i64 h] w (T20Post n0 (treeR rs h) w) := by
  intro q
  induction q with
  | zero => intro h hq; omega
  | succ q ih =>
    intro h hq h1 hh w hn0 hrow
    have nf : ¬ (False : Prop) := fun h => h
    obtain ⟨w1, hw1⟩ : ∃ w1, w1 = zboxW w := ⟨_, rfl⟩
    have hb1 : Below w.heap.size w w1 := by rw [hw1]; exact (Below.refl _ w).alloc (Nat.le_refl _) _
    have hbx1 : BoxN w1 w.heap.size (.string ⟨#[]⟩) (.string ⟨#[]⟩) (.string ⟨#[]⟩) (.slice none 0 0) (.slice none 0 0) := by rw [hw1]; exact BoxN.new w _ _ _ _ _ _ rfl
    have hs1 : w1.heap.size = w.heap.size + 1 := by rw [hw1]; simp
    have hrow1 : RRow w1 n0 A rs := hrow.below (hb1.mono hn0)
    obtain ⟨h', hh'⟩ : ∃ h', h' = h - 1 := ⟨_, rfl⟩
    have hhe : h = h' + 1 := by omega
    have hlt : h' < rs.length := by omega
    obtain ⟨b, off, r, x, hA, hb, hr, hc, hat⟩ := rrow_at hrow1 hlt
    obtain ⟨w2, hw2⟩ : ∃ w2, w2 = rboxW w1 r x := ⟨_, rfl⟩
    have hrc : RCells w2 (w.heap.size + 1) 0 r x := by rw [hw2, ← hs1]; exact rbox_cells w1 r x
    have hb2 : Below w1.heap.size w1 w2 := by rw [hw2]; exact below_rbox w1 r x
    have hs2 : w2.heap.size = w.heap.size + 1 + 1 := by rw [hw2, ← hs1]; simp
    obtain ⟨w3, hw3⟩ : ∃ w3, w3 = nboxW w2 r x := ⟨_, rfl⟩
    have hb3 : Below w2.heap.size w2 w3 := by rw [hw3]; exact (Below.refl _ w2).alloc (Nat.le_refl _) _
    have hbx3 : BoxN w3 (w.heap.size + 1 + 1) (.string r.tag) (.string r.key) (.string r.text) (.slice x.A r.as.length x.ca) (.slice none 0 0) := by rw [hw3]; exact BoxN.new w2 _ _ _ _ _ _ hs2.symm
    have hs3 : w3.heap.size = w.heap.size + 1 + 1 + 1 := by rw [hw3, ← hs2]; simp
    have hb13 : Below w1.heap.size w1 w3 := hb2.trans (hb3.mono hb2.size)
    have hb03 : Below w.heap.size w w3 := hb1.trans (hb13.mono hb1.size)
    have hbx13 := hbx1.kept (kept_below hb13 (fun _ => False)) nf
    have hrow3 : RRow w3 n0 A rs := hrow.below (hb03.mono hn0)
    have hn3 : n0 ≤ w3.heap.size := Nat.le_trans hn0 hb03.size
    have CK := Lib.hid (kids_own A c rs h w3 (hrow3.mono hn3) hl)
    have HTR := Lib.hid (show treeR rs h = r.node ((kidsH rs h).map (treeR rs)) by rw [treeR_eq hf, ← hh', rwAt_eq hlt, hr])
    have HKB := Lib.hid (show ∀ k ∈ kidsH rs h, h < k ∧ k ≤ rs.length from fun k hk => kid_gt hf hk)
    have HKL := Lib.hid (kidsTo_len rs h rs.length)
    obtain ⟨ks, hks⟩ : ∃ ks, ks = kidsH rs h := ⟨_, rfl⟩
    rw [← hks] at CK HTR HKB
    have hksl : ks.length ≤ 5000 := by rw [hks]; have := HKL.out; unfold kidsH; omega
    have HIH := Lib.hid ih
    have HROW := Lib.hid hrow; have HAT := Lib.hid hat; have HW1 := Lib.hid hw1; have HW2 := Lib.hid hw2; have HW3 := Lib.hid hw3
    have HB03 := Lib.hid hb03; have HB13 := Lib.hid hb13; have HX1 := Lib.hid hbx13; have HX3 := Lib.hid hbx3; have HS3 := Lib.hid hs3
    have HQ := Lib.hid hq
    have HN3 := Lib.hid (show n0 ≤ w3.heap.size ∧ n0 ≤ w1.heap.size from ⟨hn3, Nat.le_trans hn0 hb1.size⟩)
    have hwr : IntKind.i64.wrap ((h : Int) - 1) = (h' : Int) := by rw [IntKind.wrap_i64]; omega
    have hh2 : (h' : Int) < (rs.length : Int) := by omega
    obtain ⟨c0, c1, c2, c3, c4, c5⟩ := hc
    obtain ⟨d0, d1, d2, d3, d4, d5⟩ := hrc
    obtain ⟨i0, hi, hz0, hz1, hz2⟩ := info_parts Try.info25
    clear hf ih hrow hat hw1 hw2 hw3 hb1 hbx1 hb2 hb3 hbx3 hb13 hb03 hbx13 hrow3 hks hq hr HKL hhe hh' hn3 hrow1
    go_enter Try.func20, Try.ntmps20
    go_upto_region 1 with (fail)
    rw [show w.alloc (.cells #[.string ⟨#[]⟩, .string ⟨#[]⟩, .string ⟨#[]⟩, .slice none 0 0, .slice none 0 0] 25) = w1 from HW1.out.symm]
    go_upto_region 2 with (fail)
    rw [show w1.alloc (.cells #[.int .i64 r.id, .int .i64 r.up, .string r.tag, .string r.key, .string r.text, .slice x.A r.as.length x.ca] 56) = w2 from HW2.out.symm]
    try rw [hs1]
    clear c0 c1 c2 c3 c4 c5
    go_upto_region 3 with (fail)
    rw [show w2.alloc (.cells #[.string r.tag, .string r.key, .string r.text, .slice x.A r.as.length x.ca, .slice none 0 0] 25) = w3 from HW3.out.symm]
    try rw [hs2]
    clear d0 d1 d2 d3 d4 d5 hs1 hs2 hs3 hA hwr
    go_wp2_with fail
    refine CK.out.mono ?_
    rintro e w4 ⟨vk, rfl, hkr, hb4⟩
    obtain ⟨Ak, ck, rfl, hkc⟩ := owni_form hkr
    rw [show (nums ks).length = ks.length by simp [nums]] at hkr hkc ⊢
    have HKR := Lib.hid hkr
    have HKLT := Lib.hid (show ∀ b, OwnB (.slice Ak ks.length ck) b → w3.heap.size ≤ b ∧ b < w4.heap.size from fun b hb => hkr.lt b hb)
    have HX14 := Lib.hid (HX1.out.kept (kept_below hb4 (fun _ => False)) nf)
    have HX34 := Lib.hid (HX3.out.kept (kept_below hb4 (fun _ => False)) nf)
    have HB4 := Lib.hid (HB03.out.trans (hb4.mono HB03.out.size))
    have HSZ4 := Lib.hid hb4.size
    have HATT := Lib.hid (show TRowP w4 (KO n0 w3.heap.size (.slice none 0 0) w4) x.A r.as from trow_p (HAT.out.row.below ((HB13.out.trans (hb4.mono HB13.out.size)).mono HN3.out.2)) (fun b hb => ⟨.inl hb, by have := hb4.size; have := HN3.out.1; omega, fun h => by cases h⟩))
    clear hkr hb4 CK HX1 HX3 hkc
    go_wp2_with fail
    go_loopg [8, 28] ks.length (fun g _ s28 wr => ∃ (k : Nat) (Av : Option Addr) (cv : Nat) (ps : List KV), s28 = .int .i64 k ∧ k ≤ ks.length ∧ ks.length - k ≤ g ∧ ps.length = k ∧ RowKit.Hid (ps.map Prod.fst = (ks.take k).map (treeR rs)) ∧ RowKit.Hid (wr.ownsRow w4.heap.size 25 5 (.slice Av k cv) ps.length (nds ps)) ∧ RowKit.Hid (∀ p ∈ ps, TreeIn wr (KO n0 w3.heap.size (.slice Av k cv) wr) p.1 p.2) ∧ RowKit.Hid (TRowP wr (KO n0 w3.heap.size (.slice Av k cv) wr) x.A r.as) ∧ RowKit.Hid (BoxN wr w.heap.size (.string ⟨#[]⟩) (.string ⟨#[]⟩) (.string ⟨#[]⟩) (.slice none 0 0) (.slice none 0 0)) ∧ RowKit.Hid (BoxN wr (w.heap.size + 1 + 1) (.string r.tag) (.string r.key) (.string r.text) (.slice x.A r.as.length x.ca) (.slice Av k cv)) ∧ RowKit.Hid (Below w.heap.size w wr ∧ w4.heap.size ≤ wr.heap.size) ∧ RowKit.Hid (I.OwnI wr w3.heap.size (.slice Ak ks.length ck) (nums ks)))
    case atStart => exact ⟨0, none, 0, [], rfl, by omega, by omega, rfl, Lib.hid (by simp), Lib.hid (World.ownsRow_nil _ _ _ _), Lib.hid (fun p hp => by simp at hp), HATT, HX14, HX34, Lib.hid ⟨HB4.out, Nat.le_refl _⟩, HKR⟩
    case round =>
      obtain ⟨k, Av, cv, ps, rfl, hk, hg, hpl, HPM, HOW, HTI, HAT2, HX1, HX3, HBS, HKW⟩ := hrel
      have hs3 := HS3.out
      have hs34 := HSZ4.out
      have HOLT := Lib.hid (show ∀ b, OwnB (.slice Av k cv) b → w4.heap.size ≤ b ∧ b < wr.heap.size from fun b hb => HOW.out.lt b hb)
      by_cases hlt : k < ks.length
      · have h1 : (k : Int) < (ks.length : Int) := by omega
        obtain ⟨bb, off', z, hKA, hz, hzc⟩ := owni_at HKW.out (j := k) (by simpa [nums] using hlt)
        obtain ⟨kd, hkd⟩ : ∃ kd, kd = ks[k] := ⟨_, rfl⟩
        obtain ⟨m1, m2⟩ := HKB.out kd (by rw [hkd]; exact List.getElem_mem _)
        have hzk : z = (kd : Int) := by rw [hz, nums_get hlt, ← hkd]
        subst hzk
        have hwrs : n0 ≤ wr.heap.size := by have := HBS.out.2; omega
        have C := Lib.hid (HIH.out kd (by have := HQ.out; omega) (by omega) m2 wr.drew hwrs (show RRow wr.drew n0 A rs from (HROW.out.below (HBS.out.1.mono hn0)).below (below_drewN _ wr 1)))
        obtain ⟨kt, hkt⟩ : ∃ t, t = treeR rs kd := ⟨_, rfl⟩
        rw [← hkt] at C
        have HKT := Lib.hid (show kt = treeR rs ks[k] by rw [hkt, hkd])
        obtain ⟨f0, f1, f2, f3, f4⟩ := HX3.out.cells
        clear hz hkd hkt f0 f1 f2 f3 m1 m2
        go_wp2_with fail
        go_region_law ((first
          | (refine step_append_run rfl (.tmp 32) (.tmp 39) 23 rfl (.slice Av k cv) (.slice (some ⟨w6.heap.size, 0, none⟩) 1 1) (by simp [Act.eval]) (by simp [Act.eval]) hr7.out ?_)
          | (go_simp; go_at_call 20; refine C.out.mono ?_; rintro e w6 ⟨x6, rfl, hin6, hb6⟩; have hb6' := Lib.hid ((below_drewN _ wr 1).trans hb6); have hx6 := HX3.out.kept (kept_below hb6'.out (fun _ => False)) nf; obtain ⟨A7, c7, w7, hr7', ho7', hk7', hf7'⟩ := twin_app w6 kt x6 Av k cv ps ((kept_below hb6'.out (fun _ => False)).own HOW.out (fun _ _ => nf)) hpl (by omega) (Nat.le_trans HBS.out.2 hb6'.out.size); have hr7 := Lib.hid hr7'; have ho7 := Lib.hid ho7'; have hk7 := Lib.hid hk7'; have hf7 := Lib.hid hf7'; have hin := Lib.hid hin6; have hx7 := Lib.hid (hx6.kept hk7' (fun h => by have := HOLT.out _ h; omega)); have f6 := hx6.cells.2.2.2.2; have f6a : (w6.alloc (.cells #[.string kt.tag, .string kt.key, .string kt.text, .slice x6.A kt.as.length x6.ca, .slice x6.K kt.kids.length x6.ck] 25)).cell? ⟨w.heap.size + 1 + 1, 4, none⟩ = some (.slice Av k cv) := cell_push f6; have f7 := hx7.out.cells.2.2.2.2; have z7 := hx7.out.frozen 4; clear hr7' ho7' hk7' hf7' hin6 hb6 hx6)))
        all_goals
          have HK8 := Lib.hid (kept_setCell w7 ⟨w.heap.size + 1 + 1, 4, none⟩ (.slice A7 (k + 1) c7))
          have HX8 := Lib.hid (hx7.out.set4 (.slice A7 (k + 1) c7))
          clear f6 f6a f7 z7 C hzc f4
          generalize w7.setCell ⟨w.heap.size + 1 + 1, 4, none⟩ (.slice A7 (k + 1) c7) = w8 at HK8 HX8 ⊢
          have HKA := Lib.hid (show Kept (fun b => OwnB (.slice Av k cv) b ∨ b = w.heap.size + 1 + 1) w6 w8 from (hk7.out.mono (fun _ _ h => .inl h)).trans (HK8.out.mono (fun _ _ h => .inr h)))
          have HKC := Lib.hid (show Kept (fun b => OwnB (.slice Av k cv) b ∨ b = w.heap.size + 1 + 1) wr w8 from (kept_below hb6'.out _).trans HKA.out)
          have HFR := Lib.hid (show Fresh wr (.slice Av k cv) (.slice A7 (k + 1) c7) from fun b hb h => hf7.out b (Nat.lt_of_lt_of_le hb hb6'.out.size) h)
          have hs8 : wr.heap.size ≤ w8.heap.size := HKC.out.size
          have hw5r := HBS.out.2
          have HAT8 := Lib.hid (HAT2.out.kept HKC.out (fun b hb h => h.elim hb.2.2 (fun e => by have := hb.1; omega)) (fun b hb => KO.step HFR.out hs8 hb))
          have HTI8 := Lib.hid (show ∀ p ∈ ps ++ [(kt, x6)], TreeIn w8 (KO n0 w3.heap.size (.slice A7 (k + 1) c7) w8) p.1 p.2 from fun p hp => by
            rcases List.mem_append.1 hp with hp | hp
            · exact (HTI.out p hp).kept HKC.out (fun b hb h => h.elim hb.2.2 (fun e => by have := hb.1; omega)) (fun b hb => KO.step HFR.out hs8 hb)
            · simp at hp
              subst hp
              refine hin.out.kept HKA.out (fun b hb h => ?_) (fun b hb => ⟨?_, Nat.lt_of_lt_of_le hb.2 HKA.out.size, fun h => ?_⟩)
              · have h2 : b < n0 ∨ wr.heap.size ≤ b := hb.1
                rcases h with h | h
                · have := HOLT.out b h; omega
                · omega
              · have h2 : b < n0 ∨ wr.heap.size ≤ b := hb.1
                omega
              · have h2 : b < n0 ∨ wr.heap.size ≤ b := hb.1
                have h3 := ho7.out.lt b h
                have := HOLT.out b (hf7.out b hb.2 h)
                omega)
          have HOW8 := Lib.hid (HK8.out.own ho7.out (fun b hb h => by have := (ho7.out.lt b hb).1; have h' : b = w.heap.size + 1 + 1 := h; omega))
          have HX18 := Lib.hid (HX1.out.kept HKC.out (fun h => h.elim (fun h => by have := HOLT.out _ h; omega) (fun h => by omega)))
          have HB8 := Lib.hid (And.intro (HBS.out.1.trans (HKC.out.below HBS.out.1.size (fun b h => h.elim (fun h => by have := HOLT.out _ h; omega) (fun h => by omega)))) (Nat.le_trans HBS.out.2 hs8))
          have HPM8 := Lib.hid (show (ps ++ [(kt, x6)]).map Prod.fst = (ks.take (k + 1)).map (treeR rs) by
            have e : ks.take (k + 1) = ks.take k ++ [ks[k]] := by simp
            rw [e, List.map_append, List.map_append, HPM.out, HKT.out]; rfl)
          have HKW8 := Lib.hid (show I.OwnI w8 w3.heap.size (.slice Ak ks.length ck) (nums ks) from HKC.out.own HKW.out (fun b hb h => by have h2 := HKLT.out b hb; exact h.elim (fun h => by have := HOLT.out b h; omega) (fun h => by omega)))
          go_wp2_with fail
          try rw [← hKA]
          go_roundg (ks.length - (k + 1))
          case measure => omega
          case rel => exact ⟨k + 1, A7, c7, ps ++ [(kt, x6)], by go_num, by omega, by omega, by simp [hpl], HPM8, HOW8, HTI8, HAT8, HX18, HX8, HB8, HKW8⟩
      · obtain rfl : k = ks.length := by omega
        have h1 : ¬ (ks.length : Int) < (ks.length : Int) := by omega
        obtain ⟨f0, f1, f2, f3, f4⟩ := HX3.out.cells
        obtain ⟨g0, g1, g2, g3, g4⟩ := HX1.out.cells
        have z0 := HX1.out.frozen 0
        have z1 := HX1.out.frozen 1
        have z2 := HX1.out.frozen 2
        have z3 := HX1.out.frozen 3
        have z4 := HX1.out.frozen 4
        obtain ⟨wE, hwE⟩ : ∃ wE, wE = putN wr w.heap.size (.string r.tag) (.string r.key) (.string r.text) (.slice x.A r.as.length x.ca) (.slice Av ks.length cv) := ⟨_, rfl⟩
        have hkE : Kept (· = w.heap.size) wr wE := by rw [hwE]; exact kept_putN _ _ _ _ _ _ _
        have bE : BoxN wE w.heap.size (.string r.tag) (.string r.key) (.string r.text) (.slice x.A r.as.length x.ca) (.slice Av ks.length cv) := by rw [hwE]; exact HX1.out.put _ _ _ _ _
        have HWE := Lib.hid hwE; have HKE := Lib.hid hkE; have HBE := Lib.hid bE
        clear hwE hkE bE
        go_wp2_with fail
        rw [show ((((wr.setCell ⟨w.heap.size, 0, none⟩ (.string r.tag)).setCell ⟨w.heap.size, 1, none⟩ (.string r.key)).setCell ⟨w.heap.size, 2, none⟩ (.string r.text)).setCell ⟨w.heap.size, 3, none⟩ (.slice x.A r.as.length x.ca)).setCell ⟨w.heap.size, 4, none⟩ (.slice Av ks.length cv) = wE from HWE.out.symm]
        refine bodyPost_ret (results_tree20 _ _ w.heap.size _ _ _ _ _ rfl HBE.out) rfl ?_
        have hsE : wr.heap.size ≤ wE.heap.size := HKE.out.size
        have hws := HBS.out.2
        obtain ⟨t, htd⟩ : ∃ t, t = treeR rs h := ⟨_, rfl⟩
        have e1 : t.kids = ks.map (treeR rs) := by rw [htd, HTR.out]; rfl
        have e2 : t.as = r.as := by rw [htd, HTR.out]; rfl
        have e3 : t.tag = r.tag ∧ t.key = r.key ∧ t.text = r.text := by rw [htd, HTR.out]; exact ⟨rfl, rfl, rfl⟩
        have e4 : t.kids.length = ks.length := by rw [e1]; simp
        have how : wE.ownsRow w4.heap.size 25 5 (.slice Av t.kids.length cv) ps.length (nds ps) := by rw [e4]; exact HKE.out.own HOW.out (fun b hb h => by have := HOLT.out b hb; have h' : b = w.heap.size := h; omega)
        have hko : ∀ b, KO n0 w3.heap.size (.slice Av ks.length cv) wr b → OldNew n0 w wE b := fun b hb => ⟨by have := hb.1; omega, Nat.lt_of_lt_of_le hb.2.1 hsE⟩
        have hne : ∀ b, KO n0 w3.heap.size (.slice Av ks.length cv) wr b → ¬ b = w.heap.size := fun b hb h => by have := hb.1; omega
        have hti : ∀ p ∈ ps, TreeIn wE (OldNew n0 w wE) p.1 p.2 := fun p hp => (HTI.out p hp).kept HKE.out hne hko
        obtain ⟨k1, k2, k3, k4⟩ := HAT.out
        rw [← htd]
        refine ⟨⟨x.A, x.ca, Av, cv⟩, by rw [nodeV, e3.1, e3.2.1, e3.2.2, e2, e4], ?_, HBS.out.1.trans (HKE.out.below HBS.out.1.size (fun b h => by have h' : b = w.heap.size := h; omega))⟩
        exact tree_of_rows t ps how (by rw [e4]; exact hpl) (by rw [e1, HPM.out, List.take_of_length_le (Nat.le_refl _)]) hti (by rw [e2]; exact HAT2.out.kept HKE.out hne hko) (by rw [e2]; exact k2) k3 k4 (fun b hb => by
          rw [e4] at hb
          have := HOLT.out b hb
          exact ⟨.inr (by omega), by omega⟩)
end Go.Proofs.Ytlkdklpglmglkaa
