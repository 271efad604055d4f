/-
  flat.assemble: the tree of rows that stand right.
-/
import Derived.Test.YtlkdklpglmglkaaFAsm0
import Derived.Deep.DeepCutAuto
namespace Go.Proofs.Ytlkdklpglmglkaa
open Go.RowKit Go.Sort Go.Lib
set_option linter.unusedVariables false
set_option maxRecDepth 100000
set_option maxHeartbeats 8000000 in
theorem assemble_any (n0 : Nat) (A : Option Addr) (c : Nat) (rs : List Rw) (w : World) (hn : n0 ≤ w.heap.size) (H : RRow w n0 A rs) (hf : FormTo rs rs.length) (h0 : 0 < rs.length) (hl : rs.length ≤ 1000) :
    Calls Try.prog 63 #[.slice A rs.length c] w (AsmPost n0 rs w) := by
  have HR := Lib.hid H; have HF := Lib.hid hf
  clear H hf
  obtain ⟨w1, hw1⟩ : ∃ w1, w1 = zboxW w := ⟨_, rfl⟩
  have hb1 : Below w.heap.size w w1 := by rw [hw1]; exact (Below.refl _ w).alloc (Nat.le_refl _) _
  have hbx : BoxN w1 w.heap.size (.string ⟨#[]⟩) (.string ⟨#[]⟩) (.string ⟨#[]⟩) (.slice none 0 0) (.slice none 0 0) := by rw [hw1]; exact BoxN.new w _ _ _ _ _ _ rfl
  have hs1 : w1.heap.size = w.heap.size + 1 := by rw [hw1]; simp
  obtain ⟨i2, hi2, hy0, hy1, hy2⟩ := info_parts Try.info23
  have HW := Lib.hid hw1; have HB1 := Lib.hid hb1; have HBX := Lib.hid hbx
  have HBY := Lib.hid (show i2.bytes * (rs.length + 1) ≤ 281474976710656 by rw [hy2]; omega)
  clear hw1 hb1 hbx
  go_enter Try.func63, Try.ntmps63
  go_wp2_with (at_make; rw [show w.alloc (.cells #[.string ⟨#[]⟩, .string ⟨#[]⟩, .string ⟨#[]⟩, .slice none 0 0, .slice none 0 0] 25) = w1 from HW.out.symm]; refine wpList_make_full _ rfl (.tmp 9) (.tmp 9) 104 rfl w1.heap.size 23 i2 (.slice none 0 0) 1 Try.underlying104 hi2 hy0 hy1 .i64 .i64 _ _ (rs.length + 1) rfl rfl rfl rfl HBY.out (by unfold maxLen; omega) (Nat.le_refl _) ?_; intro w2 hown2 hg2; rw [made_nils] at hown2; have HG2 := Lib.hid hg2; clear hg2; have HO2 := Lib.hid hown2; clear hown2)
  have nf : ¬ (False : Prop) := fun h => h
  have hb2 : Below w1.heap.size w1 w2 := (Below.refl _ _).grown HG2.out (Nat.le_refl _) (fun k hk => by cases hk)
  have HAR0 := Lib.hid (show AR n0 rs w w1 w2 w1.heap.size rs.length (List.replicate (rs.length + 1) nilV) (fun _ => []) (fun b => b < n0) from ⟨AW.new HO2.out (by omega) (by omega), fun j hj => by rw [kidsAf_last]; rfl, HBX.out.kept (kept_below hb2 (fun _ => False)) nf, HB1.out.trans (hb2.mono HB1.out.size), hn⟩)
  clear hb2 HG2 HO2 HBX HB1 HBY
  obtain ⟨g, hg⟩ : ∃ g, g = w.heap.size + 1 := ⟨_, rfl⟩
  have HG := Lib.hid hg
  rw [hs1, ← hg] at HAR0
  rw [← hg]
  clear hg hs1
  go_loopg [4, 5, 6] rs.length (fun q s4 _ _ wr => ∃ (h : Nat) (V : List Value) (L : Nat → List KV) (P : Nat → Prop), s4 = .int .i64 h ∧ h ≤ rs.length ∧ h ≤ q ∧ RowKit.Hid (AR n0 rs w w1 wr g h V L P))
  case atStart => exact ⟨rs.length, _, _, _, rfl, by omega, by omega, HAR0⟩
  case round =>
    obtain ⟨h, V, L, P, rfl, hh, hq, HAR⟩ := hrel
    by_cases hpos : 0 < h
    · have h1 : (h : Int) > 0 := by omega
      obtain ⟨h', hh'⟩ : ∃ h', h' = h - 1 := ⟨_, rfl⟩
      have hhe : h = h' + 1 := by omega
      have hlt : h' < rs.length := by omega
      obtain ⟨b, off, r, x, hA, hb, hr, hc, hat⟩ := rrow_at (HR.out.below (HAR.out.bel.mono hn)) hlt
      obtain ⟨c0, c1, c2, c3, c4, c5⟩ := hc
      have hr' : rwAt rs h' = r := by rw [rwAt_eq hlt, hr]
      obtain ⟨v1, v2⟩ := okAt_up (HF.out h' hlt)
      rw [hr'] at v1 v2
      obtain ⟨u, hu⟩ : ∃ u, u = r.up.toNat := ⟨_, rfl⟩
      have hru : r.up = (u : Int) := by omega
      have huh : u ≤ h' := by omega
      have hux : (u : Int) < (rs.length : Int) + 1 := by omega
      have hhx : (h : Int) < (rs.length : Int) + 1 := by omega
      obtain ⟨Ah, ch, nh, ps, w5, hw5, hps, hnh, hpl, hvh, hch, hcc, hown5⟩ := asm_ahead HAR.out r x
      have CR := Lib.hid (rev_both (g + 1) Ah nh ch ps w5 hown5 hnh.symm (by omega))
      have hw5' : w5 = wr.alloc (.cells #[.int .i64 r.id, .int .i64 (u : Int), .string r.tag, .string r.key, .string r.text, .slice x.A r.as.length x.ca] 56) := by rw [hw5, ← hru]
      have hchR : (wr.alloc (.cells #[.int .i64 r.id, .int .i64 (u : Int), .string r.tag, .string r.key, .string r.text, .slice x.A r.as.length x.ca] 56)).cell? ⟨g, h, none⟩ = some (.slice Ah nh ch) := cell_push hch
      have hw : IntKind.i64.wrap ((h : Int) - 1) = (h' : Int) := by rw [IntKind.wrap_i64]; omega
      have HMID := Lib.hid (fun w6 hkr hk6 => asm_mid (w6 := w6) HAR.out HF.out HG.out hhe hr' hat hw5 hps hnh hvh hkr hk6)
      have HLIS := Lib.hid (show Lis rs (h' + 1) L by rw [← hhe]; exact HAR.out.lis)
      have HUP := Lib.hid (show (rwAt rs h').up = (u : Int) by rw [hr', hru])
      have HRU := Lib.hid hru; have HW5 := Lib.hid hw5'; have HMS := Lib.hid (show h' < h ∧ h' ≤ rs.length by omega)
      rw [hru] at c1
      clear hh' hhe hr hr' hat v1 v2 hu hvh hps hnh hw5 hw5' hown5 hch hpl
      go_wp2_with fail
      rw [← HW5.out]
      refine CR.out.mono ?_
      rintro e w6 ⟨rfl, hkr, hk6⟩
      obtain ⟨P6, hmid, hch6, t1, t2, t3, t4, t5, hs6⟩ := HMID.out w6 hkr hk6
      obtain ⟨d0, d1, d2, d3, d4, d5⟩ := hmid.rc
      have HMID6 := Lib.hid hmid
      have HT := Lib.hid (And.intro t1 (And.intro t2 (And.intro t3 (And.intro t4 t5))))
      have q2 : (zboxW w6).cell? ⟨wr.heap.size, 0 + 2, none⟩ = some (.string r.tag) := cell_push d2
      have q3 : (zboxW w6).cell? ⟨wr.heap.size, 0 + 3, none⟩ = some (.string r.key) := cell_push d3
      have q4 : (zboxW w6).cell? ⟨wr.heap.size, 0 + 4, none⟩ = some (.string r.text) := cell_push d4
      have q5 : (zboxW w6).cell? ⟨wr.heap.size, 0 + 5, none⟩ = some (.slice x.A r.as.length x.ca) := cell_push d5
      have q6 : (zboxW w6).cell? ⟨g, h, none⟩ = some (.slice Ah nh ch) := cell_push hch6
      unfold zboxW at q2 q3 q4 q5 q6
      clear CR hchR c0 c1 c2 c3 c4 c5 HMID hkr hk6 hmid t1 t2 t3 t4 t5 d0 d1
      go_upto_region 7 with (fail)
      go_cut [6] from 13 to 64 (fun s6 wc => s6 = .pointer (some ⟨w6.heap.size, 0, none⟩) ∧ RowKit.Hid (Mid n0 rs w wc g h' V L P6 (treeR rs (h' + 1)) ⟨x.A, x.ca, Ah, ch⟩ r x wr.heap.size ∧ BoxN wc w6.heap.size (.string r.tag) (.string r.key) (.string r.text) (.slice x.A r.as.length x.ca) (.slice Ah nh ch)))
      case first =>
        have hb67 : Below w6.heap.size w6 (w6.alloc (.cells #[.string r.tag, .string r.key, .string r.text, .slice x.A r.as.length x.ca, .slice Ah nh ch] 25)).drew := ((Below.refl _ w6).alloc (Nat.le_refl _) _).trans (below_drewN _ _ 1)
        have HM7 := Lib.hid (HMID6.out.up hb67)
        have HN7 := Lib.hid (BoxN.new w6 (.string r.tag) (.string r.key) (.string r.text) (.slice x.A r.as.length x.ca) (.slice Ah nh ch) _ rfl)
        clear hb67
        go_region
        go_wp2_with fail
        go_meet
        exact ⟨rfl, Lib.hid ⟨HM7.out, HN7.out⟩⟩
      case rest =>
      obtain ⟨rfl, HC7⟩ := hcut
      generalize wc = w7 at HC7 ⊢
      clear q2 q3 q4 q5 q6 d2 d3 d4 d5 hch6 HMID6
      go_upto_region 8 with (fail)
      go_cut [41] from 13 to 64 (fun s41 wc => ∃ bb, s41 = .bool bb ∧ RowKit.Hid (Mid n0 rs w wc g h' V L P6 (treeR rs (h' + 1)) ⟨x.A, x.ca, Ah, ch⟩ r x wr.heap.size ∧ BoxN wc w6.heap.size (.string r.tag) (.string r.key) (.string r.text) (.slice x.A r.as.length x.ca) (.slice Ah nh ch)))
      case first =>
        have K8 := Lib.hid (fun bb : Bool => (show Mid n0 rs w ((w7.alloc (.cells #[.bool bb] 4)).drew) g h' V L P6 (treeR rs (h' + 1)) ⟨x.A, x.ca, Ah, ch⟩ r x wr.heap.size ∧ BoxN ((w7.alloc (.cells #[.bool bb] 4)).drew) w6.heap.size (.string r.tag) (.string r.key) (.string r.text) (.slice x.A r.as.length x.ca) (.slice Ah nh ch) from ⟨HC7.out.1.up (((Below.refl _ w7).alloc (Nat.le_refl _) _).trans (below_drewN _ _ 1)), HC7.out.2.kept (kept_below (((Below.refl _ w7).alloc (Nat.le_refl _) _).trans (below_drewN _ _ 1)) (fun _ => False)) nf⟩))
        go_region
        all_goals
          go_wp2_with fail
          go_meet
          exact ⟨_, rfl, Lib.hid (K8.out _)⟩
      case rest =>
      obtain ⟨bb, rfl, HC8⟩ := hcut
      generalize wc = w8 at HC8 ⊢
      clear HC7
      cases bb with
      | false =>
        obtain ⟨Au, nu, cu, A9, c9, w9, hnu, hcuc, hcu, e1, b1, f9, z9, HR9, hnb9, HNEXT⟩ := asm_app (w1 := w1) HC8.out.1 HG.out HLIS.out hlt HUP.out huh hl HT.out HRU.out HC8.out.2 (Nat.le_of_lt hs6)
        obtain ⟨n0, n1, n2, n3, n4⟩ := HC8.out.2.cells
        clear hnb9 HC8
        have a1 : (w8.alloc (.cells #[.string r.tag, .string r.key, .string r.text, .slice x.A r.as.length x.ca, .slice Ah nh ch] 25)).cell? ⟨g, u, none⟩ = some (.slice Au nu cu) := cell_push hcu
        have a2 : (w8.alloc (.cells #[.string r.tag, .string r.key, .string r.text, .slice x.A r.as.length x.ca, .slice Ah nh ch] 25)).cell? ⟨wr.heap.size, 1, none⟩ = some (.int .i64 u) := cell_push e1
        go_wp2_with fail
        go_region_law (refine step_append_run rfl (.tmp 60) (.tmp 62) 23 rfl (.slice Au nu cu) (.slice (some ⟨w8.heap.size, 0, none⟩) 1 1) (by first | (simp [Act.eval]; done) | (simp [Act.eval, Act.put]; done)) (by first | (simp [Act.eval]; done) | (simp [Act.eval, Act.put]; done)) HR9.out ?_)
        all_goals
          generalize w9.setCell ⟨g, u, none⟩ (.slice A9 (nu + 1) c9) = w10 at HNEXT ⊢
          clear f9 z9 a1 a2 b1 e1 n0 n1 n2 n3 n4 hcu
          go_wp2_with fail
          try rw [← hA]
          go_roundg h'
          case measure => have := HMS.out.1; omega
          case rel => exact ⟨h', _, _, _, rfl, HMS.out.2, by omega, HNEXT⟩
      | true =>
        obtain ⟨Au, nu, cu, gv, c9, w9, w10, hnu, hcuc, hcu, e1, b1, f9, z9, HR9, hnb9, HW10, hp, hfz, HNEXT⟩ := asm_app0 (w1 := w1) HC8.out.1 HG.out HLIS.out hlt HUP.out huh hl HT.out HRU.out HC8.out.2 (Nat.le_of_lt hs6)
        obtain ⟨n0, n1, n2, n3, n4⟩ := HC8.out.2.cells
        obtain ⟨m0, m1, m2, m3, m4⟩ := hnb9.cells
        obtain ⟨l0, l1, l2, l3, l4⟩ := (HC8.out.2.kept (kept_alloc w8 (.cells #[.string ⟨#[]⟩, .string ⟨#[]⟩, .string ⟨#[]⟩, .slice none 0 0, .slice none 0 0] 25) (fun _ => False)) nf).cells
        have HPC := Lib.hid hp; have HFZ := Lib.hid hfz
        clear hnb9 HC8 hp hfz
        have a1 : (w8.alloc (.cells #[.string ⟨#[]⟩, .string ⟨#[]⟩, .string ⟨#[]⟩, .slice none 0 0, .slice none 0 0] 25)).cell? ⟨g, u, none⟩ = some (.slice Au nu cu) := cell_push hcu
        have a2 : (w8.alloc (.cells #[.string ⟨#[]⟩, .string ⟨#[]⟩, .string ⟨#[]⟩, .slice none 0 0, .slice none 0 0] 25)).cell? ⟨wr.heap.size, 1, none⟩ = some (.int .i64 u) := cell_push e1
        go_upto_region 9 with (fail)
        go_cut [47, 48, 50] from 13 to 64 (fun s47 s48 s50 wc => s47 = .agg #[.string r.tag, .string r.key, .string r.text, .slice x.A r.as.length x.ca, .slice Ah nh ch] ∧ s48 = .int .i64 nu ∧ s50 = .slice (some ⟨gv, 0, none⟩) (nu + 1) c9 ∧ RowKit.Hid (w10 = wc))
        case first =>
          go_region_law (refine step_append_run rfl (.tmp 46) (.tmp 49) 23 rfl (.slice Au nu cu) (.slice (some ⟨w8.heap.size, 0, none⟩) 1 1) (by first | (simp [Act.eval]; done) | (simp [Act.eval, Act.put]; done)) (by first | (simp [Act.eval]; done) | (simp [Act.eval, Act.put]; done)) HR9.out ?_)
          all_goals
            go_wp2_with fail
            go_meet
            exact ⟨rfl, rfl, rfl, HW10⟩
        case rest =>
        obtain ⟨rfl, rfl, rfl, hw10⟩ := hcut
        have hw10' := hw10.out
        subst hw10'
        obtain ⟨p0, p1, p2, p3, p4⟩ := HPC.out
        have y0 := HFZ.out (nu * 5)
        have y1 := HFZ.out (nu * 5 + 1)
        have y2 := HFZ.out (nu * 5 + 2)
        have y3 := HFZ.out (nu * 5 + 3)
        have y4 := HFZ.out (nu * 5 + 4)
        have hnx : (nu : Int) < (nu : Int) + 1 := by omega
        clear f9 z9 a1 a2 b1 e1 n0 n1 n2 n3 n4 m0 m1 m2 m3 m4 l0 l1 l2 l3 l4 hcu HW10 HPC HFZ hw10 HR9
        go_wp2_with fail
        try rw [← hA]
        go_roundg h'
        case measure => have := HMS.out.1; omega
        case rel => exact ⟨h', _, _, _, rfl, HMS.out.2, by omega, HNEXT⟩
    · obtain rfl : h = 0 := by omega
      have h1 : ¬ ((0 : Nat) : Int) > 0 := by omega
      obtain ⟨x, A0, c0, b0, f0, f1, f2, f3, f4, k0, hbx0, HTA⟩ := asm_end HAR.out HF.out h0 HG.out
      obtain ⟨g0, g1, g2, g3, g4⟩ := hbx0.cells
      have z0 := hbx0.frozen 0
      have z1 := hbx0.frozen 1
      have z2 := hbx0.frozen 2
      have z3 := hbx0.frozen 3
      have z4 := hbx0.frozen 4
      have hl0 : (0 : Int) < (rs.length : Int) + 1 := by omega
      have HBE := Lib.hid (hbx0.put (.string (treeR rs 1).tag) (.string (treeR rs 1).key) (.string (treeR rs 1).text) (.slice x.A (treeR rs 1).as.length x.ca) (.slice x.K (treeR rs 1).kids.length x.ck))
      clear hbx0 HAR
      go_wp2_with fail
      refine bodyPost_ret (results_tree63 _ _ w.heap.size _ _ _ _ _ rfl HBE.out) rfl ?_
      exact ⟨x, rfl, HTA.out.1, HTA.out.2⟩
end Go.Proofs.Ytlkdklpglmglkaa
