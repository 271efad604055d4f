/-
  markup.Parse.
-/
import Derived.Test.YtjnhcoflmechmaaGreatDoorMRead
namespace Go.Proofs.YtjnhcoflmechmaaGreatDoor.M
open Go.RowKit Go.Sort
set_option linter.unusedVariables false
set_option maxRecDepth 100000
/-- What Parse says. -/
def ParseC (s : ByteArray) (w : World) (e : Ending) (w' : World) : Prop := ∃ (t : Tr) (x : NV) (a er : Int), e = .returned (.tuple #[nodeV t x, .int .i64 a, .int .i64 er]) ∧ TreeIn w' (fun b => w.heap.size ≤ b) t x ∧ ParseM s t a er ∧ Below w.heap.size w w'
theorem tin_zero (w : World) (S : Nat → Prop) : TreeIn w S zeroT ⟨none, 0, none, 0⟩ := .mk (fun _ => ⟨none, 0, none, 0⟩) (fun h => by simp [Tr.as] at h) (Nat.le_refl _) (by simp [maxLen]) (fun _ => rfl) (Nat.le_refl _) (by simp [maxLen]) (fun _ => rfl) (fun h => by simp [Tr.kids] at h) (fun j h => by simp [Tr.kids] at h)
abbrev resW (w : World) : World := ((w.alloc (.cells #[.string ⟨#[]⟩, .string ⟨#[]⟩, .string ⟨#[]⟩, .slice none 0 0, .slice none 0 0] 25)).alloc (.cells #[.int .i64 0] 3)).alloc (.cells #[.int .i64 0] 28)
theorem resW_res (w : World) : Res3 (resW w) w.heap.size (.string ⟨#[]⟩) (.string ⟨#[]⟩) (.string ⟨#[]⟩) (.slice none 0 0) (.slice none 0 0) 0 0 := by
  have s1 : (zeroNW w).heap.size = w.heap.size + 1 := by simp
  have s2 : ((zeroNW w).alloc (.cells #[.int .i64 0] 3)).heap.size = w.heap.size + 1 + 1 := by simp
  refine ⟨?_, ?_, ?_⟩
  · have : B5 (zeroNW w) w.heap.size 25 (.string ⟨#[]⟩) (.string ⟨#[]⟩) (.string ⟨#[]⟩) (.slice none 0 0) (.slice none 0 0) := B5.new _ _ _ _ _ _ _ _ rfl
    exact (this.kept (kept_alloc _ _ (fun _ => False)) (fun h => h)).kept (kept_alloc _ _ (fun _ => False)) (fun h => h)
  · rw [heap_alloc_old ((zeroNW w).alloc (.cells #[.int .i64 0] 3)) _ (show w.heap.size + 1 < _ by rw [s2]; omega), ← s1]; exact heap_alloc_new _ _
  · rw [← s2]; exact heap_alloc_new _ _
set_option maxHeartbeats 8000000 in
theorem parse_any (s : ByteArray) (w : World) (hs : s.size ≤ 1000000000) (hN : cntK (restL s 0) ≤ 4096) (hG : ∀ t l, nodeP (restL s 0) = .ok t l → GoodT t) (hv : Vars w) : Calls Tryz.prog 15 #[.string s] w (ParseC s w) := by
  have hmf : ∀ (fn : Fn) (first cap : Array Value) (w : World), (Instr.makeFunc fn first cap).run Tryz.prog w = .ok (.func fn first cap) w := fun _ _ _ _ => rfl
  obtain ⟨B, hB⟩ : ∃ B, B = w.heap.size := ⟨_, rfl⟩
  obtain ⟨w3, hw3⟩ : ∃ w3, w3 = resW w := ⟨_, rfl⟩
  have hr3 : Res3 w3 B (.string ⟨#[]⟩) (.string ⟨#[]⟩) (.string ⟨#[]⟩) (.slice none 0 0) (.slice none 0 0) 0 0 := by rw [hw3, hB]; exact resW_res w
  have hs3 : w3.heap.size = w.heap.size + 3 := by rw [hw3]; simp
  have hk3 : Kept (fun _ => False) w w3 := by rw [hw3]; exact ((kept_alloc _ _ _).trans (kept_alloc _ _ _)).trans (kept_alloc _ _ _)
  have hb3 : Below w.heap.size w w3 := hk3.below (Nat.le_refl _) (fun _ e => e.elim)
  have hv3 := vars_more hv hk3 (fun _ e => e.elim)
  have CR := read_any s w3 hs hN hv3
  have HGD := Lib.hid hG
  obtain ⟨R, hR⟩ : ∃ R, R = wholeP (restL s 0) := ⟨_, rfl⟩
  rw [← hR] at CR
  have HR := Lib.hid (show wholeP s.data.toList = R from hR.symm)
  have HC := Lib.hid CR; have HR3 := Lib.hid hr3; have HS3 := Lib.hid hs3; have HB3 := Lib.hid hb3
  have HW3 := Lib.hid (show ((w.alloc (.cells #[.string ⟨#[]⟩, .string ⟨#[]⟩, .string ⟨#[]⟩, .slice none 0 0, .slice none 0 0] 25)).alloc (.cells #[.int .i64 0] 3)).alloc (.cells #[.int .i64 0] 28) = w3 from hw3.symm)
  have HB := Lib.hid hB
  clear CR hR hr3 hs3 hb3 hk3 hv3 hv hN hw3 hG
  go_enter_defers Tryz.func15, Tryz.ntmps15
  go_upto_region 2 with (fail)
  rw [HW3.out, show w.heap.size = B from HB.out.symm]
  go_wp2_with fail
  refine HC.out.mono ?_
  rintro e w4 ⟨hst, hb4⟩
  clear HC
  cases R with
  | bad n er =>
    obtain ⟨rfl, hn⟩ := hst
    have hr4 := HR3.out.kept (kept_below hb4 (fun _ => False)) (fun h => h) (fun h => h) (fun h => h)
    obtain ⟨i1, i2, i3, i4⟩ := hr4.ci
    obtain ⟨c0, c1, c2, c3, c4⟩ := hr4.n.cells
    have hres := ((hr4.putn (.string ⟨#[]⟩) (.string ⟨#[]⟩) (.string ⟨#[]⟩) (.slice none 0 0) (.slice none 0 0)).puti ((s.size - n : Nat) : Int)).pute 2
    have CF := catch_fault B (B + 1) (B + 1 + 1) (s.size - n) w4 _ _ _ _ _ _ _ c0 c1 c2 c3 c4 (fun j => hr4.n.frozen j) i1 i2 i3 i4 (by omega) (by omega) (by omega)
    have HF : ParseC s w (.returned (.tuple #[.agg #[.string ⟨#[]⟩, .string ⟨#[]⟩, .string ⟨#[]⟩, .slice none 0 0, .slice none 0 0], .int .i64 ((s.size - n : Nat) : Int), .int .i64 2])) (((put5 w4 B (.string ⟨#[]⟩) (.string ⟨#[]⟩) (.string ⟨#[]⟩) (.slice none 0 0) (.slice none 0 0)).setCell ⟨B + 1, 0, none⟩ (.int .i64 ((s.size - n : Nat) : Int))).setCell ⟨B + 1 + 1, 0, none⟩ (.int .i64 2)) := by
      refine ⟨zeroT, ⟨none, 0, none, 0⟩, _, _, rfl, tin_zero _ _, ?_, ?_⟩
      · unfold ParseM; rw [HR.out]; exact ⟨rfl, rfl, rfl⟩
      · have b4 : Below w.heap.size w w4 := HB3.out.trans (hb4.mono (by rw [HS3.out]; omega))
        have k5 := kept_put5 w4 B (.string ⟨#[]⟩) (.string ⟨#[]⟩) (.string ⟨#[]⟩) (.slice none 0 0) (.slice none 0 0)
        have k6 := kept_setCell (put5 w4 B (.string ⟨#[]⟩) (.string ⟨#[]⟩) (.string ⟨#[]⟩) (.slice none 0 0) (.slice none 0 0)) ⟨B + 1, 0, none⟩ (.int .i64 ((s.size - n : Nat) : Int))
        have k7 := kept_setCell ((put5 w4 B (.string ⟨#[]⟩) (.string ⟨#[]⟩) (.string ⟨#[]⟩) (.slice none 0 0) (.slice none 0 0)).setCell ⟨B + 1, 0, none⟩ (.int .i64 ((s.size - n : Nat) : Int))) ⟨B + 1 + 1, 0, none⟩ (.int .i64 2)
        have hle := b4.size
        have hBe := HB.out
        refine ((b4.trans (k5.below hle (fun k e => by have e' : k = B := e; omega))).trans (k6.below (Nat.le_trans hle k5.size) (fun k e => by have e' : k = B + 1 := e; omega))).trans (k7.below (Nat.le_trans (Nat.le_trans hle k5.size) k6.size) (fun k e => by have e' : k = B + 1 + 1 := e; omega))
    simp only [PanE]
    refine leaves_cons (f := 37) (args := #[.pointer (some ⟨B, 0, none⟩), .pointer (some ⟨B + 1, 0, none⟩), .pointer (some ⟨B + 1 + 1, 0, none⟩)]) (by simp) (by simp [go_sem]) ?_
    refine CF.mono ?_
    rintro e u' w5 ⟨rfl, rfl, rfl⟩
    exact ⟨_, res333 rfl _ _ B _ _ _ _ _ _ _ rfl rfl rfl hres, HF⟩
  | ok t q =>
    obtain ⟨x, rfl, ht⟩ := hst
    have hr4 := HR3.out.kept (kept_below hb4 (fun _ => False)) (fun h => h) (fun h => h) (fun h => h)
    obtain ⟨w5, hw5⟩ : ∃ w5, w5 = put5 w4 B (.string (cutT t).tag) (.string (cutT t).key) (.string (cutT t).text) (.slice x.A (cutT t).as.length x.ca) (.slice x.K (cutT t).kids.length x.ck) := ⟨_, rfl⟩
    have hr5 := hr4.putn (.string (cutT t).tag) (.string (cutT t).key) (.string (cutT t).text) (.slice x.A (cutT t).as.length x.ca) (.slice x.K (cutT t).kids.length x.ck)
    have hk5 := kept_put5 w4 B (.string (cutT t).tag) (.string (cutT t).key) (.string (cutT t).text) (.slice x.A (cutT t).as.length x.ca) (.slice x.K (cutT t).kids.length x.ck)
    rw [← hw5] at hr5 hk5
    have b4 : Below w.heap.size w w4 := HB3.out.trans (hb4.mono (by rw [HS3.out]; omega))
    have b5 : Below w.heap.size w w5 := b4.trans (hk5.below b4.size (fun k e => by have e' : k = B := e; have := HB.out; omega))
    have ht5 : TreeIn w5 (fun b => B + 3 ≤ b) (cutT t) x := (ht.kept hk5 (fun b hb _ e => by have e' : b = B := e; have h1 := HS3.out; have h2 := HB.out; omega)).mono (fun b hb _ => by have h1 := HS3.out; have h2 := HB.out; omega)
    have hnode := (whole_ok HR.out).2.1
    have hgood := good_cut t (HGD.out t [] hnode)
    have CC := vcheck_any (cutT t) x w5 ht5.at hgood
    have hff := seen_first aloneT (cutT t)
    generalize hrr : seenL aloneT (cutT t) = r at CC hff
    obtain ⟨f, hf⟩ : ∃ f : Int, f = if r.2 = 0 then 0 else (r.1.length : Int) := ⟨_, rfl⟩
    obtain ⟨g, hg⟩ : ∃ g, g = r.2 := ⟨_, rfl⟩
    have hff2 := first_cut hff
    rw [← hf, ← hg] at CC hff2 hff
    have hok : g = 0 → cutT t = t := fun e => cut_ok' (by unfold okT; rw [hrr, ← hg]; exact e)
    obtain ⟨c0, c1, c2, c3, c4⟩ := hr4.n.cells
    have y0 := hr4.n.frozen 0; have y1 := hr4.n.frozen 1; have y2 := hr4.n.frozen 2; have y3 := hr4.n.frozen 3; have y4 := hr4.n.frozen 4
    obtain ⟨d0, d1, d2, d3, d4⟩ := hr5.n.cells
    have HCC := Lib.hid CC; have HR5 := Lib.hid hr5; have HB5 := Lib.hid b5; have HT5 := Lib.hid ht5; have HFF := Lib.hid hff2; have HOK := Lib.hid hok
    have HW5 := Lib.hid (show ((((w4.setCell ⟨B, 0, none⟩ (.string (cutT t).tag)).setCell ⟨B, 1, none⟩ (.string (cutT t).key)).setCell ⟨B, 2, none⟩ (.string (cutT t).text)).setCell ⟨B, 3, none⟩ (.slice x.A (cutT t).as.length x.ca)).setCell ⟨B, 4, none⟩ (.slice x.K (cutT t).kids.length x.ck) = w5 from hw5.symm)
    clear hr4 hb4 hw5 hr5 hk5 b4 b5 ht5 hnode hgood CC hff hff2 hok hrr hf hg ht hB
    go_upto_region 3 with (fail)
    rw [HW5.out]
    clear c0 c1 c2 c3 c4 y0 y1 y2 y3 y4
    go_wp2_with fail
    refine HCC.out.mono ?_
    rintro e w6 ⟨rfl, hb6⟩
    clear HCC
    have hr6 := HR5.out.kept (kept_below hb6 (fun _ => False)) (fun h => h) (fun h => h) (fun h => h)
    have ht6 := HT5.out.kept (kept_below hb6 (fun _ => False)) (fun _ _ _ h => h)
    have b6 := HB5.out.trans (hb6.mono HB5.out.size)
    obtain ⟨w7, hw7⟩ : ∃ w7, w7 = (w6.setCell ⟨B + 1, 0, none⟩ (.int .i64 f)).setCell ⟨B + 1 + 1, 0, none⟩ (.int .i64 g) := ⟨_, rfl⟩
    have hr7 := (hr6.puti f).pute g
    have k7a := kept_setCell w6 ⟨B + 1, 0, none⟩ (.int .i64 f)
    have k7b := kept_setCell (w6.setCell ⟨B + 1, 0, none⟩ (.int .i64 f)) ⟨B + 1 + 1, 0, none⟩ (.int .i64 g)
    have k7 : Kept (fun k => k = B + 1 ∨ k = B + 1 + 1) w6 w7 := by rw [hw7]; exact (k7a.mono (fun k _ e => .inl e)).trans (k7b.mono (fun k _ e => .inr e))
    rw [← hw7] at hr7
    have ht7 := ht6.kept k7 (fun b hb _ e => by have hb' : B + 3 ≤ b := hb; rcases e with e | e <;> omega)
    have b7 := b6.trans (k7.below b6.size (fun k e => by have := HB.out; rcases e with e | e <;> omega))
    obtain ⟨i1, i2, i3, i4⟩ := hr6.ci
    have HR7 := Lib.hid hr7; have HT7 := Lib.hid ht7; have HB7 := Lib.hid b7
    have HW7 := Lib.hid (show (w6.setCell ⟨B + 1, 0, none⟩ (.int .i64 f)).setCell ⟨B + 1 + 1, 0, none⟩ (.int .i64 g) = w7 from hw7.symm)
    clear hr6 ht6 b6 k7a k7b k7 hr7 ht7 b7 hw7 hb6 HR5 HT5 HB5 d0 d1 d2 d3 d4 HW5
    go_upto_region 4 with (fail)
    rw [HW7.out]
    clear i1 i2 i3 i4 HW7
    obtain ⟨j1, j2, j3, j4⟩ := HR7.out.ci
    obtain ⟨c0, c1, c2, c3, c4⟩ := HR7.out.n.cells
    have y0 := HR7.out.n.frozen 0; have y1 := HR7.out.n.frozen 1; have y2 := HR7.out.n.frozen 2; have y3 := HR7.out.n.frozen 3; have y4 := HR7.out.n.frozen 4
    by_cases h0 : g = 0
    · have hct := HOK.out h0
      subst h0
      have hres := ((HR7.out.putn (.string (cutT t).tag) (.string (cutT t).key) (.string (cutT t).text) (.slice x.A (cutT t).as.length x.ca) (.slice x.K (cutT t).kids.length x.ck)).puti 0).pute 0
      have HF : ParseC s w (.returned (.tuple #[.agg #[.string (cutT t).tag, .string (cutT t).key, .string (cutT t).text, .slice x.A (cutT t).as.length x.ca, .slice x.K (cutT t).kids.length x.ck], .int .i64 0, .int .i64 0])) (((put5 w7 B (.string (cutT t).tag) (.string (cutT t).key) (.string (cutT t).text) (.slice x.A (cutT t).as.length x.ca) (.slice x.K (cutT t).kids.length x.ck)).setCell ⟨B + 1, 0, none⟩ (.int .i64 0)).setCell ⟨B + 1 + 1, 0, none⟩ (.int .i64 0)) := by
        have k1 := kept_put5 w7 B (.string (cutT t).tag) (.string (cutT t).key) (.string (cutT t).text) (.slice x.A (cutT t).as.length x.ca) (.slice x.K (cutT t).kids.length x.ck)
        have k2 := kept_setCell (put5 w7 B (.string (cutT t).tag) (.string (cutT t).key) (.string (cutT t).text) (.slice x.A (cutT t).as.length x.ca) (.slice x.K (cutT t).kids.length x.ck)) ⟨B + 1, 0, none⟩ (.int .i64 0)
        have k3 := kept_setCell ((put5 w7 B (.string (cutT t).tag) (.string (cutT t).key) (.string (cutT t).text) (.slice x.A (cutT t).as.length x.ca) (.slice x.K (cutT t).kids.length x.ck)).setCell ⟨B + 1, 0, none⟩ (.int .i64 0)) ⟨B + 1 + 1, 0, none⟩ (.int .i64 0)
        have kk : Kept (fun k => k = B ∨ k = B + 1 ∨ k = B + 1 + 1) w7 _ := ((k1.mono (fun k _ e => .inl e)).trans (k2.mono (fun k _ e => .inr (.inl e)))).trans (k3.mono (fun k _ e => .inr (.inr e)))
        refine ⟨cutT t, x, 0, 0, rfl, (HT7.out.kept kk (fun b hb _ e => by have hb' : B + 3 ≤ b := hb; rcases e with e | e | e <;> omega)).mono (fun b hb _ => by have := HB.out; have hb' : B + 3 ≤ b := hb; omega), ?_, HB7.out.trans (kk.below HB7.out.size (fun k e => by have := HB.out; rcases e with e | e | e <;> omega))⟩
        unfold ParseM
        rw [HR.out]
        exact ⟨f, 0, HFF.out, .inl ⟨rfl, hct, rfl, rfl⟩⟩
      clear hct
      go_wp2_with fail
      refine leaves_cons (f := 37) (args := #[.pointer (some ⟨B, 0, none⟩), .pointer (some ⟨B + 1, 0, none⟩), .pointer (some ⟨B + 1 + 1, 0, none⟩)]) (by simp) (by simp [go_sem]) ?_
      refine (catch_none B (B + 1) (B + 1 + 1) _).mono ?_
      rintro e u' w8 ⟨rfl, rfl, rfl⟩
      exact ⟨_, res333 rfl _ _ B _ _ _ _ _ _ _ rfl rfl rfl hres, HF⟩
    · have hne : (g != 0) = true := by simpa using h0
      have hne2 : ¬ g = 0 := h0
      have hz := HR7.out.putn (.string ⟨#[]⟩) (.string ⟨#[]⟩) (.string ⟨#[]⟩) (.slice none 0 0) (.slice none 0 0)
      obtain ⟨e1, e2, e3, e4⟩ := hz.ci
      have e1' : (((((w7.setCell ⟨B, 0, none⟩ (.string ⟨#[]⟩)).setCell ⟨B, 1, none⟩ (.string ⟨#[]⟩)).setCell ⟨B, 2, none⟩ (.string ⟨#[]⟩)).setCell ⟨B, 3, none⟩ (.slice none 0 0)).setCell ⟨B, 4, none⟩ (.slice none 0 0)).cell? ⟨B + 1, 0, none⟩ = some (.int .i64 f) := e1
      have e2' : (((((w7.setCell ⟨B, 0, none⟩ (.string ⟨#[]⟩)).setCell ⟨B, 1, none⟩ (.string ⟨#[]⟩)).setCell ⟨B, 2, none⟩ (.string ⟨#[]⟩)).setCell ⟨B, 3, none⟩ (.slice none 0 0)).setCell ⟨B, 4, none⟩ (.slice none 0 0)).cell? ⟨B + 1 + 1, 0, none⟩ = some (.int .i64 g) := e3
      have hres := (hz.puti f).pute g
      obtain ⟨w8, hw8⟩ : ∃ w8, w8 = ((put5 w7 B (.string ⟨#[]⟩) (.string ⟨#[]⟩) (.string ⟨#[]⟩) (.slice none 0 0) (.slice none 0 0)).setCell ⟨B + 1, 0, none⟩ (.int .i64 f)).setCell ⟨B + 1 + 1, 0, none⟩ (.int .i64 g) := ⟨_, rfl⟩
      have hk8 : Kept (fun k => k = B ∨ k = B + 1 ∨ k = B + 1 + 1) w7 w8 := by
        rw [hw8]
        have k1 := kept_put5 w7 B (.string ⟨#[]⟩) (.string ⟨#[]⟩) (.string ⟨#[]⟩) (.slice none 0 0) (.slice none 0 0)
        have k2 := kept_setCell (put5 w7 B (.string ⟨#[]⟩) (.string ⟨#[]⟩) (.string ⟨#[]⟩) (.slice none 0 0) (.slice none 0 0)) ⟨B + 1, 0, none⟩ (.int .i64 f)
        have k3 := kept_setCell ((put5 w7 B (.string ⟨#[]⟩) (.string ⟨#[]⟩) (.string ⟨#[]⟩) (.slice none 0 0) (.slice none 0 0)).setCell ⟨B + 1, 0, none⟩ (.int .i64 f)) ⟨B + 1 + 1, 0, none⟩ (.int .i64 g)
        exact ((k1.mono (fun k _ e => .inl e)).trans (k2.mono (fun k _ e => .inr (.inl e)))).trans (k3.mono (fun k _ e => .inr (.inr e)))
      rw [← hw8] at hres
      have HF : ParseC s w (.returned (.tuple #[.agg #[.string ⟨#[]⟩, .string ⟨#[]⟩, .string ⟨#[]⟩, .slice none 0 0, .slice none 0 0], .int .i64 f, .int .i64 g])) w8.drew := by
        have kd : Kept (fun k => k = B ∨ k = B + 1 ∨ k = B + 1 + 1) w8 w8.drew := kept_drew w8 1 _
        refine ⟨zeroT, ⟨none, 0, none, 0⟩, f, g, rfl, tin_zero _ _, ?_, HB7.out.trans ((hk8.trans kd).below HB7.out.size (fun k e => by have := HB.out; rcases e with e | e | e <;> omega))⟩
        unfold ParseM
        rw [HR.out]
        exact ⟨f, g, HFF.out, .inr ⟨h0, rfl, rfl, rfl⟩⟩
      have HW8 := Lib.hid (show ((((((w7.setCell ⟨B, 0, none⟩ (.string ⟨#[]⟩)).setCell ⟨B, 1, none⟩ (.string ⟨#[]⟩)).setCell ⟨B, 2, none⟩ (.string ⟨#[]⟩)).setCell ⟨B, 3, none⟩ (.slice none 0 0)).setCell ⟨B, 4, none⟩ (.slice none 0 0)).setCell ⟨B + 1, 0, none⟩ (.int .i64 f)).setCell ⟨B + 1 + 1, 0, none⟩ (.int .i64 g) = w8 from hw8.symm)
      have hres8 : Res3 w8.drew B (.string ⟨#[]⟩) (.string ⟨#[]⟩) (.string ⟨#[]⟩) (.slice none 0 0) (.slice none 0 0) f g := ⟨hres.n, hres.i, hres.e⟩
      have HRES := Lib.hid hres8; have HFF2 := Lib.hid HF
      clear hz e1 e2 e3 e4 hres hres8 HF hw8 hk8
      go_wp2_with fail
      go_region
      clear c0 c1 c2 c3 c4 j1 j2 j3 j4 y0 y1 y2 y3 y4 e1' e2'
      rw [HW8.out]
      go_wp2_with fail
      refine leaves_cons (f := 37) (args := #[.pointer (some ⟨B, 0, none⟩), .pointer (some ⟨B + 1, 0, none⟩), .pointer (some ⟨B + 1 + 1, 0, none⟩)]) (by simp) (by simp [go_sem]) ?_
      refine (catch_none B (B + 1) (B + 1 + 1) _).mono ?_
      rintro e u' w8 ⟨rfl, rfl, rfl⟩
      exact ⟨_, res333 rfl _ _ B _ _ _ _ _ _ _ rfl rfl rfl HRES.out, HFF2.out⟩
end Go.Proofs.YtjnhcoflmechmaaGreatDoor.M
