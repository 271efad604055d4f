/-
  markup's parser: the loop over the open nodes, walked.
-/
import Derived.Test.YtjnhcoflmechmaaGreatDoorMTree
namespace Go.Proofs.YtjnhcoflmechmaaGreatDoor.M
open Go.RowKit Go.Sort
set_option linter.unusedVariables false
set_option maxRecDepth 100000
theorem res251 {fn : Func} {p : Tmp} (h : fn.results = #[.cell p 25]) (tmps : Array Value) (w : World) (B : Nat) (v0 v1 v2 v3 v4 : Value) (hp : tmps.getD p undef = .pointer (some ⟨B, 0, none⟩)) (hg : B5 w B 25 v0 v1 v2 v3 v4) :
    (results fn tmps).run Tryz.prog w = .ok (.agg #[v0, v1, v2, v3, v4]) w :=
  results_cell_row h tmps w B 25 _ (0, 0) _ hp hg Tryz.underlying25 rfl (by kernel_rfl)
/-- What reading a node with all below it says: the tree, each node with 65 attributes at most; or the panic. -/
def TreeC (P : Nat) (s : ByteArray) (R0 : Rd Tr) (w : World) (e : Ending) (w' : World) : Prop :=
  (match R0 with
  | .ok t l => ∃ (a nb : Nat) (x : NV), a ≤ s.size ∧ l = restL s a ∧ e = .returned (nodeV (cutT t) x) ∧ P3 w' P s a nb ∧ TreeIn w' (fun b => w.heap.size ≤ b) (cutT t) x
  | .bad n _ => e = PanE (s.size - n) ∧ n ≤ s.size) ∧ Kept (· = P) w w'
theorem tree_bad {P : Nat} {s : ByteArray} {n : Nat} {er : Int} {R0 : Rd Tr} {w w' : World} (hR : R0 = .bad n er) (hn : n ≤ s.size) (hk : Kept (· = P) w w') : TreeC P s R0 w (PanE (s.size - n)) w' := by
  subst hR; exact ⟨⟨rfl, hn⟩, hk⟩
theorem kept_root {P root : Nat} {w W : World} (hk : Kept (fun b => b = P ∨ root ≤ b) w W) (hr : root = w.heap.size + 1) : Kept (· = P) w W := hk.mono (fun b hb e => by rcases e with e | e; exact e; omega)
theorem EnS.post {P : Nat} {s : ByteArray} {root : Nat} {R0 : Rd Tr} {w W : World} {a nb : Nat} {t : Tr} {x : NV} (h : EnS P s root R0 w W a nb t x) (hP : P < w.heap.size) :
    TreeC P s R0 w (.returned (.agg #[.string (cutT t).tag, .string (cutT t).key, .string (cutT t).text, .slice x.A (cutT t).as.length x.ca, .slice x.K (cutT t).kids.length x.ck])) (put5 W w.heap.size (.string (cutT t).tag) (.string (cutT t).key) (.string (cutT t).text) (.slice x.A (cutT t).as.length x.ca) (.slice x.K (cutT t).kids.length x.ck)) := by
  have hk := kept_put5 W w.heap.size (.string (cutT t).tag) (.string (cutT t).key) (.string (cutT t).text) (.slice x.A (cutT t).as.length x.ca) (.slice x.K (cutT t).kids.length x.ck)
  have hr := h.hroot
  refine ⟨?_, kept_boxP (Nat.le_refl _) (kept_root h.k h.hroot) hk⟩
  rw [h.hR]
  refine ⟨a, nb, x, h.ha, rfl, rfl, h.p.kept hk (fun e => by omega), (h.tree.kept hk (fun b hb _ e => by have := hb.1; have e' : b = w.heap.size := e; omega)).mono (fun b hb _ => by have := hb.1; omega)⟩
set_option maxHeartbeats 16000000 in
theorem tree_any (P : Nat) (s : ByteArray) (w : World) (h : P3 w P s 0 0) (hs : s.size ≤ 1000000000) (hN : cntK (restL s 0) ≤ 4096) (hv : Vars w) (hP4 : 4 ≤ P) :
    Calls Tryz.prog 64 #[.pointer (some ⟨P, 0, none⟩)] w (TreeC P s (nodeP (restL s 0)) w) := by
  obtain ⟨i0, hi, hz0, hz1, hz2⟩ := info_parts info153
  obtain ⟨root, hroot⟩ : ∃ root, root = w.heap.size + 1 := ⟨_, rfl⟩
  obtain ⟨w1, hw1⟩ : ∃ w1, w1 = zeroNW w := ⟨_, rfl⟩
  obtain ⟨w2, hw2⟩ : ∃ w2, w2 = zeroNW w1 := ⟨_, rfl⟩
  have hs1 : w1.heap.size = w.heap.size + 1 := by rw [hw1]; simp
  have hs2 : w2.heap.size = w.heap.size + 2 := by rw [hw2]; simp [hs1]
  have hk1 : Kept (fun _ => False) w w1 := by rw [hw1]; exact kept_alloc _ _ _
  have hk2 : Kept (fun _ => False) w1 w2 := by rw [hw2]; exact kept_alloc _ _ _
  have hz : B5 w2 w.heap.size 25 (.string ⟨#[]⟩) (.string ⟨#[]⟩) (.string ⟨#[]⟩) (.slice none 0 0) (.slice none 0 0) := by
    have : B5 w1 w.heap.size 25 (.string ⟨#[]⟩) (.string ⟨#[]⟩) (.string ⟨#[]⟩) (.slice none 0 0) (.slice none 0 0) := by rw [hw1]; exact B5.new _ _ _ _ _ _ _ _ rfl
    exact this.kept hk2 (fun h => h)
  have hzr : B5 w2 root 25 (.string ⟨#[]⟩) (.string ⟨#[]⟩) (.string ⟨#[]⟩) (.slice none 0 0) (.slice none 0 0) := by rw [hw2, hroot]; exact B5.new _ _ _ _ _ _ _ _ hs1.symm
  obtain ⟨r0, r1, r2, r3, r4⟩ := hzr.cells
  have hPlt := h.lt
  obtain ⟨R0, hR0⟩ : ∃ R0, R0 = nodeP (restL s 0) := ⟨_, rfl⟩
  obtain ⟨N, hNe⟩ : ∃ N, N = cntK (restL s 0) := ⟨_, rfl⟩
  have hpe : PeS P s root N R0 w w2 [] root 0 0 0 (.slice none 0 0) :=
    ⟨(h.kept hk1 (fun h => h)).kept hk2 (fun h => h), ⟨⟨rfl, rfl⟩, by simp [gsOf], fun b hb => by
        have e : b = root := by simpa [gsOf] using hb
        subst e
        exact ⟨Nat.le_refl _, by omega, fun e => by cases e⟩⟩, ⟨r0, r1, r2, r3, r4, fun j => hzr.frozen j⟩, World.ownsRow_nil _ _ _ _, vars_more (vars_more hv hk1 (fun _ e => e.elim)) hk2 (fun _ e => e.elim), (hk1.mono (fun _ _ e => e.elim)).trans (hk2.mono (fun _ _ e => e.elim)), hz, Nat.zero_le _, hPlt, hP4, hroot, ⟨[], rfl, hR0⟩, by omega, ⟨by omega, by omega, Nat.le_refl _⟩, fun f hf => by cases hf⟩
  have HPE := Lib.hid hpe
  have HW2 := Lib.hid (show (w.alloc (.cells #[.string ⟨#[]⟩, .string ⟨#[]⟩, .string ⟨#[]⟩, .slice none 0 0, .slice none 0 0] 25)).alloc (.cells #[.string ⟨#[]⟩, .string ⟨#[]⟩, .string ⟨#[]⟩, .slice none 0 0, .slice none 0 0] 25) = w2 by rw [hw2, hw1])
  have HROOT := Lib.hid hroot
  rw [← hR0]
  clear h hN hw1 hw2 hs1 hs2 hk1 hk2 hz hzr r0 r1 r2 r3 r4 hR0 hNe hpe hv
  go_enter Tryz.func64, Tryz.ntmps64
  go_upto_region 2 with (fail)
  rw [HW2.out, show w.heap.size + 1 = root from HROOT.out.symm]
  clear hroot HW2
  go_wp2_with fail
  go_loopg [4, 5] (s.size + 1) (fun m s4 s5 wr => ∃ fl g o a nb A cap n, s4 = .slice A n cap ∧ s5 = .pointer (some ⟨g, o, none⟩) ∧ RowKit.Hid (n = fl.length) ∧ RowKit.Hid (PeS P s root N R0 w wr fl g o a nb (.slice A n cap)) ∧ s.size + 1 - a ≤ m)
  case atStart => exact ⟨[], root, 0, 0, 0, none, 0, 0, rfl, rfl, Lib.hid rfl, HPE, by omega⟩
  case round =>
    obtain ⟨fl, g, o, a, nb, A, cap, n, rfl, rfl, HL, HP, hm⟩ := hrel
    have hg := HP.out.pend.bnd g (by simp [gsOf])
    have hpg : P ≠ g := fun e => by have := HP.out.hP; have := HP.out.hroot; omega
    have ha := HP.out.ha
    have C1 := start_any P g o s a nb wr HP.out.p HP.out.nod hpg ha hs HP.out.v HP.out.hP4 (by have := HP.out.hP; have := HP.out.hP4; have := HP.out.hroot; omega)
    obtain ⟨Q, hQ⟩ : ∃ Q, Q = startP (restL s a) := ⟨_, rfl⟩
    rw [← hQ] at C1
    have HC := Lib.hid C1; have HQ := Lib.hid hQ.symm
    clear C1 hQ hg hpg HPE
    go_wp2_with fail
    refine HC.out.mono ?_
    rintro e w3 ⟨hst, hk3⟩
    clear HC
    cases Q with
    | bad n er =>
      obtain ⟨rfl, hn⟩ := hst
      have HF := Lib.hid (show TreeC P s R0 w (PanE (s.size - n)) w3 from by
        obtain ⟨ts, _, e2⟩ := HP.out.hR
        exact tree_bad (er := er) (by rw [e2, unwind_fail HQ.out]) hn (kept_root (kept_more HP.out.k hk3 (fun b e => by
          rcases e with e | e
          · exact .inl e
          · exact .inr (by have := (HP.out.pend.bnd g (by simp [gsOf])).1; omega))) HP.out.hroot))
      clear hk3
      exact ⟨rfl, HF.out⟩
    | ok p q =>
      obtain ⟨op, t⟩ := p
      obtain ⟨a3, vA, ha3, rfl, rfl, hp3, hn3, ho3, hb3⟩ := hst
      have hlen := (start_ok HQ.out).1
      rw [restL_len, restL_len] at hlen
      have HL3 := Lib.hid (show a + 1 ≤ a3 by omega)
      cases op with
      | true =>
        have hopn : w3.ownsRow root 153 1 (.slice A n cap) n (ptrs fl) := by
          have hg := HP.out.pend.bnd g (by simp [gsOf])
          have := hk3.own HP.out.opn (fun b e e' => by
            rcases e' with e' | e'
            · have := (HP.out.opn.lt b e).1; have := HP.out.hP; have := HP.out.hroot; omega
            · rw [e'] at e; exact hg.2.2 e)
          rw [← HL.out] at this
          exact this
        have hbs : root ≤ w3.heap.size := by have := hk3.size; have := (HP.out.pend.bnd g (by simp [gsOf])); omega
        have hnl : n ≤ 5000000 := by rw [HL.out]; have := HP.out.cnt; have := HP.out.hN; omega
        have HFIN := Lib.hid (show ∀ v' w', w'.ownsRow root 153 1 v' (n + 1) (ptrs fl ++ [.pointer (some ⟨g, o, none⟩)]) → Kept (OwnB (.slice A n cap)) w3 w' → Fresh w3 (.slice A n cap) v' → ∃ f', ToS P s root N R0 w w' f' fl a3 nb v' from fun v' w' h1 h2 h3 => ToS.of_open HP.out HQ.out ha3 hp3 hn3 ho3 hb3 hk3 (by rw [← HL.out]; exact h1) h2 h3)
        have HOPN := Lib.hid hopn
        clear hp3 hn3 ho3 hb3 hk3 hopn hlen
        go_wp2_with (at_builtin; refine wpList_appS rfl _ _ 152 rfl root 153 i0 (.pointer none) 1 8 Tryz.underlying152 hi hz0 hz1 hz2 rfl (by omega) (by omega) _ n (ptrs fl) rfl HOPN.out #[.pointer (some ⟨g, o, none⟩)] rfl (fun u hu => by simp at hu; subst hu; rfl) _ (by simp) rfl (by omega) hbs ?_; intro v5 w5 hown5 hb5 hk5 hf5; obtain ⟨A5, c5, h5⟩ := row_form hown5; subst h5)
        obtain ⟨f', hto⟩ := HFIN.out _ w5 hown5 hk5 hf5
        obtain ⟨n6, hn6⟩ : ∃ n6, n6 = n + 1 := ⟨_, rfl⟩
        have HIN := Lib.hid (show InS P s root N R0 w w5 (f' :: fl) a3 nb (.slice A5 n6 c5) from by rw [hn6]; exact hto)
        have HLN := Lib.hid (show n6 = (f' :: fl).length by rw [hn6, HL.out]; rfl)
        obtain ⟨fl6, hfl6⟩ : ∃ fl6, fl6 = f' :: fl := ⟨_, rfl⟩
        rw [← hfl6] at HIN HLN
        rw [← hn6]
        clear hto hown5 hb5 hk5 hf5 HFIN HOPN hbs hnl hfl6 hn6 HP HQ HL
        go_wp2_with fail
        go_loopg [4] n6 (fun m s4 wr => ∃ fl a A cap n, s4 = .slice A n cap ∧ RowKit.Hid (n = fl.length) ∧ n ≤ m ∧ RowKit.Hid (InS P s root N R0 w wr fl a nb (.slice A n cap)) ∧ RowKit.Hid (a3 ≤ a))
        case atStart => exact ⟨fl6, a3, A5, c5, n6, rfl, HLN, Nat.le_refl _, HIN, Lib.hid (Nat.le_refl _)⟩
        case round =>
          obtain ⟨fl7, a7, A7, cap7, n7, rfl, HL7, hm7, HI7, HA7⟩ := hrel
          clear HIN HLN
          cases n7 with
          | zero =>
            have hfl : fl7 = [] := List.eq_nil_of_length_eq_zero HL7.out.symm
            have hin := HI7.out
            rw [hfl] at hin
            obtain ⟨tt, xx, hen⟩ := hin
            have HF := Lib.hid (hen.post hPlt)
            have HZ := Lib.hid (hen.z.put (.string (cutT tt).tag) (.string (cutT tt).key) (.string (cutT tt).text) (.slice xx.A (cutT tt).as.length xx.ca) (.slice xx.K (cutT tt).kids.length xx.ck))
            obtain ⟨z0, z1, z2, z3, z4⟩ := hen.z.cells
            have y0 := hen.z.frozen 0; have y1 := hen.z.frozen 1; have y2 := hen.z.frozen 2; have y3 := hen.z.frozen 3; have y4 := hen.z.frozen 4
            obtain ⟨c0, c1, c2, c3, c4⟩ := hen.cells
            clear hen HI7 hfl
            go_wp2_with fail
            refine bodyPost_ret (res251 rfl _ _ w.heap.size _ _ _ _ _ rfl HZ.out) rfl ?_
            exact HF.out
          | succ k7 =>
            obtain ⟨f7, fs7, hfl⟩ : ∃ f7 fs7, fl7 = f7 :: fs7 := by
              cases fl7 with
              | nil => have := HL7.out; simp at this
              | cons f q => exact ⟨f, q, rfl⟩
            subst hfl
            have hk7 : k7 = fs7.length := by have := HL7.out; simpa using this
            have hto : ToS P s root N R0 w wr f7 fs7 a7 nb (.slice A7 (fs7.length + 1) cap7) := by rw [← hk7]; exact HI7.out
            have C7 := matKid_any P s a7 nb wr hto.p hto.ha hs
            obtain ⟨kc, hkc⟩ : ∃ kc, kc = kidC (restL s a7) := ⟨_, rfl⟩
            rw [← hkc] at C7
            have HC7 := Lib.hid C7; have HTO := Lib.hid hto; have HKC := Lib.hid hkc.symm; have HK7 := Lib.hid hk7
            have hp1 : (k7 : Int) + 1 > 0 := by omega
            have hp2 : (0 : Int) < (k7 : Int) + 1 := by omega
            clear C7 hto hkc hk7 HI7 HL7
            go_wp2_with fail
            refine HC7.out.mono ?_
            rintro e w8 ⟨rfl, hp8, hk8⟩
            have hto8 := HTO.out.keepP hp8 hk8
            obtain ⟨gO, hA7, htop⟩ := own_top hto8.opn
            subst hA7
            rw [← HK7.out] at htop
            obtain ⟨g7, hg7⟩ : ∃ g7, g7 = f7.g := ⟨_, rfl⟩
            obtain ⟨o7, ho7⟩ : ∃ o7, o7 = f7.o := ⟨_, rfl⟩
            have htop' : w8.cell? ⟨gO, k7, none⟩ = some (.pointer (some ⟨g7, o7, none⟩)) := by rw [hg7, ho7]; exact htop
            have HG7 := Lib.hid hg7; have HO7 := Lib.hid ho7
            have HTO8 := Lib.hid hto8
            have hw1 : IntKind.i64.wrap (k7 : Int) = (k7 : Int) := by
              rw [IntKind.wrap_i64]
              have h1 := HTO8.out.cnt; have h2 := HTO8.out.hN; have h3 := HK7.out
              omega
            have hw2 : IntKind.i64.wrap ((k7 : Int) + 1 - 1) = (k7 : Int) := by rw [show (k7 : Int) + 1 - 1 = k7 by omega]; exact hw1
            have q0 : (0 : Int) ≤ (k7 : Int) := by omega
            have q1 : (k7 : Int) < (k7 : Int) + 1 := by omega
            have q2 : (k7 : Int) < ((k7 + 1 : Nat) : Int) := by omega
            have q3 : k7 < k7 + 1 := by omega
            have hne : ((k7 : Int) + 1 == 0) = false := by rw [beq_eq_false_iff_ne]; omega
            have hne2 : ¬ (k7 : Int) + 1 = 0 := by omega
            clear HC7 HTO hp8 hk8 hto8 htop hg7 ho7
            cases kc with
            | true =>
              obtain ⟨⟨xs7, hx7⟩, _⟩ := HTO8.out.top.row
              have hcn : nb + 1 ≤ 4096 := by
                have h1 := HTO8.out.cnt; have h2 := HTO8.out.hN
                have hc1 : 1 ≤ cntK (restL s a7) := by
                  have hk := HKC.out
                  cases hr : restL s a7 with
                  | nil => rw [hr] at hk; cases hk
                  | cons c r => rw [hr] at hk; rw [cntK, hk]; simp
                omega
              have CK := newKid_any P f7.g f7.o root s a7 nb f7.t.tag f7.t.key f7.t.text (.slice f7.x.A f7.t.as.length f7.x.ca) f7.x.K f7.t.kids.length f7.x.ck xs7 w8 HTO8.out.p HTO8.out.top.nod hx7 (by have := (HTO8.out.top.bnd f7.g (by simp [gsOf])); omega) (by have := HTO8.out.hP; have := HTO8.out.hroot; omega) (fun e => by have := (HTO8.out.top.bnd f7.g (by simp [gsOf])).1; have := HTO8.out.hP; have := HTO8.out.hroot; omega) (fun e => (HTO8.out.top.own f7.g (own_any.1 e)).1 (by simp [gsOf])) hcn (by have h1 := HTO8.out.cnt; have h2 := HTO8.out.hN; have h3 := HTO8.out.few.1; omega)
              rw [← HG7.out, ← HO7.out] at CK
              have HCK := Lib.hid CK
              have HX7 := Lib.hid hx7
              clear CK hx7
              go_wp2_with fail
              refine HCK.out.mono ?_
              rintro e w9 ⟨g', c', rfl, hp9, hn9, ho9, hf9, hk9, hN9, _⟩
              rw [HG7.out] at hk9
              rw [HG7.out, HO7.out] at hn9 hN9
              obtain ⟨fl', hl', hpe⟩ := PeS.of_kid HTO8.out HKC.out HX7.out hp9 hn9 ho9 hf9 hk9 hN9
              rw [← HK7.out] at hl' hpe
              have HPE9 := Lib.hid hpe; have HL9 := Lib.hid hl'.symm
              clear hp9 hn9 ho9 hf9 hk9 hN9 hpe hl' HCK
              go_wp2_with fail
              go_roundg (s.size + 1 - a7)
              case measure => (have h1 := HL3.out; have h2 := HA7.out; have h3 := HTO8.out.ha; omega)
              case rel => exact ⟨fl', g', f7.t.kids.length * 5, a7, nb + 1, some ⟨gO, 0, none⟩, cap7, k7 + 1, rfl, rfl, HL9, HPE9, Nat.le_refl _⟩
            | false =>
              have hc0 := HTO8.out.top.nod.c0
              rw [← HG7.out, ← HO7.out] at hc0
              obtain ⟨tg, htg⟩ : ∃ tg, tg = f7.t.tag := ⟨_, rfl⟩
              rw [← htg] at hc0
              have C8 := mend_any P s tg a7 nb w8 HTO8.out.p HTO8.out.ha hs
              obtain ⟨Q, hQ⟩ : ∃ Q, Q = end1P tg (restL s a7) := ⟨_, rfl⟩
              rw [← hQ] at C8
              have HC8 := Lib.hid C8; have HQ8 := Lib.hid (show end1P f7.t.tag (restL s a7) = Q by rw [hQ, htg])
              have hcap : k7 ≤ cap7 := by
                obtain ⟨A', c', hv, n1, n2, _, _⟩ := own_parts HTO8.out.opn (by decide)
                simp only [Value.slice.injEq, true_and] at hv
                have := HK7.out
                omega
              have q4 : (k7 : Int) ≤ (cap7 : Int) := by omega
              have htn : ((k7 : Int)).toNat = k7 := by omega
              clear C8 hQ htg hcap
              go_wp2_with fail
              refine HC8.out.mono ?_
              rintro e w9 hst
              clear HC8
              cases Q with
              | bad n er =>
                obtain ⟨rfl, hn, hk⟩ := hst.bad
                have HF := Lib.hid (show TreeC P s R0 w (PanE (s.size - n)) w9 from by
                  obtain ⟨t9, ts9, _, _, e3⟩ := HTO8.out.rest HKC.out
                  exact tree_bad (er := er) (by rw [e3, HQ8.out]; exact unwind_bad _ _ _) hn (kept_root (kept_more HTO8.out.k hk (fun b e => .inl e)) HTO8.out.hroot))
                clear hst hk hc0
                exact ⟨rfl, HF.out⟩
              | ok u q =>
                obtain ⟨a9, ha9, rfl, rfl, hp9, hk9⟩ := hst.ok
                obtain ⟨fl', hl', hin⟩ := InS.of_end HTO8.out HKC.out HQ8.out ha9 hp9 hk9
                rw [← HK7.out] at hl' hin
                have hle : a7 ≤ a9 := by
                  have h1 := (end1_suf HQ8.out).length_le
                  rw [restL_len, restL_len] at h1
                  have := HTO8.out.ha
                  omega
                have HI9 := Lib.hid hin; have HL9 := Lib.hid hl'.symm; have HA9 := Lib.hid (Nat.le_trans HA7.out hle)
                clear hst hp9 hk9 hin hl' hle hc0 HQ8
                go_wp2_with fail
                go_roundg k7
                case measure => omega
                case rel => exact ⟨fl', a9, some ⟨gO, 0, none⟩, cap7, k7, rfl, HL9, Nat.le_refl _, HI9, HA9⟩
      | false =>
        have hin := InS.of_leaf HP.out HQ.out ha3 hp3 hn3 ho3 hb3 hk3
        obtain ⟨fl6, hl6, hin⟩ := hin
        have HIN := Lib.hid hin
        have HLN := Lib.hid (show n = fl6.length by rw [hl6, HL.out])
        clear hin hl6 hp3 hn3 ho3 hb3 hk3 hlen HP HQ HL
        obtain ⟨n6, hn6⟩ : ∃ n6, n6 = n := ⟨_, rfl⟩
        rw [← hn6] at HIN HLN ⊢
        clear hn6
        go_wp2_with fail
        go_loopg [4] n6 (fun m s4 wr => ∃ fl a A cap n, s4 = .slice A n cap ∧ RowKit.Hid (n = fl.length) ∧ n ≤ m ∧ RowKit.Hid (InS P s root N R0 w wr fl a nb (.slice A n cap)) ∧ RowKit.Hid (a3 ≤ a))
        case atStart => exact ⟨fl6, a3, A, cap, n6, rfl, HLN, Nat.le_refl _, HIN, Lib.hid (Nat.le_refl _)⟩
        case round =>
          obtain ⟨fl7, a7, A7, cap7, n7, rfl, HL7, hm7, HI7, HA7⟩ := hrel
          clear HIN HLN
          cases n7 with
          | zero =>
            have hfl : fl7 = [] := List.eq_nil_of_length_eq_zero HL7.out.symm
            have hin := HI7.out
            rw [hfl] at hin
            obtain ⟨tt, xx, hen⟩ := hin
            have HF := Lib.hid (hen.post hPlt)
            have HZ := Lib.hid (hen.z.put (.string (cutT tt).tag) (.string (cutT tt).key) (.string (cutT tt).text) (.slice xx.A (cutT tt).as.length xx.ca) (.slice xx.K (cutT tt).kids.length xx.ck))
            obtain ⟨z0, z1, z2, z3, z4⟩ := hen.z.cells
            have y0 := hen.z.frozen 0; have y1 := hen.z.frozen 1; have y2 := hen.z.frozen 2; have y3 := hen.z.frozen 3; have y4 := hen.z.frozen 4
            obtain ⟨c0, c1, c2, c3, c4⟩ := hen.cells
            clear hen HI7 hfl
            go_wp2_with fail
            refine bodyPost_ret (res251 rfl _ _ w.heap.size _ _ _ _ _ rfl HZ.out) rfl ?_
            exact HF.out
          | succ k7 =>
            obtain ⟨f7, fs7, hfl⟩ : ∃ f7 fs7, fl7 = f7 :: fs7 := by
              cases fl7 with
              | nil => have := HL7.out; simp at this
              | cons f q => exact ⟨f, q, rfl⟩
            subst hfl
            have hk7 : k7 = fs7.length := by have := HL7.out; simpa using this
            have hto : ToS P s root N R0 w wr f7 fs7 a7 nb (.slice A7 (fs7.length + 1) cap7) := by rw [← hk7]; exact HI7.out
            have C7 := matKid_any P s a7 nb wr hto.p hto.ha hs
            obtain ⟨kc, hkc⟩ : ∃ kc, kc = kidC (restL s a7) := ⟨_, rfl⟩
            rw [← hkc] at C7
            have HC7 := Lib.hid C7; have HTO := Lib.hid hto; have HKC := Lib.hid hkc.symm; have HK7 := Lib.hid hk7
            have hp1 : (k7 : Int) + 1 > 0 := by omega
            have hp2 : (0 : Int) < (k7 : Int) + 1 := by omega
            clear C7 hto hkc hk7 HI7 HL7
            go_wp2_with fail
            refine HC7.out.mono ?_
            rintro e w8 ⟨rfl, hp8, hk8⟩
            have hto8 := HTO.out.keepP hp8 hk8
            obtain ⟨gO, hA7, htop⟩ := own_top hto8.opn
            subst hA7
            rw [← HK7.out] at htop
            obtain ⟨g7, hg7⟩ : ∃ g7, g7 = f7.g := ⟨_, rfl⟩
            obtain ⟨o7, ho7⟩ : ∃ o7, o7 = f7.o := ⟨_, rfl⟩
            have htop' : w8.cell? ⟨gO, k7, none⟩ = some (.pointer (some ⟨g7, o7, none⟩)) := by rw [hg7, ho7]; exact htop
            have HG7 := Lib.hid hg7; have HO7 := Lib.hid ho7
            have HTO8 := Lib.hid hto8
            have hw1 : IntKind.i64.wrap (k7 : Int) = (k7 : Int) := by
              rw [IntKind.wrap_i64]
              have h1 := HTO8.out.cnt; have h2 := HTO8.out.hN; have h3 := HK7.out
              omega
            have hw2 : IntKind.i64.wrap ((k7 : Int) + 1 - 1) = (k7 : Int) := by rw [show (k7 : Int) + 1 - 1 = k7 by omega]; exact hw1
            have q0 : (0 : Int) ≤ (k7 : Int) := by omega
            have q1 : (k7 : Int) < (k7 : Int) + 1 := by omega
            have q2 : (k7 : Int) < ((k7 + 1 : Nat) : Int) := by omega
            have q3 : k7 < k7 + 1 := by omega
            have hne : ((k7 : Int) + 1 == 0) = false := by rw [beq_eq_false_iff_ne]; omega
            have hne2 : ¬ (k7 : Int) + 1 = 0 := by omega
            clear HC7 HTO hp8 hk8 hto8 htop hg7 ho7
            cases kc with
            | true =>
              obtain ⟨⟨xs7, hx7⟩, _⟩ := HTO8.out.top.row
              have hcn : nb + 1 ≤ 4096 := by
                have h1 := HTO8.out.cnt; have h2 := HTO8.out.hN
                have hc1 : 1 ≤ cntK (restL s a7) := by
                  have hk := HKC.out
                  cases hr : restL s a7 with
                  | nil => rw [hr] at hk; cases hk
                  | cons c r => rw [hr] at hk; rw [cntK, hk]; simp
                omega
              have CK := newKid_any P f7.g f7.o root s a7 nb f7.t.tag f7.t.key f7.t.text (.slice f7.x.A f7.t.as.length f7.x.ca) f7.x.K f7.t.kids.length f7.x.ck xs7 w8 HTO8.out.p HTO8.out.top.nod hx7 (by have := (HTO8.out.top.bnd f7.g (by simp [gsOf])); omega) (by have := HTO8.out.hP; have := HTO8.out.hroot; omega) (fun e => by have := (HTO8.out.top.bnd f7.g (by simp [gsOf])).1; have := HTO8.out.hP; have := HTO8.out.hroot; omega) (fun e => (HTO8.out.top.own f7.g (own_any.1 e)).1 (by simp [gsOf])) hcn (by have h1 := HTO8.out.cnt; have h2 := HTO8.out.hN; have h3 := HTO8.out.few.1; omega)
              rw [← HG7.out, ← HO7.out] at CK
              have HCK := Lib.hid CK
              have HX7 := Lib.hid hx7
              clear CK hx7
              go_wp2_with fail
              refine HCK.out.mono ?_
              rintro e w9 ⟨g', c', rfl, hp9, hn9, ho9, hf9, hk9, hN9, _⟩
              rw [HG7.out] at hk9
              rw [HG7.out, HO7.out] at hn9 hN9
              obtain ⟨fl', hl', hpe⟩ := PeS.of_kid HTO8.out HKC.out HX7.out hp9 hn9 ho9 hf9 hk9 hN9
              rw [← HK7.out] at hl' hpe
              have HPE9 := Lib.hid hpe; have HL9 := Lib.hid hl'.symm
              clear hp9 hn9 ho9 hf9 hk9 hN9 hpe hl' HCK
              go_wp2_with fail
              go_roundg (s.size + 1 - a7)
              case measure => (have h1 := HL3.out; have h2 := HA7.out; have h3 := HTO8.out.ha; omega)
              case rel => exact ⟨fl', g', f7.t.kids.length * 5, a7, nb + 1, some ⟨gO, 0, none⟩, cap7, k7 + 1, rfl, rfl, HL9, HPE9, Nat.le_refl _⟩
            | false =>
              have hc0 := HTO8.out.top.nod.c0
              rw [← HG7.out, ← HO7.out] at hc0
              obtain ⟨tg, htg⟩ : ∃ tg, tg = f7.t.tag := ⟨_, rfl⟩
              rw [← htg] at hc0
              have C8 := mend_any P s tg a7 nb w8 HTO8.out.p HTO8.out.ha hs
              obtain ⟨Q, hQ⟩ : ∃ Q, Q = end1P tg (restL s a7) := ⟨_, rfl⟩
              rw [← hQ] at C8
              have HC8 := Lib.hid C8; have HQ8 := Lib.hid (show end1P f7.t.tag (restL s a7) = Q by rw [hQ, htg])
              have hcap : k7 ≤ cap7 := by
                obtain ⟨A', c', hv, n1, n2, _, _⟩ := own_parts HTO8.out.opn (by decide)
                simp only [Value.slice.injEq, true_and] at hv
                have := HK7.out
                omega
              have q4 : (k7 : Int) ≤ (cap7 : Int) := by omega
              have htn : ((k7 : Int)).toNat = k7 := by omega
              clear C8 hQ htg hcap
              go_wp2_with fail
              refine HC8.out.mono ?_
              rintro e w9 hst
              clear HC8
              cases Q with
              | bad n er =>
                obtain ⟨rfl, hn, hk⟩ := hst.bad
                have HF := Lib.hid (show TreeC P s R0 w (PanE (s.size - n)) w9 from by
                  obtain ⟨t9, ts9, _, _, e3⟩ := HTO8.out.rest HKC.out
                  exact tree_bad (er := er) (by rw [e3, HQ8.out]; exact unwind_bad _ _ _) hn (kept_root (kept_more HTO8.out.k hk (fun b e => .inl e)) HTO8.out.hroot))
                clear hst hk hc0
                exact ⟨rfl, HF.out⟩
              | ok u q =>
                obtain ⟨a9, ha9, rfl, rfl, hp9, hk9⟩ := hst.ok
                obtain ⟨fl', hl', hin⟩ := InS.of_end HTO8.out HKC.out HQ8.out ha9 hp9 hk9
                rw [← HK7.out] at hl' hin
                have hle : a7 ≤ a9 := by
                  have h1 := (end1_suf HQ8.out).length_le
                  rw [restL_len, restL_len] at h1
                  have := HTO8.out.ha
                  omega
                have HI9 := Lib.hid hin; have HL9 := Lib.hid hl'.symm; have HA9 := Lib.hid (Nat.le_trans HA7.out hle)
                clear hst hp9 hk9 hin hl' hle hc0 HQ8
                go_wp2_with fail
                go_roundg k7
                case measure => omega
                case rel => exact ⟨fl', a9, some ⟨gO, 0, none⟩, cap7, k7, rfl, HL9, Nat.le_refl _, HI9, HA9⟩
end Go.Proofs.YtjnhcoflmechmaaGreatDoor.M
