/-
  match.pairUp.
-/
import Derived.Test.YtlkdklpglmglkaaMFam
namespace Go.Proofs.Ytlkdklpglmglkaa
open Go.RowKit Go.Sort Go.Lib
open K (Lab LRow lrow_at labV LWf Ix ofL noLab Look)
set_option linter.unusedVariables false
set_option maxRecDepth 100000
theorem ofL_mem {ls : List Lab} : ∀ {k : Nat} {x : Lab} {i : Int}, (x, i) ∈ ofL ls k → ∃ j : Nat, i = (j : Int) ∧ j < k ∧ ls.getD j noLab = x
  | 0, x, i, h => by simp [ofL] at h
  | k + 1, x, i, h => by
    rw [ofL] at h
    split at h
    · obtain ⟨j, h1, h2, h3⟩ := ofL_mem h
      exact ⟨j, h1, by omega, h3⟩
    · rcases List.mem_append.1 h with h | h
      · obtain ⟨j, h1, h2, h3⟩ := ofL_mem h
        exact ⟨j, h1, by omega, h3⟩
      · simp at h
        exact ⟨k, h.2, by omega, by rw [h.1, List.getD_eq_getElem?_getD]⟩
theorem ofL_all {ls : List Lab} : ∀ {k j : Nat}, j < k → ls.getD j noLab ∈ (ofL ls k).map Prod.fst
  | 0, j, h => by omega
  | k + 1, j, h => by
    rw [ofL]
    rcases Nat.lt_or_ge j k with h1 | h1
    · have := ofL_all (ls := ls) h1
      split
      · exact this
      · rw [List.map_append]; exact List.mem_append.2 (.inl this)
    · have : j = k := by omega
      subst this
      split
      · rename_i h2; exact h2
      · rw [List.map_append]; exact List.mem_append.2 (.inr (by simp))
def zsOf (N : Nat) (f : Nat → Int) : List Int := (List.range N).map f
theorem zsOf_length (N : Nat) (f : Nat → Int) : (zsOf N f).length = N := by simp [zsOf]
theorem zsOf_get {N : Nat} (f : Nat → Int) {j : Nat} (h : j < N) : (I.ints (zsOf N f))[j]? = some (.int .i64 (f j)) := by
  simp [I.ints, zsOf, List.getElem?_range h]
theorem zsOf_set {N : Nat} (f : Nat → Int) {k : Nat} (h : k < N) (v : Int) : (I.ints (zsOf N f)).set k (.int .i64 v) = I.ints (zsOf N (fun j => if j = k then v else f j)) := by
  apply List.ext_getElem?
  intro j
  by_cases hj : j < N
  · rw [zsOf_get _ hj]
    by_cases hk : k = j
    · subst hk
      rw [List.getElem?_set_self (by simp [I.ints, zsOf]; omega), if_pos rfl]
    · rw [List.getElem?_set_ne hk, zsOf_get _ hj, if_neg (fun e => hk e.symm)]
  · rw [List.getElem?_eq_none (by simp [I.ints, zsOf]; omega), List.getElem?_eq_none (by simp [I.ints, zsOf]; omega)]
theorem zsOf_congr {N : Nat} {f g : Nat → Int} (h : ∀ j, j < N → f j = g j) : zsOf N f = zsOf N g := List.map_congr_left (fun j hj => h j (List.mem_range.1 hj))
theorem toK {S : Nat → Prop} {w w' : World} (h : Kept S w w') : K.Kept S w w' := ⟨h.os, h.tape, h.output, h.size, h.block⟩
theorem labR_wf {l : List Rw} (G : GoodRs l) (hl : l.length ≤ 1000) {i : Nat} (hi : i < l.length) : LWf (labR l i) := by
  have g := G (rwAt l i) (by rw [rwAt_eq hi]; exact List.getElem_mem _)
  refine ⟨by have := g.tag; show (rwAt l i).tag.size ≤ maxLen; unfold maxLen; omega, by have := g.key; show (rwAt l i).key.size ≤ maxLen; unfold maxLen; omega, ?_⟩
  show K.wf64 (if (rwAt l i).key = noB then (cntR l (rwAt l i).up (rwAt l i).tag (i + 1) : Int) else 0)
  split
  · exact K.wf_nat (by have := cntR_le l (rwAt l i).up (rwAt l i).tag (i + 1); omega)
  · exact K.wf0
theorem labsK_wf {l : List Rw} (G : GoodRs l) (hl : l.length ≤ 1000) (h : Nat) : ∀ L ∈ labsK l h, LWf L := by
  intro L hL
  obtain ⟨k, hk, rfl⟩ := List.mem_map.1 hL
  obtain ⟨h1, h2, _⟩ := mem_kidsTo.1 hk
  exact labR_wf G hl (by omega)
/-- What the index tells of a label: where among the kids it is. -/
theorem look_match {a b : List Rw} (he : errR a = 0) (pa i : Nat) : (∃ at_ : Nat, ∃ h : at_ < (kidsH a pa).length, Look (ofL (labsK a pa) (labsK a pa).length) (labR b i) at_ true ∧ ((kidsH a pa)[at_] : Nat) = lastM a b (pa : Int) i a.length) ∨ (Look (ofL (labsK a pa) (labsK a pa).length) (labR b i) 0 false ∧ lastM a b (pa : Int) i a.length = 0) := by
  by_cases hm : labR b i ∈ (ofL (labsK a pa) (labsK a pa).length).map Prod.fst
  · obtain ⟨⟨x, n⟩, hp, hx⟩ := List.mem_map.1 hm
    have hx' : x = labR b i := hx
    subst hx'
    obtain ⟨j, rfl, hj, hg⟩ := ofL_mem hp
    have hj' : j < (kidsH a pa).length := by rw [labsK_length] at hj; exact hj
    refine .inl ⟨j, hj', ⟨fun _ => hp, (fun h => by cases h)⟩, ?_⟩
    obtain ⟨k, hk⟩ : ∃ k, k = (kidsH a pa)[j] := ⟨_, rfl⟩
    obtain ⟨h1, h2, h3⟩ := mem_kidsTo.1 (show k ∈ kidsTo a pa a.length by rw [hk]; exact List.getElem_mem _)
    have hl : labR a (k - 1) = labR b i := by
      rw [← hg, List.getD_eq_getElem?_getD, List.getElem?_eq_getElem hj]
      simp [labsK, hk]
    rw [← hk, lastM_of he (show k - 1 < a.length by omega) h3 hl]
    omega
  · refine .inr ⟨⟨(fun h => by cases h), fun _ => ⟨hm, rfl⟩⟩, ?_⟩
    apply Classical.byContradiction
    intro h0
    obtain ⟨h1, h2⟩ := lastM_hit h0
    have hle := lastM_le a b (pa : Int) i a.length
    have hk : lastM a b (pa : Int) i a.length ∈ kidsH a pa := mem_kidsTo.2 ⟨by omega, hle, h1⟩
    obtain ⟨j, hj, hjk⟩ := List.getElem_of_mem hk
    apply hm
    have hjl : j < (labsK a pa).length := by rw [labsK_length]; exact hj
    have := ofL_all (ls := labsK a pa) hjl
    rw [List.getD_eq_getElem?_getD, List.getElem?_eq_getElem hjl] at this
    have e : (labsK a pa)[j] = labR b i := by simp only [labsK, List.getElem_map, hjk, h2]
    simpa [e] using this
def updF (a b : List Rw) (pa : Nat) (ks : List Nat) (f : Nat → Int) (i : Nat) : Nat → Int := fun j => if j ∈ ks.take i then (lastM a b (pa : Int) (j - 1) a.length : Int) else f j
theorem updF_hit {a b : List Rw} {pa : Nat} {ks : List Nat} {f : Nat → Int} {i : Nat} (hi : i < ks.length) : (fun j => if j = ks[i] then (lastM a b (pa : Int) (ks[i] - 1) a.length : Int) else updF a b pa ks f i j) = updF a b pa ks f (i + 1) := by
  funext j
  unfold updF
  have e : ks.take (i + 1) = ks.take i ++ [ks[i]] := by simp
  rw [e]
  by_cases h : j = ks[i]
  · rw [if_pos h, if_pos (List.mem_append.2 (.inr (by rw [h]; exact List.mem_singleton.2 rfl))), h]
  · rw [if_neg h]
    by_cases h2 : j ∈ ks.take i
    · rw [if_pos h2, if_pos (List.mem_append.2 (.inl h2))]
    · rw [if_neg h2, if_neg (by intro q; rcases List.mem_append.1 q with q | q; exact h2 q; simp at q; exact h q)]
theorem updF_miss {a b : List Rw} {pa : Nat} {ks : List Nat} {f : Nat → Int} {i : Nat} (hi : i < ks.length) (h0 : lastM a b (pa : Int) (ks[i] - 1) a.length = 0) (hf : f ks[i] = 0) : updF a b pa ks f i = updF a b pa ks f (i + 1) := by
  rw [← updF_hit hi]
  funext j
  by_cases h : j = ks[i]
  · rw [if_pos h, h]
    unfold updF
    split
    · rfl
    · rw [hf, h0]; rfl
  · rw [if_neg h]
abbrev famV (Ak : Option Addr) (n ck : Nat) (Al : Option Addr) (cl : Nat) : Value := .agg #[.slice Ak n ck, .slice Al n cl]
def PairUpPost (gp N : Nat) (f : Nat → Int) (w : World) (e : Ending) (w' : World) : Prop := e = .returned (.tuple #[]) ∧ w'.ownsRow gp 3 1 (.slice (some ⟨gp, 0, none⟩) N N) N (I.ints (zsOf N f)) ∧ Kept (· = gp) w w'
set_option maxHeartbeats 8000000 in
theorem pairUp_any (a b : List Rw) (pa h gp N : Nat) (f : Nat → Int) (Ak : Option Addr) (ck : Nat) (Al : Option Addr) (cl : Nat) (Bk : Option Addr) (dk : Nat) (Bl : Option Addr) (dl : Nat) (w : World)
    (hea : errR a = 0) (Ga : GoodRs a) (Gb : GoodRs b) (hla : a.length ≤ 1000) (hlb : b.length ≤ 1000) (hN : N = b.length + 1)
    (ho : w.ownsRow gp 3 1 (.slice (some ⟨gp, 0, none⟩) N N) N (I.ints (zsOf N f))) (h1 : I.Row w gp Ak (nums (kidsH a pa))) (h2 : LRow w gp Al (labsK a pa)) (h3 : I.Row w gp Bk (nums (kidsH b h))) (h4 : LRow w gp Bl (labsK b h))
    (hf : ∀ k ∈ kidsH b h, f k = 0) :
    Calls Try.prog 58 #[.slice (some ⟨gp, 0, none⟩) N N, famV Ak (kidsH a pa).length ck Al cl, famV Bk (kidsH b h).length dk Bl dl] w (PairUpPost gp N (updF a b pa (kidsH b h) f (kidsH b h).length) w) := by
  have nf : ¬ (False : Prop) := fun h => h
  obtain ⟨ka, hka⟩ : ∃ ks, ks = kidsH a pa := ⟨_, rfl⟩
  obtain ⟨kb, hkb⟩ : ∃ ks, ks = kidsH b h := ⟨_, rfl⟩
  have hkal : ka.length ≤ 1000 := by rw [hka]; have := kidsTo_len a pa a.length; unfold kidsH; omega
  have hkbl : kb.length ≤ 1000 := by rw [hkb]; have := kidsTo_len b h b.length; unfold kidsH; omega
  have hlk : (labsK a pa).length = ka.length := by rw [labsK_length, hka]
  have hlkb : (labsK b h).length = kb.length := by rw [labsK_length, hkb]
  have HKM := Lib.hid (show ∀ k ∈ kb, 1 ≤ k ∧ k ≤ b.length from fun k hk => by
    rw [hkb] at hk
    obtain ⟨h1, h2, _⟩ := mem_kidsTo.1 hk
    exact ⟨h1, h2⟩)
  have HLOOK := Lib.hid (fun i => look_match (b := b) hea pa i)
  rw [← hka] at h1 HLOOK ⊢
  rw [← hkb] at h3 hf ⊢
  have hgw : gp < w.heap.size := (ho.lt gp rfl).2
  -- the two boxes
  obtain ⟨w0, hw0⟩ : ∃ w0, w0 = w.alloc (.cells #[.slice Ak ka.length ck, .slice Al ka.length cl] 83) := ⟨_, rfl⟩
  obtain ⟨w1, hw1⟩ : ∃ w1, w1 = w0.alloc (.cells #[.slice Bk kb.length dk, .slice Bl kb.length dl] 83) := ⟨_, rfl⟩
  have hs0 : w0.heap.size = w.heap.size + 1 := by rw [hw0]; simp
  have hb0 : Below w.heap.size w w0 := by rw [hw0]; exact (Below.refl _ _).alloc (Nat.le_refl _) _
  have hb01 : Below w0.heap.size w0 w1 := by rw [hw1]; exact (Below.refl _ _).alloc (Nat.le_refl _) _
  have hb1 : Below w.heap.size w w1 := hb0.trans (hb01.mono hb0.size)
  have hc0 : ∀ j u, (#[.slice Ak ka.length ck, .slice Al ka.length cl] : Array Value)[j]? = some u → w1.cell? ⟨w.heap.size, j, none⟩ = some u := fun j u hu => by
    have : w0.cell? ⟨w.heap.size, j, none⟩ = some u := by rw [hw0]; exact (cell_of_row _ _ _ _ _ (0, 0) (heap_alloc_new w _)).trans hu
    rw [hw1]; exact cell_push this
  have hc1 : ∀ j u, (#[.slice Bk kb.length dk, .slice Bl kb.length dl] : Array Value)[j]? = some u → w1.cell? ⟨w.heap.size + 1, j, none⟩ = some u := fun j u hu => by
    rw [hw1, ← hs0]; exact (cell_of_row _ _ _ _ _ (0, 0) (heap_alloc_new w0 _)).trans hu
  have s0 := hc0 0 _ rfl
  have s1 := hc0 1 _ rfl
  have t0 := hc1 0 _ rfl
  have t1 := hc1 1 _ rfl
  have hs1 : w1.heap.size = w.heap.size + 1 + 1 := by rw [hw1, ← hs0]; simp
  have HS1 := Lib.hid hs1
  have HBOX := Lib.hid (And.intro (And.intro s0 s1) (And.intro t0 t1))
  have CO := Lib.hid (K.of_any Al cl (labsK a pa) w1 ((h2.below (hb1.mono (by omega))).mono (by have := hb1.size; omega)) (by omega) (labsK_wf Ga hla pa))
  rw [hlk] at CO
  have HW1 := Lib.hid (show (w.alloc (.cells #[.slice Ak ka.length ck, .slice Al ka.length cl] 83)).alloc (.cells #[.slice Bk kb.length dk, .slice Bl kb.length dl] 83) = w1 by rw [hw1, hw0])
  have HB1 := Lib.hid hb1; have HO := Lib.hid ho; have H1 := Lib.hid h1; have H3 := Lib.hid h3; have H4 := Lib.hid h4; have HF := Lib.hid hf
  have HWF := Lib.hid (labsK_wf Gb hlb h); have HLK := Lib.hid hlk; have HLKB := Lib.hid hlkb; have HKB := Lib.hid hkb; have HN := Lib.hid hN
  have hNl : N ≤ 1001 := by omega
  clear hea Ga Gb hla hlb hN ho h1 h2 h3 h4 hf hlk hlkb hka hkb hw0 hw1 hs0 hs1 hb0 hb01 hb1 hc0 hc1
  go_enter Try.func58, Try.ntmps58
  go_upto_region 1 with (fail)
  rw [HW1.out]
  go_wp2_with fail
  refine CO.out.mono ?_
  rintro e w2 ⟨X, bm, rfl, hix, hb2⟩
  have HIX := Lib.hid (show Ix w2 w1.heap.size X bm (ofL (labsK a pa) (labsK a pa).length) by rw [HLK.out]; exact hix)
  have HB2 := Lib.hid hb2
  have HO2 := Lib.hid ((kept_below (HB1.out.trans (hb2.mono HB1.out.size)) (fun _ => False)).own HO.out (fun _ _ => nf))
  have HBOX2 := Lib.hid (show (w2.cell? ⟨w.heap.size, 0, none⟩ = some (.slice Ak ka.length ck) ∧ w2.cell? ⟨w.heap.size, 1, none⟩ = some (.slice Al ka.length cl)) ∧ w2.cell? ⟨w.heap.size + 1, 0, none⟩ = some (.slice Bk kb.length dk) ∧ w2.cell? ⟨w.heap.size + 1, 1, none⟩ = some (.slice Bl kb.length dl) from by
    have hk := kept_below hb2 (fun _ => False)
    exact ⟨⟨hk.cellOf HBOX.out.1.1 nf, hk.cellOf HBOX.out.1.2 nf⟩, hk.cellOf HBOX.out.2.1 nf, hk.cellOf HBOX.out.2.2 nf⟩)
  have HKW2 := Lib.hid (show Kept (· = gp) w w2 from kept_below (HB1.out.trans (hb2.mono HB1.out.size)) _)
  clear hix hb2 CO s0 s1 t0 t1
  obtain ⟨⟨s0, s1⟩, t0, t1⟩ := HBOX2.out
  go_wp2_with fail
  clear s0 s1 t0 t1
  go_loopg [7, 8, 17] kb.length (fun q _ _ s17 wr => ∃ i : Nat, s17 = .int .i64 i ∧ i ≤ kb.length ∧ kb.length - i ≤ q ∧ RowKit.Hid (wr.ownsRow gp 3 1 (.slice (some ⟨gp, 0, none⟩) N N) N (I.ints (zsOf N (updF a b pa kb f i)))) ∧ RowKit.Hid (Ix wr w1.heap.size X bm (ofL (labsK a pa) (labsK a pa).length)) ∧ RowKit.Hid (Kept (· = gp) w2 wr))
  case atStart => exact ⟨0, rfl, by omega, by omega, Lib.hid (by have := HO2.out; rw [show updF a b pa kb f 0 = f by funext j; simp [updF]]; exact this), HIX, Lib.hid (Kept.refl _ _)⟩
  case round =>
    obtain ⟨i, rfl, hi, hq, HOR, HIR, HKR⟩ := hrel
    have HKW := Lib.hid (HKW2.out.trans HKR.out)
    have HBG := Lib.hid (show Below gp w wr from HKW.out.below (by omega) (fun k hk => by have e : k = gp := hk; omega))
    by_cases hlt : i < kb.length
    · have h1 : (i : Int) < (kb.length : Int) := by omega
      obtain ⟨b2, off2, z, hBk, hb2, hz, hzc⟩ := I.row_at (H3.out.below HBG.out) (j := i) (by simpa [nums] using hlt)
      obtain ⟨k, hk⟩ : ∃ k, k = kb[i] := ⟨_, rfl⟩
      obtain ⟨k1, k2⟩ := HKM.out k (by rw [hk]; exact List.getElem_mem _)
      have hzk : z = (k : Int) := by
        rw [hz, hk]
        simp [nums, List.getD_eq_getElem?_getD, hlt]
      subst hzk
      have hil : i < (labsK b h).length := by rw [HLKB.out]; exact hlt
      obtain ⟨b3, off3, L, hBl, hb3, hL, l0, l1, l2⟩ := lrow_at (H4.out.below HBG.out) hil
      have HLW := Lib.hid (show LWf L by rw [hL]; exact HWF.out _ (List.getElem_mem _))
      have hLr : L = labR b (k - 1) := by
        rw [hL]
        simp only [labsK, List.getElem_map]
        simp only [← HKB.out, hk]
      obtain ⟨⟨s0, s1⟩, t0, t1⟩ : (wr.cell? ⟨w.heap.size, 0, none⟩ = some (.slice Ak ka.length ck) ∧ wr.cell? ⟨w.heap.size, 1, none⟩ = some (.slice Al ka.length cl)) ∧ wr.cell? ⟨w.heap.size + 1, 0, none⟩ = some (.slice Bk kb.length dk) ∧ wr.cell? ⟨w.heap.size + 1, 1, none⟩ = some (.slice Bl kb.length dl) := ⟨⟨HKR.out.cellOf HBOX2.out.1.1 (by show ¬ w.heap.size = gp; omega), HKR.out.cellOf HBOX2.out.1.2 (by show ¬ w.heap.size = gp; omega)⟩, HKR.out.cellOf HBOX2.out.2.1 (by show ¬ w.heap.size + 1 = gp; omega), HKR.out.cellOf HBOX2.out.2.2 (by show ¬ w.heap.size + 1 = gp; omega)⟩
      have HLK2 := Lib.hid (HLOOK.out (k - 1))
      rw [← hLr] at HLK2
      have hil2 : (i : Int) < (kb.length : Int) := h1
      have hkN : k < N := by have := HN.out; omega
      have hkNi : (k : Int) < (N : Int) := by omega
      have HK := Lib.hid hk
      have HFK := Lib.hid (show f kb[i] = 0 from HF.out _ (List.getElem_mem _))
      have hk0 : 0 ≤ (k : Int) := by omega
      clear hz hk hL hil k1 k2 hLr
      rcases HLK2.out with ⟨at_, hat, hlook, hme⟩ | ⟨hlook, hme⟩
      · have C := Lib.hid (K.get_any w1.heap.size X bm _ L at_ true wr HIR.out HLW.out hlook)
        have HME := Lib.hid hme; have HAT := Lib.hid hat
        clear hlook hme
        go_wp2_with fail
        refine C.out.mono ?_
        rintro e w4 ⟨rfl, hb4⟩
        have HB4 := Lib.hid hb4
        have hk4 := kept_below hb4 (fun _ => False)
        have s0' := hk4.cellOf s0 nf
        have ho4 := hk4.own HOR.out (fun _ _ => nf)
        have HBG4 := Lib.hid (show Below gp w w4 from HBG.out.trans (hb4.mono (by have := (HOR.out.lt gp rfl).2; omega)))
        obtain ⟨b5, off5, z5, hAk, hb5, hz5, hzc5⟩ := I.row_at (H1.out.below HBG4.out) (j := at_) (by simpa [nums] using hat)
        have hz5' : z5 = (lastM a b (pa : Int) (kb[i] - 1) a.length : Int) := by
          rw [hz5, ← HK.out]
          have e := HME.out
          simp only [nums, List.getD_eq_getElem?_getD, List.getElem?_map, List.getElem?_eq_getElem hat, Option.map_some, Option.getD_some, e]
        have p0 : w4.cell? ⟨gp, k, none⟩ = some (.int .i64 (updF a b pa kb f i k)) := by rw [ho4.cellAt k (by omega), zsOf_get _ hkN]
        have z0 := ho4.frozenAt k
        have HNX := Lib.hid (show (w4.setCell ⟨gp, k, none⟩ (.int .i64 z5)).ownsRow gp 3 1 (.slice (some ⟨gp, 0, none⟩) N N) N (I.ints (zsOf N (updF a b pa kb f (i + 1)))) by
          have := (ho4.stored k (.int .i64 z5)).1
          rw [zsOf_set _ hkN, hz5', HK.out, updF_hit hlt] at this
          rw [hz5', HK.out]; exact this)
        have HIX4 := Lib.hid (show Ix (w4.setCell ⟨gp, k, none⟩ (.int .i64 z5)) w1.heap.size X bm (ofL (labsK a pa) (labsK a pa).length) from (HIR.out.below hb4).keep (toK (kept_setCell w4 ⟨gp, k, none⟩ (.int .i64 z5))) (fun h => by have h1 : X = gp := h; have h2 := HIR.out.lo; have h3 := HS1.out; omega) (fun h => by have h1 : bm = gp := h; have h2 := HIR.out.loM; have h3 := HS1.out; omega))
        have HK5 := Lib.hid (show Kept (· = gp) w2 (w4.setCell ⟨gp, k, none⟩ (.int .i64 z5)) from (HKR.out.trans (kept_below hb4 _)).trans (kept_setCell w4 ⟨gp, k, none⟩ _))
        have hati : (at_ : Int) < (ka.length : Int) := by omega
        clear hb4 hk4 ho4 hz5 hz5' C s0 s1 t0 t1 l0 l1 l2 hzc
        go_wp2_with fail
        generalize w4.setCell ⟨gp, k, none⟩ (.int .i64 z5) = w6 at HNX HIX4 HK5 ⊢
        try rw [← hBk]
        try rw [← hBl]
        try rw [← hAk]
        go_roundg (kb.length - (i + 1))
        case measure => omega
        case rel => exact ⟨i + 1, by go_num, by omega, by omega, HNX, HIX4, HK5⟩
      · have C := Lib.hid (K.get_any w1.heap.size X bm _ L 0 false wr HIR.out HLW.out hlook)
        have HME := Lib.hid hme
        clear hlook hme
        go_wp2_with fail
        refine C.out.mono ?_
        rintro e w4 ⟨rfl, hb4⟩
        have HNX := Lib.hid (show w4.ownsRow gp 3 1 (.slice (some ⟨gp, 0, none⟩) N N) N (I.ints (zsOf N (updF a b pa kb f (i + 1)))) by
          rw [← updF_miss hlt (by rw [← HK.out]; exact HME.out) HFK.out]
          exact (kept_below hb4 (fun _ => False)).own HOR.out (fun _ _ => nf))
        have HIX4 := Lib.hid (HIR.out.below hb4)
        have HK5 := Lib.hid (show Kept (· = gp) w2 w4 from HKR.out.trans (kept_below hb4 _))
        clear hb4 C s0 s1 t0 t1 l0 l1 l2 hzc
        go_wp2_with fail
        try rw [← hBk]
        try rw [← hBl]
        go_roundg (kb.length - (i + 1))
        case measure => omega
        case rel => exact ⟨i + 1, by go_num, by omega, by omega, HNX, HIX4, HK5⟩
    · have h1 : ¬ (i : Int) < (kb.length : Int) := by omega
      obtain rfl : i = kb.length := by omega
      go_wp2_with fail
      refine bodyPost_ret (results_none rfl _ _ _) rfl ?_
      exact ⟨rfl, HOR.out, HKW.out⟩
end Go.Proofs.Ytlkdklpglmglkaa
