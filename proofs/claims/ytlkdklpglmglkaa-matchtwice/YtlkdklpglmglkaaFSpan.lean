/-
  flat.Spans.
-/
import Derived.Test.YtlkdklpglmglkaaFTree
import Derived.Test.YtlkdklpglmglkaaFInts
import Derived.Deep.DeepCutAuto
namespace Go.Proofs.Ytlkdklpglmglkaa
open Go.RowKit Go.Sort Go.Lib
set_option linter.unusedVariables false
set_option maxRecDepth 100000
theorem spanTo_le (l : List Rw) (h : Nat) : ∀ n, spanTo l h n ≤ n
  | 0 => Nat.le_refl _
  | n + 1 => by
    rw [spanTo]
    have := spanTo_le l h n
    split <;> omega
theorem spanAt_mono {l : List Rw} (hf : FormTo l l.length) {h k : Nat} (hh : h < l.length) : spanAt l (h + 1) k ≤ spanAt l h k := by
  rw [spanAt_step hf hh]
  by_cases hk : k = h + 1
  · rw [if_pos hk]
    subst hk
    have := spanAt_self hf (h + 1)
    omega
  · rw [if_neg hk]
    split <;> omega
theorem spanAt_le {l : List Rw} (hf : FormTo l l.length) {k : Nat} (hk : k ≤ l.length) : ∀ h, h ≤ l.length → spanAt l h k ≤ l.length
  | 0, _ => by rw [spanAt_end hf hk]; exact spanTo_le _ _ _
  | h + 1, hh => Nat.le_trans (spanAt_mono hf (by omega)) (spanAt_le hf hk h (by omega))
noncomputable def spL (rs : List Rw) (h : Nat) : List Int := (List.range (rs.length + 1)).map (fun k => ((spanAt rs h k : Nat) : Int))
theorem spL_length (rs : List Rw) (h : Nat) : (spL rs h).length = rs.length + 1 := by simp [spL]
theorem spL_get (rs : List Rw) (h : Nat) {k : Nat} (hk : k ≤ rs.length) : (I.ints (spL rs h))[k]? = some (.int .i64 ((spanAt rs h k : Nat) : Int)) := by
  simp [I.ints, spL, List.getElem?_range (show k < rs.length + 1 by omega)]
theorem spL_zero (rs : List Rw) : List.replicate (rs.length + 1) (0 : Int) = spL rs rs.length := by
  apply List.ext_getElem (by simp [spL])
  intro i h1 h2
  have hi : i ≤ rs.length := by simp at h1; omega
  simp [spL, spanAt_last rs hi]
theorem spL_step {rs : List Rw} (hf : FormTo rs rs.length) {h' u : Nat} (hh : h' < rs.length) (hu : (rwAt rs h').up = (u : Int)) (huh : u ≤ h') :
    (((I.ints (spL rs (h' + 1))).set (h' + 1) (.int .i64 ((spanAt rs (h' + 1) (h' + 1) : Nat) + 1 : Int))).set u (.int .i64 ((spanAt rs (h' + 1) u : Nat) + ((spanAt rs (h' + 1) (h' + 1) : Nat) + 1 : Int) : Int))) = I.ints (spL rs h') := by
  apply List.ext_getElem?
  intro k
  by_cases hk : k ≤ rs.length
  · have hs := spanAt_self hf (h' + 1)
    have hst := spanAt_step hf (k := k) hh
    rw [spL_get rs h' hk]
    by_cases h1 : u = k
    · subst h1
      rw [List.getElem?_set_self (by simp [I.ints, spL]; omega), hst, if_neg (by omega), if_pos hu]
      congr 2
      omega
    · rw [List.getElem?_set_ne h1]
      by_cases h2 : h' + 1 = k
      · subst h2
        rw [List.getElem?_set_self (by simp [I.ints, spL]; omega), hst, if_pos rfl]
        congr 2
        omega
      · rw [List.getElem?_set_ne h2, spL_get rs (h' + 1) hk, hst, if_neg (by omega), if_neg (by rw [hu]; omega)]
  · rw [List.getElem?_eq_none (by simp [I.ints, spL]; omega), List.getElem?_eq_none (by simp [I.ints, spL]; omega)]
/-- The answer of Spans. -/
noncomputable def spansL (rs : List Rw) : List Int := spL rs 0
open Classical in
noncomputable def spansR (rs : List Rw) : List Int := if errR rs = 0 then spansL rs else []
theorem errR_form {rs : List Rw} (h : errR rs = 0) : FormTo rs rs.length := by
  apply Classical.byContradiction
  intro hn
  rw [errR_bad hn] at h
  cases h
set_option maxHeartbeats 8000000 in
theorem spans_any (A : Option Addr) (c : Nat) (rs : List Rw) (w : World) (H : RRow w w.heap.size A rs) (G : GoodRs rs) (hl : rs.length ≤ 1000) (hc : rs.length ≤ c) :
    Calls Try.prog 24 #[.slice A rs.length c] w (I.Made w (spansR rs)) := by
  have HR := Lib.hid H
  have C := Lib.hid (fcheck_any A c rs w H G hl hc)
  obtain ⟨i0, hi, hz0, hz1, hz2⟩ := info_parts I.Try.info3
  have HBY := Lib.hid (show i0.bytes * (rs.length + 1) ≤ 281474976710656 by rw [hz2]; omega)
  clear H G hc
  go_enter Try.func24, Try.ntmps24
  go_wp2_with fail
  repeat (first | (go_step3; go_wp2_with fail) | go_step3)
  refine C.out.mono ?_
  rintro e w1 ⟨rfl, hb1⟩
  have HB1 := Lib.hid hb1; have HR1 := Lib.hid (HR.out.up hb1)
  clear hb1 C
  obtain ⟨er, her⟩ : ∃ e, e = errR rs := ⟨_, rfl⟩
  rw [← her]
  have HER := Lib.hid her
  clear her
  by_cases hz : er = 0
  · have hz' : (er != 0) = false := by simpa using hz
    have HF := Lib.hid (errR_form (rs := rs) (by rw [← HER.out]; exact hz))
    have HSP := Lib.hid (show spansR rs = spL rs 0 by rw [spansR, if_pos (by rw [← HER.out]; exact hz)]; rfl)
    clear hz
    have hwl : IntKind.i64.wrap ((rs.length : Int) + 1) = (rs.length : Int) + 1 := by rw [IntKind.wrap_i64]; omega
    go_wp2_with (at_make; refine wpList_make_full _ rfl (.tmp 10) (.tmp 10) 46 rfl w1.heap.size 3 i0 (.int .i64 0) 1 Try.underlying46 hi hz0 hz1 .i64 .i64 _ _ (rs.length + 1) rfl rfl rfl rfl HBY.out (by unfold maxLen; omega) (Nat.le_refl _) ?_; intro w2 hown2 hg2; rw [I.made_ints, spL_zero] at hown2; have HG2 := Lib.hid hg2; clear hg2; have HO2 := Lib.hid hown2; clear hown2)
    repeat (first | (go_step3; go_wp2_with fail) | go_step3)
    have hb2 : Below w1.heap.size w1 w2 := (Below.refl _ _).grown HG2.out (Nat.le_refl _) (fun k hk => by cases hk)
    obtain ⟨g, hgg⟩ : ∃ g, g = w1.heap.size := ⟨_, rfl⟩
    have HGG := Lib.hid hgg
    have HB2 := Lib.hid hb2
    rw [← hgg] at HO2 ⊢
    clear hgg hb2 HG2
    go_loopg [4, 38] rs.length (fun q s4 _ wr => ∃ h : Nat, s4 = .int .i64 h ∧ h ≤ rs.length ∧ h ≤ q ∧ RowKit.Hid (wr.ownsRow g 3 1 (.slice (some ⟨g, 0, none⟩) (rs.length + 1) (rs.length + 1)) (rs.length + 1) (I.ints (spL rs h))) ∧ RowKit.Hid (Below g w1 wr))
    case atStart => exact ⟨rs.length, rfl, by omega, by omega, HO2, Lib.hid (by rw [HGG.out]; exact HB2.out)⟩
    case round =>
      obtain ⟨h, rfl, hh, hq, HO, HB⟩ := hrel
      by_cases hpos : 0 < h
      · have h1 : ((h : Int) == 0) = false := by rw [beq_eq_false_iff_ne]; omega
        obtain ⟨h', hh'⟩ : ∃ h', h' = h - 1 := ⟨_, rfl⟩
        have hhe : h = h' + 1 := by omega
        have hlt : h' < rs.length := by omega
        obtain ⟨b, off, r, x, hA, hb, hr, hc, -⟩ := rrow_at (HR1.out.below (by rw [← HGG.out]; exact HB.out)) hlt
        obtain ⟨c0, c1, c2, c3, c4, c5⟩ := hc
        have hr' : rwAt rs h' = r := by rw [rwAt_eq hlt, hr]
        obtain ⟨v1, v2⟩ := okAt_up (HF.out h' hlt)
        rw [hr'] at v1 v2
        obtain ⟨u, hu⟩ : ∃ u, u = r.up.toNat := ⟨_, rfl⟩
        have hru : r.up = (u : Int) := by omega
        have huh : u ≤ h' := by omega
        have hup : (rwAt rs h').up = (u : Int) := by rw [hr', hru]
        rw [hru] at c1
        obtain ⟨zh, hzh⟩ : ∃ z, z = spanAt rs h h := ⟨_, rfl⟩
        obtain ⟨zu, hzu⟩ : ∃ z, z = spanAt rs h u := ⟨_, rfl⟩
        have b1 : zh ≤ 1000 := by rw [hzh]; exact Nat.le_trans (spanAt_le HF.out hh h hh) hl
        have b2 : zu ≤ 1000 := by rw [hzu]; exact Nat.le_trans (spanAt_le HF.out (by omega) h hh) hl
        have HSTEP := Lib.hid (show ((I.ints (spL rs h)).set h (.int .i64 ((zh : Int) + 1))).set u (.int .i64 ((zu : Int) + ((zh : Int) + 1))) = I.ints (spL rs h') by rw [hzh, hzu, hhe]; exact spL_step HF.out hlt hup huh)
        have p1 : wr.cell? ⟨g, h, none⟩ = some (.int .i64 (zh : Int)) := by rw [HO.out.cellAt h (by omega), spL_get rs h hh, hzh]
        have f1 := HO.out.frozenAt h
        have hgu : ¬ h = u := by omega
        have hO2 := (HO.out.stored h (.int .i64 ((zh : Int) + 1))).1
        obtain ⟨w3, hw3⟩ : ∃ w3, w3 = wr.setCell ⟨g, h, none⟩ (.int .i64 ((zh : Int) + 1)) := ⟨_, rfl⟩
        rw [← hw3] at hO2
        have p2 : w3.cell? ⟨g, h, none⟩ = some (.int .i64 ((zh : Int) + 1)) := by rw [hO2.cellAt h (by omega), List.getElem?_set_self (by simp [I.ints, spL]; omega)]
        have p3 : w3.cell? ⟨g, u, none⟩ = some (.int .i64 (zu : Int)) := by rw [hO2.cellAt u (by omega), List.getElem?_set_ne (by omega), spL_get rs h (by omega), hzu]
        have f3 := hO2.frozenAt u
        have hbg : b < g := by rw [HGG.out]; exact hb
        have hB3 : Below g w1 w3 := by rw [hw3]; exact HB.out.setCell (Nat.le_refl _) _
        have c1' : w3.cell? ⟨b, off + h' * 6 + 1, none⟩ = some (.int .i64 (u : Int)) := by rw [hw3]; exact (kept_setCell wr ⟨g, h, none⟩ _).cellOf c1 (by show ¬ b = g; omega)
        have HO4 := Lib.hid (show (w3.setCell ⟨g, u, none⟩ (.int .i64 ((zu : Int) + ((zh : Int) + 1)))).ownsRow g 3 1 (.slice (some ⟨g, 0, none⟩) (rs.length + 1) (rs.length + 1)) (rs.length + 1) (I.ints (spL rs h')) by rw [← HSTEP.out]; exact (hO2.stored u _).1)
        have HB4 := Lib.hid (show Below g w1 (w3.setCell ⟨g, u, none⟩ (.int .i64 ((zu : Int) + ((zh : Int) + 1)))) from hB3.setCell (Nat.le_refl _) _)
        have hw1' : IntKind.i64.wrap ((zh : Int) + 1) = (zh : Int) + 1 := by rw [IntKind.wrap_i64]; omega
        have hw2' : IntKind.i64.wrap ((zu : Int) + ((zh : Int) + 1)) = (zu : Int) + ((zh : Int) + 1) := by rw [IntKind.wrap_i64]; omega
        have hw4' : IntKind.i64.wrap ((h : Int) - 1) = (h' : Int) := by rw [IntKind.wrap_i64]; omega
        have hhx : (h : Int) < (rs.length : Int) + 1 := by omega
        have hux : (u : Int) < (rs.length : Int) + 1 := by omega
        have HMS := Lib.hid (show h' < h ∧ h' ≤ rs.length by omega)
        have HW3 := Lib.hid hw3
        clear hh' hhe hr hr' v1 v2 hu hru hup hzh hzu hO2 hw3 hB3 hgu c0 c2 c3 c4 c5 hb hbg
        go_upto_region 8 with (fail)
        rw [← HW3.out]
        clear p1 f1 c1
        go_region
        all_goals
          generalize w3.setCell ⟨g, u, none⟩ (.int .i64 ((zu : Int) + ((zh : Int) + 1))) = w4 at HO4 HB4 ⊢
          go_wp2_with fail
          try rw [← hA]
          go_roundg h'
          case measure => have := HMS.out.1; omega
          case rel => exact ⟨h', rfl, HMS.out.2, by omega, HO4, Lib.hid (HB4.out.trans (below_drewN _ _ _))⟩
      · obtain rfl : h = 0 := by omega
        have h1 : (((0 : Nat) : Int) == 0) = true := rfl
        go_wp2_with fail
        repeat (first | (go_step3; go_wp2_with fail) | go_step3)
        go_ret
        rw [HSP.out]
        have hO' : I.OwnI wr g (.slice (some ⟨g, 0, none⟩) (rs.length + 1) (rs.length + 1)) (spL rs 0) := by unfold I.OwnI; rw [spL_length]; exact HO.out
        exact I.made_own hO' (HB1.out.trans (HB.out.mono (by rw [HGG.out]; exact HB1.out.size)))
  · have hz' : (er != 0) = true := by simpa using hz
    have HSP := Lib.hid (show spansR rs = [] by rw [spansR, if_neg (by rw [← HER.out]; exact hz)])
    clear hz
    go_wp2_with fail
    go_ret
    rw [HSP.out]
    exact ⟨none, 0, rfl, I.Row.nil _ _ _, by simp, by simp [maxLen], fun _ => rfl, HB1.out⟩
end Go.Proofs.Ytlkdklpglmglkaa
