/-
  datum.order and Compare, with slices.CompareFunc and cmp.Or.
-/
import Derived.Test.YtjnhcoflmechmaaGreatDoorDPrint
namespace Go.Proofs.YtjnhcoflmechmaaGreatDoor
open Go.RowKit Go.Sort
set_option linter.unusedVariables false
set_option maxRecDepth 100000
theorem cmpDL_drop : ∀ (k : Nat) (l m : List Dt), k ≤ l.length → k ≤ m.length → (∀ j, (h1 : j < l.length) → (h2 : j < m.length) → j < k → cmpD l[j] m[j] = 0) → cmpDL l m = cmpDL (l.drop k) (m.drop k)
  | 0, l, m, _, _, _ => by simp
  | k + 1, [], _, h, _, _ => by simp at h
  | k + 1, _ :: _, [], _, h, _ => by simp at h
  | k + 1, x :: r, y :: s, h1, h2, hz => by
    have h0 := hz 0 (by simp) (by simp) (by omega)
    simp only [List.getElem_cons_zero] at h0
    rw [cmpDL_cons, orI_r h0, List.drop_succ_cons, List.drop_succ_cons]
    exact cmpDL_drop k r s (by simpa using h1) (by simpa using h2) (fun j g1 g2 g3 => hz (j + 1) (by simpa using g1) (by simpa using g2) (by omega))
theorem cmpNL_drop : ∀ (k : Nat) (l m : List ByteArray), k ≤ l.length → k ≤ m.length → (∀ j, (h1 : j < l.length) → (h2 : j < m.length) → j < k → cmpN l[j] m[j] = 0) → cmpNL l m = cmpNL (l.drop k) (m.drop k)
  | 0, l, m, _, _, _ => by simp
  | k + 1, [], _, h, _, _ => by simp at h
  | k + 1, _ :: _, [], _, h, _ => by simp at h
  | k + 1, x :: r, y :: s, h1, h2, hz => by
    have h0 := hz 0 (by simp) (by simp) (by omega)
    simp only [List.getElem_cons_zero] at h0
    rw [cmpNL_cons, orI_r h0, List.drop_succ_cons, List.drop_succ_cons]
    exact cmpNL_drop k r s (by simpa using h1) (by simpa using h2) (fun j g1 g2 g3 => hz (j + 1) (by simpa using g1) (by simpa using g2) (by omega))
def ZeroN (l m : List ByteArray) (k : Nat) : Prop := k ≤ l.length ∧ k ≤ m.length ∧ ∀ j, (h1 : j < l.length) → (h2 : j < m.length) → j < k → cmpN l[j] m[j] = 0
def ZeroD (l m : List Dt) (k : Nat) : Prop := k ≤ l.length ∧ k ≤ m.length ∧ ∀ j, (h1 : j < l.length) → (h2 : j < m.length) → j < k → cmpD l[j] m[j] = 0
theorem ZeroN.step {l m : List ByteArray} {k : Nat} (h : ZeroN l m k) (h1 : k < l.length) (h2 : k < m.length) (h0 : cmpN l[k] m[k] = 0) : ZeroN l m (k + 1) := ⟨by omega, by omega, fun j g1 g2 g3 => by
  rcases Nat.lt_or_ge j k with g | g
  · exact h.2.2 j g1 g2 g
  · have : j = k := by omega
    subst this; exact h0⟩
theorem ZeroD.step {l m : List Dt} {k : Nat} (h : ZeroD l m k) (h1 : k < l.length) (h2 : k < m.length) (h0 : cmpD l[k] m[k] = 0) : ZeroD l m (k + 1) := ⟨by omega, by omega, fun j g1 g2 g3 => by
  rcases Nat.lt_or_ge j k with g | g
  · exact h.2.2 j g1 g2 g
  · have : j = k := by omega
    subst this; exact h0⟩
theorem ZeroN.gt {l m : List ByteArray} {k : Nat} (h : ZeroN l m k) (h1 : k < l.length) (h2 : ¬ k < m.length) : cmpNL l m = 1 := by
  rw [cmpNL_drop k l m h.1 h.2.1 h.2.2, List.drop_eq_getElem_cons h1, List.drop_eq_nil_of_le (show m.length ≤ k by omega)]; rfl
theorem ZeroD.gt {l m : List Dt} {k : Nat} (h : ZeroD l m k) (h1 : k < l.length) (h2 : ¬ k < m.length) : cmpDL l m = 1 := by
  rw [cmpDL_drop k l m h.1 h.2.1 h.2.2, List.drop_eq_getElem_cons h1, List.drop_eq_nil_of_le (show m.length ≤ k by omega), cmpDL_gt]
theorem ZeroN.ne {l m : List ByteArray} {k : Nat} (h : ZeroN l m k) (h1 : k < l.length) (h2 : k < m.length) (h0 : cmpN l[k] m[k] ≠ 0) : cmpNL l m = cmpN l[k] m[k] := by
  rw [cmpNL_drop k l m h.1 h.2.1 h.2.2, List.drop_eq_getElem_cons h1, List.drop_eq_getElem_cons h2, cmpNL_cons, orI_l h0]
theorem ZeroD.ne {l m : List Dt} {k : Nat} (h : ZeroD l m k) (h1 : k < l.length) (h2 : k < m.length) (h0 : cmpD l[k] m[k] ≠ 0) : cmpDL l m = cmpD l[k] m[k] := by
  rw [cmpDL_drop k l m h.1 h.2.1 h.2.2, List.drop_eq_getElem_cons h1, List.drop_eq_getElem_cons h2, cmpDL_cons, orI_l h0]
theorem ZeroN.fin {l m : List ByteArray} {k : Nat} (h : ZeroN l m k) (h1 : ¬ k < l.length) : cmpNL l m = if l.length < m.length then -1 else 0 := by
  rw [cmpNL_drop k l m h.1 h.2.1 h.2.2, List.drop_eq_nil_of_le (show l.length ≤ k by omega)]
  have := h.1
  by_cases h2 : l.length < m.length
  · rw [if_pos h2, List.drop_eq_getElem_cons (show k < m.length by omega)]; rfl
  · rw [if_neg h2, List.drop_eq_nil_of_le (show m.length ≤ k by omega)]; rfl
theorem ZeroD.fin {l m : List Dt} {k : Nat} (h : ZeroD l m k) (h1 : ¬ k < l.length) : cmpDL l m = if l.length < m.length then -1 else 0 := by
  rw [cmpDL_drop k l m h.1 h.2.1 h.2.2, List.drop_eq_nil_of_le (show l.length ≤ k by omega)]
  have := h.1
  by_cases h2 : l.length < m.length
  · rw [if_pos h2, List.drop_eq_getElem_cons (show k < m.length by omega), cmpDL_lt]
  · rw [if_neg h2, List.drop_eq_nil_of_le (show m.length ≤ k by omega), cmpDL_nil]
set_option maxHeartbeats 4000000 in
theorem cfN_any (A A' : Option Addr) (c c' : Nat) (l m : List ByteArray) (w : World) (h : SRow w w.heap.size A l) (h' : SRow w w.heap.size A' m) (hl : l.length ≤ 1000000) (hm : m.length ≤ 1000000) :
    Calls Tryz.prog 91 #[.slice A l.length c, .slice A' m.length c', .func (.func 90) #[] #[]] w fun e w' => e = .returned (.int .i64 (cmpNL l m)) ∧ w = w' := by
  have HR := Lib.hid h; have HR' := Lib.hid h'
  obtain ⟨R, hR⟩ : ∃ R, R = cmpNL l m := ⟨_, rfl⟩
  rw [← hR]
  have HRE := Lib.hid hR
  clear h h' hR
  go_enter Tryz.func91, Tryz.ntmps91
  go_wp2_with fail
  go_loopg [13] l.length (fun g s13 wr => ∃ k : Nat, s13 = .int .i64 k ∧ k ≤ l.length ∧ l.length - k ≤ g ∧ RowKit.Hid (ZeroN l m k) ∧ RowKit.Hid (w = wr))
  case atStart => exact ⟨0, rfl, by omega, by omega, Lib.hid ⟨by omega, by omega, fun j _ _ h => by omega⟩, Lib.hid rfl⟩
  case round =>
    obtain ⟨k, rfl, hk, hg, HZ, HW⟩ := hrel
    obtain rfl := HW.out
    by_cases hlt : k < l.length
    · have h1 : (k : Int) < (l.length : Int) := by omega
      obtain ⟨b, off, p, hA, hb, hp, hc⟩ := srow_at HR.out hlt
      by_cases hlt2 : k < m.length
      · have h2 : ¬ (k : Int) ≥ (m.length : Int) := by omega
        have h3 : (k : Int) < (m.length : Int) := by omega
        obtain ⟨b', off', p', hA', hb', hp', hc'⟩ := srow_at HR'.out hlt2
        obtain ⟨cv, hcv⟩ : ∃ cv, cv = cmpN p p' := ⟨_, rfl⟩
        have CC := charsCompare_any p p' w
        rw [← hcv] at CC
        have HC := Lib.hid CC
        have hcv2 : cv = cmpN l[k] m[k] := by rw [hcv, hp, hp']
        have HCV := Lib.hid hcv2
        have HA := Lib.hid hA; have HA' := Lib.hid hA'
        clear hcv hcv2 CC hp hp'
        by_cases hz : cv = 0
        · have HZ2 := Lib.hid (HZ.out.step hlt hlt2 (by rw [← HCV.out]; exact hz))
          have hz' : (cv != 0) = false := by rw [hz]; rfl
          clear hz
          go_wp2_with fail
          refine HC.out.mono ?_
          rintro e w' ⟨rfl, rfl⟩
          go_wp2_with fail
          try rw [← HA.out]
          try rw [← HA'.out]
          go_roundg (l.length - (k + 1))
          case measure => omega
          case rel => exact ⟨k + 1, by go_num, by omega, by omega, HZ2, Lib.hid rfl⟩
        · have HZ2 := Lib.hid (show R = cv by rw [HRE.out, HZ.out.ne hlt hlt2 (by rw [← HCV.out]; exact hz), HCV.out])
          have hz' : (cv != 0) = true := by simpa using hz
          clear hz
          go_wp2_with fail
          refine HC.out.mono ?_
          rintro e w' ⟨rfl, rfl⟩
          go_wp2_with fail
          go_ret
          exact ⟨ret_int HZ2.out.symm, rfl⟩
      · have h2 : (k : Int) ≥ (m.length : Int) := by omega
        have HZ2 := Lib.hid (show R = 1 by rw [HRE.out, HZ.out.gt hlt hlt2])
        go_wp2_with fail
        go_ret
        exact ⟨ret_int HZ2.out.symm, rfl⟩
    · have h1 : ¬ (k : Int) < (l.length : Int) := by omega
      have HF := Lib.hid (show R = if l.length < m.length then -1 else 0 by rw [HRE.out, HZ.out.fin hlt])
      by_cases h2 : l.length < m.length
      · have h3 : (l.length : Int) < (m.length : Int) := by omega
        have HF2 := Lib.hid (show R = -1 by rw [HF.out, if_pos h2])
        go_wp2_with fail
        go_ret
        exact ⟨ret_int HF2.out.symm, rfl⟩
      · have h3 : ¬ (l.length : Int) < (m.length : Int) := by omega
        have HF2 := Lib.hid (show R = 0 by rw [HF.out, if_neg h2])
        go_wp2_with fail
        go_ret
        exact ⟨ret_int HF2.out.symm, rfl⟩
theorem cmpI_any (x y : Int) (w : World) : Calls Tryz.prog 89 #[.int .i64 x, .int .i64 y] w fun e w' => e = .returned (.int .i64 (cmpI x y)) ∧ w = w' := by
  refine (Tryz.cmp_Compare_int x y w).mono ?_
  rintro e w' ⟨rfl, rfl⟩
  refine ⟨ret_int ?_, rfl⟩
  unfold Lib.compareInt cmpI
  split <;> (try split) <;> (try split) <;> omega
def orL : List Int → Int
  | [] => 0
  | x :: r => orI x (orL r)
def FirstZ (l : List Int) (k : Nat) : Prop := ∀ j, (h : j < l.length) → j < k → l[j] = 0
theorem orL_all {l : List Int} (h : ∀ j, (h : j < l.length) → l[j] = 0) : orL l = 0 := by
  induction l with
  | nil => rfl
  | cons x r ih => have h0 := h 0 (by simp); simp only [List.getElem_cons_zero] at h0; rw [orL, orI_r h0]; exact ih (fun j hj => h (j + 1) (by simpa using hj))
theorem orL_at : ∀ {l : List Int} {k : Nat}, FirstZ l k → ∀ (h : k < l.length), l[k] ≠ 0 → orL l = l[k]
  | [], _, _, h, _ => by simp at h
  | x :: r, 0, _, _, h0 => by rw [orL]; exact orI_l h0 _
  | x :: r, k + 1, hz, h, h0 => by
    have h1 := hz 0 (by simp) (by omega)
    simp only [List.getElem_cons_zero] at h1
    rw [orL, orI_r h1]
    exact orL_at (l := r) (k := k) (fun j hj hk => hz (j + 1) (by simpa using hj) (by omega)) (by simpa using h) h0
set_option maxHeartbeats 2000000 in
theorem or_any (B c : Nat) (l : List Int) (w : World) (h : ∀ j, (hj : j < l.length) → w.cell? ⟨B, j, none⟩ = some (.int .i64 l[j])) (hl : l.length ≤ 1000000) : Calls Tryz.prog 88 #[.slice (some ⟨B, 0, none⟩) l.length c] w fun e w' => e = .returned (.int .i64 (orL l)) ∧ w = w' := by
  have HH := Lib.hid h
  obtain ⟨R, hR⟩ : ∃ R, R = orL l := ⟨_, rfl⟩
  rw [← hR]
  have HRE := Lib.hid hR
  clear h hR
  go_enter Tryz.func88, Tryz.ntmps88
  go_wp2_with fail
  go_loopg [8] l.length (fun g s8 wr => ∃ k : Nat, s8 = .int .i64 k ∧ k ≤ l.length ∧ l.length - k ≤ g ∧ RowKit.Hid (FirstZ l k) ∧ RowKit.Hid (w = wr))
  case atStart => exact ⟨0, rfl, by omega, by omega, Lib.hid (fun j _ h => by omega), Lib.hid rfl⟩
  case round =>
    obtain ⟨k, rfl, hk, hg, HZ, HW⟩ := hrel
    obtain rfl := HW.out
    by_cases hlt : k < l.length
    · have h1 : (k : Int) < (l.length : Int) := by omega
      obtain ⟨v, hv⟩ : ∃ v, v = l[k] := ⟨_, rfl⟩
      have hc := HH.out k hlt
      rw [← hv] at hc
      have HV := Lib.hid hv
      clear hv
      by_cases hz : v = 0
      · have HZ2 := Lib.hid (show FirstZ l (k + 1) from fun j hj hjk => by
          rcases Nat.lt_or_ge j k with g | g
          · exact HZ.out j hj g
          · have : j = k := by omega
            subst this; rw [← HV.out]; exact hz)
        have hz' : (v != 0) = false := by rw [hz]; rfl
        clear hz
        go_wp2_with fail
        go_roundg (l.length - (k + 1))
        case measure => omega
        case rel => exact ⟨k + 1, by go_num, by omega, by omega, HZ2, Lib.hid rfl⟩
      · have HF := Lib.hid (show R = v by rw [HRE.out, orL_at HZ.out hlt (by rw [← HV.out]; exact hz), HV.out])
        have hz' : (v != 0) = true := by simpa using hz
        clear hz
        go_wp2_with fail
        go_ret
        exact ⟨ret_int HF.out.symm, rfl⟩
    · have h1 : ¬ (k : Int) < (l.length : Int) := by omega
      have HF := Lib.hid (show R = 0 by rw [HRE.out]; exact orL_all (fun j hj => HZ.out j hj (by omega)))
      go_wp2_with fail
      go_ret
      exact ⟨ret_int HF.out.symm, rfl⟩
def OrderP (a : Dt) : Prop := ∀ (b : Dt) (x y : NV) (w : World), DatAt w w.heap.size a x → DatAt w w.heap.size b y → GoodD b → Calls Tryz.prog 53 #[datV a x, datV b y] w fun e w' => e = .returned (.int .i64 (cmpD a b)) ∧ Below w.heap.size w w'
set_option maxHeartbeats 4000000 in
theorem cfD_any (l m : List Dt) (ih : ∀ k ∈ l, OrderP k) (A A' : Option Addr) (c c' : Nat) (w : World)
    (h : ∀ j, (hj : j < l.length) → ∃ b off y, A = some ⟨b, off, none⟩ ∧ b < w.heap.size ∧ DatCells w b (off + j * 5) l[j] y ∧ DatAt w w.heap.size l[j] y)
    (h' : ∀ j, (hj : j < m.length) → ∃ b off y, A' = some ⟨b, off, none⟩ ∧ b < w.heap.size ∧ DatCells w b (off + j * 5) m[j] y ∧ DatAt w w.heap.size m[j] y)
    (hgm : ∀ k ∈ m, GoodD k) (hl : l.length ≤ 1000000) (hm : m.length ≤ 1000000) :
    Calls Tryz.prog 92 #[.slice A l.length c, .slice A' m.length c', .func (.func 53) #[] #[]] w fun e w' => e = .returned (.int .i64 (cmpDL l m)) ∧ Below w.heap.size w w' := by
  have HR := Lib.hid h; have HR' := Lib.hid h'; have HIH := Lib.hid ih; have HGM := Lib.hid hgm
  obtain ⟨R, hR⟩ : ∃ R, R = cmpDL l m := ⟨_, rfl⟩
  rw [← hR]
  have HRE := Lib.hid hR
  clear h h' hR ih hgm
  go_enter Tryz.func92, Tryz.ntmps92
  go_wp2_with fail
  go_loopg [13] l.length (fun g s13 wr => ∃ k : Nat, s13 = .int .i64 k ∧ k ≤ l.length ∧ l.length - k ≤ g ∧ RowKit.Hid (ZeroD l m k) ∧ RowKit.Hid (Below w.heap.size w wr))
  case atStart => exact ⟨0, rfl, by omega, by omega, Lib.hid ⟨by omega, by omega, fun j _ _ h => by omega⟩, Lib.hid (Below.refl _ _)⟩
  case round =>
    obtain ⟨k, rfl, hk, hg, HZ, HB⟩ := hrel
    by_cases hlt : k < l.length
    · have h1 : (k : Int) < (l.length : Int) := by omega
      obtain ⟨b, off, y, hA, hb, hc, ht⟩ := HR.out k hlt
      obtain ⟨p, hp⟩ : ∃ p, p = l[k] := ⟨_, rfl⟩
      rw [← hp] at hc ht
      obtain ⟨c0, c1, c2, c3, c4⟩ := hc.below HB.out hb
      have ht := (ht.keepB HB.out).mono HB.out.size
      have HP := Lib.hid hp; have HA := Lib.hid hA
      obtain ⟨w1, hw1⟩ : ∃ w1, w1 = boxD wr p y := ⟨_, rfl⟩
      have hb1 : Below wr.heap.size wr w1 := by rw [hw1]; exact below_boxD wr p y
      have hbx1 : DatCells w1 wr.heap.size 0 p y := by rw [hw1]; exact box_dat wr p y
      have HW1 := Lib.hid hw1
      by_cases hlt2 : k < m.length
      · have h2 : ¬ (k : Int) ≥ (m.length : Int) := by omega
        have h3 : (k : Int) < (m.length : Int) := by omega
        obtain ⟨b', off', y', hA', hb', hc', ht'⟩ := HR'.out k hlt2
        obtain ⟨p', hp'⟩ : ∃ p', p' = m[k] := ⟨_, rfl⟩
        rw [← hp'] at hc' ht'
        obtain ⟨d0, d1, d2, d3, d4⟩ := (hc'.below HB.out hb').below hb1 (by have := HB.out.size; omega)
        have ht' := (ht'.keepB HB.out).mono HB.out.size
        have HP' := Lib.hid hp'; have HA' := Lib.hid hA'
        obtain ⟨w2, hw2⟩ : ∃ w2, w2 = boxD w1 p' y' := ⟨_, rfl⟩
        have hb2 : Below w1.heap.size w1 w2 := by rw [hw2]; exact below_boxD w1 p' y'
        have hbx2 : DatCells w2 w1.heap.size 0 p' y' := by rw [hw2]; exact box_dat w1 p' y'
        have hsz1 : w1.heap.size = wr.heap.size + 1 := by rw [hw1]; simp
        have HW2 := Lib.hid hw2
        obtain ⟨e0, e1, e2, e3, e4⟩ := hbx1.below hb2 hbx1.block_lt
        obtain ⟨f0, f1, f2, f3, f4⟩ := hbx2
        rw [hsz1] at f0 f1 f2 f3 f4
        obtain ⟨cv, hcv⟩ : ∃ cv, cv = cmpD p p' := ⟨_, rfl⟩
        have CC := HIH.out p (by rw [hp]; exact List.getElem_mem _) p' y y' w2 ((ht.up hb1).up hb2) ((ht'.up hb1).up hb2) (HGM.out p' (by rw [hp']; exact List.getElem_mem _))
        rw [← hcv] at CC
        have HC := Lib.hid CC
        have HCV := Lib.hid (show cv = cmpD l[k] m[k] by rw [hcv, hp, hp'])
        have HB2 := Lib.hid (HB.out.trans ((hb1.trans (hb2.mono hb1.size)).mono HB.out.size))
        clear hcv CC hp hp' hw1 hw2 hb1 hb2 ht ht' hbx1 hc hc'
        go_upto_region 4 with (fail)
        rw [boxD_out HW1]
        go_upto_region 7 with (fail)
        rw [boxD_out HW2]
        go_wp2_with fail
        refine HC.out.mono ?_
        rintro e w3 ⟨rfl, hb3⟩
        have HB3 := Lib.hid (HB2.out.trans (hb3.mono HB2.out.size))
        clear hb3 HC c0 c1 c2 c3 c4 d0 d1 d2 d3 d4 e0 e1 e2 e3 e4 f0 f1 f2 f3 f4
        by_cases hz : cv = 0
        · have HZ2 := Lib.hid (HZ.out.step hlt hlt2 (by rw [← HCV.out]; exact hz))
          have hz' : (cv != 0) = false := by rw [hz]; rfl
          clear hz
          go_wp2_with fail
          try rw [← HA.out]
          try rw [← HA'.out]
          go_roundg (l.length - (k + 1))
          case measure => omega
          case rel => exact ⟨k + 1, by go_num, by omega, by omega, HZ2, HB3⟩
        · have HZ2 := Lib.hid (show R = cv by rw [HRE.out, HZ.out.ne hlt hlt2 (by rw [← HCV.out]; exact hz), HCV.out])
          have hz' : (cv != 0) = true := by simpa using hz
          clear hz
          go_wp2_with fail
          go_ret
          exact ⟨ret_int HZ2.out.symm, HB3.out⟩
      · have h2 : (k : Int) ≥ (m.length : Int) := by omega
        have HZ2 := Lib.hid (show R = 1 by rw [HRE.out, HZ.out.gt hlt hlt2])
        have HB1 := Lib.hid (HB.out.trans (hb1.mono HB.out.size))
        clear hw1 hb1 hbx1 ht hc hp
        go_upto_region 4 with (fail)
        rw [boxD_out HW1]
        go_wp2_with fail
        go_ret
        exact ⟨ret_int HZ2.out.symm, HB1.out⟩
    · have h1 : ¬ (k : Int) < (l.length : Int) := by omega
      have HF := Lib.hid (show R = if l.length < m.length then -1 else 0 by rw [HRE.out, HZ.out.fin hlt])
      by_cases h2 : l.length < m.length
      · have h3 : (l.length : Int) < (m.length : Int) := by omega
        have HF2 := Lib.hid (show R = -1 by rw [HF.out, if_pos h2])
        go_wp2_with fail
        go_ret
        exact ⟨ret_int HF2.out.symm, HB.out⟩
      · have h3 : ¬ (l.length : Int) < (m.length : Int) := by omega
        have HF2 := Lib.hid (show R = 0 by rw [HF.out, if_neg h2])
        go_wp2_with fail
        go_ret
        exact ⟨ret_int HF2.out.symm, HB.out⟩
end Go.Proofs.YtjnhcoflmechmaaGreatDoor
