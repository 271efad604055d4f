/-
  attrs.Check and the reference's: the first fault of a list of attributes. | attrs.Check and the reference's Check: both tell the first fault.
-/
import Derived.Test.YtlkdklpglmglkaaKinds
import Derived.Test.YtlkdklpglmglkaaRow
import Derived.Deep.DeepCutAuto
import Derived.Deep.RegionHeld3
namespace Go.Proofs.Ytlkdklpglmglkaa
open Go.RowKit Go.Sort
set_option linter.unusedVariables false
set_option maxRecDepth 100000

def ordF (p x : At) : Int := if p.1 = x.1 then 10 else if 0 < cmpN p.1 x.1 then 9 else 0
def faultX (i : Nat) (p x : At) : Int := if i = 64 then 12 else if okN x.1 = false then 8 else if 65536 < x.2.size then 3 else if i = 0 then 0 else ordF p x
def faultL (l : List At) (i : Nat) : Int := faultX i (l.getD (i - 1) noAt) (l.getD i noAt)
theorem getD_at {l : List At} {i : Nat} (h : i < l.length) : l.getD i noAt = l[i] := by simp [List.getD_eq_getElem?_getD, h]
def CheckP (l : List At) (a e : Int) : Prop := (∃ i : Nat, i < l.length ∧ a = i ∧ e = faultL l i ∧ faultL l i ≠ 0 ∧ ∀ j, j < i → faultL l j = 0) ∨ (a = 0 ∧ e = 0 ∧ ∀ j, j < l.length → faultL l j = 0)
theorem checkP_unique {l : List At} {a e a' e' : Int} (h : CheckP l a e) (h' : CheckP l a' e') : a = a' ∧ e = e' := by
  rcases h with ⟨i, hi, rfl, rfl, hf, hb⟩ | ⟨rfl, rfl, hb⟩ <;> rcases h' with ⟨i', hi', rfl, rfl, hf', hb'⟩ | ⟨rfl, rfl, hb'⟩
  · rcases Nat.lt_trichotomy i i' with h | h | h
    · exact absurd (hb' i h) hf
    · subst h; exact ⟨rfl, rfl⟩
    · exact absurd (hb i' h) hf'
  · exact absurd (hb' i hi) hf
  · exact absurd (hb i' hi') hf'
  · exact ⟨rfl, rfl⟩
set_option maxHeartbeats 1000000 in
theorem orderFault_ex (a b : At) (w : World) : Calls Try.prog 91 #[atV a, atV b] w fun e w' => e = .returned (.int .i64 (ordF a b)) ∧ w' = two (two w a b) a b := by
  obtain ⟨w1, hw1⟩ : ∃ w1, w1 = two w a b := ⟨_, rfl⟩
  have hb1 : Below w.heap.size w w1 := by rw [hw1]; exact below_two w a b
  obtain ⟨⟨a1, a2⟩, b1, b2⟩ := two_boxes w a b
  change (two w a b).cell? _ = _ at a1 a2 b1 b2
  rw [← hw1] at a1 a2 b1 b2
  have C1 := Lib.hid (compareNames_ex a b w1)
  have HW := Lib.hid hw1
  have HB := cmpN_bounds a.1 b.1
  have HO := Lib.hid (show (cmpN a.1 b.1 = 0 → ordF a b = 10) ∧ (cmpN a.1 b.1 = 1 → ordF a b = 9) ∧ (cmpN a.1 b.1 = -1 → ordF a b = 0) by
    unfold ordF
    refine ⟨fun h => if_pos (cmpN_zero h), fun h => ?_, fun h => ?_⟩
    · rw [if_neg (fun e => by rw [e, cmpN_self] at h; omega), if_pos (by omega)]
    · rw [if_neg (fun e => by rw [e, cmpN_self] at h; omega), if_neg (by omega)])
  generalize ordF a b = r at HO ⊢
  unfold atV at C1 ⊢
  generalize cmpN a.1 b.1 = x at C1 HB HO
  clear hw1
  rcases (show x = 0 ∨ x = 1 ∨ x = -1 by omega) with rfl | rfl | rfl
  all_goals
    go_enter Try.func91, Try.ntmps91
    go_wp2_with fail
    rw [show (w.alloc (.cells #[.string a.1, .string a.2] 74)).alloc (.cells #[.string b.1, .string b.2] 74) = w1 from HW.out.symm]
    go_wp2_with fail
    refine C1.out.mono ?_
    rintro e w2 ⟨rfl, hb2⟩
    have HB2 := Lib.hid hb2
    clear hb2
    go_wp2_with fail
    go_ret
  · exact ⟨ret_int (HO.out.1 (by trivial)).symm, by rw [HB2.out, HW.out]⟩
  · exact ⟨ret_int (HO.out.2.1 (by trivial)).symm, by rw [HB2.out, HW.out]⟩
  · exact ⟨ret_int (HO.out.2.2 (by trivial)).symm, by rw [HB2.out, HW.out]⟩
theorem orderGrown (x y : At) (W : World) : Calls Try.prog 91 #[.agg #[.string x.1, .string x.2], .agg #[.string y.1, .string y.2]] W fun e w' => e = .returned (.int .i64 (ordF x y)) ∧ ∃ q os', w' = grow (W.drewN q) os' := by
  refine (orderFault_ex x y W).mono fun e w' hh => ⟨hh.1, 0, #[.cells (atCells x) 74, .cells (atCells y) 74] ++ #[.cells (atCells x) 74, .cells (atCells y) 74], ?_⟩
  rw [hh.2, two_grow, two_grow, grow_grow]
  rfl
theorem below_grow (w : World) (n : Nat) (os : Array Obj) : Below w.heap.size w (grow (w.drewN n) os) := by
  refine ⟨rfl, rfl, rfl, ?_, fun k hk => ?_⟩
  · rw [size_grow]; exact Nat.le_add_right _ _
  · exact heap_grow_old _ _ hk
theorem atBox (w : World) (x : At) : Below w.heap.size w (w.alloc (.cells (atCells x) 74)) := (Below.refl _ _).alloc (Nat.le_refl _) _
set_option maxHeartbeats 2000000 in
theorem faultAt_any (A : Option Addr) (c : Nat) (l : List At) (w : World) (h : TRow w w.heap.size A l) (i : Nat) (hi : i < l.length) (hl : l.length ≤ 1000000) (hn : ∀ x ∈ l, x.1.size ≤ maxLen) :
    Calls Try.prog 89 #[.slice A l.length c, .int .i64 i] w fun e w' => e = .returned (.int .i64 (faultL l i)) ∧ Below w.heap.size w w' := by
  obtain ⟨b, off, x, rfl, hb, hx, c1, c2⟩ := trow_at h hi
  have hxm : x ∈ l := by rw [hx]; exact List.getElem_mem _
  have hiz : (i : Int) < (l.length : Int) := by omega
  have HFL := Lib.hid (show faultL l i = faultX i (l.getD (i - 1) noAt) x by unfold faultL; rw [getD_at hi, hx])
  generalize faultL l i = r at HFL ⊢
  obtain ⟨w1, hw1⟩ : ∃ w1, w1 = w.alloc (.cells (atCells x) 74) := ⟨_, rfl⟩
  have hb1 : Below w.heap.size w w1 := by rw [hw1]; exact atBox w x
  obtain ⟨d1, d2⟩ := box_cells w x
  rw [← hw1] at d1 d2
  have HW := Lib.hid hw1; have HX := Lib.hid hx; have HB1 := Lib.hid hb1
  clear hw1 hx
  by_cases h64 : i = 64
  · have HR := Lib.hid (show r = 12 by rw [HFL.out]; simp [faultX, h64])
    have h64' : ((i : Int) == 64) = true := by rw [h64]; rfl
    clear h64
    go_enter Try.func89, Try.ntmps89
    go_wp2_with fail
    rw [show w.alloc (.cells #[.string x.1, .string x.2] 74) = w1 from HW.out.symm]
    go_ret
    exact ⟨ret_int HR.out.symm, HB1.out⟩
  · have h64' : ((i : Int) == 64) = false := by rw [beq_eq_false_iff_ne]; omega
    have HNM := hn x hxm
    have HT := Lib.hid (show r = (if okN x.1 = false then 8 else if decide (x.2.size ≤ 65536) = false then 3 else if i = 0 then 0 else ordF (l.getD (i - 1) noAt) x) by
      rw [HFL.out]; unfold faultX; rw [if_neg h64]
      by_cases hv : 65536 < x.2.size
      · simp [hv]
      · have hv' : decide (x.2.size ≤ 65536) = true := by simp; omega
        simp [hv, hv'])
    clear HFL h64
    by_cases h0 : i = 0
    · have h0' : decide (0 < i) = false := by rw [h0]; rfl
      have HT0 := Lib.hid (show r = (if okN x.1 = false then 8 else if decide (x.2.size ≤ 65536) = false then 3 else 0) by rw [HT.out, if_pos h0])
      clear HT h0
      have HBE := HB1
      go_enter Try.func89, Try.ntmps89
      go_wp2_with fail
      rw [show w.alloc (.cells #[.string x.1, .string x.2] 74) = w1 from HW.out.symm]
      refine (fits_any x.2 _).mono ?_
      rintro e w3 ⟨rfl, rfl⟩
      have CN := Lib.hid (name_any x.1 w1 HNM)
      generalize decide (x.2.size ≤ 65536) = fb at HT0 ⊢
      have HOK := Lib.hid (show okN x.1 = wfB nameB x.1 from rfl)
      generalize okN x.1 = nb at HT0 HOK
      rw [← HOK.out] at CN
      clear HOK
      cases fb
      all_goals
        go_wp2_with fail
        refine CN.out.mono ?_
        rintro e w4 ⟨rfl, rfl⟩
        cases nb
        all_goals
          go_wp2_with fail
          go_ret
          exact ⟨ret_int HT0.out.symm, HBE.out⟩
    · obtain ⟨j, rfl⟩ : ∃ j, i = j + 1 := ⟨i - 1, by omega⟩
      obtain ⟨b', off', y, hA, hb', hy, e1, e2⟩ := trow_at h (show j < l.length by omega)
      obtain ⟨rfl, rfl⟩ : b = b' ∧ off = off' := by simpa using hA
      have h0' : decide (0 < j + 1) = true := by simp
      have HT0 := Lib.hid (show r = (if okN x.1 = false then 8 else if decide (x.2.size ≤ 65536) = false then 3 else ordF y x) by rw [HT.out, if_neg h0, Nat.add_sub_cancel, getD_at (by omega), hy])
      have HY := Lib.hid hy
      clear HT h0 hA hy
      have g1 : ∀ n os, (grow (w1.drewN n) os).cell? ⟨b, off + j * 2, none⟩ = some (.string y.1) := fun n os => cell_grown (Nat.lt_of_lt_of_le hb HB1.out.size) ((HB1.out.cell (p := ⟨b, off + j * 2, none⟩) hb).trans e1) n os
      have g2 : ∀ n os, (grow (w1.drewN n) os).cell? ⟨b, off + j * 2 + 1, none⟩ = some (.string y.2) := fun n os => cell_grown (Nat.lt_of_lt_of_le hb HB1.out.size) ((HB1.out.cell (p := ⟨b, off + j * 2 + 1, none⟩) hb).trans e2) n os
      have hw1s : w.heap.size < w1.heap.size := by rw [HW.out]; simp
      have g3 : ∀ n os, (grow (w1.drewN n) os).cell? ⟨w.heap.size, 0, none⟩ = some (.string x.1) := fun n os => cell_grown hw1s d1 n os
      have g4 : ∀ n os, (grow (w1.drewN n) os).cell? ⟨w.heap.size, 1, none⟩ = some (.string x.2) := fun n os => cell_grown hw1s d2 n os
      have hcg : ∀ n os, Calls Try.prog 91 #[.agg #[.string y.1, .string y.2], .agg #[.string x.1, .string x.2]] (grow (w1.drewN n) os) fun e w' => e = .returned (.int .i64 (ordF y x)) ∧ ∃ q os', w' = grow ((grow (w1.drewN n) os).drewN q) os' := fun n os => orderGrown y x _
      have mixed : Try.prog.follows .mixedOrders = true := by kernel_rfl
      have eg : ∀ args w, (callFunc 91 args).run Try.prog w = .ok (.enter 91 args) w := enters_of Try.func91 (by kernel_rfl) rfl
      have r1 : IntKind.i64.wrap (j : Int) = (j : Int) := by rw [IntKind.wrap_i64]; omega
      have r3 : (j : Int) + 1 - 1 = (j : Int) := by omega
      have r4 : (j : Int) < (l.length : Int) := by omega
      have i1 : ((j : Int) + 1).toNat = j + 1 := by omega
      have p1 : (0 : Int) ≤ (j : Int) + 1 := by omega
      have q1 : (j : Int) + 1 < (l.length : Int) := by omega
      generalize ordF y x = of at HT0 hcg
      go_enter Try.func89, Try.ntmps89
      go_wp2_with fail
      rw [show w.alloc (.cells #[.string x.1, .string x.2] 74) = w1 from HW.out.symm]
      go_quiet_grown (first | (go_at_fn 91; refine Calls.grown_of (hcg _ _)))
      have HBE := Lib.hid (HB1.out.trans ((below_grow w1 nq osq).mono HB1.out.size))
      have k3 := g3 nq osq
      have k4 := g4 nq osq
      clear g1 g2 g3 g4 hcg e1 e2 c1 c2 d1 d2
      generalize grow (w1.drewN nq) osq = w2 at HBE k3 k4 ⊢
      go_wp2_with fail
      refine (fits_any x.2 _).mono ?_
      rintro e w3 ⟨rfl, rfl⟩
      have CN := Lib.hid (name_any x.1 w2 HNM)
      generalize decide (x.2.size ≤ 65536) = fb at HT0 ⊢
      have HOK := Lib.hid (show okN x.1 = wfB nameB x.1 from rfl)
      generalize okN x.1 = nb at HT0 HOK
      rw [← HOK.out] at CN
      clear HOK
      cases fb
      all_goals
        go_wp2_with fail
        refine CN.out.mono ?_
        rintro e w4 ⟨rfl, rfl⟩
        cases nb
        all_goals
          go_wp2_with fail
          go_ret
          exact ⟨ret_int HT0.out.symm, HBE.out⟩
end Go.Proofs.Ytlkdklpglmglkaa

namespace Go.Proofs.Ytlkdklpglmglkaa
open Go.RowKit Go.Sort
set_option linter.unusedVariables false
set_option maxRecDepth 100000
def Short (l : List At) : Prop := ∀ x ∈ l, x.1.size ≤ 100000000 ∧ x.2.size ≤ 100000000
theorem Short.nm {l : List At} (h : Short l) : ∀ x ∈ l, x.1.size ≤ maxLen := fun x hx => by have := (h x hx).1; unfold maxLen; omega
def CheckPost (w : World) (l : List At) (e : Ending) (w' : World) : Prop := ∃ a x, e = .returned (.tuple #[.int .i64 a, .int .i64 x]) ∧ CheckP l a x ∧ Below w.heap.size w w'
theorem none_yet_succ {l : List At} {k : Nat} (h : ∀ j, j < k → faultL l j = 0) (hk : faultL l k = 0) : ∀ j, j < k + 1 → faultL l j = 0 := by
  intro j hj
  rcases Nat.lt_or_ge j k with h1 | h1
  · exact h j h1
  · have : j = k := by omega
    subst this; exact hk
set_option maxHeartbeats 2000000 in
theorem check_any (A : Option Addr) (c : Nat) (l : List At) (w : World) (h : TRow w w.heap.size A l) (hl : l.length ≤ 1000000) (hn : Short l) :
    Calls Try.prog 85 #[.slice A l.length c] w (CheckPost w l) := by
  have H := Lib.hid h; have HN := Lib.hid hn.nm
  clear h hn
  go_enter Try.func85, Try.ntmps85
  go_wp2
  go_loopg [4, 5, 8] l.length (fun g _ _ s8 wr => ∃ k : Nat, s8 = .int .i64 k ∧ k ≤ l.length ∧ l.length - k ≤ g ∧ RowKit.Hid (∀ j, j < k → faultL l j = 0) ∧ RowKit.Hid (Below w.heap.size w wr))
  case atStart => exact ⟨0, rfl, by omega, by omega, Lib.hid (fun j hj => by omega), Lib.hid (Below.refl _ _)⟩
  case round =>
    obtain ⟨k, rfl, hk, hg, HF, HB⟩ := hrel
    by_cases hlt : k < l.length
    · have h1 : (k : Int) < (l.length : Int) := by omega
      have HC := Lib.hid (faultAt_any A c l wr (H.out.up HB.out) k hlt hl HN.out)
      obtain ⟨f, hf⟩ : ∃ f, f = faultL l k := ⟨_, rfl⟩
      rw [← hf] at HC
      have HFK := Lib.hid hf
      clear hf
      go_wp2_with fail
      refine HC.out.mono ?_
      rintro e w1 ⟨rfl, hb1⟩
      have HB1 := Lib.hid (HB.out.trans (hb1.mono HB.out.size))
      clear hb1 HC HB
      by_cases hz : f = 0
      · subst hz
        go_wp2_with fail
        go_roundg (l.length - (k + 1))
        case measure => omega
        case rel => exact ⟨k + 1, by go_num, by omega, by omega, Lib.hid (none_yet_succ HF.out HFK.out.symm), HB1⟩
      · have hz' : (f != 0) = true := by simpa using hz
        have HZ := Lib.hid hz
        clear hz
        go_wp2_with fail
        go_ret2
        exact ⟨k, f, rfl, .inl ⟨k, hlt, rfl, HFK.out, by rw [← HFK.out]; exact HZ.out, HF.out⟩, HB1.out⟩
    · have h1 : ¬ (k : Int) < (l.length : Int) := by omega
      go_wp2_with fail
      go_ret2
      exact ⟨0, 0, rfl, .inr ⟨rfl, rfl, fun j hj => HF.out j (by omega)⟩, HB.out⟩
theorem refGrown (x y : ByteArray) (W : World) (hx : x.size ≤ 100000000) (hy : y.size ≤ 100000000) : Calls Try.prog 78 #[.string x, .string y] W fun e w' => e = .returned (.int .i64 (cmpN x y)) ∧ ∃ q os', w' = grow (W.drewN q) os' := by
  refine (refCompare_any x y W (by omega) (by omega)).mono fun e w' hh => ⟨hh.1, ?_⟩
  obtain ⟨n, hn⟩ := hh.2
  exact ⟨n, #[], by rw [hn, grow_empty]⟩
def RCheckPost (w : World) (l : List At) (e : Ending) (w' : World) : Prop := ∃ a x, e = .returned (.tuple #[.int .i64 a, .int .i64 x]) ∧ CheckP l a x ∧ Below w.heap.size w w'
set_option maxHeartbeats 4000000 in
set_option maxRecDepth 100000 in
theorem refCheck_any (A : Option Addr) (c : Nat) (l : List At) (w : World) (h : TRow w w.heap.size A l) (hl : l.length ≤ 1000000) (hn : Short l) :
    Calls Try.prog 67 #[.slice A l.length c] w (CheckPost w l) := by
  have H := Lib.hid h; have HN := Lib.hid hn
  clear h hn
  go_enter Try.func67, Try.ntmps67
  go_wp2
  go_loopg [4, 7] l.length (fun g _ s7 wr => ∃ k : Nat, s7 = .int .i64 k ∧ k ≤ l.length ∧ l.length - k ≤ g ∧ RowKit.Hid (∀ j, j < k → faultL l j = 0) ∧ RowKit.Hid (Below w.heap.size w wr))
  case atStart => exact ⟨0, rfl, by omega, by omega, Lib.hid (fun j hj => by omega), Lib.hid (Below.refl _ _)⟩
  case round =>
    obtain ⟨k, rfl, hk, hg, HF, HB⟩ := hrel
    by_cases hlt : k < l.length
    · have h1 : (k : Int) < (l.length : Int) := by omega
      obtain ⟨b, off, x, rfl, hb, hx, c1, c2⟩ := trow_at (H.out.up HB.out) hlt
      have hxm : x ∈ l := by rw [hx]; exact List.getElem_mem _
      obtain ⟨hx1, hx2⟩ := HN.out x hxm
      have HFL := Lib.hid (show faultL l k = faultX k (l.getD (k - 1) noAt) x by unfold faultL; rw [getD_at hlt, hx])
      clear hx hxm
      have fail : ∀ (f : Int) (W : World), faultL l k = f → f ≠ 0 → Below w.heap.size w W → CheckPost w l (.returned (.tuple #[.int .i64 k, .int .i64 f])) W := fun f W hf h0 hW => ⟨k, f, rfl, .inl ⟨k, hlt, rfl, hf.symm, by rw [hf]; exact h0, HF.out⟩, hW⟩
      have FAIL := Lib.hid fail
      clear fail
      by_cases h64 : k = 64
      · have HR := Lib.hid (FAIL.out 12 wr (by rw [HFL.out]; simp [faultX, h64]) (by decide) HB.out)
        have h64' : ((k : Int) == 64) = true := by rw [h64]; rfl
        clear h64
        go_wp2_with fail
        go_ret2
        exact HR.out
      · have h64' : ((k : Int) == 64) = false := by rw [beq_eq_false_iff_ne]; omega
        have HNA := Lib.hid (named_any x.1 true wr (by unfold maxLen; omega))
        have HOK := Lib.hid (show okN x.1 = wfB (innerB true) x.1 from rfl)
        rw [← HOK.out] at HNA
        cases hok : okN x.1
        · have HR := Lib.hid (FAIL.out 8 wr (by rw [HFL.out]; simp [faultX, h64, hok]) (by decide) HB.out)
          rw [hok] at HNA
          clear h64 hok
          go_wp2_with fail
          refine HNA.out.mono ?_
          rintro e w1 ⟨rfl, rfl⟩
          go_wp2_with fail
          go_ret2
          exact HR.out
        · rw [hok] at HNA
          by_cases hv : 65536 < x.2.size
          · have HR := Lib.hid (FAIL.out 3 wr (by rw [HFL.out]; simp [faultX, h64, hok, hv]) (by decide) HB.out)
            have hv' : (x.2.size : Int) > 65536 := by omega
            clear h64 hok
            go_wp2_with fail
            refine HNA.out.mono ?_
            rintro e w1 ⟨rfl, rfl⟩
            go_wp2_with fail
            go_ret2
            exact HR.out
          · have hv' : ¬ (x.2.size : Int) > 65536 := by omega
            have HFX := Lib.hid (show faultL l k = if k = 0 then 0 else ordF (l.getD (k - 1) noAt) x by rw [HFL.out]; simp [faultX, h64, hok, hv])
            clear h64 hok HFL
            go_wp2_with fail
            refine HNA.out.mono ?_
            rintro e w1 ⟨rfl, rfl⟩
            by_cases h0 : k = 0
            · subst h0
              go_wp2_with fail
              go_quiet (fail)
              have HB2 := Lib.hid (HB.out.trans (below_drewN w.heap.size wr nq))
              clear HB c1 c2 HNA
              generalize wr.drewN nq = w2 at HB2 ⊢
              go_wp2_with fail
              go_quiet (fail)
              have HB3 := Lib.hid (HB2.out.trans (below_drewN w.heap.size w2 nq))
              clear HB2
              generalize w2.drewN nq = w3 at HB3 ⊢
              go_wp2_with fail
              go_roundg (l.length - 1)
              case measure => omega
              case rel => exact ⟨1, by go_num, by omega, by omega, Lib.hid (none_yet_succ HF.out (by rw [HFX.out]; rfl)), HB3⟩
            · obtain ⟨j, rfl⟩ : ∃ j, k = j + 1 := ⟨k - 1, by omega⟩
              obtain ⟨b', off', y, hA, hb', hy, e1, e2⟩ := trow_at (H.out.up HB.out) (show j < l.length by omega)
              obtain ⟨rfl, rfl⟩ : b = b' ∧ off = off' := by simpa using hA
              have hym : y ∈ l := by rw [hy]; exact List.getElem_mem _
              obtain ⟨hy1, hy2⟩ := HN.out y hym
              have HFY := Lib.hid (show faultL l (j + 1) = ordF y x by rw [HFX.out, if_neg h0, Nat.add_sub_cancel, getD_at (by omega), hy])
              clear HFX h0 hA hy hym HNA
              have h0' : decide (0 < j + 1) = true := by simp
              have r1 : IntKind.i64.wrap (j : Int) = (j : Int) := by rw [IntKind.wrap_i64]; omega
              have r3 : (j : Int) + 1 - 1 = (j : Int) := by omega
              have r4 : (j : Int) < (l.length : Int) := by omega
              have i1 : ((j : Int) + 1).toNat = j + 1 := by omega
              have p1 : (0 : Int) ≤ (j : Int) + 1 := by omega
              have p2 : (0 : Int) < (j : Int) + 1 := by omega
              have q1 : (j : Int) + 1 < (l.length : Int) := by omega
              by_cases hyx : y.1 = x.1
              · have hq : (y.1.toList == x.1.toList) = true := by rw [eqB]; exact decide_eq_true hyx
                have HR := Lib.hid (show faultL l (j + 1) = 10 by rw [HFY.out]; exact if_pos hyx)
                clear hyx
                go_wp2_with fail
                go_quiet (fail)
                have HB2 := Lib.hid (HB.out.trans (below_drewN w.heap.size wr nq))
                clear HB c1 c2 e1 e2
                generalize wr.drewN nq = w2 at HB2 ⊢
                go_wp2_with fail
                go_ret2
                exact FAIL.out 10 _ HR.out (by decide) HB2.out
              · have hq : (y.1.toList == x.1.toList) = false := by rw [eqB]; exact decide_eq_false hyx
                have HO := Lib.hid (show ordF y x = if 0 < cmpN y.1 x.1 then 9 else 0 from if_neg hyx)
                clear hyx
                go_wp2_with fail
                go_quiet (fail)
                have HB2 := Lib.hid (HB.out.trans (below_drewN w.heap.size wr nq))
                have hbw : b < wr.heap.size := hb
                obtain ⟨w2, hw2⟩ : ∃ w2, w2 = wr.drewN nq := ⟨_, rfl⟩
                have hbw2 : b < w2.heap.size := by rw [hw2]; exact hbw
                have g1 : ∀ n os, (grow (w2.drewN n) os).cell? ⟨b, off + j * 2, none⟩ = some (.string y.1) := fun n os => cell_grown hbw2 (by rw [hw2]; exact e1) n os
                have g2 : ∀ n os, (grow (w2.drewN n) os).cell? ⟨b, off + (j + 1) * 2, none⟩ = some (.string x.1) := fun n os => cell_grown hbw2 (by rw [hw2]; exact c1) n os
                rw [← hw2] at HB2 ⊢
                clear HB c1 c2 e1 e2 hw2
                have hcg : ∀ n os, Calls Try.prog 78 #[.string y.1, .string x.1] (grow (w2.drewN n) os) fun e w' => e = .returned (.int .i64 (cmpN y.1 x.1)) ∧ ∃ q os', w' = grow ((grow (w2.drewN n) os).drewN q) os' := fun n os => refGrown y.1 x.1 _ hy1 hx1
                have mixed : Try.prog.follows .mixedOrders = true := by kernel_rfl
                have eg : ∀ args w, (callFunc 78 args).run Try.prog w = .ok (.enter 78 args) w := enters_of Try.func78 (by kernel_rfl) rfl
                by_cases hc : 0 < cmpN y.1 x.1
                · have HR := Lib.hid (show faultL l (j + 1) = 9 by rw [HFY.out, HO.out, if_pos hc])
                  have hc' : decide (0 < cmpN y.1 x.1) = true := decide_eq_true hc
                  generalize cmpN y.1 x.1 = cv at hcg hc hc'
                  clear HO
                  go_wp2_with fail
                  go_quiet_grown (first | (go_at_fn 78; refine Calls.grown_of (hcg _ _)))
                  have HB3 := Lib.hid (HB2.out.trans ((below_grow w2 nq osq).mono HB2.out.size))
                  clear HB2 g1 g2 hcg
                  generalize grow (w2.drewN nq) osq = w3 at HB3 ⊢
                  go_wp2_with fail
                  go_ret2
                  exact FAIL.out 9 _ HR.out (by decide) HB3.out
                · have HR := Lib.hid (show faultL l (j + 1) = 0 by rw [HFY.out, HO.out, if_neg hc])
                  have hc' : decide (0 < cmpN y.1 x.1) = false := decide_eq_false hc
                  generalize cmpN y.1 x.1 = cv at hcg hc hc'
                  clear HO
                  go_wp2_with fail
                  go_quiet_grown (first | (go_at_fn 78; refine Calls.grown_of (hcg _ _)))
                  have HB3 := Lib.hid (HB2.out.trans ((below_grow w2 nq osq).mono HB2.out.size))
                  clear HB2 g1 g2 hcg
                  generalize grow (w2.drewN nq) osq = w3 at HB3 ⊢
                  go_wp2_with fail
                  go_roundg (l.length - (j + 1 + 1))
                  case measure => omega
                  case rel => exact ⟨j + 1 + 1, by go_num, by omega, by omega, Lib.hid (none_yet_succ HF.out HR.out), HB3⟩
    · have h1 : ¬ (k : Int) < (l.length : Int) := by omega
      go_wp2_with fail
      go_ret2
      exact ⟨0, 0, rfl, .inr ⟨rfl, rfl, fun j hj => HF.out j (by omega)⟩, HB.out⟩
end Go.Proofs.Ytlkdklpglmglkaa
