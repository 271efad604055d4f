/-
  A slice of attributes in memory, and a row that the call itself may write. | attrs.Check and the reference's: the first fault of a list of attributes. | attrs.Check and the reference's Check: both tell the first fault. | A tree in memory: its cells, its attributes, its kids; a set of keys; what a call may turn.
-/
import Derived.Test.YtjnhcoflmechmaaGreatDoorKinds
import Derived.Lib.SliceRun
import Derived.Deep.OwnRows
import Derived.Deep.DeepCutAuto
import Derived.Deep.RegionHeld3
import Derived.Maps.OwnSet
import Derived.StringKeys
import Derived.Laws.AppendOwnNone
namespace Go.Proofs.YtjnhcoflmechmaaGreatDoor
open Go.RowKit Go.Sort
set_option linter.unusedVariables false
set_option maxRecDepth 100000

def ats (l : List At) : List Value := l.flatMap encA
theorem ats_append (a b : List At) : ats (a ++ b) = ats a ++ ats b := by simp [ats]
theorem ats_length (l : List At) : (ats l).length = l.length * 2 := by
  induction l with
  | nil => rfl
  | cons p ps ih => simp only [ats, List.flatMap_cons, List.length_append, List.length_cons, encA, List.length_nil] at ih ⊢; omega
abbrev noAt : At := (ByteArray.empty, ByteArray.empty)
theorem ats_at : ∀ (l : List At) (j : Nat), j < l.length * 2 → (ats l)[j]? = some ((encA (l.getD (j / 2) noAt)).getD (j % 2) undef)
  | [], j, h => by simp at h
  | L :: ss, j, h => by
    by_cases h3 : j < 2
    · have e1 : j / 2 = 0 := by omega
      have e2 : j % 2 = j := by omega
      rw [e1, e2]
      match j, h3 with
      | 0, _ => rfl
      | 1, _ => rfl
    · have h' : j - 2 < ss.length * 2 := by simp at h; omega
      have ih := ats_at ss (j - 2) h'
      have e1 : j / 2 = (j - 2) / 2 + 1 := by omega
      have e2 : j % 2 = (j - 2) % 2 := by omega
      rw [e1, e2]
      simp only [ats, List.flatMap_cons] at ih ⊢
      rw [List.getElem?_append_right (by simp [encA]; omega)]
      simp only [encA, List.length_cons, List.length_nil] at ih ⊢
      rw [ih]
      simp
theorem ats_one (l : List At) : ∀ y ∈ ats l, y.oneCell' = true := by
  intro y hy
  obtain ⟨p, _, hp⟩ := List.mem_flatMap.1 hy
  exact encA_one p y hp
/-- A slice of attributes. -/
def TRow (w : World) (B : Nat) (A : Option Addr) (es : List At) : Prop :=
  0 < es.length → ∃ b off, A = some ⟨b, off, none⟩ ∧ b < B ∧ ∀ j, (hj : j < es.length) → w.cell? ⟨b, off + j * 2, none⟩ = some (.string es[j].1) ∧ w.cell? ⟨b, off + j * 2 + 1, none⟩ = some (.string es[j].2)
theorem trow_at {w : World} {B : Nat} {A : Option Addr} {es : List At} (h : TRow w B A es) {j : Nat} (hj : j < es.length) :
    ∃ b off p, A = some ⟨b, off, none⟩ ∧ b < B ∧ p = es[j] ∧ w.cell? ⟨b, off + j * 2, none⟩ = some (.string p.1) ∧ w.cell? ⟨b, off + j * 2 + 1, none⟩ = some (.string p.2) := by
  obtain ⟨b, off, hA, hb, hc⟩ := h (by omega)
  exact ⟨b, off, _, hA, hb, rfl, hc j hj⟩
theorem TRow.below {w w' : World} {B : Nat} {A : Option Addr} {es : List At} (h : TRow w B A es) (hb : Below B w w') : TRow w' B A es := by
  intro h0
  obtain ⟨b, off, hA, hlt, hc⟩ := h h0
  exact ⟨b, off, hA, hlt, fun j hj => ⟨(hb.cell (p := ⟨b, off + j * 2, none⟩) hlt).trans (hc j hj).1, (hb.cell (p := ⟨b, off + j * 2 + 1, none⟩) hlt).trans (hc j hj).2⟩⟩
theorem TRow.mono {w : World} {B B' : Nat} {A : Option Addr} {es : List At} (h : TRow w B A es) (hb : B ≤ B') : TRow w B' A es := by
  intro h0
  obtain ⟨b, off, hA, hlt, hc⟩ := h h0
  exact ⟨b, off, hA, by omega, hc⟩
theorem TRow.up {w w' : World} {A : Option Addr} {es : List At} (h : TRow w w.heap.size A es) (hb : Below w.heap.size w w') : TRow w' w'.heap.size A es := (h.below hb).mono hb.size
theorem TRow.nil (w : World) (B : Nat) (A : Option Addr) : TRow w B A [] := fun h => by simp at h
theorem TRow.drewN {w : World} {B : Nat} {A : Option Addr} {es : List At} (h : TRow w B A es) (n : Nat) : TRow (w.drewN n) B A es := h
theorem trow_take {w : World} {B : Nat} {A : Option Addr} {es : List At} (h : TRow w B A es) (t : Nat) : TRow w B A (es.take t) := by
  intro h0
  obtain ⟨b, off, hA, hb, hc⟩ := h (by simp at h0; omega)
  refine ⟨b, off, hA, hb, fun j hj => ?_⟩
  have hj2 : j < es.length := by simp at hj; omega
  have e : (es.take t)[j] = es[j] := by simp
  rw [e]
  exact hc j hj2
theorem trow_cut {w : World} {B b off : Nat} {es : List At} (h : TRow w B (some ⟨b, off, none⟩) es) (t : Nat) : TRow w B (some ⟨b, off + t * 2, none⟩) (es.drop t) := by
  intro h0
  have hlt : t < es.length := by simp at h0; omega
  obtain ⟨b', off', hA, hb, hc⟩ := h (by omega)
  obtain ⟨rfl, rfl⟩ : b = b' ∧ off = off' := by simpa using hA
  refine ⟨b, off + t * 2, rfl, hb, fun j hj => ?_⟩
  have := hc (t + j) (by simp at hj; omega)
  have e : (es.drop t)[j] = es[t + j]'(by simp at hj; omega) := by simp
  rw [e, show off + t * 2 + j * 2 = off + (t + j) * 2 by omega]
  exact this
theorem trow_none {w : World} {B : Nat} {es : List At} (h : TRow w B none es) : es = [] := by
  rcases Nat.eq_zero_or_pos es.length with h0 | h0
  · exact List.eq_nil_of_length_eq_zero h0
  · obtain ⟨_, _, h, _⟩ := h h0; cases h
theorem trow_own {w : World} {base e : Nat} {v : Value} {es : List At} (h : w.ownsRow base e 2 v es.length (ats es)) :
    ∃ A cap, v = .slice A es.length cap ∧ TRow w w.heap.size A es ∧ es.length ≤ cap ∧ cap ≤ maxLen ∧ (A = none → cap = 0) := by
  rcases h.2 with ⟨rfl, hn⟩ | ⟨g, cap, cur, rfl, _, hg, hnc, hcm, _, _⟩
  · exact ⟨none, 0, by rw [hn], fun h0 => by omega, by omega, by simp [maxLen], fun _ => rfl⟩
  · refine ⟨_, cap, rfl, fun _ => ⟨g, 0, rfl, (Array.getElem?_eq_some_iff.1 hg).1, fun j hj => ?_⟩, hnc, hcm, fun h => by cases h⟩
    have e : es.getD j noAt = es[j] := by simp [List.getD_eq_getElem?_getD, hj]
    have d0 : j * 2 / 2 = j := by omega
    have d1 : (j * 2 + 1) / 2 = j := by omega
    have m0 : j * 2 % 2 = 0 := by omega
    have m1 : (j * 2 + 1) % 2 = 1 := by omega
    rw [Nat.zero_add, World.ownsRow.cellAt h (j * 2) (by omega), World.ownsRow.cellAt h (j * 2 + 1) (by omega), ats_at es (j * 2) (by omega), ats_at es (j * 2 + 1) (by omega), d0, d1, m0, m1, e]
    exact ⟨rfl, rfl⟩
/-- What a call hands back that makes a slice of attributes. -/
def MadeT (w : World) (l : List At) (e : Ending) (w' : World) : Prop := ∃ A c, e = .returned (.slice A l.length c) ∧ TRow w' w'.heap.size A l ∧ l.length ≤ c ∧ c ≤ maxLen ∧ Below w.heap.size w w'

end Go.Proofs.YtjnhcoflmechmaaGreatDoor

namespace Go.Proofs.YtjnhcoflmechmaaGreatDoor
open Go.RowKit Go.Sort
set_option linter.unusedVariables false
set_option maxRecDepth 100000

def ordF (p x : At) : Int := if p.1 = x.1 then 10 else if 0 < cmpN p.1 x.1 then 9 else 0
def faultX (i : Nat) (p x : At) : Int := if i = 64 then 12 else if okN x.1 = false then 8 else if 65536 < x.2.size then 3 else if i = 0 then 0 else ordF p x
def faultL (l : List At) (i : Nat) : Int := faultX i (l.getD (i - 1) noAt) (l.getD i noAt)
theorem getD_at {l : List At} {i : Nat} (h : i < l.length) : l.getD i noAt = l[i] := by simp [List.getD_eq_getElem?_getD, h]
def CheckP (l : List At) (a e : Int) : Prop := (∃ i : Nat, i < l.length ∧ a = i ∧ e = faultL l i ∧ faultL l i ≠ 0 ∧ ∀ j, j < i → faultL l j = 0) ∨ (a = 0 ∧ e = 0 ∧ ∀ j, j < l.length → faultL l j = 0)
theorem checkP_unique {l : List At} {a e a' e' : Int} (h : CheckP l a e) (h' : CheckP l a' e') : a = a' ∧ e = e' := by
  rcases h with ⟨i, hi, rfl, rfl, hf, hb⟩ | ⟨rfl, rfl, hb⟩ <;> rcases h' with ⟨i', hi', rfl, rfl, hf', hb'⟩ | ⟨rfl, rfl, hb'⟩
  · rcases Nat.lt_trichotomy i i' with h | h | h
    · exact absurd (hb' i h) hf
    · subst h; exact ⟨rfl, rfl⟩
    · exact absurd (hb i' h) hf'
  · exact absurd (hb' i hi) hf
  · exact absurd (hb i' hi') hf'
  · exact ⟨rfl, rfl⟩
set_option maxHeartbeats 1000000 in
theorem orderFault_ex (a b : At) (w : World) : Calls Tryz.prog 177 #[atV a, atV b] w fun e w' => e = .returned (.int .i64 (ordF a b)) ∧ w' = two (two w a b) a b := by
  obtain ⟨w1, hw1⟩ : ∃ w1, w1 = two w a b := ⟨_, rfl⟩
  have hb1 : Below w.heap.size w w1 := by rw [hw1]; exact below_two w a b
  obtain ⟨⟨a1, a2⟩, b1, b2⟩ := two_boxes w a b
  change (two w a b).cell? _ = _ at a1 a2 b1 b2
  rw [← hw1] at a1 a2 b1 b2
  have C1 := Lib.hid (compareNames_ex a b w1)
  have HW := Lib.hid hw1
  have HB := cmpN_bounds a.1 b.1
  have HO := Lib.hid (show (cmpN a.1 b.1 = 0 → ordF a b = 10) ∧ (cmpN a.1 b.1 = 1 → ordF a b = 9) ∧ (cmpN a.1 b.1 = -1 → ordF a b = 0) by
    unfold ordF
    refine ⟨fun h => if_pos (cmpN_zero h), fun h => ?_, fun h => ?_⟩
    · rw [if_neg (fun e => by rw [e, cmpN_self] at h; omega), if_pos (by omega)]
    · rw [if_neg (fun e => by rw [e, cmpN_self] at h; omega), if_neg (by omega)])
  generalize ordF a b = r at HO ⊢
  unfold atV at C1 ⊢
  generalize cmpN a.1 b.1 = x at C1 HB HO
  clear hw1
  rcases (show x = 0 ∨ x = 1 ∨ x = -1 by omega) with rfl | rfl | rfl
  all_goals
    go_enter Tryz.func177, Tryz.ntmps177
    go_wp2_with fail
    rw [show (w.alloc (.cells #[.string a.1, .string a.2] 63)).alloc (.cells #[.string b.1, .string b.2] 63) = w1 from HW.out.symm]
    go_wp2_with fail
    refine C1.out.mono ?_
    rintro e w2 ⟨rfl, hb2⟩
    have HB2 := Lib.hid hb2
    clear hb2
    go_wp2_with fail
    go_ret
  · exact ⟨ret_int (HO.out.1 (by trivial)).symm, by rw [HB2.out, HW.out]⟩
  · exact ⟨ret_int (HO.out.2.1 (by trivial)).symm, by rw [HB2.out, HW.out]⟩
  · exact ⟨ret_int (HO.out.2.2 (by trivial)).symm, by rw [HB2.out, HW.out]⟩
theorem orderGrown (x y : At) (W : World) : Calls Tryz.prog 177 #[.agg #[.string x.1, .string x.2], .agg #[.string y.1, .string y.2]] W fun e w' => e = .returned (.int .i64 (ordF x y)) ∧ ∃ q os', w' = grow (W.drewN q) os' := by
  refine (orderFault_ex x y W).mono fun e w' hh => ⟨hh.1, 0, #[.cells (atCells x) 63, .cells (atCells y) 63] ++ #[.cells (atCells x) 63, .cells (atCells y) 63], ?_⟩
  rw [hh.2, two_grow, two_grow, grow_grow]
  rfl
theorem below_grow (w : World) (n : Nat) (os : Array Obj) : Below w.heap.size w (grow (w.drewN n) os) := by
  refine ⟨rfl, rfl, rfl, ?_, fun k hk => ?_⟩
  · rw [size_grow]; exact Nat.le_add_right _ _
  · exact heap_grow_old _ _ hk
theorem atBox (w : World) (x : At) : Below w.heap.size w (w.alloc (.cells (atCells x) 63)) := (Below.refl _ _).alloc (Nat.le_refl _) _
set_option maxHeartbeats 2000000 in
theorem faultAt_any (A : Option Addr) (c : Nat) (l : List At) (w : World) (h : TRow w w.heap.size A l) (i : Nat) (hi : i < l.length) (hl : l.length ≤ 1000000) (hn : ∀ x ∈ l, x.1.size ≤ maxLen) :
    Calls Tryz.prog 155 #[.slice A l.length c, .int .i64 i] w fun e w' => e = .returned (.int .i64 (faultL l i)) ∧ Below w.heap.size w w' := by
  obtain ⟨b, off, x, rfl, hb, hx, c1, c2⟩ := trow_at h hi
  have hxm : x ∈ l := by rw [hx]; exact List.getElem_mem _
  have hiz : (i : Int) < (l.length : Int) := by omega
  have HFL := Lib.hid (show faultL l i = faultX i (l.getD (i - 1) noAt) x by unfold faultL; rw [getD_at hi, hx])
  generalize faultL l i = r at HFL ⊢
  obtain ⟨w1, hw1⟩ : ∃ w1, w1 = w.alloc (.cells (atCells x) 63) := ⟨_, rfl⟩
  have hb1 : Below w.heap.size w w1 := by rw [hw1]; exact atBox w x
  obtain ⟨d1, d2⟩ := box_cells w x
  rw [← hw1] at d1 d2
  have HW := Lib.hid hw1; have HX := Lib.hid hx; have HB1 := Lib.hid hb1
  clear hw1 hx
  by_cases h64 : i = 64
  · have HR := Lib.hid (show r = 12 by rw [HFL.out]; simp [faultX, h64])
    have h64' : ((i : Int) == 64) = true := by rw [h64]; rfl
    clear h64
    go_enter Tryz.func155, Tryz.ntmps155
    go_wp2_with fail
    rw [show w.alloc (.cells #[.string x.1, .string x.2] 63) = w1 from HW.out.symm]
    go_ret
    exact ⟨ret_int HR.out.symm, HB1.out⟩
  · have h64' : ((i : Int) == 64) = false := by rw [beq_eq_false_iff_ne]; omega
    have HNM := hn x hxm
    have HT := Lib.hid (show r = (if okN x.1 = false then 8 else if decide (x.2.size ≤ 65536) = false then 3 else if i = 0 then 0 else ordF (l.getD (i - 1) noAt) x) by
      rw [HFL.out]; unfold faultX; rw [if_neg h64]
      by_cases hv : 65536 < x.2.size
      · simp [hv]
      · have hv' : decide (x.2.size ≤ 65536) = true := by simp; omega
        simp [hv, hv'])
    clear HFL h64
    by_cases h0 : i = 0
    · have h0' : decide (0 < i) = false := by rw [h0]; rfl
      have HT0 := Lib.hid (show r = (if okN x.1 = false then 8 else if decide (x.2.size ≤ 65536) = false then 3 else 0) by rw [HT.out, if_pos h0])
      clear HT h0
      have HBE := HB1
      go_enter Tryz.func155, Tryz.ntmps155
      go_wp2_with fail
      rw [show w.alloc (.cells #[.string x.1, .string x.2] 63) = w1 from HW.out.symm]
      refine (fits_any x.2 _).mono ?_
      rintro e w3 ⟨rfl, rfl⟩
      have CN := Lib.hid (name_any x.1 w1 HNM)
      generalize decide (x.2.size ≤ 65536) = fb at HT0 ⊢
      have HOK := Lib.hid (show okN x.1 = wfB nameB x.1 from rfl)
      generalize okN x.1 = nb at HT0 HOK
      rw [← HOK.out] at CN
      clear HOK
      cases fb
      all_goals
        go_wp2_with fail
        refine CN.out.mono ?_
        rintro e w4 ⟨rfl, rfl⟩
        cases nb
        all_goals
          go_wp2_with fail
          go_ret
          exact ⟨ret_int HT0.out.symm, HBE.out⟩
    · obtain ⟨j, rfl⟩ : ∃ j, i = j + 1 := ⟨i - 1, by omega⟩
      obtain ⟨b', off', y, hA, hb', hy, e1, e2⟩ := trow_at h (show j < l.length by omega)
      obtain ⟨rfl, rfl⟩ : b = b' ∧ off = off' := by simpa using hA
      have h0' : decide (0 < j + 1) = true := by simp
      have HT0 := Lib.hid (show r = (if okN x.1 = false then 8 else if decide (x.2.size ≤ 65536) = false then 3 else ordF y x) by rw [HT.out, if_neg h0, Nat.add_sub_cancel, getD_at (by omega), hy])
      have HY := Lib.hid hy
      clear HT h0 hA hy
      have g1 : ∀ n os, (grow (w1.drewN n) os).cell? ⟨b, off + j * 2, none⟩ = some (.string y.1) := fun n os => cell_grown (Nat.lt_of_lt_of_le hb HB1.out.size) ((HB1.out.cell (p := ⟨b, off + j * 2, none⟩) hb).trans e1) n os
      have g2 : ∀ n os, (grow (w1.drewN n) os).cell? ⟨b, off + j * 2 + 1, none⟩ = some (.string y.2) := fun n os => cell_grown (Nat.lt_of_lt_of_le hb HB1.out.size) ((HB1.out.cell (p := ⟨b, off + j * 2 + 1, none⟩) hb).trans e2) n os
      have hw1s : w.heap.size < w1.heap.size := by rw [HW.out]; simp
      have g3 : ∀ n os, (grow (w1.drewN n) os).cell? ⟨w.heap.size, 0, none⟩ = some (.string x.1) := fun n os => cell_grown hw1s d1 n os
      have g4 : ∀ n os, (grow (w1.drewN n) os).cell? ⟨w.heap.size, 1, none⟩ = some (.string x.2) := fun n os => cell_grown hw1s d2 n os
      have hcg : ∀ n os, Calls Tryz.prog 177 #[.agg #[.string y.1, .string y.2], .agg #[.string x.1, .string x.2]] (grow (w1.drewN n) os) fun e w' => e = .returned (.int .i64 (ordF y x)) ∧ ∃ q os', w' = grow ((grow (w1.drewN n) os).drewN q) os' := fun n os => orderGrown y x _
      have mixed : Tryz.prog.follows .mixedOrders = true := by kernel_rfl
      have eg : ∀ args w, (callFunc 177 args).run Tryz.prog w = .ok (.enter 177 args) w := enters_of Tryz.func177 (by kernel_rfl) rfl
      have r1 : IntKind.i64.wrap (j : Int) = (j : Int) := by rw [IntKind.wrap_i64]; omega
      have r3 : (j : Int) + 1 - 1 = (j : Int) := by omega
      have r4 : (j : Int) < (l.length : Int) := by omega
      have i1 : ((j : Int) + 1).toNat = j + 1 := by omega
      have p1 : (0 : Int) ≤ (j : Int) + 1 := by omega
      have q1 : (j : Int) + 1 < (l.length : Int) := by omega
      generalize ordF y x = of at HT0 hcg
      go_enter Tryz.func155, Tryz.ntmps155
      go_wp2_with fail
      rw [show w.alloc (.cells #[.string x.1, .string x.2] 63) = w1 from HW.out.symm]
      go_quiet_grown (first | (go_at_fn 177; refine Calls.grown_of (hcg _ _)))
      have HBE := Lib.hid (HB1.out.trans ((below_grow w1 nq osq).mono HB1.out.size))
      have k3 := g3 nq osq
      have k4 := g4 nq osq
      clear g1 g2 g3 g4 hcg e1 e2 c1 c2 d1 d2
      generalize grow (w1.drewN nq) osq = w2 at HBE k3 k4 ⊢
      go_wp2_with fail
      refine (fits_any x.2 _).mono ?_
      rintro e w3 ⟨rfl, rfl⟩
      have CN := Lib.hid (name_any x.1 w2 HNM)
      generalize decide (x.2.size ≤ 65536) = fb at HT0 ⊢
      have HOK := Lib.hid (show okN x.1 = wfB nameB x.1 from rfl)
      generalize okN x.1 = nb at HT0 HOK
      rw [← HOK.out] at CN
      clear HOK
      cases fb
      all_goals
        go_wp2_with fail
        refine CN.out.mono ?_
        rintro e w4 ⟨rfl, rfl⟩
        cases nb
        all_goals
          go_wp2_with fail
          go_ret
          exact ⟨ret_int HT0.out.symm, HBE.out⟩
end Go.Proofs.YtjnhcoflmechmaaGreatDoor

namespace Go.Proofs.YtjnhcoflmechmaaGreatDoor
open Go.RowKit Go.Sort
set_option linter.unusedVariables false
set_option maxRecDepth 100000
def Short (l : List At) : Prop := ∀ x ∈ l, x.1.size ≤ 100000000 ∧ x.2.size ≤ 100000000
theorem Short.nm {l : List At} (h : Short l) : ∀ x ∈ l, x.1.size ≤ maxLen := fun x hx => by have := (h x hx).1; unfold maxLen; omega
def CheckPost (w : World) (l : List At) (e : Ending) (w' : World) : Prop := ∃ a x, e = .returned (.tuple #[.int .i64 a, .int .i64 x]) ∧ CheckP l a x ∧ Below w.heap.size w w'
theorem none_yet_succ {l : List At} {k : Nat} (h : ∀ j, j < k → faultL l j = 0) (hk : faultL l k = 0) : ∀ j, j < k + 1 → faultL l j = 0 := by
  intro j hj
  rcases Nat.lt_or_ge j k with h1 | h1
  · exact h j h1
  · have : j = k := by omega
    subst this; exact hk
set_option maxHeartbeats 2000000 in
theorem check_any (A : Option Addr) (c : Nat) (l : List At) (w : World) (h : TRow w w.heap.size A l) (hl : l.length ≤ 1000000) (hn : Short l) :
    Calls Tryz.prog 128 #[.slice A l.length c] w (CheckPost w l) := by
  have H := Lib.hid h; have HN := Lib.hid hn.nm
  clear h hn
  go_enter Tryz.func128, Tryz.ntmps128
  go_wp2
  go_loopg [4, 5, 8] l.length (fun g _ _ s8 wr => ∃ k : Nat, s8 = .int .i64 k ∧ k ≤ l.length ∧ l.length - k ≤ g ∧ RowKit.Hid (∀ j, j < k → faultL l j = 0) ∧ RowKit.Hid (Below w.heap.size w wr))
  case atStart => exact ⟨0, rfl, by omega, by omega, Lib.hid (fun j hj => by omega), Lib.hid (Below.refl _ _)⟩
  case round =>
    obtain ⟨k, rfl, hk, hg, HF, HB⟩ := hrel
    by_cases hlt : k < l.length
    · have h1 : (k : Int) < (l.length : Int) := by omega
      have HC := Lib.hid (faultAt_any A c l wr (H.out.up HB.out) k hlt hl HN.out)
      obtain ⟨f, hf⟩ : ∃ f, f = faultL l k := ⟨_, rfl⟩
      rw [← hf] at HC
      have HFK := Lib.hid hf
      clear hf
      go_wp2_with fail
      refine HC.out.mono ?_
      rintro e w1 ⟨rfl, hb1⟩
      have HB1 := Lib.hid (HB.out.trans (hb1.mono HB.out.size))
      clear hb1 HC HB
      by_cases hz : f = 0
      · subst hz
        go_wp2_with fail
        go_roundg (l.length - (k + 1))
        case measure => omega
        case rel => exact ⟨k + 1, by go_num, by omega, by omega, Lib.hid (none_yet_succ HF.out HFK.out.symm), HB1⟩
      · have hz' : (f != 0) = true := by simpa using hz
        have HZ := Lib.hid hz
        clear hz
        go_wp2_with fail
        go_ret2
        exact ⟨k, f, rfl, .inl ⟨k, hlt, rfl, HFK.out, by rw [← HFK.out]; exact HZ.out, HF.out⟩, HB1.out⟩
    · have h1 : ¬ (k : Int) < (l.length : Int) := by omega
      go_wp2_with fail
      go_ret2
      exact ⟨0, 0, rfl, .inr ⟨rfl, rfl, fun j hj => HF.out j (by omega)⟩, HB.out⟩
theorem refGrown (x y : ByteArray) (W : World) (hx : x.size ≤ 100000000) (hy : y.size ≤ 100000000) : Calls Tryz.prog 55 #[.string x, .string y] W fun e w' => e = .returned (.int .i64 (cmpN x y)) ∧ ∃ q os', w' = grow (W.drewN q) os' := by
  refine (refCompare_any x y W (by omega) (by omega)).mono fun e w' hh => ⟨hh.1, ?_⟩
  obtain ⟨n, hn⟩ := hh.2
  exact ⟨n, #[], by rw [hn, grow_empty]⟩
def RCheckPost (w : World) (l : List At) (e : Ending) (w' : World) : Prop := ∃ a x, e = .returned (.tuple #[.int .i64 a, .int .i64 x]) ∧ CheckP l a x ∧ Below w.heap.size w w'
set_option maxHeartbeats 4000000 in
set_option maxRecDepth 100000 in
theorem refCheck_any (A : Option Addr) (c : Nat) (l : List At) (w : World) (h : TRow w w.heap.size A l) (hl : l.length ≤ 1000000) (hn : Short l) :
    Calls Tryz.prog 63 #[.slice A l.length c] w (CheckPost w l) := by
  have H := Lib.hid h; have HN := Lib.hid hn
  clear h hn
  go_enter Tryz.func63, Tryz.ntmps63
  go_wp2
  go_loopg [4, 7] l.length (fun g _ s7 wr => ∃ k : Nat, s7 = .int .i64 k ∧ k ≤ l.length ∧ l.length - k ≤ g ∧ RowKit.Hid (∀ j, j < k → faultL l j = 0) ∧ RowKit.Hid (Below w.heap.size w wr))
  case atStart => exact ⟨0, rfl, by omega, by omega, Lib.hid (fun j hj => by omega), Lib.hid (Below.refl _ _)⟩
  case round =>
    obtain ⟨k, rfl, hk, hg, HF, HB⟩ := hrel
    by_cases hlt : k < l.length
    · have h1 : (k : Int) < (l.length : Int) := by omega
      obtain ⟨b, off, x, rfl, hb, hx, c1, c2⟩ := trow_at (H.out.up HB.out) hlt
      have hxm : x ∈ l := by rw [hx]; exact List.getElem_mem _
      obtain ⟨hx1, hx2⟩ := HN.out x hxm
      have HFL := Lib.hid (show faultL l k = faultX k (l.getD (k - 1) noAt) x by unfold faultL; rw [getD_at hlt, hx])
      clear hx hxm
      have fail : ∀ (f : Int) (W : World), faultL l k = f → f ≠ 0 → Below w.heap.size w W → CheckPost w l (.returned (.tuple #[.int .i64 k, .int .i64 f])) W := fun f W hf h0 hW => ⟨k, f, rfl, .inl ⟨k, hlt, rfl, hf.symm, by rw [hf]; exact h0, HF.out⟩, hW⟩
      have FAIL := Lib.hid fail
      clear fail
      by_cases h64 : k = 64
      · have HR := Lib.hid (FAIL.out 12 wr (by rw [HFL.out]; simp [faultX, h64]) (by decide) HB.out)
        have h64' : ((k : Int) == 64) = true := by rw [h64]; rfl
        clear h64
        go_wp2_with fail
        go_ret2
        exact HR.out
      · have h64' : ((k : Int) == 64) = false := by rw [beq_eq_false_iff_ne]; omega
        have HNA := Lib.hid (named_any x.1 true wr (by unfold maxLen; omega))
        have HOK := Lib.hid (show okN x.1 = wfB (innerB true) x.1 from rfl)
        rw [← HOK.out] at HNA
        cases hok : okN x.1
        · have HR := Lib.hid (FAIL.out 8 wr (by rw [HFL.out]; simp [faultX, h64, hok]) (by decide) HB.out)
          rw [hok] at HNA
          clear h64 hok
          go_wp2_with fail
          refine HNA.out.mono ?_
          rintro e w1 ⟨rfl, rfl⟩
          go_wp2_with fail
          go_ret2
          exact HR.out
        · rw [hok] at HNA
          by_cases hv : 65536 < x.2.size
          · have HR := Lib.hid (FAIL.out 3 wr (by rw [HFL.out]; simp [faultX, h64, hok, hv]) (by decide) HB.out)
            have hv' : (x.2.size : Int) > 65536 := by omega
            clear h64 hok
            go_wp2_with fail
            refine HNA.out.mono ?_
            rintro e w1 ⟨rfl, rfl⟩
            go_wp2_with fail
            go_ret2
            exact HR.out
          · have hv' : ¬ (x.2.size : Int) > 65536 := by omega
            have HFX := Lib.hid (show faultL l k = if k = 0 then 0 else ordF (l.getD (k - 1) noAt) x by rw [HFL.out]; simp [faultX, h64, hok, hv])
            clear h64 hok HFL
            go_wp2_with fail
            refine HNA.out.mono ?_
            rintro e w1 ⟨rfl, rfl⟩
            by_cases h0 : k = 0
            · subst h0
              go_wp2_with fail
              go_quiet (fail)
              have HB2 := Lib.hid (HB.out.trans (below_drewN w.heap.size wr nq))
              clear HB c1 c2 HNA
              generalize wr.drewN nq = w2 at HB2 ⊢
              go_wp2_with fail
              go_quiet (fail)
              have HB3 := Lib.hid (HB2.out.trans (below_drewN w.heap.size w2 nq))
              clear HB2
              generalize w2.drewN nq = w3 at HB3 ⊢
              go_wp2_with fail
              go_roundg (l.length - 1)
              case measure => omega
              case rel => exact ⟨1, by go_num, by omega, by omega, Lib.hid (none_yet_succ HF.out (by rw [HFX.out]; rfl)), HB3⟩
            · obtain ⟨j, rfl⟩ : ∃ j, k = j + 1 := ⟨k - 1, by omega⟩
              obtain ⟨b', off', y, hA, hb', hy, e1, e2⟩ := trow_at (H.out.up HB.out) (show j < l.length by omega)
              obtain ⟨rfl, rfl⟩ : b = b' ∧ off = off' := by simpa using hA
              have hym : y ∈ l := by rw [hy]; exact List.getElem_mem _
              obtain ⟨hy1, hy2⟩ := HN.out y hym
              have HFY := Lib.hid (show faultL l (j + 1) = ordF y x by rw [HFX.out, if_neg h0, Nat.add_sub_cancel, getD_at (by omega), hy])
              clear HFX h0 hA hy hym HNA
              have h0' : decide (0 < j + 1) = true := by simp
              have r1 : IntKind.i64.wrap (j : Int) = (j : Int) := by rw [IntKind.wrap_i64]; omega
              have r3 : (j : Int) + 1 - 1 = (j : Int) := by omega
              have r4 : (j : Int) < (l.length : Int) := by omega
              have i1 : ((j : Int) + 1).toNat = j + 1 := by omega
              have p1 : (0 : Int) ≤ (j : Int) + 1 := by omega
              have p2 : (0 : Int) < (j : Int) + 1 := by omega
              have q1 : (j : Int) + 1 < (l.length : Int) := by omega
              by_cases hyx : y.1 = x.1
              · have hq : (y.1.toList == x.1.toList) = true := by rw [eqB]; exact decide_eq_true hyx
                have HR := Lib.hid (show faultL l (j + 1) = 10 by rw [HFY.out]; exact if_pos hyx)
                clear hyx
                go_wp2_with fail
                go_quiet (fail)
                have HB2 := Lib.hid (HB.out.trans (below_drewN w.heap.size wr nq))
                clear HB c1 c2 e1 e2
                generalize wr.drewN nq = w2 at HB2 ⊢
                go_wp2_with fail
                go_ret2
                exact FAIL.out 10 _ HR.out (by decide) HB2.out
              · have hq : (y.1.toList == x.1.toList) = false := by rw [eqB]; exact decide_eq_false hyx
                have HO := Lib.hid (show ordF y x = if 0 < cmpN y.1 x.1 then 9 else 0 from if_neg hyx)
                clear hyx
                go_wp2_with fail
                go_quiet (fail)
                have HB2 := Lib.hid (HB.out.trans (below_drewN w.heap.size wr nq))
                have hbw : b < wr.heap.size := hb
                obtain ⟨w2, hw2⟩ : ∃ w2, w2 = wr.drewN nq := ⟨_, rfl⟩
                have hbw2 : b < w2.heap.size := by rw [hw2]; exact hbw
                have g1 : ∀ n os, (grow (w2.drewN n) os).cell? ⟨b, off + j * 2, none⟩ = some (.string y.1) := fun n os => cell_grown hbw2 (by rw [hw2]; exact e1) n os
                have g2 : ∀ n os, (grow (w2.drewN n) os).cell? ⟨b, off + (j + 1) * 2, none⟩ = some (.string x.1) := fun n os => cell_grown hbw2 (by rw [hw2]; exact c1) n os
                rw [← hw2] at HB2 ⊢
                clear HB c1 c2 e1 e2 hw2
                have hcg : ∀ n os, Calls Tryz.prog 55 #[.string y.1, .string x.1] (grow (w2.drewN n) os) fun e w' => e = .returned (.int .i64 (cmpN y.1 x.1)) ∧ ∃ q os', w' = grow ((grow (w2.drewN n) os).drewN q) os' := fun n os => refGrown y.1 x.1 _ hy1 hx1
                have mixed : Tryz.prog.follows .mixedOrders = true := by kernel_rfl
                have eg : ∀ args w, (callFunc 55 args).run Tryz.prog w = .ok (.enter 55 args) w := enters_of Tryz.func55 (by kernel_rfl) rfl
                by_cases hc : 0 < cmpN y.1 x.1
                · have HR := Lib.hid (show faultL l (j + 1) = 9 by rw [HFY.out, HO.out, if_pos hc])
                  have hc' : decide (0 < cmpN y.1 x.1) = true := decide_eq_true hc
                  generalize cmpN y.1 x.1 = cv at hcg hc hc'
                  clear HO
                  go_wp2_with fail
                  go_quiet_grown (first | (go_at_fn 55; refine Calls.grown_of (hcg _ _)))
                  have HB3 := Lib.hid (HB2.out.trans ((below_grow w2 nq osq).mono HB2.out.size))
                  clear HB2 g1 g2 hcg
                  generalize grow (w2.drewN nq) osq = w3 at HB3 ⊢
                  go_wp2_with fail
                  go_ret2
                  exact FAIL.out 9 _ HR.out (by decide) HB3.out
                · have HR := Lib.hid (show faultL l (j + 1) = 0 by rw [HFY.out, HO.out, if_neg hc])
                  have hc' : decide (0 < cmpN y.1 x.1) = false := decide_eq_false hc
                  generalize cmpN y.1 x.1 = cv at hcg hc hc'
                  clear HO
                  go_wp2_with fail
                  go_quiet_grown (first | (go_at_fn 55; refine Calls.grown_of (hcg _ _)))
                  have HB3 := Lib.hid (HB2.out.trans ((below_grow w2 nq osq).mono HB2.out.size))
                  clear HB2 g1 g2 hcg
                  generalize grow (w2.drewN nq) osq = w3 at HB3 ⊢
                  go_wp2_with fail
                  go_roundg (l.length - (j + 1 + 1))
                  case measure => omega
                  case rel => exact ⟨j + 1 + 1, by go_num, by omega, by omega, Lib.hid (none_yet_succ HF.out HR.out), HB3⟩
    · have h1 : ¬ (k : Int) < (l.length : Int) := by omega
      go_wp2_with fail
      go_ret2
      exact ⟨0, 0, rfl, .inr ⟨rfl, rfl, fun j hj => HF.out j (by omega)⟩, HB.out⟩
end Go.Proofs.YtjnhcoflmechmaaGreatDoor

namespace Go.Proofs.YtjnhcoflmechmaaGreatDoor
open Go.RowKit Go.Sort
set_option linter.unusedVariables false
set_option maxRecDepth 100000

structure Kept (S : Nat → Prop) (w w' : World) : Prop where
  os : w'.os = w.os
  tape : w'.tape = w.tape
  output : w'.output = w.output
  size : w.heap.size ≤ w'.heap.size
  block : ∀ k, k < w.heap.size → ¬ S k → w'.heap[k]? = w.heap[k]?
theorem Kept.refl (S : Nat → Prop) (w : World) : Kept S w w := ⟨rfl, rfl, rfl, Nat.le_refl _, fun _ _ _ => rfl⟩
theorem Kept.trans {S : Nat → Prop} {a b c : World} (h : Kept S a b) (k : Kept S b c) : Kept S a c :=
  ⟨k.os.trans h.os, k.tape.trans h.tape, k.output.trans h.output, Nat.le_trans h.size k.size, fun i hi hs => (k.block i (Nat.lt_of_lt_of_le hi h.size) hs).trans (h.block i hi hs)⟩
theorem Kept.trans' {S T : Nat → Prop} {a b c : World} (h : Kept S a b) (k : Kept T b c) (hT : ∀ i, i < a.heap.size → T i → S i) : Kept S a c :=
  ⟨k.os.trans h.os, k.tape.trans h.tape, k.output.trans h.output, Nat.le_trans h.size k.size, fun i hi hs => (k.block i (Nat.lt_of_lt_of_le hi h.size) (fun ht => hs (hT i hi ht))).trans (h.block i hi hs)⟩
theorem Kept.mono {S T : Nat → Prop} {w w' : World} (h : Kept S w w') (hS : ∀ k, k < w.heap.size → S k → T k) : Kept T w w' := ⟨h.os, h.tape, h.output, h.size, fun k hk ht => h.block k hk (fun hs => ht (hS k hk hs))⟩
theorem Kept.below {S : Nat → Prop} {w w' : World} (h : Kept S w w') {B : Nat} (hB : B ≤ w.heap.size) (hS : ∀ k, S k → B ≤ k) : Below B w w' :=
  ⟨h.os, h.tape, h.output, h.size, fun k hk => h.block k (by omega) (fun hs => by have := hS k hs; omega)⟩
theorem kept_below {w w' : World} (h : Below w.heap.size w w') (S : Nat → Prop) : Kept S w w' := ⟨h.os, h.tape, h.output, h.size, fun k hk _ => h.block k hk⟩
theorem kept_alloc (w : World) (o : Obj) (S : Nat → Prop) : Kept S w (w.alloc o) := kept_below ((Below.refl _ _).alloc (Nat.le_refl _) _) S
theorem kept_setCell (w : World) (a : Addr) (u : Value) : Kept (· = a.block) w (w.setCell a u) := by
  have hb : Below a.block w (w.setCell a u) := (Below.refl _ w).setCell (Nat.le_refl _) u
  exact ⟨hb.os, hb.tape, hb.output, hb.size, fun k hk hs => Below.heap_setCell w a u k hs⟩
theorem kept_grown {w w' : World} {row : Option Nat} (hg : w.grownBy w' row) : Kept (fun k => some k = row) w w' :=
  ⟨hg.os, hg.tape, hg.output, hg.size, fun k hk hs => hg.block k hk hs⟩
theorem Kept.cell {S : Nat → Prop} {w w' : World} (h : Kept S w w') {a : Addr} (ha : a.block < w.heap.size) (hs : ¬ S a.block) : w'.cell? a = w.cell? a := World.cell?_of_block (h.block a.block ha hs)
theorem Kept.cellOf {S : Nat → Prop} {w w' : World} (h : Kept S w w') {a : Addr} {v : Value} (hc : w.cell? a = some v) (hs : ¬ S a.block) : w'.cell? a = some v := (h.cell (World.block_lt_of_cell? w _ hc) hs).trans hc
theorem Kept.frozen {S : Nat → Prop} {w w' : World} (h : Kept S w w') {a : Addr} (ha : a.block < w.heap.size) (hs : ¬ S a.block) : w'.frozen? a = w.frozen? a := World.frozen?_of_block (h.block a.block ha hs)

/-- Where a node's two slices lie. -/
structure NV where
  A : Option Addr
  ca : Nat
  K : Option Addr
  ck : Nat
structure KidCells (w : World) (b o : Nat) (t : Tr) (x : NV) : Prop where
  c0 : w.cell? ⟨b, o, none⟩ = some (.string t.tag)
  c1 : w.cell? ⟨b, o + 1, none⟩ = some (.string t.key)
  c2 : w.cell? ⟨b, o + 2, none⟩ = some (.string t.text)
  c3 : w.cell? ⟨b, o + 3, none⟩ = some (.slice x.A t.as.length x.ca)
  c4 : w.cell? ⟨b, o + 4, none⟩ = some (.slice x.K t.kids.length x.ck)
def nodeCells (t : Tr) (x : NV) : List Value := [.string t.tag, .string t.key, .string t.text, .slice x.A t.as.length x.ca, .slice x.K t.kids.length x.ck]
theorem KidCells.block_lt {w : World} {b o : Nat} {t : Tr} {x : NV} (h : KidCells w b o t x) : b < w.heap.size := World.block_lt_of_cell? w _ h.c0
theorem KidCells.kept {w w' : World} {b o : Nat} {t : Tr} {x : NV} (h : KidCells w b o t x) {S : Nat → Prop} (hk : Kept S w w') (hs : ¬ S b) : KidCells w' b o t x := ⟨hk.cellOf h.c0 hs, hk.cellOf h.c1 hs, hk.cellOf h.c2 hs, hk.cellOf h.c3 hs, hk.cellOf h.c4 hs⟩
theorem KidCells.below {w w' : World} {B b o : Nat} {t : Tr} {x : NV} (h : KidCells w b o t x) (hb : Below B w w') (hlt : b < B) : KidCells w' b o t x :=
  ⟨(hb.cell (p := ⟨b, o, none⟩) hlt).trans h.c0, (hb.cell (p := ⟨b, o + 1, none⟩) hlt).trans h.c1, (hb.cell (p := ⟨b, o + 2, none⟩) hlt).trans h.c2, (hb.cell (p := ⟨b, o + 3, none⟩) hlt).trans h.c3, (hb.cell (p := ⟨b, o + 4, none⟩) hlt).trans h.c4⟩
/-- A struct of a node, laid in a block of its own. -/
theorem box_node (w : World) (t : Tr) (x : NV) : KidCells (w.alloc (.cells #[.string t.tag, .string t.key, .string t.text, .slice x.A t.as.length x.ca, .slice x.K t.kids.length x.ck] 25)) w.heap.size 0 t x := by
  have e : ∀ j, (w.alloc (.cells #[.string t.tag, .string t.key, .string t.text, .slice x.A t.as.length x.ca, .slice x.K t.kids.length x.ck] 25)).cell? ⟨w.heap.size, j, none⟩ = (#[.string t.tag, .string t.key, .string t.text, .slice x.A t.as.length x.ca, .slice x.K t.kids.length x.ck] : Array Value)[j]? := fun j => cell_of_row _ _ _ _ _ (0, 0) (heap_alloc_new w _)
  exact ⟨by rw [e]; rfl, by rw [e]; rfl, by rw [e]; rfl, by rw [e]; rfl, by rw [e]; rfl⟩
/-- A tree whose two slices lie at x, all its memory below B. -/
inductive TreeAt (w : World) (B : Nat) : Tr → NV → Prop
  | mk {t : Tr} {x : NV} (X : Nat → NV) (att : TRow w B x.A t.as) (h1 : t.as.length ≤ x.ca) (h2 : x.ca ≤ maxLen) (h3 : x.A = none → x.ca = 0) (h4 : t.kids.length ≤ x.ck) (h5 : x.ck ≤ maxLen) (h6 : x.K = none → x.ck = 0)
      (row : 0 < t.kids.length → ∃ b off, x.K = some ⟨b, off, none⟩ ∧ b < B ∧ ∀ j, (h : j < t.kids.length) → KidCells w b (off + j * 5) t.kids[j] (X j))
      (sub : ∀ j, (h : j < t.kids.length) → TreeAt w B t.kids[j] (X j)) : TreeAt w B t x
theorem TreeAt.keepB {w w' : World} {B : Nat} {t : Tr} {x : NV} (h : TreeAt w B t x) (hb : Below B w w') : TreeAt w' B t x := by
  induction h with
  | mk X att h1 h2 h3 h4 h5 h6 row sub ih =>
    refine .mk X (att.below hb) h1 h2 h3 h4 h5 h6 (fun h0 => ?_) ih
    obtain ⟨b, off, hK, hlt, hc⟩ := row h0
    exact ⟨b, off, hK, hlt, fun j hj => (hc j hj).below hb hlt⟩
theorem TreeAt.mono {w : World} {B B' : Nat} {t : Tr} {x : NV} (h : TreeAt w B t x) (hB : B ≤ B') : TreeAt w B' t x := by
  induction h with
  | mk X att h1 h2 h3 h4 h5 h6 row sub ih =>
    refine .mk X (att.mono hB) h1 h2 h3 h4 h5 h6 (fun h0 => ?_) ih
    obtain ⟨b, off, hK, hlt, hc⟩ := row h0
    exact ⟨b, off, hK, by omega, hc⟩
theorem TreeAt.up {w w' : World} {t : Tr} {x : NV} (h : TreeAt w w.heap.size t x) (hb : Below w.heap.size w w') : TreeAt w' w'.heap.size t x := (h.keepB hb).mono hb.size
theorem TreeAt.att {w : World} {B : Nat} {t : Tr} {x : NV} (h : TreeAt w B t x) : TRow w B x.A t.as := by cases h; assumption
theorem TreeAt.caps {w : World} {B : Nat} {t : Tr} {x : NV} (h : TreeAt w B t x) : t.as.length ≤ x.ca ∧ x.ca ≤ maxLen ∧ (x.A = none → x.ca = 0) ∧ t.kids.length ≤ x.ck ∧ x.ck ≤ maxLen ∧ (x.K = none → x.ck = 0) := by cases h; exact ⟨by assumption, by assumption, by assumption, by assumption, by assumption, by assumption⟩
theorem TreeAt.kid {w : World} {B : Nat} {t : Tr} {x : NV} (h : TreeAt w B t x) {j : Nat} (hj : j < t.kids.length) :
    ∃ b off k y, x.K = some ⟨b, off, none⟩ ∧ b < B ∧ k = t.kids[j] ∧ KidCells w b (off + j * 5) k y ∧ TreeAt w B k y := by
  cases h with
  | mk X att h1 h2 h3 h4 h5 h6 row sub =>
    obtain ⟨b, off, hK, hlt, hc⟩ := row (by omega)
    exact ⟨b, off, _, X j, hK, hlt, rfl, hc j hj, sub j hj⟩
inductive GoodT : Tr → Prop
  | mk {t : Tr} (h1 : t.tag.size ≤ maxLen) (h2 : t.key.size ≤ 100000000) (h3 : t.text.size ≤ 100000000) (h4 : t.as.length ≤ 1000000) (h5 : Short t.as) (h6 : t.kids.length ≤ 1000000) (sub : ∀ k ∈ t.kids, GoodT k) : GoodT t
theorem GoodT.kid {t : Tr} (h : GoodT t) {k : Tr} {j : Nat} (hj : j < t.kids.length) (hk : k = t.kids[j]) : GoodT k := by
  cases h with
  | mk h1 h2 h3 h4 h5 h6 sub => rw [hk]; exact sub _ (List.getElem_mem _)
theorem GoodT.sizes {t : Tr} (h : GoodT t) : t.tag.size ≤ maxLen ∧ t.key.size ≤ 100000000 ∧ t.text.size ≤ 100000000 ∧ t.as.length ≤ 1000000 ∧ Short t.as ∧ t.kids.length ≤ 1000000 := by
  cases h with
  | mk h1 h2 h3 h4 h5 h6 sub => exact ⟨h1, h2, h3, h4, h5, h6⟩
theorem tr_ind {P : Tr → Prop} (h : ∀ t, (∀ k ∈ t.kids, P k) → P t) : ∀ t, P t
  | .mk a b c s ks => h _ (fun k hk => tr_ind h k)
decreasing_by
  simp_wf
  have := List.sizeOf_lt_of_mem hk
  simp only [Tr.kids] at this
  omega
open Classical in
noncomputable def attE (l : List At) : Int := if h : ∃ e, ∃ a, CheckP l a e then h.choose else 0
theorem attE_of {l : List At} {a e : Int} (h : CheckP l a e) : e = attE l := by
  have hx : ∃ e, ∃ a, CheckP l a e := ⟨e, a, h⟩
  unfold attE
  rw [dif_pos hx]
  obtain ⟨a', h'⟩ := hx.choose_spec
  exact (checkP_unique h h').2
noncomputable def aloneT (t : Tr) : Int := if wfB tagB t.tag = false then 7 else if 65536 < t.key.size ∨ 65536 < t.text.size then 3 else attE t.as

/-- A set of keys: a table of its own. -/
def KSet (w : World) (b n : Nat) (S : ByteArray → Prop) : Prop := ∃ D, w.ownsMap Tryz.prog 9 (unitElem (H := Unit)) b n D ∧ ∀ k : ByteArray, k.size ≤ maxLen → (Maps.has D (.string k.data.toList) = true ↔ S k)
theorem law9 : Maps.Keyed Tryz.prog 9 := Maps.string_keyed Tryz.underlying9
theorem str_inj {a b : ByteArray} (h : a.data.toList = b.data.toList) : a = b := by
  obtain ⟨⟨la⟩⟩ := a
  obtain ⟨⟨lb⟩⟩ := b
  simp at h
  rw [h]
theorem keep_map {w w' : World} {b n : Nat} {D : DataW Unit} (h : w.ownsMap Tryz.prog 9 (unitElem (H := Unit)) b n D) {S : Nat → Prop} (hk : Kept S w w') (hs : ¬ S b) : w'.ownsMap Tryz.prog 9 (unitElem (H := Unit)) b n D := by
  have hlt := h.lt
  obtain ⟨es, clock, hb, F, h1, rfl⟩ := h
  exact ⟨es, clock, (hk.block b hlt hs).trans hb, F, h1, rfl⟩
theorem KSet.keep {w w' : World} {b n : Nat} {Q : ByteArray → Prop} (h : KSet w b n Q) {S : Nat → Prop} (hk : Kept S w w') (hs : ¬ S b) : KSet w' b n Q := by
  obtain ⟨D, h1, h2⟩ := h
  exact ⟨D, keep_map h1 hk hs, h2⟩
theorem KSet.lt {w : World} {b n : Nat} {Q : ByteArray → Prop} (h : KSet w b n Q) : b < w.heap.size := by
  obtain ⟨D, h1, h2⟩ := h
  exact h1.lt
theorem KSet.new (w : World) : KSet (w.alloc (.map #[] 0)) w.heap.size 0 (fun _ => False) := ⟨_, World.ownsMap_made w _ _ _, fun k _ => by simp [Maps.has]⟩
theorem KSet.imp {w : World} {b n n' : Nat} {Q Q' : ByteArray → Prop} (h : KSet w b n Q) (hq : ∀ k, Q k ↔ Q' k) (hn : n ≤ n') : KSet w b n' Q' := by
  obtain ⟨D, h1, h2⟩ := h
  exact ⟨D, h1.mono hn, fun k hk => (h2 k hk).trans (hq k)⟩
theorem zero147 (w : World) : (zeroValue 147).run Tryz.prog w = .ok (.agg #[]) w := by kernel_rfl
theorem KSet.look {w : World} {b n : Nat} {Q : ByteArray → Prop} (h : KSet w b n Q) (k : ByteArray) (hk : k.size ≤ maxLen) : ∃ r : Bool, (r = true ↔ Q k) ∧ (Instr.lookup 144 (.map (some b)) (.string k) true).run Tryz.prog w = .ok (.tuple #[.agg #[], .bool r]) w := by
  obtain ⟨D, h1, h2⟩ := h
  obtain ⟨v, ps, hrun, hv⟩ := h1.look_ok law9 Tryz.underlying144 (zero147 w) unitElem_mk (WideMaps.keyOf_string_mk Tryz.underlying9 hk)
  obtain ⟨rfl, -⟩ := unitElem_inv hv
  exact ⟨_, h2 k hk, hrun⟩
theorem KSet.store {w : World} {b n : Nat} {Q : ByteArray → Prop} (h : KSet w b n Q) (k : ByteArray) (hk : k.size ≤ maxLen) (hn : n < maxLen) :
    ∃ w', (Instr.mapUpdate 144 (.map (some b)) (.string k) (.agg #[])).run Tryz.prog w = .ok () w' ∧ KSet w' b (n + 1) (fun x => Q x ∨ k = x) ∧ Kept (· = b) w w' := by
  obtain ⟨D, h1, h2⟩ := h
  have hkey := WideMaps.keyOf_string_mk (k := 9) Tryz.underlying9 hk
  obtain ⟨w', hrun, ho', ht⟩ := h1.store law9 Tryz.underlying144 hn hkey unitElem_mk
  refine ⟨w', hrun, ⟨_, ho', fun x hx => ?_⟩, (kept_grown ht.grown).mono (fun i _ hi => by simpa using hi)⟩
  have hkl : WideAt.IsKeyLit (.string k.data.toList) := law9.key hkey
  by_cases e : k = x
  · subst e
    rw [Maps.has_put_same h1.isMap hkl]
    simp
  · rw [Maps.has_put_other (fun e' => e (str_inj (by simpa using e'.symm))), h2 x hx]
    simp [e]
end Go.Proofs.YtjnhcoflmechmaaGreatDoor
