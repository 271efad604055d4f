/-
  adiff.nameByName: what its function value hands out.
-/
import Derived.Test.YteamnjaepgfcmaaDTake
import Derived.RangeFuncBox
import Derived.RangeFuncNested
import Derived.RangeFuncLeaves
import Derived.Shelf.Abstract
import Derived.OwnWalkIn
import Derived.TacticsInMore
import Derived.LoopNIn
import Derived.LoopIn
import Derived.RegionIn
namespace Go.Proofs.Yteamnjaepgfcmaa
open Go.RowKit Go.Sort Go.Shelf
set_option linter.unusedVariables false
attribute [local go_sem] Oper.semAt_some
def chV (c : Ch) : Value := .agg #[.string c.1, .string c.2.1, .bool c.2.2]
/-- Below n0 every block but one stands. -/
def KeepBut (n0 Bt : Nat) (W W' : World) : Prop := W.heap.size ≤ W'.heap.size ∧ ∀ k, k < n0 → k ≠ Bt → W'.heap[k]? = W.heap[k]?
theorem keepBut_t {n0 Bt : Nat} {A B C : World} (h : KeepBut n0 Bt A B) (k : KeepBut n0 Bt B C) : KeepBut n0 Bt A C := ⟨Nat.le_trans h.1 k.1, fun i h1 h2 => (k.2 i h1 h2).trans (h.2 i h1 h2)⟩
theorem keepBut_below {n0 Bt B : Nat} {W W' : World} (h : Below B W W') (hb : n0 ≤ B) : KeepBut n0 Bt W W' := ⟨h.size, fun k hk _ => h.block k (by omega)⟩
theorem keepBut_b {n0 Bt : Nat} {w : World} (hn : n0 ≤ w.heap.size) (W : World) (l : Nat) (o o' : Obj) (hl : w.heap.size ≤ l) (h : W.heap[l]? = some o) (_ : o.isCells = false) (_ : o.isWalk = false) : KeepBut n0 Bt W (W.putObj l o') :=
  ⟨(grownBy_putObj' W l o').size, fun k hk _ => (grownBy_putObj' W l o').block k (by have := (Array.getElem?_eq_some_iff.1 h).1; omega) (by simp; omega)⟩
def NRow (W : World) (n0 Bt : Nat) (A : Option Addr) (l : List At) : Prop := TRow W n0 A l ∧ ∀ b off, A = some ⟨b, off, none⟩ → 0 < l.length → b ≠ Bt
theorem NRow.keep {W W' : World} {n0 Bt : Nat} {A : Option Addr} {l : List At} (h : NRow W n0 Bt A l) (hk : KeepBut n0 Bt W W') : NRow W' n0 Bt A l := by
  refine ⟨fun h0 => ?_, h.2⟩
  obtain ⟨b, off, hA, hb, hc⟩ := h.1 h0
  have hbt := h.2 b off hA h0
  exact ⟨b, off, hA, hb, fun j hj => ⟨(World.cell?_of_block (a := ⟨b, off + j * 2, none⟩) (hk.2 b hb hbt)).trans (hc j hj).1, (World.cell?_of_block (a := ⟨b, off + j * 2 + 1, none⟩) (hk.2 b hb hbt)).trans (hc j hj).2⟩⟩
theorem NRow.row {W : World} {n0 Bt : Nat} {A : Option Addr} {l : List At} (h : NRow W n0 Bt A l) (hn : n0 ≤ W.heap.size) : TRow W W.heap.size A l := h.1.mono hn
theorem nrow_take {W W' : World} {n0 Bt : Nat} {A A' : Option Addr} {l r : List At} (h : NRow W n0 Bt A l) (hs : SameB A A') (hr : TRow W' W'.heap.size A' r) (hl : r.length ≤ l.length) : NRow W' n0 Bt A' r := by
  have key : ∀ b off, A' = some ⟨b, off, none⟩ → 0 < r.length → b < n0 ∧ b ≠ Bt := by
    intro b off hA h0
    obtain ⟨off', hA'⟩ := hs b off hA
    obtain ⟨b2, off2, hA2, hb2, _⟩ := h.1 (by omega)
    rw [hA'] at hA2
    cases hA2
    exact ⟨hb2, h.2 _ _ hA' (by omega)⟩
  refine ⟨fun h0 => ?_, fun b off hA h0 => (key b off hA h0).2⟩
  obtain ⟨b, off, hA, hb, hc⟩ := hr h0
  exact ⟨b, off, hA, (key b off hA h0).1, hc⟩
/-- A change in a box of its own. -/
def BoxC (W : World) (B : Nat) (c : Ch) : Prop := W.heap[B]? = some (.cells #[.string c.1, .string c.2.1, .bool c.2.2] 46 (0, 0))
theorem BoxC.lt {W : World} {B : Nat} {c : Ch} (h : BoxC W B c) : B < W.heap.size := (Array.getElem?_eq_some_iff.1 h).1
theorem BoxC.cells {W : World} {B : Nat} {c : Ch} (h : BoxC W B c) : W.cell? ⟨B, 0, none⟩ = some (.string c.1) ∧ W.cell? ⟨B, 1, none⟩ = some (.string c.2.1) ∧ W.cell? ⟨B, 2, none⟩ = some (.bool c.2.2) := by
  have e : ∀ j, W.cell? ⟨B, j, none⟩ = (#[.string c.1, .string c.2.1, .bool c.2.2] : Array Value)[j]? := fun j => cell_of_row _ _ _ _ _ (0, 0) h
  rw [e, e, e]; exact ⟨rfl, rfl, rfl⟩
theorem BoxC.frozen {W : World} {B : Nat} {c : Ch} (h : BoxC W B c) (j : Nat) : W.frozen? ⟨B, j, none⟩ = false := by
  simp [World.frozen?, show W.heap[B]? = _ from h]
theorem BoxC.below {W W' : World} {B B' : Nat} {c : Ch} (h : BoxC W B c) (hb : Below B' W W') (hB : B < B') : BoxC W' B c := (hb.block B hB).trans h
theorem BoxC.new (W : World) (c : Ch) : BoxC (W.alloc (.cells #[.string c.1, .string c.2.1, .bool c.2.2] 46)) W.heap.size c := heap_alloc_new W _
/-- A change stored into its box. -/
def set3 (W : World) (B : Nat) (d : Ch) : World := ((W.setCell ⟨B, 0, none⟩ (.string d.1)).setCell ⟨B, 1, none⟩ (.string d.2.1)).setCell ⟨B, 2, none⟩ (.bool d.2.2)
theorem BoxC.set {W : World} {B : Nat} {c : Ch} (h : BoxC W B c) (d : Ch) : BoxC (set3 W B d) B d := by
  have hh : W.heap[B]? = _ := h
  unfold BoxC set3
  simp only [World.setCell, Array.getElem?_modify, if_true, hh, Option.map_some]
  rfl
theorem BoxC.other {W : World} {B B' : Nat} {c : Ch} (h : BoxC W B c) (hne : B ≠ B') (d : Ch) : BoxC (set3 W B' d) B c := by
  unfold set3 BoxC
  rw [Below.heap_setCell _ _ _ _ hne, Below.heap_setCell _ _ _ _ hne, Below.heap_setCell _ _ _ _ hne]
  exact h
theorem set3_below {W : World} {B n : Nat} (hB : n ≤ B) (d : Ch) (W0 : World) (h0 : Below n W0 W) : Below n W0 (set3 W B d) :=
  ((h0.setCell (p := ⟨B, 0, none⟩) hB _).setCell (p := ⟨B, 1, none⟩) hB _).setCell (p := ⟨B, 2, none⟩) hB _
def lenOf : Value → Nat
  | .slice _ n _ => n
  | _ => 0
/-- What holds between two rounds. -/
def ItR (W : World) (n0 Bt : Nat) (a b : List At) (J : List (Ch × Ch) → World → Prop) (s4 s5 : Value) (wr : World) : Prop :=
  ∃ (a' b' : List At) (A A' : Option Addr) (c c' : Nat) (pre : List (Ch × Ch)), s4 = .slice A a'.length c ∧ s5 = .slice A' b'.length c' ∧ Hid (NRow wr n0 Bt A a' ∧ NRow wr n0 Bt A' b') ∧ Hid (StS a' ∧ StS b') ∧ Hid (J pre wr) ∧ Hid (pre ++ pairsD a' b' = pairsD a b) ∧ W.heap.size ≤ wr.heap.size ∧ Hid (a'.length ≤ c ∧ c ≤ maxLen) ∧ Hid (b'.length ≤ c' ∧ c' ≤ maxLen)
theorem abides_below {J : List (Ch × Ch) → World → Prop} {B : Nat} (h : AbidesFrom B J) {pre : List (Ch × Ch)} {W W' : World} (hj : J pre W) (hb : Below W.heap.size W W') : J pre W' :=
  h pre W W' none hj ⟨hb.os, hb.tape, hb.output, hb.size, fun k hk _ => hb.block k hk⟩ (fun r e => by cases e)
set_option maxRecDepth 100000 in
set_option maxHeartbeats 4000000 in
theorem iter_in (n : Nat) (hn : 1 ≤ n) (l n0 Bt B1 B2 : Nat) (A A' : Option Addr) (c c' : Nat) (a b : List At) (J Jx : List (Ch × Ch) → World → Prop) (W : World) (hJ : AbidesFrom W.heap.size J)
    (hY : ∀ pre x W, J pre W → pre.length < (pairsD a b).length → YieldAt Fence.wide (n - 1) Try.prog l #[.agg #[.string x.1.1, .string x.1.2.1, .bool x.1.2.2], .agg #[.string x.2.1, .string x.2.2.1, .bool x.2.2.2]] W fun e W' =>
      (e = .returned (.bool true) ∧ J (pre ++ [x]) W' ∧ KeepBut n0 Bt W W') ∨ (e = .returned (.bool false) ∧ Jx (pre ++ [x]) W'))
    (h1 : W.cell? ⟨B1, 0, none⟩ = some (.slice A a.length c)) (h2 : W.cell? ⟨B2, 0, none⟩ = some (.slice A' b.length c')) (ha : NRow W n0 Bt A a) (hb : NRow W n0 Bt A' b) (hn0 : n0 ≤ W.heap.size) (hsa : StS a) (hsb : StS b)
    (ca : a.length ≤ c ∧ c ≤ maxLen) (cb : b.length ≤ c' ∧ c' ≤ maxLen) (h0 : J [] W) :
    CallsIn Fence.wide n Try.prog 58 #[.func (.yield l) #[] #[], .pointer (some ⟨B1, 0, none⟩), .pointer (some ⟨B2, 0, none⟩)] W fun e W' => (∃ v, e = .returned v) ∧
      ((∃ ys, ys = pairsD a b ∧ J ys W') ∨ (∃ pre, True ∧ Jx pre W')) := by
  refine callsIn_of_wp Try.func58 rfl trivial ?_ rfl
  simp only [Try.ntmps58, List.size_toArray, List.length_cons, List.length_nil, Nat.reduceAdd, Nat.reduceSub, Array.replicate_succ, Array.replicate_zero, List.push_toArray, List.append_toArray, List.nil_append, List.cons_append]
  have HA := Lib.hid (And.intro ha hb); have HS := Lib.hid (And.intro hsa hsb); have HCA := Lib.hid ca; have HCB := Lib.hid cb; have HJ0 := Lib.hid h0; have HJ := Lib.hid hJ
  have k1 : ∀ n, (W.drewN n).cell? ⟨B1, 0, none⟩ = some (.slice A a.length c) := fun n => h1
  have k2 : ∀ n, (W.drewN n).cell? ⟨B2, 0, none⟩ = some (.slice A' b.length c') := fun n => h2
  have k1' : W.drew.cell? ⟨B1, 0, none⟩ = some (.slice A a.length c) := h1
  have k2' : W.drew.cell? ⟨B2, 0, none⟩ = some (.slice A' b.length c') := h2
  clear ha hb hsa hsb ca cb h0 hJ h1 h2
  gi_wp2_with fail
  gi_region
  gi_wp2_with fail
  gi_loopw [4, 5, 6, 7, 8] (fun s4 s5 _ _ _ wr => ItR W n0 Bt a b J s4 s5 wr) (fun s4 s5 _ _ _ _ => lenOf s4 + lenOf s5)
  case atStart => exact ⟨a, b, A, A', c, c', [], rfl, rfl, Lib.hid HA.out, HS, Lib.hid (abides_below HJ.out HJ0.out ((Below.refl _ W).drew)), Lib.hid rfl, Nat.le_refl _, HCA, HCB⟩
  case round =>
    obtain ⟨a', b', A1, A2, c1, c2, pre, rfl, rfl, HR, HST, HP, HE, hsz, HC1, HC2⟩ := hrel
    clear HA HS HCA HCB HJ0 k1 k2 k1' k2'
    by_cases hab : a' = [] ∧ b' = []
    · obtain ⟨rfl, rfl⟩ := hab
      simp only [List.length_nil]
      gi_wp2_with fail
      go_end0
      refine ⟨⟨_, rfl⟩, .inl ⟨_, rfl, ?_⟩⟩
      have e := HE.out
      rw [pairs_nil, List.append_nil] at e
      rw [← e]
      exact HP.out
    · have hP := pairs_step HST.out.1 HST.out.2 hab
      have hT := take_sts HST.out.1 HST.out.2
      have hL := take_less hab
      have HLA := Lib.hid (take_len a' (leastN a' b')); have HLB := Lib.hid (take_len b' (leastN a' b'))
      have C1 := Lib.hid (least_any A1 A2 c1 c2 a' b' wr (HR.out.1.row (Nat.le_trans hn0 hsz)) (HR.out.2.row (Nat.le_trans hn0 hsz)) hab)
      obtain ⟨m, hm⟩ : ∃ m, m = leastN a' b' := ⟨_, rfl⟩
      rw [← hm] at hP hT hL HLA HLB C1
      have HPP := Lib.hid hP; have HTT := Lib.hid hT
      have hg : 0 < a'.length ∨ (a' = [] ∧ 0 < b'.length) := by
        rcases Nat.eq_zero_or_pos a'.length with h | h
        · refine .inr ⟨List.eq_nil_of_length_eq_zero h, ?_⟩
          have : b' ≠ [] := fun e => hab ⟨List.eq_nil_of_length_eq_zero h, e⟩
          exact List.length_pos_iff.2 this
        · exact .inl h
      have hsz2 : n0 ≤ wr.heap.size := Nat.le_trans hn0 hsz
      obtain ⟨t1, ht1⟩ : ∃ t1, t1 = takeL a' m := ⟨_, rfl⟩
      obtain ⟨t2, ht2⟩ : ∃ t2, t2 = takeL b' m := ⟨_, rfl⟩
      have T1 := Lib.hid (fun wx h => take_any A1 c1 a' m wx h HC1.out.1 HC1.out.2)
      have T2 := Lib.hid (fun wx h => take_any A2 c2 b' m wx h HC2.out.1 HC2.out.2)
      unfold TakeP at T1 T2
      rw [← ht1] at HPP HTT hL HLA T1
      rw [← ht2] at HPP HTT hL HLB T2
      have hlt : pre.length < (pairsD a b).length := by rw [← HE.out, HPP.out]; simp
      have HE2 := Lib.hid (show (pre ++ [(t1.1, t2.1)]) ++ pairsD t1.2 t2.2 = pairsD a b by rw [← HE.out, HPP.out]; simp)
      have HLT := Lib.hid hlt
      clear hP hT hm hab ht1 ht2 hlt HE HPP
      rcases hg with hg | ⟨ha0, hg⟩
      · gi_wp2_with fail
        refine ⟨trivial, (callsIn_wide.2 C1.out).mono ?_⟩
        rintro e w1 ⟨rfl, q, rfl⟩
        gi_wp2_with fail
        obtain ⟨w2, hw2⟩ : ∃ w2, w2 = ((wr.drewN q).alloc (.cells #[.string noS, .string noS, .bool false] 46)).alloc (.cells #[.string noS, .string noS, .bool false] 46) := ⟨_, rfl⟩
        rw [← hw2]
        have hs2 : w2.heap.size = wr.heap.size + 2 := by rw [hw2]; simp
        have HB2 := Lib.hid (show Below wr.heap.size wr w2 by rw [hw2]; exact ((show Below wr.heap.size wr (wr.drewN q) from ⟨rfl, rfl, rfl, Nat.le_refl _, fun _ _ => rfl⟩).alloc (Nat.le_refl _) _).alloc (by simp) _)
        have HX1 := Lib.hid (show BoxC w2 wr.heap.size noCh by rw [hw2]; exact (BoxC.new (wr.drewN q) noCh).below ((Below.refl _ _).alloc (Nat.le_refl _) _) (by simp))
        have HX2 := Lib.hid (show BoxC w2 (wr.heap.size + 1) noCh by rw [hw2]; have := BoxC.new ((wr.drewN q).alloc (.cells #[.string noS, .string noS, .bool false] 46)) noCh; rw [World.size_alloc] at this; exact this)
        clear hw2
        refine ⟨trivial, (callsIn_wide.2 (T1.out w2 (HR.out.1.row hsz2 |>.up HB2.out))).mono ?_⟩
        rintro e w3 ⟨A3, c3, rfl, r3, k3, m3, s3, hb3⟩
        have HN3 := Lib.hid (nrow_take HR.out.1 s3 r3 HLA.out)
        have HK3 := Lib.hid (And.intro k3 m3)
        have HB3 := Lib.hid (show Below wr.heap.size wr w3 from HB2.out.trans (hb3.mono (by omega)))
        have HX13 := Lib.hid (HX1.out.below hb3 (by omega)); have HX23 := Lib.hid (HX2.out.below hb3 (by omega))
        obtain ⟨x10, x11, x12⟩ := HX13.out.cells
        have f10 := HX13.out.frozen 0; have f11 := HX13.out.frozen 1; have f12 := HX13.out.frozen 2
        clear r3 k3 m3 s3 hb3 HX1 HX2 HB2 T1 hs2
        gi_wp2_with fail
        obtain ⟨w4, hw4⟩ : ∃ w4, w4 = set3 w3 wr.heap.size t1.1 := ⟨_, rfl⟩
        have HB34 := Lib.hid (show Below wr.heap.size w3 w4 by rw [hw4]; exact set3_below (Nat.le_refl _) _ _ (Below.refl _ _))
        have HX14 := Lib.hid (show BoxC w4 wr.heap.size t1.1 by rw [hw4]; exact HX13.out.set _)
        have HX24 := Lib.hid (show BoxC w4 (wr.heap.size + 1) noCh by rw [hw4]; exact HX23.out.other (by omega) _)
        have HB4 := Lib.hid (HB3.out.trans HB34.out)
        have hs4 := HX24.out.lt
        unfold set3 at hw4
        rw [← hw4]
        clear hw4 x10 x11 x12 f10 f11 f12 HX13 HX23
        refine ⟨trivial, (callsIn_wide.2 (T2.out w4 (HR.out.2.row hsz2 |>.up HB4.out))).mono ?_⟩
        rintro e w5 ⟨A5, c5, rfl, r5, k5, m5, s5, hb5⟩
        have HN5 := Lib.hid (nrow_take HR.out.2 s5 r5 HLB.out)
        have HK5 := Lib.hid (And.intro k5 m5)
        have HB45 := Lib.hid (show Below wr.heap.size w4 w5 from hb5.mono (by omega))
        have HX15 := Lib.hid (HX14.out.below hb5 (by omega)); have HX25 := Lib.hid (HX24.out.below hb5 (by omega))
        obtain ⟨x20, x21, x22⟩ := HX25.out.cells
        have f20 := HX25.out.frozen 0; have f21 := HX25.out.frozen 1; have f22 := HX25.out.frozen 2
        have HB56 := Lib.hid (show Below wr.heap.size w5 (set3 w5 (wr.heap.size + 1) t2.1) from set3_below (Nat.le_succ _) _ _ (Below.refl _ _))
        have HY1 := HX15.out.other (B' := wr.heap.size + 1) (by omega) t2.1
        have HY2 := HX25.out.set t2.1
        obtain ⟨y10, y11, y12⟩ := HY1.cells
        obtain ⟨y20, y21, y22⟩ := HY2.cells
        obtain ⟨fn, tmps, assign, body, hyy, hR⟩ := hY pre (t1.1, t2.1) _ (abides_below HJ.out HP.out (HB4.out.trans (HB45.out.trans HB56.out))) HLT.out
        dsimp only at hyy
        have HYY := Lib.hid (And.intro HN3.out HN5.out)
        have HB36 := Lib.hid (HB34.out.trans (HB45.out.trans HB56.out))
        unfold set3 at y10 y11 y12 y20 y21 y22 hyy hR HB36 HB56
        clear r5 k5 m5 s5 hb5 HX14 HX24 HX15 HX25 HY1 HY2 T2
        gi_wp2_with fail
        refine hR.mono ?_
        rintro e W3 (⟨rfl, hJ3, hk3⟩ | ⟨rfl, hJx3⟩)
        · gi_wp2
          go_roundw
          case rel =>
            refine ⟨t1.2, t2.2, A3, A5, c3, c5, pre ++ [(t1.1, t2.1)], rfl, rfl, Lib.hid ⟨?_, ?_⟩, HTT, Lib.hid hJ3, HE2, ?_, HK3, HK5⟩
            · exact (HN3.out.keep (keepBut_below HB36.out hsz2)).keep hk3
            · exact (HN5.out.keep (keepBut_below HB56.out hsz2)).keep hk3
            · exact Nat.le_trans hsz (Nat.le_trans (HB4.out.trans (HB45.out.trans HB56.out)).size hk3.1)
          case measure => simp only [lenOf]; omega
        · gi_wp2
          refine bodyPost_ret (results_none rfl _ _ _) rfl ?_
          exact ⟨⟨_, rfl⟩, .inr ⟨_, trivial, hJx3⟩⟩
      · subst ha0
        simp only [List.length_nil] at *
        gi_wp2_with fail
        refine ⟨trivial, (callsIn_wide.2 C1.out).mono ?_⟩
        rintro e w1 ⟨rfl, q, rfl⟩
        gi_wp2_with fail
        obtain ⟨w2, hw2⟩ : ∃ w2, w2 = ((wr.drewN q).alloc (.cells #[.string noS, .string noS, .bool false] 46)).alloc (.cells #[.string noS, .string noS, .bool false] 46) := ⟨_, rfl⟩
        rw [← hw2]
        have hs2 : w2.heap.size = wr.heap.size + 2 := by rw [hw2]; simp
        have HB2 := Lib.hid (show Below wr.heap.size wr w2 by rw [hw2]; exact ((show Below wr.heap.size wr (wr.drewN q) from ⟨rfl, rfl, rfl, Nat.le_refl _, fun _ _ => rfl⟩).alloc (Nat.le_refl _) _).alloc (by simp) _)
        have HX1 := Lib.hid (show BoxC w2 wr.heap.size noCh by rw [hw2]; exact (BoxC.new (wr.drewN q) noCh).below ((Below.refl _ _).alloc (Nat.le_refl _) _) (by simp))
        have HX2 := Lib.hid (show BoxC w2 (wr.heap.size + 1) noCh by rw [hw2]; have := BoxC.new ((wr.drewN q).alloc (.cells #[.string noS, .string noS, .bool false] 46)) noCh; rw [World.size_alloc] at this; exact this)
        clear hw2
        refine ⟨trivial, (callsIn_wide.2 (T1.out w2 (HR.out.1.row hsz2 |>.up HB2.out))).mono ?_⟩
        rintro e w3 ⟨A3, c3, rfl, r3, k3, m3, s3, hb3⟩
        have HN3 := Lib.hid (nrow_take HR.out.1 s3 r3 HLA.out)
        have HK3 := Lib.hid (And.intro k3 m3)
        have HB3 := Lib.hid (show Below wr.heap.size wr w3 from HB2.out.trans (hb3.mono (by omega)))
        have HX13 := Lib.hid (HX1.out.below hb3 (by omega)); have HX23 := Lib.hid (HX2.out.below hb3 (by omega))
        obtain ⟨x10, x11, x12⟩ := HX13.out.cells
        have f10 := HX13.out.frozen 0; have f11 := HX13.out.frozen 1; have f12 := HX13.out.frozen 2
        clear r3 k3 m3 s3 hb3 HX1 HX2 HB2 T1 hs2
        gi_wp2_with fail
        obtain ⟨w4, hw4⟩ : ∃ w4, w4 = set3 w3 wr.heap.size t1.1 := ⟨_, rfl⟩
        have HB34 := Lib.hid (show Below wr.heap.size w3 w4 by rw [hw4]; exact set3_below (Nat.le_refl _) _ _ (Below.refl _ _))
        have HX14 := Lib.hid (show BoxC w4 wr.heap.size t1.1 by rw [hw4]; exact HX13.out.set _)
        have HX24 := Lib.hid (show BoxC w4 (wr.heap.size + 1) noCh by rw [hw4]; exact HX23.out.other (by omega) _)
        have HB4 := Lib.hid (HB3.out.trans HB34.out)
        have hs4 := HX24.out.lt
        unfold set3 at hw4
        rw [← hw4]
        clear hw4 x10 x11 x12 f10 f11 f12 HX13 HX23
        refine ⟨trivial, (callsIn_wide.2 (T2.out w4 (HR.out.2.row hsz2 |>.up HB4.out))).mono ?_⟩
        rintro e w5 ⟨A5, c5, rfl, r5, k5, m5, s5, hb5⟩
        have HN5 := Lib.hid (nrow_take HR.out.2 s5 r5 HLB.out)
        have HK5 := Lib.hid (And.intro k5 m5)
        have HB45 := Lib.hid (show Below wr.heap.size w4 w5 from hb5.mono (by omega))
        have HX15 := Lib.hid (HX14.out.below hb5 (by omega)); have HX25 := Lib.hid (HX24.out.below hb5 (by omega))
        obtain ⟨x20, x21, x22⟩ := HX25.out.cells
        have f20 := HX25.out.frozen 0; have f21 := HX25.out.frozen 1; have f22 := HX25.out.frozen 2
        have HB56 := Lib.hid (show Below wr.heap.size w5 (set3 w5 (wr.heap.size + 1) t2.1) from set3_below (Nat.le_succ _) _ _ (Below.refl _ _))
        have HY1 := HX15.out.other (B' := wr.heap.size + 1) (by omega) t2.1
        have HY2 := HX25.out.set t2.1
        obtain ⟨y10, y11, y12⟩ := HY1.cells
        obtain ⟨y20, y21, y22⟩ := HY2.cells
        obtain ⟨fn, tmps, assign, body, hyy, hR⟩ := hY pre (t1.1, t2.1) _ (abides_below HJ.out HP.out (HB4.out.trans (HB45.out.trans HB56.out))) HLT.out
        dsimp only at hyy
        have HYY := Lib.hid (And.intro HN3.out HN5.out)
        have HB36 := Lib.hid (HB34.out.trans (HB45.out.trans HB56.out))
        unfold set3 at y10 y11 y12 y20 y21 y22 hyy hR HB36 HB56
        clear r5 k5 m5 s5 hb5 HX14 HX24 HX15 HX25 HY1 HY2 T2
        gi_wp2_with fail
        refine hR.mono ?_
        rintro e W3 (⟨rfl, hJ3, hk3⟩ | ⟨rfl, hJx3⟩)
        · gi_wp2
          go_roundw
          case rel =>
            refine ⟨t1.2, t2.2, A3, A5, c3, c5, pre ++ [(t1.1, t2.1)], rfl, rfl, Lib.hid ⟨?_, ?_⟩, HTT, Lib.hid hJ3, HE2, ?_, HK3, HK5⟩
            · exact (HN3.out.keep (keepBut_below HB36.out hsz2)).keep hk3
            · exact (HN5.out.keep (keepBut_below HB56.out hsz2)).keep hk3
            · exact Nat.le_trans hsz (Nat.le_trans (HB4.out.trans (HB45.out.trans HB56.out)).size hk3.1)
          case measure => simp only [lenOf]; omega
        · gi_wp2
          refine bodyPost_ret (results_none rfl _ _ _) rfl ?_
          exact ⟨⟨_, rfl⟩, .inr ⟨_, trivial, hJx3⟩⟩
set_option maxHeartbeats 1000000 in
theorem nbn_in (n : Nat) (A A' : Option Addr) (l l' c c' : Nat) (w : World) :
    CallsIn Fence.wide n Try.prog 47 #[.slice A l c, .slice A' l' c'] w fun e w' => e = .returned (.func (.func 58) #[] #[.pointer (some ⟨w.heap.size, 0, none⟩), .pointer (some ⟨w.heap.size + 1, 0, none⟩)]) ∧ w' = (w.alloc (.cells #[.slice A l c] 22)).alloc (.cells #[.slice A' l' c'] 22) := by
  refine callsIn_of_wp Try.func47 rfl trivial ?_ rfl
  simp only [Try.ntmps47, List.size_toArray, List.length_cons, List.length_nil, Nat.reduceAdd, Nat.reduceSub, Array.replicate_succ, Array.replicate_zero, List.push_toArray, List.append_toArray, List.nil_append, List.cons_append]
  gi_wp2
  go_ret
  exact ⟨rfl, rfl⟩
abbrev pairV (x : Ch × Ch) : Array Value := #[.agg #[.string x.1.1, .string x.1.2.1, .bool x.1.2.2], .agg #[.string x.2.1, .string x.2.2.1, .bool x.2.2.2]]
theorem iter_stops (n : Nat) (hn : 1 ≤ n) (n0 Bt B1 B2 : Nat) (A A' : Option Addr) (c c' : Nat) (a b : List At) (w : World) (hn0 : n0 ≤ w.heap.size) (hB1 : B1 < w.heap.size) (hB2 : B2 < w.heap.size)
    (h1 : w.cell? ⟨B1, 0, none⟩ = some (.slice A a.length c)) (h2 : w.cell? ⟨B2, 0, none⟩ = some (.slice A' b.length c')) (ha : NRow w n0 Bt A a) (hb : NRow w n0 Bt A' b) (hsa : StS a) (hsb : StS b)
    (ca : a.length ≤ c ∧ c ≤ maxLen) (cb : b.length ≤ c' ∧ c' ≤ maxLen) :
    SeqStopsK Fence.wide n Try.prog 58 #[.pointer (some ⟨B1, 0, none⟩), .pointer (some ⟨B2, 0, none⟩)] pairV (KeepBut n0 Bt) (fun ys => ys = pairsD a b) (fun _ => True) (pairsD a b).length w := fun l J Jx W hW hJ _ hY h0 =>
  iter_in n hn l n0 Bt B1 B2 A A' c c' a b J Jx W hJ hY ((hW.cell (p := ⟨B1, 0, none⟩) hB1).trans h1) ((hW.cell (p := ⟨B2, 0, none⟩) hB2).trans h2) (ha.keep (keepBut_below hW hn0)) (hb.keep (keepBut_below hW hn0)) (Nat.le_trans hn0 hW.size) hsa hsb ca cb h0
end Go.Proofs.Yteamnjaepgfcmaa
