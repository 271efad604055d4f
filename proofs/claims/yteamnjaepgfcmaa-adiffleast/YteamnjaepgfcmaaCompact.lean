/-
  slices.CompactFunc at attributes: of neighbours of one name the first stays.
-/
import Derived.Test.YteamnjaepgfcmaaRow
import Derived.Test.YteamnjaepgfcmaaSymMath
import Derived.BigRegion
namespace Go.Proofs.Yteamnjaepgfcmaa
open Go.RowKit Go.Sort Go.Lib
set_option linter.unusedVariables false

theorem compL_take (l : List At) (i : Nat) (hi : i < l.length) (h0 : 0 < i) : compL (l.take (i + 1)) = compL (l.take i) ++ (if l[i].1 = l[i - 1].1 then [] else [l[i]]) := by
  rw [take_succ' l i hi, compL_snoc]
  have hne : l.take i ≠ [] := by
    intro e
    have := congrArg List.length e
    rw [List.length_take, List.length_nil] at this; omega
  have hl : (l.take i).getLast hne = l[i - 1] := by
    rw [List.getLast_eq_getElem]
    simp only [List.length_take, List.getElem_take]
    congr 1
    omega
  congr 1
  by_cases h : l[i].1 = l[i - 1].1
  · rw [if_pos h, if_pos ⟨hne, by rw [hl]; exact h⟩]
  · rw [if_neg h, if_neg (fun ⟨_, e⟩ => h (by rw [hl] at e; exact e))]
/-- The state of the second loop: i of d's elements are through, kk of them stay. -/
def CI (d : Array At) (i kk : Nat) (dk : Array At) : Prop := dk.size = d.size ∧ (∀ j, kk ≤ j → j < d.size → dk[j]! = d[j]!) ∧ dk.toList.take kk = compL (d.toList.take i)
theorem get_toList (d : Array At) (i : Nat) (h : i < d.size) : d.toList[i]'(by simpa using h) = d[i]! := by rw [getElem!_pos d i h]; simp
theorem CI.skip {d dk : Array At} {i kk : Nat} (h : CI d i kk dk) (hi : i < d.size) (h0 : 0 < i) (e : d[i]!.1 = d[i - 1]!.1) : CI d (i + 1) kk dk := by
  refine ⟨h.1, h.2.1, ?_⟩
  rw [compL_take _ i (by simpa using hi) h0, get_toList d i hi, get_toList d (i - 1) (by omega), if_pos e, List.append_nil]
  exact h.2.2
theorem CI.keep {d dk : Array At} {i kk : Nat} (h : CI d i kk dk) (hi : i < d.size) (h0 : 0 < i) (hk : kk < d.size) (e : d[i]!.1 ≠ d[i - 1]!.1) : CI d (i + 1) (kk + 1) (dk.setIfInBounds kk d[i]!) := by
  refine ⟨by simp [h.1], fun j hj hj2 => ?_, ?_⟩
  · have hj3 : j < dk.size := by rw [h.1]; exact hj2
    have := h.2.1 j (by omega) hj2
    rw [getElem!_pos dk j hj3] at this
    rw [getElem!_pos _ j (by simpa using hj3), Array.getElem_setIfInBounds, if_neg (by omega)]
    exact this
  · rw [compL_take _ i (by simpa using hi) h0, get_toList d i hi, get_toList d (i - 1) (by omega), if_neg e, ← h.2.2]
    have hk' : kk < dk.toList.length := by simp [h.1]; exact hk
    rw [Array.toList_setIfInBounds, List.take_set, List.take_add_one]
    rw [List.getElem?_eq_getElem hk', Option.toList_some, List.set_append_right _ _ (by simp; omega)]
    have e0 : kk - (List.take kk dk.toList).length = 0 := by simp at hk' ⊢; omega
    rw [e0]
    rfl
theorem CI.first {d : Array At} {k : Nat} (hk : k < d.size) (h0 : 0 < k) (hp : compL (d.toList.take k) = d.toList.take k) (e : d[k]!.1 = d[k - 1]!.1) : CI d (k + 1) k d := by
  refine ⟨rfl, fun _ _ _ => rfl, ?_⟩
  rw [compL_take _ k (by simpa using hk) h0, get_toList d k hk, get_toList d (k - 1) (by omega), if_pos e, List.append_nil, hp]
theorem comp_next {d : Array At} {k : Nat} (hk : k < d.size) (h0 : 0 < k) (hp : compL (d.toList.take k) = d.toList.take k) (e : d[k]!.1 ≠ d[k - 1]!.1) : compL (d.toList.take (k + 1)) = d.toList.take (k + 1) := by
  rw [compL_take _ k (by simpa using hk) h0, get_toList d k hk, get_toList d (k - 1) (by omega), if_neg e, hp, take_succ' _ k (by simpa using hk), get_toList d k hk]
/-- What the call hands back. -/
def CompPost (w0 : World) (blk off cap : Nat) (d : Array At) (e : Ending) (w' : World) : Prop :=
  e = .returned (.slice (some ⟨blk, off, none⟩) (compL d.toList).length cap) ∧ TRow w' w'.heap.size (some ⟨blk, off, none⟩) (compL d.toList) ∧ ∀ B, B ≤ blk → B ≤ w0.heap.size → Below B w0 w'
abbrev sameV : Value := .func (.func 44) #[] #[]
theorem comp_all {w0 wr : World} {blk off cap : Nat} {d d0 : Array At} (R : RK w0 blk off d0) (hs : d.size = d0.size) (S : SW w0 blk off d wr) (hp : compL d.toList = d.toList) : CompPost w0 blk off cap d (.returned (.slice (some ⟨blk, off, none⟩) d.size cap)) wr := by
  refine ⟨by rw [hp]; simp, ?_, fun B h1 h2 => SW.below S h1 h2⟩
  rw [hp]; exact SW.trow S R hs
set_option maxHeartbeats 4000000 in
set_option maxRecDepth 1000000 in
theorem compact_any (blk off cap : Nat) (d : Array At) (w0 : World) (R : RK w0 blk off d) (hsz : d.size < 4611686018427387904) (hcap : d.size ≤ cap) (hcm : cap ≤ maxLen) :
    Calls Try.prog 43 #[.slice (some ⟨blk, off, none⟩) d.size cap, sameV] w0 (CompPost w0 blk off cap d) := by
  have S0 := Lib.hid (show SW w0 blk off d w0 from SWK.start R.hH)
  have eg : ∀ args w, (callFunc 44 args).run Try.prog w = .ok (.enter 44 args) w := enters_of Try.func44 (by kernel_rfl) rfl
  unfold maxLen at hcm
  by_cases h2 : d.size < 2
  · have hp := Lib.hid (show compL d.toList = d.toList by
      match hl : d.toList with
      | [] => rfl
      | [x] => rfl
      | x :: y :: r => have := size_list' hl; simp at this; omega)
    have h2' : (d.size : Int) < 2 := by omega
    go_enter Try.func43, Try.ntmps43
    go_wp2
    go_ret
    exact comp_all R rfl S0.out hp.out
  · have h2' : ¬ (d.size : Int) < 2 := by omega
    have H1 := Lib.hid (show compL (d.toList.take 1) = d.toList.take 1 by
      match d.toList with
      | [] => rfl
      | x :: r => simp [compL, goC])
    go_enter Try.func43, Try.ntmps43
    go_wp2
    go_loopg [5, 6, 7] d.size (fun g s5 _ _ wr => ∃ k : Nat, s5 = .int .i64 k ∧ 1 ≤ k ∧ k ≤ d.size ∧ d.size - k ≤ g ∧ RowKit.Hid (SW w0 blk off d wr) ∧ RowKit.Hid (compL (d.toList.take k) = d.toList.take k))
    case atStart => exact ⟨1, rfl, by omega, by omega, by omega, S0, H1⟩
    case round =>
      clear S0 H1
      obtain ⟨k, rfl, hk1, hkd, hg, S1, HP⟩ := hrel
      by_cases hlt : k < d.size
      · obtain ⟨kp, rfl⟩ : ∃ kp, k = kp + 1 := ⟨k - 1, by omega⟩
        have h3 : (kp : Int) + 1 < (d.size : Int) := by omega
        have h4 : (kp : Int) < (d.size : Int) := by omega
        have i1 : ((kp : Int) + 1).toNat = kp + 1 := by omega
        have p1 : (0 : Int) ≤ (kp : Int) + 1 := by omega
        have r1 : IntKind.i64.wrap (kp : Int) = (kp : Int) := by rw [IntKind.wrap_i64]; omega
        have r2 : IntKind.i64.wrap ((kp : Int) + 1) = (kp : Int) + 1 := by rw [IntKind.wrap_i64]; omega
        have r3 : (kp : Int) + 1 - 1 = (kp : Int) := by omega
        obtain ⟨x, hx⟩ : ∃ x, x = d[kp + 1]! := ⟨_, rfl⟩
        obtain ⟨y, hy⟩ : ∃ x, x = d[kp]! := ⟨_, rfl⟩
        have c1 : ∀ n os, (grow (wr.drewN n) os).cell? ⟨blk, off + (kp + 1) * 2, none⟩ = some (.string x.1) := fun n os => by rw [hx]; exact (SW.cells (S1.out.grown n os) R rfl (kp + 1) (by omega)).1.1
        have c2 : ∀ n os, (grow (wr.drewN n) os).cell? ⟨blk, off + (kp + 1) * 2 + 1, none⟩ = some (.string x.2) := fun n os => by rw [hx]; exact (SW.cells (S1.out.grown n os) R rfl (kp + 1) (by omega)).1.2
        have c3 : ∀ n os, (grow (wr.drewN n) os).cell? ⟨blk, off + kp * 2, none⟩ = some (.string y.1) := fun n os => by rw [hy]; exact (SW.cells (S1.out.grown n os) R rfl kp (by omega)).1.1
        have c4 : ∀ n os, (grow (wr.drewN n) os).cell? ⟨blk, off + kp * 2 + 1, none⟩ = some (.string y.2) := fun n os => by rw [hy]; exact (SW.cells (S1.out.grown n os) R rfl kp (by omega)).1.2
        have HXX := Lib.hid hx; have HYY := Lib.hid hy
        clear hx hy
        have hcg : ∀ n os, Calls Try.prog 44 #[.agg #[.string x.1, .string x.2], .agg #[.string y.1, .string y.2]] (grow (wr.drewN n) os) fun e w' => e = .returned (.bool (decide (x.1 = y.1))) ∧ ∃ q os', w' = grow ((grow (wr.drewN n) os).drewN q) os' := fun n os => sameGrown x y _
        have mixed : Try.prog.follows .mixedOrders = true := by kernel_rfl
        by_cases hxy : x.1 = y.1
        · have hb : decide (x.1 = y.1) = true := decide_eq_true hxy
          have HI := Lib.hid (CI.first (k := kp + 1) hlt (by omega) HP.out (by rw [Nat.add_sub_cancel, ← HXX.out, ← HYY.out]; exact hxy))
          rw [hb] at hcg
          clear hb hxy HP
          go_wp2_with fail
          go_quiet_grown (first | (go_at_fn 44; refine Calls.grown_of (hcg _ _)))
          have S2 := Lib.hid (S1.out.grown nq osq)
          clear S1 c1 c2 c3 c4 hcg
          generalize grow (wr.drewN nq) osq = w1 at S2 ⊢
          go_wp2_with fail
          go_loopg [5, 7] d.size (fun g s5 s7 wr2 => ∃ (kk q : Nat) (dk : Array At), s5 = .int .i64 kk ∧ s7 = .int .i64 ((q : Int) + 1) ∧ kp + 1 + (q + 1) ≤ d.size ∧ kk < kp + 1 + (q + 1) ∧ d.size - (kp + 1 + (q + 1)) ≤ g ∧ RowKit.Hid (SW w0 blk off dk wr2) ∧ RowKit.Hid (CI d (kp + 1 + (q + 1)) kk dk))
          case atStart => exact ⟨kp + 1, 0, d, by go_num, rfl, by omega, by omega, by omega, S2, HI⟩
          case round =>
            clear S2 HI
            obtain ⟨kk, q, dk, rfl, rfl, hqd, hkk, hg2, S3, HI⟩ := hrel
            by_cases hlt2 : kp + 1 + (q + 1) < d.size
            · have e1 : (q : Int) + 1 < ((d.size - (kp + 1) : Nat) : Int) := by omega
              have e2 : (q : Int) < ((d.size - (kp + 1) : Nat) : Int) := by omega
              have e3 : ((q : Int) + 1).toNat = q + 1 := by omega
              have e4 : (0 : Int) ≤ (q : Int) + 1 := by omega
              have e5 : IntKind.i64.wrap (q : Int) = (q : Int) := by rw [IntKind.wrap_i64]; omega
              have e6 : IntKind.i64.wrap ((q : Int) + 1) = (q : Int) + 1 := by rw [IntKind.wrap_i64]; omega
              have e7 : (q : Int) + 1 - 1 = (q : Int) := by omega
              have e8 : (kk : Int) < (d.size : Int) := by omega
              have hds := Lib.hid HI.out.1
              obtain ⟨u, hu⟩ : ∃ x, x = d[kp + 1 + (q + 1)]! := ⟨_, rfl⟩
              obtain ⟨v, hv⟩ : ∃ x, x = d[kp + 1 + q]! := ⟨_, rfl⟩
              have du : dk[kp + 1 + (q + 1)]! = u := by rw [hu]; exact HI.out.2.1 _ (by omega) (by omega)
              have dv : dk[kp + 1 + q]! = v := by rw [hv]; exact HI.out.2.1 _ (by omega) (by omega)
              have a1 : off + (kp + 1) * 2 + (q + 1) * 2 = off + (kp + 1 + (q + 1)) * 2 := by omega
              have a2 : off + (kp + 1) * 2 + q * 2 = off + (kp + 1 + q) * 2 := by omega
              have c1 : ∀ n os, (grow (wr.drewN n) os).cell? ⟨blk, off + (kp + 1) * 2 + (q + 1) * 2, none⟩ = some (.string u.1) := fun n os => by rw [a1, ← du]; exact (SW.cells (S3.out.grown n os) R hds.out _ (by rw [hds.out]; omega)).1.1
              have c2 : ∀ n os, (grow (wr.drewN n) os).cell? ⟨blk, off + (kp + 1) * 2 + (q + 1) * 2 + 1, none⟩ = some (.string u.2) := fun n os => by rw [a1, ← du]; exact (SW.cells (S3.out.grown n os) R hds.out _ (by rw [hds.out]; omega)).1.2
              have c3 : ∀ n os, (grow (wr.drewN n) os).cell? ⟨blk, off + (kp + 1) * 2 + q * 2, none⟩ = some (.string v.1) := fun n os => by rw [a2, ← dv]; exact (SW.cells (S3.out.grown n os) R hds.out _ (by rw [hds.out]; omega)).1.1
              have c4 : ∀ n os, (grow (wr.drewN n) os).cell? ⟨blk, off + (kp + 1) * 2 + q * 2 + 1, none⟩ = some (.string v.2) := fun n os => by rw [a2, ← dv]; exact (SW.cells (S3.out.grown n os) R hds.out _ (by rw [hds.out]; omega)).1.2
              have HU := Lib.hid hu; have HV := Lib.hid hv; have DU := Lib.hid du; have A1 := Lib.hid a1
              clear hu hv du dv a1 a2
              have hcg : ∀ n os, Calls Try.prog 44 #[.agg #[.string u.1, .string u.2], .agg #[.string v.1, .string v.2]] (grow (wr.drewN n) os) fun e w' => e = .returned (.bool (decide (u.1 = v.1))) ∧ ∃ q os', w' = grow ((grow (wr.drewN n) os).drewN q) os' := fun n os => sameGrown u v _
              by_cases huv : u.1 = v.1
              · have hb : decide (u.1 = v.1) = true := decide_eq_true huv
                have HI2 := Lib.hid (CI.skip HI.out hlt2 (by omega) (by rw [show kp + 1 + (q + 1) - 1 = kp + 1 + q by omega, ← HU.out, ← HV.out]; exact huv))
                rw [hb] at hcg
                clear hb huv HI
                go_wp2_with fail
                go_quiet_grown (first | (go_at_fn 44; refine Calls.grown_of (hcg _ _)))
                have S4 := Lib.hid (S3.out.grown nq osq)
                clear S3 c1 c2 c3 c4 hcg
                generalize grow (wr.drewN nq) osq = w2 at S4 ⊢
                go_wp2_with fail
                go_roundg (d.size - (kp + 1 + (q + 1 + 1)))
                case measure => omega
                case rel => exact ⟨kk, q + 1, dk, rfl, by go_num, by omega, by omega, by omega, S4, HI2⟩
              · have hb : decide (u.1 = v.1) = false := decide_eq_false huv
                have HI2 := Lib.hid (CI.keep HI.out hlt2 (by omega) (by omega) (by rw [show kp + 1 + (q + 1) - 1 = kp + 1 + q by omega, ← HU.out, ← HV.out]; exact huv))
                rw [hb] at hcg
                clear hb huv HI
                go_wp2_with fail
                go_quiet_grown (first | (go_at_fn 44; refine Calls.grown_of (hcg _ _)))
                have S4 := Lib.hid (S3.out.grown nq osq)
                have d1 := c1 nq osq
                have d2 := c2 nq osq
                clear S3 c1 c2 c3 c4 hcg
                generalize grow (wr.drewN nq) osq = w2 at S4 d1 d2 ⊢
                have hkd2 : kk < dk.size := by rw [hds.out]; omega
                have S5 := Lib.hid (SW.set S4.out R.hblk kk u hkd2)
                obtain ⟨⟨d3, d4⟩, f3, f4⟩ := SW.cells S4.out R hds.out kk hkd2
                clear S4
                go_wp2_with fail
                generalize (w2.setCell ⟨blk, off + kk * 2, none⟩ (.string u.1)).setCell ⟨blk, off + kk * 2 + 1, none⟩ (.string u.2) = w3 at S5 ⊢
                go_roundg (d.size - (kp + 1 + (q + 1 + 1)))
                case measure => omega
                case rel => exact ⟨kk + 1, q + 1, dk.setIfInBounds kk u, by go_num, by go_num, by omega, by omega, by omega, S5, Lib.hid (by have := HI2.out; rw [← HU.out] at this; exact this)⟩
            · have e1 : ¬ (q : Int) + 1 < ((d.size - (kp + 1) : Nat) : Int) := by omega
              have e2 : kp + 1 + (q + 1) = d.size := by omega
              have hds := HI.out.1
              have hkd : kk < d.size := by omega
              have hkz : (kk : Int) ≤ (d.size : Int) := by omega
              have hkc : kk < cap := by omega
              have hCL := HI.out.2.2
              have eT : d.toList.take d.size = d.toList := List.take_of_length_le (by simp)
              rw [e2, eT] at hCL
              have hLen : (compL d.toList).length = kk := by rw [← hCL]; simp; omega
              have hHK := S3.out.holds R.hblk R.hH hds
              obtain ⟨vs, hvs, hcl⟩ := clear_run (w := wr) blk (off + kk * 2) (d.size - kk) (cap - kk) (by omega)
                (fun j hj => by rw [show off + kk * 2 + j = off + (kk * 2 + j) by omega, (hHK (kk * 2 + j) (by rw [size_flatK]; omega)).1]; rfl)
                (fun j hj => by rw [show off + kk * 2 + j = off + (kk * 2 + j) by omega]; exact (hHK (kk * 2 + j) (by rw [size_flatK]; omega)).2)
              have HF := Lib.hid (show CompPost w0 blk off cap d (.returned (.slice (some ⟨blk, off, none⟩) kk cap)) (wr.setCells blk (off + kk * 2) vs) by
                refine ⟨by rw [hLen], ?_, fun B h1 h2 => below_setCells blk h1 vs _ _ (SW.below S3.out h1 h2)⟩
                intro h0
                refine ⟨blk, off, rfl, by rw [size_setCells]; exact S3.out.lt R.hblk, fun j hj => ?_⟩
                have hjk : j < kk := by omega
                obtain ⟨⟨g1, g2⟩, _, _⟩ := SW.cells S3.out R hds j (by omega)
                have ej : (compL d.toList)[j] = dk[j]! := by
                  have : (compL d.toList)[j] = (dk.toList.take kk)[j]'(by simp; omega) := by congr 1; exact hCL.symm
                  rw [this, getElem!_pos dk j (by omega)]
                  simp
                rw [ej, World.cell?_setCells_out blk _ _ _ _ (fun _ _ => .inl (by show off + j * 2 < off + kk * 2; omega)), World.cell?_setCells_out blk _ _ _ _ (fun _ _ => .inl (by show off + j * 2 + 1 < off + kk * 2; omega))]
                exact ⟨g1, g2⟩)
              generalize wr.setCells blk (off + kk * 2) vs = w5 at hcl HF
              clear hHK hCL hLen hds HI S3 hvs
              go_wp2_with fail
              go_ret
              exact HF.out
        · have hb : decide (x.1 = y.1) = false := decide_eq_false hxy
          have HP2 := Lib.hid (comp_next (k := kp + 1) hlt (by omega) HP.out (by rw [Nat.add_sub_cancel, ← HXX.out, ← HYY.out]; exact hxy))
          rw [hb] at hcg
          clear hb hxy HP
          go_wp2_with fail
          go_quiet_grown (first | (go_at_fn 44; refine Calls.grown_of (hcg _ _)))
          have S2 := Lib.hid (S1.out.grown nq osq)
          clear S1 c1 c2 c3 c4 hcg
          generalize grow (wr.drewN nq) osq = w1 at S2 ⊢
          go_wp2_with fail
          go_roundg (d.size - (kp + 1 + 1))
          case measure => omega
          case rel => exact ⟨kp + 1 + 1, by go_num, by omega, by omega, by omega, S2, HP2⟩
      · have h3 : ¬ (k : Int) < (d.size : Int) := by omega
        have hp := Lib.hid (show compL d.toList = d.toList by
          have := HP.out
          rw [List.take_of_length_le (by simp; omega)] at this
          exact this)
        go_wp2_with fail
        go_ret
        exact comp_all R rfl S1.out hp.out
end Go.Proofs.Yteamnjaepgfcmaa
