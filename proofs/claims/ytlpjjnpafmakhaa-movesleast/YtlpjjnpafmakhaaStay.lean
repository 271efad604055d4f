/-
  chosen, Stay, Least: who stays, and how many must be moved.
-/
import Derived.Test.YtlpjjnpafmakhaaLuOf
import Derived.Test.YtlpjjnpafmakhaaCheck
namespace Go.Proofs.Ytlpjjnpafmakhaa
open Go.RowKit
set_option linter.unusedVariables false

abbrev bools (bs : List Bool) : List Value := bs.map Value.bool
def BRow (w : World) (B : Nat) (A : Option Addr) (bs : List Bool) : Prop :=
  0 < bs.length → ∃ b off, A = some ⟨b, off, none⟩ ∧ b < B ∧ ∀ j, j < bs.length → w.cell? ⟨b, off + j, none⟩ = some (.bool (bs.getD j false))
theorem brow_at {w : World} {B : Nat} {A : Option Addr} {bs : List Bool} (h : BRow w B A bs) {j : Nat} (hj : j < bs.length) :
    ∃ b off x, A = some ⟨b, off, none⟩ ∧ b < B ∧ x = bs.getD j false ∧ w.cell? ⟨b, off + j, none⟩ = some (.bool x) := by
  obtain ⟨b, off, hA, hb, hc⟩ := h (by omega)
  exact ⟨b, off, _, hA, hb, rfl, hc j hj⟩
theorem BRow.below {w w' : World} {B : Nat} {A : Option Addr} {bs : List Bool} (h : BRow w B A bs) (hb : Below B w w') : BRow w' B A bs := by
  intro h0
  obtain ⟨b, off, hA, hlt, hc⟩ := h h0
  exact ⟨b, off, hA, hlt, fun j hj => (hb.cell (p := ⟨b, off + j, none⟩) hlt).trans (hc j hj)⟩
theorem BRow.mono {w : World} {B B' : Nat} {A : Option Addr} {bs : List Bool} (h : BRow w B A bs) (hb : B ≤ B') : BRow w B' A bs := by
  intro h0
  obtain ⟨b, off, hA, hlt, hc⟩ := h h0
  exact ⟨b, off, hA, by omega, hc⟩
theorem brow_own {w : World} {base : Nat} {v : Value} {bs : List Bool} (h : w.ownsRow base 4 1 v bs.length (bools bs)) :
    ∃ A cap, v = .slice A bs.length cap ∧ BRow w w.heap.size A bs ∧ bs.length ≤ cap ∧ cap ≤ maxLen ∧ (A = none → cap = 0) := by
  rcases h.2 with ⟨rfl, hn⟩ | ⟨g, cap, cur, rfl, _, hg, hnc, hcm, _, _⟩
  · exact ⟨none, 0, by rw [hn], fun h0 => by omega, by omega, by simp [maxLen], fun _ => rfl⟩
  · refine ⟨_, cap, rfl, fun _ => ⟨g, 0, rfl, (Array.getElem?_eq_some_iff.1 hg).1, fun j hj => ?_⟩, hnc, hcm, fun h => by cases h⟩
    rw [Nat.zero_add, World.ownsRow.cellAt h j (by omega)]
    simp [List.getD_eq_getElem?_getD, List.getElem?_eq_getElem hj]
def MadeB (w : World) (bs : List Bool) (e : Ending) (w' : World) : Prop :=
  ∃ A c, e = .returned (.slice A bs.length c) ∧ BRow w' w'.heap.size A bs ∧ bs.length ≤ c ∧ c ≤ maxLen ∧ (A = none → c = 0) ∧ Below w.heap.size w w'
theorem madeB_own {w w' : World} {base : Nat} {v : Value} {bs : List Bool} (h : w'.ownsRow base 4 1 v bs.length (bools bs)) (hb : Below w.heap.size w w') : MadeB w bs (.returned v) w' := by
  obtain ⟨A, c, rfl, h1, h2, h3, h4⟩ := brow_own h
  exact ⟨A, c, rfl, h1, h2, h3, h4, hb⟩
theorem Try.info4 : (Try.prog.info? 4).map (fun i => (i.zero, i.size, i.bytes)) = some (some (.bool false), 1, 1) := by kernel_rfl
theorem made_bools (n : Nat) : (madeCells (Value.bool false).cells (n * 1)).toList = bools (List.replicate n false) := by
  have : (Value.bool false).cells = #[.bool false] := rfl
  rw [this, toList_madeCells_one]; simp [bools]
theorem bools_set (T : List Bool) (p : Nat) (x : Bool) : (bools T).set p (.bool x) = bools (T.set p x) := by simp [bools, List.map_set]

/-- Who stays, after k of the chosen ones. -/
def fillS (l : List Int) (k : Nat) : List Bool := (List.range l.length).map fun i => decide (i ∈ (longL l).take k)
theorem fillS_length (l : List Int) (k : Nat) : (fillS l k).length = l.length := by simp [fillS]
theorem fillS_zero (l : List Int) : fillS l 0 = List.replicate l.length false := by
  simp [fillS, List.map_const']
theorem fillS_end (l : List Int) : fillS l (longL l).length = stayL l := by
  simp [fillS, stayL, stays]
theorem fillS_set {l : List Int} {k : Nat} (hk : k < (longL l).length) : (fillS l k).set (longL l)[k] true = fillS l (k + 1) := by
  apply List.ext_getElem
  · simp [fillS]
  · intro i h1 h2
    simp only [List.getElem_set, fillS, List.getElem_map, List.getElem_range]
    rw [List.take_succ_eq_append_getElem hk]
    by_cases h : (longL l)[k] = i
    · simp [h]
    · rw [if_neg h]
      apply decide_eq_decide.2
      rw [List.mem_append, List.mem_singleton]
      exact ⟨Or.inl, fun h1 => h1.elim id (fun e => absurd e.symm h)⟩
theorem bool_block {w : World} {base g n : Nat} {bs : List Bool} (h : w.ownsRow base 4 1 (.slice (some ⟨g, 0, none⟩) n n) n (bools bs)) {off : Nat} {x : Int} : ¬ w.cell? ⟨g, off, none⟩ = some (.int .i64 x) := by
  intro hc
  rcases h.2 with ⟨hn, _⟩ | ⟨g', cap, cur, he, hg, hh, h1, h2, hs, ht⟩
  · cases hn
  · simp at he
    obtain ⟨rfl, rfl⟩ := he
    have e1 : w.cell? ⟨g, off, none⟩ = cur[off]? := cell_of_row _ _ _ _ _ (0, 0) hh
    rw [e1] at hc
    have e2 : cur.toList = bools bs := by rw [← ht, List.take_of_length_le (by simp; omega)]
    have e3 : (bools bs)[off]? = some (.int .i64 x) := by rw [← e2]; simpa using hc
    simp [bools] at e3

def SRel (w : World) (l : List Int) (A : Option Addr) (i : Value) (wr : World) : Prop :=
  ∃ k : Nat, k ≤ (longL l).length ∧ i = .int .i64 k ∧ wr.ownsRow w.heap.size 4 1 (.slice (some ⟨w.heap.size, 0, none⟩) l.length l.length) l.length (bools (fillS l k)) ∧ RowS wr (· = w.heap.size) A (nats (longL l)) ∧ Below w.heap.size w wr
set_option maxRecDepth 100000 in
set_option maxHeartbeats 4000000 in
theorem chosen_any (A : Option Addr) (c : Nat) (l : List Int) (w : World) (hr : Row w w.heap.size A l) (hl : l.length ≤ 1000000) :
    Calls Try.prog 20 #[.slice A l.length c] w (MadeB w (stayL l)) := by
  obtain ⟨i0, hi, hz0, hz1, hz2⟩ := info_parts Try.info4
  have hby : i0.bytes * l.length ≤ 281474976710656 := by rw [hz2]; omega
  have HBY := Lib.hid hby; clear hby
  go_enter Try.func20, Try.ntmps20
  go_wp2_with (at_make; refine wpList_make_full _ rfl (.tmp 7) (.tmp 7) 28 rfl w.heap.size 4 i0 (.bool false) 1 Try.underlying28 hi hz0 hz1 .i64 .i64 _ _ l.length rfl rfl rfl rfl HBY.out (by unfold maxLen; omega) (Nat.le_refl _) ?_; intro w1 hown1 hg1; rw [made_bools, ← fillS_zero] at hown1; have HG := Lib.hid hg1; clear hg1)
  have hb1 : Below w.heap.size w w1 := (Below.refl _ _).grown HG.out (Nat.le_refl _) (fun k hk => by cases hk)
  refine (longest_any A c l w1 ((hr.below hb1).mono hb1.size) hl).mono ?_
  rintro e w2 ⟨A2, c2, rfl, hrow, -, -, -, hb2⟩
  have hlt1 := (hown1.lt w.heap.size rfl).2
  have hown2 := (kept_below hb2 (fun _ => False)).own hown1 (fun h => h)
  have hrs : RowS w2 (· = w.heap.size) A2 (nats (longL l)) := by
    intro h0
    obtain ⟨b, off, hA, hb, hc⟩ := hrow h0
    refine ⟨b, off, hA, hb, fun e => ?_, hc⟩
    have h1 := hc 0 h0
    have e' : b = w.heap.size := e
    rw [e'] at h1
    exact bool_block hown2 h1
  have hb02 := hb1.trans (hb2.mono hb1.size)
  have hLl : (longL l).length ≤ l.length := by
    have h1 : (longL l).length = lenL l := longL_length l
    have h2 := lenL_le l
    omega
  rw [nats_length]
  clear hrow hb1 hb2 hown1 hlt1 HG
  go_wp2_with fail
  go_loopw [12] (SRel w l A2) (fun i _ => (longL l).length - (intOf i).toNat)
  case atStart => exact ⟨0, by omega, rfl, hown2, hrs, hb02⟩
  case round =>
    clear hown2 hrs hb02
    obtain ⟨k, hk, rfl, hown, hrs, hbel⟩ := hrel
    by_cases hlt : k < (longL l).length
    · obtain ⟨b, off, rfl, hb, hsb, hra⟩ := hrs (by rw [nats_length]; omega)
      have cx := hra k (by rw [nats_length]; omega)
      obtain ⟨t, htd⟩ : ∃ t, t = (longL l)[k] := ⟨_, rfl⟩
      have etk : (nats (longL l)).getD k 0 = (t : Int) := by simp [nats, List.getD_eq_getElem?_getD, hlt, htd]
      rw [etk] at cx
      have htl : t < l.length := by rw [htd]; exact (long_low (List.getElem_mem _)).1
      obtain ⟨old, cb⟩ : ∃ old, wr.cell? ⟨w.heap.size, t, none⟩ = some old := by
        have h1 := hown.cellAt t (by omega)
        rw [List.getElem?_eq_getElem (by simp [fillS]; omega)] at h1
        exact ⟨_, h1⟩
      have fb := hown.frozenAt t
      have hst := hown.stored t (.bool true)
      rw [bools_set, htd, fillS_set hlt, ← htd] at hst
      obtain ⟨hst1, hst2⟩ := hst
      have HST := Lib.hid hst1; have HTD := Lib.hid htd; have HRS := Lib.hid hrs
      clear etk htd hra hown hrs hst1 hst2
      go_wp2_with fail
      have k1 := kept_setCell wr w.heap.size t (.bool true)
      refine ⟨⟨k + 1, by omega, by go_num, HST.out, HRS.out.kept k1, hbel.trans (k1.below hbel.size (fun k hk => by have : k = w.heap.size := hk; omega))⟩, by simp [intOf]; omega⟩
    · obtain rfl : k = (longL l).length := by omega
      rw [fillS_end] at hown
      have HO := Lib.hid hown; clear hown
      go_wp2_with fail
      go_ret
      have := HO.out
      refine madeB_own (base := w.heap.size) ?_ hbel
      rw [stayL_length]
      exact this

def stayB (l : List Int) : List Bool := if twice l then [] else stayL l
theorem stayB_yes {l : List Int} (h : twice l = true) : stayB l = [] := by unfold stayB; rw [h]; rfl
theorem stayB_no {l : List Int} (h : twice l = false) : stayB l = stayL l := by unfold stayB; rw [h]; rfl
set_option maxHeartbeats 1000000 in
theorem stay_any (A : Option Addr) (c : Nat) (l : List Int) (w : World) (hr : Row w w.heap.size A l) (hl : l.length ≤ 1000000) (hwf : Wf l) :
    Calls Try.prog 8 #[.slice A l.length c] w (MadeB w (stayB l)) := by
  cases ht : twice l with
  | true =>
    have HC := Lib.hid (check_any A c l w hr hl hwf)
    have HE := Lib.hid (errOf_yes ht); have HS := Lib.hid (stayB_yes ht)
    clear ht hwf
    go_enter Try.func8, Try.ntmps8
    go_wp2_with fail
    refine HC.out.mono ?_
    rintro e w1 ⟨rfl, hb1⟩
    rw [HE.out]
    go_wp2_with fail
    go_ret
    rw [HS.out]
    exact ⟨none, 0, rfl, fun h => by simp at h, by simp, by simp [maxLen], fun _ => rfl, hb1⟩
  | false =>
    have HC := Lib.hid (check_any A c l w hr hl hwf)
    have HE := Lib.hid (errOf_no ht); have HS := Lib.hid (stayB_no ht)
    clear ht hwf
    go_enter Try.func8, Try.ntmps8
    go_wp2_with fail
    refine HC.out.mono ?_
    rintro e w1 ⟨rfl, hb1⟩
    rw [HE.out]
    go_wp2_with fail
    refine (chosen_any A c l w1 ((hr.below hb1).mono hb1.size) hl).mono ?_
    rintro e w2 ⟨A2, c2, rfl, h1, h2, h3, h4, hb2⟩
    go_wp2_with fail
    go_ret
    rw [HS.out]
    exact ⟨A2, c2, rfl, h1, h2, h3, h4, hb1.trans (hb2.mono hb1.size)⟩

def leastB (l : List Int) : Nat := if twice l then 0 else least l
theorem leastB_yes {l : List Int} (h : twice l = true) : leastB l = 0 := by unfold leastB; rw [h]; rfl
theorem leastB_no {l : List Int} (h : twice l = false) : leastB l = least l := by unfold leastB; rw [h]; rfl
theorem leastTo_yes {l : List Int} {k : Nat} (h0 : 0 ≤ el l k) (hs : stays l k = false) : leastTo l (k + 1) = leastTo l k + 1 := by rw [leastTo_succ, hs]; simp [h0]
theorem leastTo_stay {l : List Int} {k : Nat} (hs : stays l k = true) : leastTo l (k + 1) = leastTo l k := by rw [leastTo_succ, hs]; simp
theorem leastTo_neg {l : List Int} {k : Nat} (h0 : el l k < 0) : leastTo l (k + 1) = leastTo l k := by
  have : ¬ 0 ≤ el l k := by omega
  rw [leastTo_succ]; simp [this]
set_option maxHeartbeats 2000000 in
theorem least_any (A : Option Addr) (c : Nat) (l : List Int) (w : World) (hr : Row w w.heap.size A l) (hl : l.length ≤ 1000000) (hwf : Wf l) :
    Calls Try.prog 11 #[.slice A l.length c] w fun e w' => e = .returned (.int .i64 (leastB l)) ∧ Below w.heap.size w w' := by
  have HS := Lib.hid (stay_any A c l w hr hl hwf)
  clear hwf
  go_enter Try.func11, Try.ntmps11
  go_wp2_with fail
  refine HS.out.mono ?_
  rintro e w1 ⟨A1, c1, rfl, hrow, -, -, -, hb1⟩
  have hr1 := hr.below hb1
  cases ht : twice l with
  | true =>
    have e1 := stayB_yes ht
    have HLB := Lib.hid (leastB_yes ht)
    rw [e1]
    clear e1 ht hrow hr hr1 HS
    simp only [List.length_nil]
    go_wp2_with fail
    go_loop [3, 9] (fun n i => n = .int .i64 0 ∧ i = .int .i64 0) (fun _ _ => 0)
    case atStart => exact ⟨rfl, rfl⟩
    case round =>
      obtain ⟨rfl, rfl⟩ := hrel
      go_wp2
      go_ret
      rw [HLB.out]
      exact ⟨rfl, hb1⟩
  | false =>
    have e1 := stayB_no ht
    rw [e1] at hrow
    have HLB := Lib.hid (leastB_no ht)
    rw [e1, stayL_length]
    clear e1 ht HS hr
    go_wp2_with fail
    go_loop [3, 9] (fun n i => ∃ k : Nat, k ≤ l.length ∧ i = .int .i64 k ∧ n = .int .i64 (leastTo l k)) (fun _ i => l.length - (intOf i).toNat)
    case atStart => exact ⟨0, by omega, rfl, rfl⟩
    case round =>
      obtain ⟨k, hk, rfl, rfl⟩ := hrel
      have hle := leastTo_le l k
      by_cases hlt : k < l.length
      · obtain ⟨b, off, x, rfl, hb, hx, hc⟩ := row_at hr1 hlt
        obtain ⟨b2, off2, y, rfl, hb2, hy, hc2⟩ := brow_at hrow (j := k) (by rw [stayL_length]; exact hlt)
        rw [stayL_at hlt] at hy
        have hx' : el l k = x := hx.symm
        by_cases h0 : x < 0
        · have hd : decide (0 ≤ x) = false := by simp; omega
          have HT := Lib.hid (leastTo_neg (show el l k < 0 by rw [hx']; exact h0))
          clear hx hy hx'
          go_wp2_with fail
          exact ⟨⟨k + 1, by omega, by go_num, by rw [HT.out]⟩, by simp [intOf]; omega⟩
        · have hd : decide (0 ≤ x) = true := by simp; omega
          cases y with
          | true =>
            have HT := Lib.hid (leastTo_stay hy.symm)
            clear hx hy hx'
            go_wp2_with fail
            exact ⟨⟨k + 1, by omega, by go_num, by rw [HT.out]⟩, by simp [intOf]; omega⟩
          | false =>
            have HT := Lib.hid (leastTo_yes (show 0 ≤ el l k by rw [hx']; omega) hy.symm)
            clear hx hy hx'
            go_wp2_with fail
            exact ⟨⟨k + 1, by omega, by go_num, by rw [HT.out]; go_num⟩, by simp [intOf]; omega⟩
      · obtain rfl : k = l.length := by omega
        go_wp2
        go_ret
        rw [HLB.out]
        exact ⟨rfl, hb1⟩
end Go.Proofs.Ytlpjjnpafmakhaa
