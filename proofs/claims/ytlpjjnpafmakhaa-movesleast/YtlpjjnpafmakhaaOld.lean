/-
  moves.oldThings: the things that are not new, as they stood.
-/
import Derived.Test.YtlpjjnpafmakhaaLU
import Derived.Test.YtlpjjnpafmakhaaShelf
namespace Go.Proofs.Ytlpjjnpafmakhaa
open Go.RowKit
set_option linter.unusedVariables false

def cmp3 (x y : Int) : Int := if x < y then -1 else if y < x then 1 else 0
theorem isNaN_any (x : Int) (w : World) : Calls Try.prog 47 #[.int .i64 x] w fun e w' => e = .returned (.bool false) ∧ w = w' := by
  go_enter Try.func47, Try.ntmps47
  go_wp2_with fail
  go_ret
  exact ⟨ret_bool (by simp), rfl⟩
set_option maxHeartbeats 1000000 in
theorem compare_any (x y : Int) (w : World) : Calls Try.prog 42 #[.int .i64 x, .int .i64 y] w fun e w' => e = .returned (.int .i64 (cmp3 x y)) ∧ w = w' := by
  go_enter Try.func42, Try.ntmps42
  go_wp2_with fail
  refine (isNaN_any x w).mono ?_
  rintro e w1 ⟨rfl, rfl⟩
  go_wp2_with fail
  refine (isNaN_any y w).mono ?_
  rintro e w1 ⟨rfl, rfl⟩
  by_cases h1 : x < y
  · go_wp2_with fail
    go_ret
    exact ⟨ret_int (by unfold cmp3; rw [if_pos h1]), rfl⟩
  · by_cases h2 : y < x
    · go_wp2_with fail
      go_ret
      exact ⟨ret_int (by unfold cmp3; rw [if_neg (by omega), if_pos h2]), rfl⟩
    · go_wp2_with fail
      go_ret
      exact ⟨ret_int (by unfold cmp3; rw [if_neg (by omega), if_neg (by omega)]), rfl⟩

/-- The closure: by where the things stood. -/
theorem closure_any (bx : Nat) (A : Option Addr) (c : Nat) (l : List Int) (a b : Nat) (w : World) (hbx : w.cell? ⟨bx, 0, none⟩ = some (.slice A l.length c)) (hr : Row w w.heap.size A l) (ha : a < l.length) (hb : b < l.length) (hl : l.length ≤ 1000000) :
    Calls Try.prog 41 #[.int .i64 a, .int .i64 b, .pointer (some ⟨bx, 0, none⟩)] w fun e w' => e = .returned (.int .i64 (cmp3 (el l a) (el l b))) ∧ ∃ q, w' = w.drewN q := by
  obtain ⟨g, off, rfl, hg, hc⟩ := hr (by omega)
  have ca := hc a ha
  have cb := hc b hb
  have hcon : ∀ n, Calls Try.prog 42 #[.int .i64 (el l a), .int .i64 (el l b)] (w.drewN n) fun e w' => e = .returned (.int .i64 (cmp3 (el l a) (el l b))) ∧ w' = w.drewN n := fun n => (compare_any (el l a) (el l b) (w.drewN n)).mono fun e w' h => ⟨h.1, h.2.symm⟩
  change w.cell? ⟨g, off + a, none⟩ = some (.int .i64 (el l a)) at ca
  change w.cell? ⟨g, off + b, none⟩ = some (.int .i64 (el l b)) at cb
  generalize cmp3 (el l a) (el l b) = r at hcon ⊢
  generalize el l a = x at hcon ca
  generalize el l b = y at hcon cb
  clear hr hc
  have HC := Lib.hid hcon; clear hcon
  go_enter Try.func41, Try.ntmps41
  go_wp2_with fail
  go_quiet ((go_at_call 42; exact Calls.quiet_of_same (HC.out _)))
  go_wp2
  go_ret
  exact ⟨rfl, _, rfl⟩

section
open Go.Shelf Go.Lib Go.Sort
theorem kept_sortWorld {α : Type} [Inhabited α] (enc : α → Value) (w : World) (blk off m : Nat) (dk : Array α) (os : Array Obj) : Kept (· = blk) w (sortWorld enc w blk off m dk os) := by
  unfold sortWorld
  refine ⟨rfl, rfl, rfl, by simp, fun k hk hne => ?_⟩
  rw [heap_grow_old _ _ (by simpa using hk)]
  have : blk ≠ k := fun e => hne e.symm
  simp [putRow, mapBlock, Sort.ahead, Array.getElem?_modify, this]
theorem own_sortWorld {α : Type} [Inhabited α] (enc : α → Value) {w : World} {base g cap m n : Nat} {e : TypeId} {os : Array Obj} {xs : List Value} {dk : Array α} (h : w.ownsRow base e 1 (.slice (some ⟨g, 0, none⟩) n cap) n xs) (hd : dk.size = n) :
    (sortWorld enc w g 0 m dk os).ownsRow base e 1 (.slice (some ⟨g, 0, none⟩) n cap) n (dk.toList.map enc) := by
  refine ⟨by simp [hd], .inr ?_⟩
  rcases h.2 with ⟨hn, _⟩ | ⟨g', cap', cur, he, hg, hh, h1, h2, hs, ht⟩
  · cases hn
  · simp at he
    obtain ⟨rfl, rfl⟩ := he
    have hgl : g < w.heap.size := (Array.getElem?_eq_some_iff.1 hh).1
    refine ⟨g, cap, putCells enc 0 dk cur, rfl, hg, ?_, h1, h2, by simp [putCells, hs], ?_⟩
    · unfold sortWorld
      rw [heap_grow_old _ _ (by simpa using hgl)]
      simp [putRow, mapBlock, Sort.ahead, Array.getElem?_modify, hh, onCells]
    · apply List.ext_getElem?
      intro j
      by_cases hj : j < n
      · rw [List.getElem?_take_of_lt (by omega), Array.getElem?_toList]
        simp [putCells, hd, hj, show j < cur.size by omega]
      · rw [List.getElem?_take_eq_none (by omega), List.getElem?_eq_none (by simp; omega)]
end

def oldTo (l : List Int) (k : Nat) : List Nat := (List.range k).filter fun i => decide (0 ≤ el l i)
theorem oldTo_yes {l : List Int} {k : Nat} (h : 0 ≤ el l k) : oldTo l (k + 1) = oldTo l k ++ [k] := by simp [oldTo, List.range_succ, List.filter_append, h]
theorem oldTo_no {l : List Int} {k : Nat} (h : el l k < 0) : oldTo l (k + 1) = oldTo l k := by simp [oldTo, List.range_succ, List.filter_append, h]
theorem oldTo_len (l : List Int) (k : Nat) : (oldTo l k).length ≤ k := by
  have := List.length_filter_le (fun i => decide (0 ≤ el l i)) (List.range k)
  simpa [oldTo] using this
theorem nats_snoc (s : List Nat) (x : Nat) : nats (s ++ [x]) = nats s ++ [(x : Int)] := by simp [nats]
theorem own_next' {w : World} {base : Nat} {v : Value} {L : List Int} {x : Int} {n : Nat} (hn : L.length = n) (h : w.ownsRow base 3 1 v (n + 1) (ints L ++ [.int .i64 x])) : OwnI w base v (L ++ [x]) := by
  subst hn
  unfold OwnI
  simpa using h

/-- The sort, at the things. -/
theorem sort_any (bx : Nat) (A : Option Addr) (c : Nat) (l : List Int) (g cap : Nat) (s : List Nat) (base : Nat) (w : World) (hbx : w.cell? ⟨bx, 0, none⟩ = some (.slice A l.length c)) (hr : Row w w.heap.size A l)
    (hrg : ∀ b off, A = some ⟨b, off, none⟩ → b ≠ g) (hbg : bx ≠ g) (hs : ∀ a ∈ s, a < l.length) (hs0 : 0 < s.length) (hl : l.length ≤ 1000000) (hsl : s.length ≤ 1000000)
    (hown : w.ownsRow base 3 1 (.slice (some ⟨g, 0, none⟩) s.length cap) s.length (ints (nats s))) :
    Calls Try.prog 40 #[.slice (some ⟨g, 0, none⟩) s.length cap, .func (.func 41) #[] #[.pointer (some ⟨bx, 0, none⟩)]] w fun e w' => e = .returned (.tuple #[]) ∧ ∃ t : List Nat, t.Perm s ∧ (t.Pairwise fun a b => el l a ≤ el l b) ∧
      w'.ownsRow base 3 1 (.slice (some ⟨g, 0, none⟩) s.length cap) s.length (ints (nats t)) ∧ Kept (· = g) w w' := by
  have hl0 : 0 < l.length := by
    obtain ⟨a, ha⟩ := List.exists_mem_of_length_pos hs0
    have := hs a ha; omega
  let α := { i : Nat // i < l.length }
  let inst : Inhabited α := ⟨⟨0, hl0⟩⟩
  let enc : α → Value := fun x => .int .i64 ((x.1 : Nat) : Int)
  let cf : α → α → Int := fun x y => cmp3 (el l x.1) (el l y.1)
  have hlt : ∀ x y : α, Go.Proofs.ltOf cf x y = decide (el l x.1 < el l y.1) := by
    intro x y
    unfold Go.Proofs.ltOf
    show decide (cmp3 _ _ < 0) = _
    unfold cmp3
    by_cases h1 : el l x.1 < el l y.1
    · simp [h1]
    · by_cases h2 : el l y.1 < el l x.1 <;> simp [h1, h2]
  have hO : Go.Sort.SWO (Go.Proofs.ltOf cf) :=
    { irrefl := fun x => by rw [hlt]; simp
      trans := fun x y z h1 h2 => by rw [hlt] at *; simp at *; omega
      ntrans := fun x y z h1 h2 => by rw [hlt] at *; simp at *; omega }
  let ds : List α := s.attach.map fun x => ⟨x.1, hs x.1 x.2⟩
  have hdl : ds.length = s.length := by simp [ds]
  have hmap : ds.map (fun x => x.1) = s := by simp [ds]
  have hdv : ∀ j (hj : j < ds.length), (ds[j]).1 = s[j]'(by omega) := by intro j hj; simp [ds]
  have hgl : g < w.heap.size := (hown.lt g rfl).2
  have hH : Go.Sort.Holds enc w g 0 ds.toArray := by
    intro j hj
    have hj' : j < ds.length := by simpa using hj
    refine ⟨?_, by rw [Nat.zero_add]; exact hown.frozenAt j⟩
    rw [Nat.zero_add, hown.cellAt j (by omega)]
    have e1 : ds.toArray[j]! = ds[j] := by simp [hj']
    rw [e1]
    show _ = some (Value.int .i64 (((ds[j]).1 : Nat) : Int))
    rw [hdv j hj']
    simp [ints, nats, show j < s.length by omega]
  have hcmp : Go.Proofs.CmpReads Try.prog 41 #[.pointer (some ⟨bx, 0, none⟩)] enc cf g 0 ds.toArray.size w := by
    intro m os dk hdk x y
    have hk := kept_sortWorld enc w g 0 m dk os
    refine closure_any bx A c l x.1 y.1 _ (hk.cellOf hbx hbg) ?_ x.2 y.2 hl
    intro h0
    obtain ⟨b, off, rfl, hb, hc⟩ := hr h0
    exact ⟨b, off, rfl, Nat.lt_of_lt_of_le hb hk.size, fun j hj => hk.cellOf (hc j hj) (hrg b off rfl)⟩
  have hcon := Go.Proofs.Any.slices_SortFunc (α := α) Try.sortI enc (fun _ => rfl) cf hO 41 #[.pointer (some ⟨bx, 0, none⟩)] g 0 cap ds.toArray w (enters_of Try.func41 (by kernel_rfl) rfl) hcmp.lays hH hgl (by simp; omega)
  change Calls Try.prog 40 _ _ _ at hcon
  have e0 : ds.toArray.size = s.length := by simp [hdl]
  rw [e0] at hcon
  refine hcon.mono ?_
  rintro e w' ⟨rfl, d', n, os, hp, hsrt, rfl⟩
  have hsz : d'.size = s.length := by rw [hp.1, e0]
  refine ⟨rfl, d'.toList.map (fun x => x.1), ?_, ?_, ?_, kept_sortWorld enc w g 0 n d' os⟩
  · have h1 := hp.2.2
    have e1 : (d'.extract 0 s.length) = d' := by rw [← hsz]; simp
    have e2 : (ds.toArray.extract 0 s.length) = ds.toArray := by rw [← e0]; simp
    rw [e1, e2] at h1
    have := h1.map (fun x : α => x.1)
    rwa [List.toList_toArray, hmap] at this
  · rw [List.pairwise_map]
    refine List.pairwise_iff_getElem.2 fun i j hi hj hij => ?_
    have h1 := hsrt i j (by omega) hij (by simpa [hsz] using hj)
    have hi' : i < d'.size := by simpa using hi
    have hj' : j < d'.size := by simpa using hj
    rw [hlt, getElem!_pos d' i hi', getElem!_pos d' j hj'] at h1
    simp at h1 ⊢
    exact h1
  · have := own_sortWorld enc (m := n) (os := os) (dk := d') hown hsz
    have e3 : d'.toList.map enc = ints (nats (d'.toList.map fun x => x.1)) := by simp [ints, nats, enc, Function.comp_def]
    rwa [e3] at this

/-- A slice of integers that the call made, in a block of its own. -/
def MadeO (w : World) (zs : List Int) (e : Ending) (w' : World) : Prop := ∃ v, e = .returned v ∧ OwnI w' (w.heap.size + 1) v zs ∧ Below w.heap.size w w'
def ORel (w1 : World) (B : Nat) (l : List Int) (v i : Value) (wr : World) : Prop := ∃ k : Nat, k ≤ l.length ∧ i = .int .i64 k ∧ OwnI wr B v (nats (oldTo l k)) ∧ Below B w1 wr
set_option maxRecDepth 100000 in
set_option maxHeartbeats 4000000 in
theorem oldThings_any (A : Option Addr) (c : Nat) (l : List Int) (w : World) (hr : Row w w.heap.size A l) (hl : l.length ≤ 1000000) (ht : twice l = false) :
    Calls Try.prog 31 #[.slice A l.length c] w (MadeO w (nats (startL l))) := by
  obtain ⟨i0, hi, hz0, hz1, hz2⟩ := info_parts Try.info3
  obtain ⟨w1, hw1⟩ : ∃ w1, w1 = w.alloc (.cells #[.slice A l.length c] 22) := ⟨_, rfl⟩
  have hb1 : Below w.heap.size w w1 := by rw [hw1]; exact (Below.refl _ _).alloc (Nat.le_refl _) _
  have hs1 : w1.heap.size = w.heap.size + 1 := by rw [hw1]; simp
  have hcx : w1.cell? ⟨w.heap.size, 0, none⟩ = some (.slice A l.length c) := by rw [hw1]; simp
  have hr1 : Row w1 w.heap.size A l := hr.below hb1
  have HW := Lib.hid hw1
  have HB1 := Lib.hid hb1
  have HS := Lib.hid hs1
  have HT := Lib.hid ht
  go_enter Try.func31, Try.ntmps31
  go_wp2_with fail
  rw [← HW.out]
  clear hw1 hb1 hs1 ht
  go_wp2_with fail
  go_loopw [3, 8] (ORel w1 (w.heap.size + 1) l) (fun _ i _ => l.length - (intOf i).toNat)
  case atStart => exact ⟨0, by omega, rfl, World.ownsRow_nil _ _ _ _, Below.refl _ _⟩
  case round =>
    obtain ⟨k, hk, rfl, hown, hbel⟩ := hrel
    have hsz := hbel.size
    have hs1 := HS.out
    have hlen := oldTo_len l k
    obtain ⟨Ao, co, rfl, hrow, hco, hcm, hA0⟩ := row_own hown
    rw [nats_length]
    rw [nats_length] at hco
    by_cases hlt : k < l.length
    · obtain ⟨b, off, x, rfl, hb, hx, hc⟩ := row_at (hr1.below (hbel.mono (by omega))) hlt
      have HX := Lib.hid hx
      clear hx hrow hA0
      by_cases h0 : 0 ≤ x
      · have HST := Lib.hid (oldTo_yes (l := l) (k := k) (by unfold el; rw [← HX.out]; exact h0))
        unfold OwnI at hown
        rw [nats_length] at hown
        go_wp2_with (at_builtin; refine wpList_app1 rfl _ _ 22 rfl (w.heap.size + 1) 3 i0 (.int .i64 0) 8 Try.underlying22 hi hz0 hz1 hz2 rfl _ _ _ rfl hown (.int .i64 (k : Int)) rfl rfl (by omega) (by simp [maxLen]; omega) (by omega) ?_; intro v' w2 hown2 hbel2)
        refine ⟨⟨k + 1, by omega, by go_num, ?_, hbel.trans hbel2⟩, by simp [intOf]; omega⟩
        rw [HST.out, nats_snoc]
        exact own_next' (nats_length _) hown2
      · have HST := Lib.hid (oldTo_no (l := l) (k := k) (by unfold el; rw [← HX.out]; omega))
        have HO := Lib.hid hown
        clear hown
        go_wp2_with fail
        refine ⟨⟨k + 1, by omega, by go_num, ?_, hbel⟩, by simp [intOf]; omega⟩
        rw [HST.out]
        have := HO.out
        rwa [nats_length] at this
    · obtain rfl : k = l.length := by omega
      have hbx : wr.cell? ⟨w.heap.size, 0, none⟩ = some (.slice A l.length c) := (hbel.cell (p := ⟨w.heap.size, 0, none⟩) (Nat.lt_succ_self _)).trans hcx
      have hold : oldTo l l.length = oldL l := rfl
      rw [hold]
      rw [hold] at hown hrow hco
      have hwend : ∀ (v : Value) (w5 : World) (t : List Nat), OwnI w5 (w.heap.size + 1) v (nats t) → Below (w.heap.size + 1) w1 w5 → IsStart l t → MadeO w (nats (startL l)) (.returned v) w5 := by
        intro v w5 t h5 hb5 hst
        rw [← isStart_only hst (start_is HT.out)]
        exact ⟨v, rfl, h5, HB1.out.trans (hb5.mono (by omega))⟩
      have HE := Lib.hid hwend; clear hwend
      rcases Nat.eq_zero_or_pos (oldL l).length with hz | hpos
      · have hnil : oldL l = [] := List.eq_nil_of_length_eq_zero hz
        have HN := Lib.hid hnil
        have HO := Lib.hid hown
        have hS := fun fv W => Go.Proofs.AnyF.slices_SortFunc_none (P := Try.prog) (ρ := Try.sortI_ren) { Try.sortI with } Ao co fv W
        have hS' : ∀ fv W, Calls Try.prog 40 #[.slice Ao 0 co, fv] W fun e w' => e = .returned (.tuple #[]) ∧ W = w' := fun fv W => (hS fv W).mono fun e w' h => ⟨h.1, h.2.symm⟩
        have HS' := Lib.hid hS'
        clear hS hS' hown hrow hco hnil hcx hbx hr1
        rw [hz]
        have hz' := Lib.hid hz
        clear hz
        go_wp2_with fail
        refine (HS'.out _ _).mono ?_
        rintro e w5 ⟨rfl, rfl⟩
        go_wp2
        go_ret
        have h6 := HO.out
        rw [nats_length, hz'.out] at h6
        refine HE.out _ _ [] ?_ hbel ?_
        · rw [HN.out] at h6; exact h6
        · have := start_is HT.out
          refine isStart_of HT.out ?_ List.Pairwise.nil
          rw [HN.out]
      · have hpos' : 0 < (nats (oldL l)).length := by rw [nats_length]; exact hpos
        obtain ⟨g, off, rfl, hg, hcell⟩ := hrow hpos'
        clear hcell
        unfold OwnI at hown
        rw [nats_length] at hown
        have hoff : off = 0 ∧ w.heap.size + 1 ≤ g := by
          rcases hown.2 with ⟨hn, _⟩ | ⟨g', cap, cur, he, hg', _⟩
          · cases hn
          · simp at he
            obtain ⟨⟨rfl, rfl⟩, rfl⟩ := he
            exact ⟨rfl, hg'⟩
        obtain ⟨rfl, hgb⟩ := hoff
        have hol : (oldL l).length ≤ l.length := oldTo_len l l.length
        have hsort := sort_any w.heap.size A c l g co (oldL l) (w.heap.size + 1) wr hbx ((hr1.below (hbel.mono (by omega))).mono (by omega)) (fun b off hA hbg => by
          subst hA
          rcases Nat.eq_zero_or_pos l.length with h0 | h0
          · omega
          · obtain ⟨b', off', hA', hb', _⟩ := hr h0
            simp at hA') (fun e => by omega) (fun a ha => (mem_old.1 ha).1) hpos hl (by omega) hown
        have HSO := Lib.hid hsort
        clear hsort hown hr1 hcx hbx
        go_wp2_with fail
        refine HSO.out.mono ?_
        rintro e w5 ⟨rfl, t, hp, hsrt, hown5, hk5⟩
        have htl := hp.length_eq
        have hfin := HE.out (.slice (some ⟨g, 0, none⟩) (oldL l).length co) w5 t (by unfold OwnI; rw [nats_length, htl]; exact hown5) (hbel.trans (hk5.below (by omega) (fun k hk => by have : k = g := hk; omega))) (isStart_of HT.out hp hsrt)
        clear hp hsrt hown5 hk5 htl
        go_wp2
        go_ret
        exact hfin
end Go.Proofs.Ytlpjjnpafmakhaa
