/-
  lis.Longest: what it answers.
-/
import Derived.Test.YtlpjjnpafmakhaaEnds
import Derived.Test.YtlpjjnpafmakhaaFrame
namespace Go.Proofs.Ytlpjjnpafmakhaa
open Go.RowKit
set_option linter.unusedVariables false

theorem Try.size3 : (Try.prog.info? 3).map (·.size) = some 1 := by kernel_rfl
/-- A row copied over a row of the call's own of the same length. -/
theorem wpList_copyAll {P : Program} {w : World} {ops : Array Oper} {rest : List Oper} {o : Oper} {a : Act} {Q : Exit → Act → World → Prop} (hgd : o.guard = none) (d s : Operand) (dT sT : TypeId)
    (ho : o.op = .call { callee := .builtin .copy, args := #[d, s], argTypes := #[dT, sT] }) (hu : P.underlying dT = some (.slice 3)) (hsz : (P.info? 3).map (·.size) = some 1)
    (base g n b off sCap : Nat) (hd : a.eval d = .slice (some ⟨g, 0, none⟩) n n) (hs : a.eval s = .slice (some ⟨b, off, none⟩) n sCap)
    (xs zs : List Int) (hown : w.ownsRow base 3 1 (.slice (some ⟨g, 0, none⟩) n n) n (ints xs)) (hz : zs.length = n) (hr : RowAt w b off zs)
    (h : ∀ w', w'.ownsRow base 3 1 (.slice (some ⟨g, 0, none⟩) n n) n (ints zs) → Kept (· = g) w w' → wpList P ops Q rest (a.put o.dst (goInt n)) w') : wpList P ops Q (o :: rest) a w := by
  have hblk := own_block hown
  have hxl : xs.length = n := by have := hown.1; simpa using this
  have hcl : (ints zs).length = n := by simp [ints, hz]
  have hbase : base ≤ g ∧ n ≤ maxLen := by
    rcases hown.2 with ⟨hn, _⟩ | ⟨g', cap, cur, he, hg, hh, h1, h2, _⟩
    · cases hn
    · simp at he
      obtain ⟨rfl, rfl⟩ := he
      exact ⟨hg, h2⟩
  refine wpList_copy_own hgd d s dT sT ho 3 hu hsz g 0 n n ⟨b, off, none⟩ n sCap hd hs _ 3 hblk (ints zs) (by rw [hcl]; exact (Nat.min_self n).symm) hr.news (by simp; omega) (ints_oneCell _ _) ?_
  have hrow : (w.setRow g ((ints xs).toArray.toList.take 0 ++ (ints zs ++ (ints xs).toArray.toList.drop (0 + (ints zs).length))).toArray).heap[g]? = some (.cells (ints zs).toArray 3 (0, 0)) := by
    rw [setRow_heap w g _ _ 3 _ hblk]
    congr 2
    simp [hxl, hz]
  have hh := h _ (block_own hrow hbase.1 hz hbase.2) (kept_setRow w g _)
  rw [hcl] at hh ⊢
  exact hh

structure LInv (l : List Int) (lim wd : Nat) (suf : List Nat) (rm : List Int) : Prop where
  list : chosen l lim wd ++ suf = longL l
  has : Has l lim wd
  low : lim ≤ l.length
  len : rm.length = l.length
  room : rm.drop (l.length - suf.length) = nats suf
  sum : suf.length + wd ≤ l.length
theorem LInv.start (l : List Int) : LInv l l.length (lenL l) [] (List.replicate l.length 0) := by
  refine ⟨by simp [longL], Has.start l, Nat.le_refl _, by simp, ?_, by have := lenL_le l; simpa using this⟩
  simp [nats]
theorem LInv.hit {l : List Int} {k wd : Nat} {suf : List Nat} {rm : List Int} (h : LInv l (k + 1) (wd + 1) suf rm) (he : en l k = wd + 1) : LInv l k wd (k :: suf) (rm.set (l.length - suf.length - 1) (k : Int)) := by
  have hs := h.sum
  refine ⟨?_, Has.hit he, by have := h.low; omega, by simp [h.len], ?_, by simp; omega⟩
  · rw [← h.list, chosen_hit he]; simp
  · have h1 := h.room
    have hl := h.len
    have e1 : l.length - (k :: suf).length = l.length - suf.length - 1 := by simp; omega
    rw [e1, List.drop_eq_getElem_cons (by simp; omega)]
    have e2 : l.length - suf.length - 1 + 1 = l.length - suf.length := by omega
    rw [e2]
    have e3 : (rm.set (l.length - suf.length - 1) (k : Int)).drop (l.length - suf.length) = rm.drop (l.length - suf.length) := by
      rw [List.drop_set_of_lt (by omega)]
    rw [e3, h1]
    simp [nats]
theorem LInv.miss {l : List Int} {k wd : Nat} {suf : List Nat} {rm : List Int} (h : LInv l (k + 1) (wd + 1) suf rm) (he : en l k ≠ wd + 1) : LInv l k (wd + 1) suf rm := by
  refine ⟨?_, Has.miss h.has he, by have := h.low; omega, h.len, h.room, h.sum⟩
  rw [← h.list, chosen_miss he]
theorem LInv.done {l : List Int} {lim : Nat} {suf : List Nat} {rm : List Int} (h : LInv l lim 0 suf rm) : suf = longL l := by
  have := h.list
  rw [chosen_zero] at this
  simpa using this

def LRel (w1 : World) (g : Nat) (l : List Int) (st wd i : Value) (wr : World) : Prop :=
  ∃ (lim n : Nat) (suf : List Nat) (rm : List Int), i = .int .i64 ((lim : Int) - 1) ∧ wd = .int .i64 n ∧ st = .int .i64 ((l.length - suf.length : Nat) : Int) ∧ LInv l lim n suf rm ∧
    wr.ownsRow g 3 1 (.slice (some ⟨g, 0, none⟩) l.length l.length) l.length (ints rm) ∧ Below w1.heap.size w1 wr

set_option maxRecDepth 100000 in
set_option maxHeartbeats 4000000 in
theorem longest_any (A : Option Addr) (c : Nat) (l : List Int) (w : World) (hr : Row w w.heap.size A l) (hl : l.length ≤ 1000000) :
    Calls Try.prog 28 #[.slice A l.length c] w (Made w (nats (longL l))) := by
  obtain ⟨i0, hi, hz0, hz1, hz2⟩ := info_parts Try.info3
  have hby : ∀ n, n ≤ l.length → i0.bytes * n ≤ 281474976710656 := by intro n hn; rw [hz2]; omega
  have HBY := Lib.hid hby; clear hby
  go_enter Try.func28, Try.ntmps28
  go_wp2_with fail
  refine (ends_any A c l w hr hl).mono ?_
  rintro e w1 ⟨A1, c1, rfl, hrow, -, -, -, hb1⟩
  have hel := endsL_length l
  rw [hel]
  have HEL := Lib.hid hel; clear hel
  go_wp2_with (at_make; refine wpList_make_full _ rfl (.tmp 12) (.tmp 12) 22 rfl w1.heap.size 3 i0 (.int .i64 0) 1 Try.underlying22 hi hz0 hz1 .i64 .i64 _ _ l.length rfl rfl rfl rfl (HBY.out _ (Nat.le_refl _)) (by unfold maxLen; omega) (Nat.le_refl _) ?_; intro w2 hown2 hg2; rw [made_ints] at hown2; have HG2 := Lib.hid hg2; clear hg2)
  have hb2 : Below w1.heap.size w1 w2 := (Below.refl _ _).grown HG2.out (Nat.le_refl _) (fun k hk => by cases hk)
  have cg := greatest_any A1 c1 (enTo l l.length) _ w2 (hrow.below hb2) (by rw [enTo_length]; exact hl)
  rw [mxs_ends, enTo_length] at cg
  refine cg.mono ?_
  clear cg
  rintro e w3 ⟨rfl, rfl⟩
  have hll := lenL_le l
  go_wp2
  go_loopw [5, 6, 7] (LRel w1 w1.heap.size l) (fun _ _ i _ => (intOf i + 1).toNat)
  case atStart => exact ⟨l.length, lenL l, [], _, by go_num, rfl, by simp, LInv.start l, hown2, hb2⟩
  case round =>
    clear hown2 hb2 hll
    obtain ⟨lim, n, suf, rm, rfl, rfl, rfl, hinv, hown, hbel⟩ := hrel
    have hlow := hinv.low
    have hsum := hinv.sum
    have hrl := hinv.len
    have HI := Lib.hid hinv; clear hinv
    cases n with
    | zero =>
      have hfin := HI.out.done
      obtain ⟨q, hq⟩ : ∃ q, l.length - suf.length = q := ⟨_, rfl⟩
      have hrow4 : RowAt wr w1.heap.size q (nats suf) := by
        have hd := HI.out.room
        rw [hq] at hd
        intro j hj
        rw [hown.cellAt (q + j) (by rw [nats_length] at hj; omega), ← hd]
        rw [← hd, List.length_drop, hrl] at hj
        simp [hrl, show q + j < l.length by omega, List.getD_eq_getElem?_getD]
      have hsl : (nats suf).length = l.length - q := by rw [nats_length]; omega
      have hql : q ≤ l.length := by omega
      rw [hq]
      have hsz := (hown.lt w1.heap.size rfl).2
      clear hown hq hsum hrl
      have HSL := Lib.hid hsl
      have HFIN := Lib.hid hfin
      clear hsl hfin
      have hgood : ∀ (w5 : World) (v : Value), OwnI w5 w1.heap.size v (nats suf) → Below w1.heap.size w1 w5 → Made w (nats (longL l)) (.returned v) w5 := by
        intro w5 v h5 hb5
        rw [← HFIN.out]
        exact made_own h5 (hb1.trans (hb5.mono hb1.size))
      have HGD := Lib.hid hgood; clear hgood
      by_cases hqe : q = l.length
      · subst hqe
        obtain rfl : suf = [] := List.eq_nil_of_length_eq_zero (by have := HSL.out; rw [nats_length] at this; omega)
        have hr0 : ∀ w', RowAt w' w1.heap.size 0 [] := fun w' j hj => by simp at hj
        go_wp2_with (first
          | (at_make; refine wpList_make_full _ rfl (.tmp 42) (.tmp 42) 22 rfl w1.heap.size 3 i0 (.int .i64 0) 1 Try.underlying22 hi hz0 hz1 .i64 .i64 _ _ 0 rfl rfl (by omega) (by omega) (HBY.out _ (by omega)) (by unfold maxLen; omega) (by omega) ?_; intro w4 hown4 hg4; rw [made_ints] at hown4; have HG4 := Lib.hid hg4; clear hg4)
          | (with_reducible refine wpList_copyAll rfl (.tmp 44) (.tmp 47) 22 22 rfl Try.underlying22 Try.size3 w1.heap.size wr.heap.size 0 w1.heap.size 0 _ rfl rfl _ [] hown4 rfl (hr0 _) ?_; intro w5 hown5 hk5))
        go_ret
        have hb4 : Below w1.heap.size w1 w4 := hbel.grown HG4.out (by omega) (fun k hk => by cases hk)
        refine HGD.out _ _ ?_ (hb4.trans (hk5.below hb4.size (fun k hk => by have : k = wr.heap.size := hk; omega)))
        exact hown5
      · go_wp2_with (first
          | (at_make; refine wpList_make_full _ rfl (.tmp 42) (.tmp 42) 22 rfl w1.heap.size 3 i0 (.int .i64 0) 1 Try.underlying22 hi hz0 hz1 .i64 .i64 _ _ (l.length - q) rfl rfl (by omega) (by omega) (HBY.out _ (by omega)) (by unfold maxLen; omega) (by omega) ?_; intro w4 hown4 hg4; rw [made_ints] at hown4; have HG4 := Lib.hid hg4; clear hg4; have hrow5 : RowAt w4 w1.heap.size q (nats suf) := hrow4.kept (kept_below ((Below.refl _ _).grown HG4.out (Nat.le_refl _) (fun k hk => by cases hk)) (fun _ => False)) (fun h => h))
          | (with_reducible refine wpList_copyAll rfl (.tmp 44) (.tmp 47) 22 22 rfl Try.underlying22 Try.size3 w1.heap.size wr.heap.size (l.length - q) w1.heap.size q _ rfl rfl _ (nats suf) hown4 HSL.out hrow5 ?_; intro w5 hown5 hk5))
        go_ret
        have hb4 : Below w1.heap.size w1 w4 := hbel.grown HG4.out (by omega) (fun k hk => by cases hk)
        refine HGD.out _ _ ?_ (hb4.trans (hk5.below hb4.size (fun k hk => by have : k = wr.heap.size := hk; omega)))
        unfold OwnI
        rw [HSL.out]
        exact hown5
    | succ n =>
      obtain ⟨k, rfl⟩ : ∃ k, lim = k + 1 := ⟨lim - 1, by have := HI.out.has.pos; omega⟩
      obtain ⟨b, off, x, rfl, hb, hx, hc⟩ := row_at (hrow.below hbel) (show k < (endsL l).length by rw [HEL.out]; omega)
      rw [endsL_at (by omega)] at hx
      have e1 : ((k + 1 : Nat) : Int) - 1 = k := by omega
      rw [e1]
      have HX := Lib.hid hx
      clear hx e1
      by_cases he : x = n + 1
      · subst he
        have hin := HI.out.hit (by have := HX.out; omega)
        have HIN := Lib.hid hin; clear hin
        obtain ⟨q, hq⟩ : ∃ q, l.length - suf.length = q + 1 := ⟨l.length - suf.length - 1, by omega⟩
        have hql : q < l.length := by omega
        have hcs : wr.cell? ⟨w1.heap.size, q, none⟩ = some (.int .i64 (rm.getD q 0)) := by
          rw [hown.cellAt q (by omega)]; simp [hrl, hql]
        have hfz := hown.frozenAt q
        have hst := hown.stored q (.int .i64 (k : Int))
        rw [ints_set] at hst
        have e2 : l.length - suf.length - 1 = q := by omega
        rw [e2] at HIN
        have HST := Lib.hid hst
        have HQ := Lib.hid hq
        rw [hq]
        clear hst hown hq e2
        go_wp2_with fail
        have := HQ.out
        exact ⟨⟨k, n, k :: suf, rm.set q (k : Int), by go_num, by go_num, by simp; omega, HIN.out, HST.out.1, hbel.setCell (Nat.le_refl _) _⟩, by simp [intOf]⟩
      · have he' : (x == (n : Int) + 1) = false := by simpa using he
        have hin := HI.out.miss (by have := HX.out; omega)
        go_wp2_with fail
        exact ⟨⟨k, n + 1, suf, rm, by go_num, by go_num, rfl, hin, hown, hbel⟩, by simp [intOf]⟩
end Go.Proofs.Ytlpjjnpafmakhaa
