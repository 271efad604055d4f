/-
  tendrilref06.Longest: what it answers.
-/
import Derived.Test.YtlpjjnpafmakhaaRefs
namespace Go.Proofs.Ytlpjjnpafmakhaa
open Go.RowKit
set_option linter.unusedVariables false

/-- One element ahead of a row: what is appended is the row. -/
theorem wpList_pre1 {P : Program} {w : World} {ops : Array Oper} {rest : List Oper} {o : Oper} {a : Act} {Q : Exit → Act → World → Prop} (hgd : o.guard = none) (s x : Operand) (t : TypeId)
    (ho : o.op = .call { callee := .builtin .append, args := #[s, x], argTypes := #[t, t] })
    (base : Nat) (i : TypeInfo) (ht : P.underlying t = some (.slice 3)) (hi : P.info? 3 = some i) (hz : i.zero = some (.int .i64 0))
    (hsize : i.size = 1) (hby : i.bytes = 8)
    (u : Int) (hs : a.eval s = .slice (some ⟨w.heap.size, 0, none⟩) 1 1) (A : Option Addr) (c : Nat) (ms : List Int) (hx : a.eval x = .slice A ms.length c) (hr : Row w w.heap.size A ms) (hc0 : A = none → c = 0)
    (hbytes : ms.length ≤ 1000000) (hbase : base ≤ w.heap.size)
    (h : ∀ v' w', OwnI w' base v' (u :: ms) → Below base w w' → wpList P ops Q rest (a.put o.dst v') w') : wpList P ops Q (o :: rest) a (w.alloc (.cells #[.int .i64 u] 3)) := by
  have hown : (w.alloc (.cells #[.int .i64 u] 3)).ownsRow base 3 1 (.slice (some ⟨w.heap.size, 0, none⟩) 1 1) 1 [.int .i64 u] := by
    have := World.ownsRow_lit (base := base) (e := 3) (size := 1) w #[.int .i64 u] 1 hbase (by simp [maxLen]) rfl
    simpa using this
  have hb0 : Below base w (w.alloc (.cells #[.int .i64 u] 3)) := (Below.refl _ _).alloc hbase _
  have hrw : Row (w.alloc (.cells #[.int .i64 u] 3)) w.heap.size A ms := hr.below ((Below.refl _ _).alloc (Nat.le_refl _) _)
  cases A with
  | none =>
    have hms : ms = [] := by
      rcases Nat.eq_zero_or_pos ms.length with h0 | h0
      · exact List.eq_nil_of_length_eq_zero h0
      · obtain ⟨_, _, h, _⟩ := hr h0; cases h
    subst hms
    obtain rfl := hc0 rfl
    exact wpList_append_own_none hgd s x t ho base 3 i 1 ht hi _ 1 _ hs hown hx (h _ _ hown hb0)
  | some ad =>
    have hnews : ∀ j y, (ints ms)[j]? = some y → (w.alloc (.cells #[.int .i64 u] 3)).cell? (ad.add j) = some y := by
      intro j y hj
      have hjl : j < ms.length := by have := (List.getElem?_eq_some_iff.1 hj).1; simpa using this
      obtain ⟨b, off, hA, _, hc⟩ := hrw (by omega)
      obtain rfl : ad = ⟨b, off, none⟩ := by simpa using hA
      rw [Addr.add_lit, hc j hjl]
      simp [ints, hjl] at hj
      simp [List.getD_eq_getElem?_getD, List.getElem?_eq_getElem hjl, hj]
    refine wpList_append_own _ hgd s x t ho base 3 i (.int .i64 0) 1 8 ht hi hz hsize hby rfl (by omega) _ 1 _ hs hown ad ms.length c (ints ms) hx (by simp) hnews (ints_oneCell _ _) (by unfold maxLen; omega) (by omega) (Nat.le_trans hbase hb0.size) ?_
    intro v' w' hown' hgrow _
    refine h v' w' ?_ (hb0.grown hgrow (Nat.le_trans hbase hb0.size) (fun k hk => (hown.lt k hk).1))
    unfold OwnI
    simpa [Nat.add_comm] using hown'

/-- The last index so far with the wanted value, or -1. -/
def Last (l : List Int) (wd m : Nat) (a : Int) : Prop :=
  (a = -1 ∧ ∀ k, k < m → en l k ≠ wd) ∨ ∃ j : Nat, a = j ∧ j < m ∧ en l j = wd ∧ ∀ k, j < k → k < m → en l k ≠ wd
theorem Last.miss {l : List Int} {wd m : Nat} {a : Int} (h : Last l wd m a) (hn : en l m ≠ wd) : Last l wd (m + 1) a := by
  rcases h with ⟨h1, h2⟩ | ⟨j, h1, h2, h3, h4⟩
  · refine .inl ⟨h1, fun k hk => ?_⟩
    rcases Nat.lt_or_ge k m with h | h
    · exact h2 k h
    · obtain rfl : k = m := by omega
      exact hn
  · refine .inr ⟨j, h1, by omega, h3, fun k hk hk' => ?_⟩
    rcases Nat.lt_or_ge k m with h | h
    · exact h4 k hk h
    · obtain rfl : k = m := by omega
      exact hn
theorem Last.hit {l : List Int} {wd m : Nat} (he : en l m = wd) : Last l wd (m + 1) m := .inr ⟨m, rfl, by omega, he, fun k h1 h2 => by omega⟩

def RLIn (w1 : World) (l : List Int) (v : Value) (suf : List Nat) (base lim wd : Nat) (at_ i : Value) (wr : World) : Prop :=
  ∃ (m : Nat) (a : Int), m ≤ lim ∧ i = .int .i64 m ∧ at_ = .int .i64 a ∧ Last l wd m a ∧ OwnI wr base v (nats suf) ∧ Below w1.heap.size w1 wr
structure RInv (l : List Int) (lim wd : Nat) (suf : List Nat) : Prop where
  list : chosen l lim wd ++ suf = longL l
  has : Has l lim wd
  low : lim ≤ l.length
  sum : suf.length + wd = lenL l
def RLRel (w1 : World) (l : List Int) (v lim n : Value) (wr : World) : Prop :=
  ∃ (k wd : Nat) (suf : List Nat), lim = .int .i64 k ∧ n = .int .i64 wd ∧ RInv l k wd suf ∧ OwnI wr w1.heap.size v (nats suf) ∧ Below w1.heap.size w1 wr
theorem RInv.start (l : List Int) : RInv l l.length (lenL l) [] := ⟨by simp [longL], Has.start l, Nat.le_refl _, by simp⟩
theorem RInv.step {l : List Int} {lim wd a : Nat} {suf : List Nat} (h : RInv l lim (wd + 1) suf) (ha : a < lim) (he : en l a = wd + 1) (hno : ∀ k, a < k → k < lim → en l k ≠ wd + 1) : RInv l a wd (a :: suf) := by
  refine ⟨?_, Has.hit he, by have := h.low; omega, by have := h.sum; simp; omega⟩
  rw [← h.list, chosen_last ha he hno]; simp

set_option maxRecDepth 100000 in
set_option maxHeartbeats 4000000 in
theorem refLongest_any (A : Option Addr) (c : Nat) (l : List Int) (w : World) (hr : Row w w.heap.size A l) (hl : l.length ≤ 1000000) :
    Calls Try.prog 21 #[.slice A l.length c] w (Made w (nats (longL l))) := by
  obtain ⟨i0, hi, hz0, hz1, hz2⟩ := info_parts Try.info3
  have hll := lenL_le l
  go_enter Try.func21, Try.ntmps21
  go_wp2_with fail
  refine (refEnds_any A c l w hr hl).mono ?_
  rintro e w1 ⟨A1, c1, rfl, hrow, -, -, -, hb1⟩
  have hel := endsL_length l
  rw [hel]
  have HEL := Lib.hid hel; clear hel
  have hr1 := (hr.below hb1).mono hb1.size
  go_wp2_with fail
  refine (refLength_any A c l w1 hr1 hl).mono ?_
  rintro e w2 ⟨rfl, hb2⟩
  have hr2 := (hr1.below hb2).mono hb2.size
  have hrow2 := (hrow.below hb2).mono hb2.size
  have hb2' : Below w.heap.size w w2 := hb1.trans (hb2.mono hb1.size)
  clear hr hr1 hrow hb1 hb2
  go_wp2
  go_loopw [4, 5, 6] (RLRel w2 l) (fun _ _ n _ => (intOf n).toNat)
  case atStart => exact ⟨l.length, lenL l, [], rfl, rfl, RInv.start l, World.ownsRow_nil _ _ _ _, Below.refl _ _⟩
  case round =>
    obtain ⟨lim, wd, suf, rfl, rfl, hinv, hown, hbel⟩ := hrel
    have hlow := hinv.low
    have hsum := hinv.sum
    have HI := Lib.hid hinv; clear hinv
    have hsl : suf.length ≤ 1000000 := by omega
    cases wd with
    | zero =>
      have hfin : suf = longL l := by have := HI.out.list; rw [chosen_zero] at this; simpa using this
      rw [hfin] at hown
      clear hfin hsum
      go_wp2
      go_ret
      exact made_own hown (hb2'.trans (hbel.mono hb2'.size))
    | succ wd =>
      have hwd : wd + 1 ≤ 1000000 := by omega
      have hlen : (nats suf).length = suf.length := nats_length _
      obtain ⟨Ao, co, hv, -, -, -, hco⟩ := row_own hown
      rw [hlen] at hv
      subst hv
      have HLEN := Lib.hid hlen
      have HSUM := Lib.hid hsum
      clear hlen hsum
      go_wp2
      go_loopw [7, 20] (RLIn w2 l (.slice Ao suf.length co) suf w2.heap.size lim (wd + 1)) (fun _ i _ => lim - (intOf i).toNat)
      case atStart => exact ⟨0, -1, by omega, rfl, rfl, .inl ⟨rfl, fun k hk => by omega⟩, hown, hbel⟩
      case round =>
        clear hown hbel
        obtain ⟨m, a, hm, rfl, rfl, hlast, hown, hbel⟩ := hrel
        have HLA := Lib.hid hlast; clear hlast
        by_cases hml : m < lim
        · obtain ⟨b, off, x, rfl, hb, hx, hc⟩ := row_at (hrow2.below hbel) (show m < (endsL l).length by rw [HEL.out]; omega)
          rw [endsL_at (by omega)] at hx
          subst hx
          obtain ⟨bl, ol, y, rfl, hbl, hy, hcy⟩ := row_at (hr2.below hbel) (show m < l.length by omega)
          have HY := Lib.hid hy; clear hy
          have HO := Lib.hid hown; clear hown
          by_cases he : en l m = wd + 1
          · have hhit := Last.hit he
            have HHIT := Lib.hid hhit
            rw [he] at hc
            rcases HLA.out with ⟨rfl, -⟩ | ⟨j, rfl, hj, hje, -⟩
            · clear hhit
              go_wp2_with fail
              go_quiet (fail)
              go_wp2
              exact ⟨⟨m + 1, m, by omega, by go_num, rfl, HHIT.out, HO.out, bel_drewN hbel _⟩, by simp [intOf]; omega⟩
            · have hcj := Row.at2 (hr2.below hbel) (show j < l.length by omega)
              have hj0 : 0 ≤ el l j := by
                rcases Int.lt_or_le (el l j) 0 with hn | hn
                · rw [en_neg hn] at hje; omega
                · exact hn
              have hle := en_pile hj (by omega) hj0
              unfold el at hle
              rw [← HY.out] at hle
              obtain ⟨z, hz⟩ : ∃ z, z = l.getD j 0 := ⟨_, rfl⟩
              rw [← hz] at hle hcj
              have hdz : decide (y ≤ z) = true := by simpa using hle
              have hml2 : m < l.length := by omega
              have hjl2 : j < l.length := by omega
              have hdj : decide ((j : Int) < 0) = false := by simp only [decide_eq_false_iff_not]; omega
              clear hz hj0 hhit hje hle
              go_wp2_with fail
              go_quiet (fail)
              go_wp2
              exact ⟨⟨m + 1, m, by omega, by go_num, rfl, HHIT.out, HO.out, bel_drewN hbel _⟩, by simp [intOf]; omega⟩
          · have hmiss := HLA.out.miss he
            have HMI := Lib.hid hmiss; clear hmiss
            have he1 : (((en l m : Nat) : Int) == (wd : Int) + 1) = false := by simp only [beq_eq_false_iff_ne, ne_eq]; omega
            have he2 : (en l m == wd + 1) = false := by simpa using he
            generalize en l m = q at hc he he1 he2
            go_wp2_with fail
            go_quiet (fail)
            go_wp2
            exact ⟨⟨m + 1, a, by omega, by go_num, rfl, HMI.out, HO.out, bel_drewN hbel _⟩, by simp [intOf]; omega⟩
        · obtain rfl : m = lim := by omega
          rcases HLA.out with ⟨-, hno⟩ | ⟨j, rfl, hj, hje, hjno⟩
          · exfalso
            rcases HI.out.has with h | ⟨k, hk, hke⟩
            · omega
            · exact hno k hk hke
          · have hnext := HI.out.step hj hje hjno
            have HNX := Lib.hid hnext; clear hnext hjno hje
            obtain ⟨Ao', co', hv', hro, -, -, hco'⟩ := row_own hown
            rw [HLEN.out] at hv'
            obtain ⟨rfl, rfl⟩ : Ao = Ao' ∧ co = co' := by simpa using hv'
            clear hv'
            have hsz := hbel.size
            go_wp2_with (at_builtin; refine wpList_pre1 rfl (.tmp 49) (.tmp 50) 22 rfl w2.heap.size i0 Try.underlying22 hi hz0 hz1 hz2 (j : Int) rfl Ao co (nats suf) (by rw [HLEN.out]; rfl) hro hco' (by rw [HLEN.out]; exact hsl) hsz ?_; intro v' w3 hown3 hbel3)
            exact ⟨⟨j, wd, j :: suf, rfl, by go_num, HNX.out, hown3, hbel.trans hbel3⟩, by simp [intOf]⟩
end Go.Proofs.Ytlpjjnpafmakhaa
