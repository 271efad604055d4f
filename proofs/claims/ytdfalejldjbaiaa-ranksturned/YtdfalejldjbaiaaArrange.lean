/-
  ranks.arrange, Sorted, Ranks and Turned: what they answer.
-/
import Derived.Test.YtdfalejldjbaiaaSort
import Derived.Test.YtdfalejldjbaiaaTurn
namespace Go.Proofs.Ytdfalejldjbaiaa
open Go.RowKit
set_option linter.unusedVariables false

def fillL (n k : Nat) : List Int := (List.range n).map (fun i => if i < k then ((i : Nat) : Int) else 0)
theorem fill_zero (n : Nat) : List.replicate n (0 : Int) = fillL n 0 := by
  apply List.ext_getElem <;> simp [fillL]
theorem fill_full (n : Nat) : fillL n n = nats (List.range n) := by
  apply List.ext_getElem
  · simp [fillL, nats]
  · intro i h1 h2
    simp [fillL] at h1
    simp [fillL, nats, h1]
theorem fill_set {n k : Nat} (hk : k < n) : (fillL n k).set k (k : Int) = fillL n (k + 1) := by
  apply List.ext_getElem
  · simp [fillL]
  · intro i h1 h2
    rw [List.getElem_set]
    simp only [fillL, List.getElem_map, List.getElem_range]
    by_cases h : k = i
    · subst h; simp
    · rw [if_neg h]
      by_cases h' : i < k
      · rw [if_pos h', if_pos (by omega)]
      · rw [if_neg h', if_neg (by omega)]

def APost (w : World) (l : List Int) (e : Ending) (w' : World) : Prop :=
  ∃ b, e = .returned (.tuple #[.slice (some ⟨b, 0, none⟩) l.length l.length, .int .i64 (turned l)]) ∧ Row w' w'.heap.size (some ⟨b, 0, none⟩) (sortedL l) ∧ Below w.heap.size w w'
def FRel (w : World) (n : Nat) (i : Value) (wr : World) : Prop :=
  ∃ k : Nat, k ≤ n ∧ i = .int .i64 k ∧ wr.ownsRow w.heap.size 3 1 (.slice (some ⟨w.heap.size, 0, none⟩) n n) n (ints (fillL n k)) ∧ Below w.heap.size w wr

set_option maxHeartbeats 2000000 in
theorem arrange_any (A : Option Addr) (c : Nat) (l : List Int) (w : World) (hr : Row w w.heap.size A l) (hl : l.length ≤ 1000000) :
    Calls Try.prog 20 #[.slice A l.length c] w (APost w l) := by
  obtain ⟨i0, hi, hz0, hz1, hz2⟩ := info_parts Try.info3
  have hby : i0.bytes * l.length ≤ 281474976710656 := by rw [hz2]; omega
  have HBY := Lib.hid hby; clear hby
  go_enter Try.func20, Try.ntmps20
  go_wp2_with (at_make; refine wpList_make_full _ rfl (.tmp 7) (.tmp 7) 22 rfl w.heap.size 3 i0 (.int .i64 0) 1 Try.underlying22 hi hz0 hz1 .i64 .i64 _ _ l.length rfl rfl rfl rfl HBY.out (by unfold maxLen; omega) (Nat.le_refl _) ?_; intro w1 hown1 hg1; rw [made_ints, fill_zero] at hown1)
  have hb1 : Below w.heap.size w w1 := (Below.refl _ _).grown hg1 (Nat.le_refl _) (fun k hk => by cases hk)
  clear hg1
  go_loopw [11] (FRel w l.length) (fun i _ => l.length - (intOf i).toNat)
  case atStart => exact ⟨0, by omega, rfl, hown1, hb1⟩
  case round =>
    clear hown1 hb1
    obtain ⟨k, hk, rfl, hown, hbel⟩ := hrel
    by_cases hlt : k < l.length
    · have hcs : ∃ u, wr.cell? ⟨w.heap.size, k, none⟩ = some (.int .i64 u) := ⟨(fillL l.length k).getD k 0, by
        rw [hown.cellAt k (by omega)]; simp [fillL, hlt]⟩
      obtain ⟨u, hcs⟩ := hcs
      have hfz := hown.frozenAt k
      have hst2 := hown.stored k (.int .i64 k)
      have e1 : (ints (fillL l.length k)).set k (.int .i64 k) = ints (fillL l.length (k + 1)) := by rw [← fill_set hlt]; simp [ints, List.map_set]
      rw [e1] at hst2
      have H2 := Lib.hid hst2
      clear hst2 hown e1
      go_wp2_with fail
      exact ⟨⟨k + 1, by omega, by go_num, H2.out.1, hbel.setCell (Nat.le_refl _) _⟩, by simp [intOf]; omega⟩
    · obtain rfl : k = l.length := by omega
      rw [fill_full] at hown
      have hblk := own_block hown
      have HB := Lib.hid hblk
      have hsz := (hown.lt w.heap.size rfl).2
      clear hown hblk
      go_wp2_with (at_make; refine wpList_make_full _ rfl (.tmp 22) (.tmp 22) 22 rfl w.heap.size 3 i0 (.int .i64 0) 1 Try.underlying22 hi hz0 hz1 .i64 .i64 _ _ l.length rfl rfl rfl rfl HBY.out (by unfold maxLen; omega) (by omega) ?_; intro w2 hown2 hg2; rw [made_ints] at hown2; have HG2 := Lib.hid hg2; clear hg2)
      have hb2 : Below w.heap.size w w2 := hbel.grown HG2.out (by omega) (fun k hk => by cases hk)
      have hblk2 : w2.heap[w.heap.size]? = some (.cells (ints (nats [] ++ nats (List.range l.length) ++ nats [])).toArray 3 (0, 0)) := by
        have := (HG2.out.block w.heap.size hsz (by intro h; cases h)).trans HB.out
        simpa [nats] using this
      refine (sort_any w.heap.size w.heap.size wr.heap.size l.length A c l (by omega) (Nat.le_refl _) (by omega) hl l.length 0 l.length l.length [] (List.range l.length) [] w2 (by simp) (by simp) rfl (Nat.le_refl _) hl (Nat.le_refl _) hb2.size (hr.below hb2) hblk2 (own_room hown2) List.pairwise_lt_range (fun a ha => by simpa using ha)).mono ?_
      rintro e w3 ⟨s, rfl, hp, hs, hgo, -, hk3⟩
      have hb3 : Below w.heap.size w w3 := hb2.trans (hk3.below hb2.size (fun k hk => by rcases hk with rfl | rfl <;> omega))
      have hsorted := srt_sorted hp hs
      have hrow := (rowAt_of (pre := nats []) (post := nats []) (lo := 0) hgo rfl).row (B := w3.heap.size) (Array.getElem?_eq_some_iff.1 hgo).1
      rw [sortedL_eq hsorted] at hrow
      rw [inv_range]
      clear hgo hblk2 hown2 hsorted hp hs
      have HR := Lib.hid hrow; clear hrow
      go_wp2
      go_ret2
      exact ⟨w.heap.size, rfl, HR.out, hb3⟩

theorem sorted_any (A : Option Addr) (c : Nat) (l : List Int) (w : World) (hr : Row w w.heap.size A l) (hl : l.length ≤ 1000000) :
    Calls Try.prog 14 #[.slice A l.length c] w (Made w (sortedL l)) := by
  go_enter Try.func14, Try.ntmps14
  go_wp2_with fail
  refine (arrange_any A c l w hr hl).mono ?_
  rintro e w1 ⟨b, rfl, hrow, hb1⟩
  go_wp2
  go_ret
  exact ⟨_, l.length, by rw [sortedL_length]; rfl, hrow, by rw [sortedL_length]; omega, by unfold maxLen; omega, (fun h => by cases h), hb1⟩
theorem turned_any (A : Option Addr) (c : Nat) (l : List Int) (w : World) (hr : Row w w.heap.size A l) (hl : l.length ≤ 1000000) :
    Calls Try.prog 15 #[.slice A l.length c] w fun e w' => e = .returned (.int .i64 (turned l)) ∧ Below w.heap.size w w' := by
  go_enter Try.func15, Try.ntmps15
  go_wp2_with fail
  refine (arrange_any A c l w hr hl).mono ?_
  rintro e w1 ⟨b, rfl, hrow, hb1⟩
  go_wp2
  go_ret
  exact ⟨rfl, hb1⟩
theorem turn_of_sorted (l : List Int) : turnR (sortedL l) = ranksL l := by
  obtain ⟨s, h⟩ := exists_sorted l
  rw [← sortedL_eq h]
  unfold turnR
  rw [if_pos (nats_isP h), turn_sorted h]
theorem ranks_any (A : Option Addr) (c : Nat) (l : List Int) (w : World) (hr : Row w w.heap.size A l) (hl : l.length ≤ 1000000) :
    Calls Try.prog 13 #[.slice A l.length c] w (Made w (ranksL l)) := by
  go_enter Try.func13, Try.ntmps13
  go_wp2_with fail
  refine (sorted_any A c l w hr hl).mono ?_
  rintro e w1 ⟨A1, c1, rfl, hrow, -, -, -, hb1⟩
  go_wp2_with fail
  have c2 := turn_any A1 c1 (sortedL l) w1 hrow (by rw [sortedL_length]; exact hl)
  rw [turn_of_sorted] at c2
  refine c2.mono ?_
  rintro e w2 ⟨A2, c3, rfl, hrow2, h1, h2, h3, hb2⟩
  go_wp2
  go_ret
  exact ⟨A2, c3, rfl, hrow2, h1, h2, h3, hb1.trans (hb2.mono hb1.size)⟩
end Go.Proofs.Ytdfalejldjbaiaa
