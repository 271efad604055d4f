/-
  ranks.Is and tendrilref05.Is: what they answer.
-/
import Derived.Test.YtdfalejldjbaiaaBase
import Derived.Test.YtdfalejldjbaiaaMath
namespace Go.Proofs.Ytdfalejldjbaiaa
open Go.RowKit
set_option linter.unusedVariables false

theorem count_take (p : List Int) (a : Int) {k : Nat} (h : k < p.length) : (p.take (k + 1)).count a = (p.take k).count a + (if p.getD k 0 = a then 1 else 0) := by
  rw [take_getD h, List.count_append, List.count_cons]; simp

set_option maxHeartbeats 1000000 in
theorem refIs_any (A : Option Addr) (c : Nat) (p : List Int) (w : World) (hr : Row w w.heap.size A p) (hl : p.length ≤ 1000000) :
    Calls Try.prog 9 #[.slice A p.length c] w fun e w' => e = .returned (.bool (isP p)) ∧ w = w' := by
  go_enter Try.func9, Try.ntmps9
  go_wp2
  go_loop [8] (fun i => ∃ k : Nat, k ≤ p.length ∧ i = .int .i64 k ∧ ∀ j : Nat, j < k → p.count (j : Int) = 1) (fun i => p.length - (intOf i).toNat)
  case atStart => exact ⟨0, by omega, rfl, fun j hj => by omega⟩
  case round =>
    obtain ⟨i, hi, rfl, hall⟩ := hrel
    have HA := Lib.hid hall; clear hall
    by_cases hlt : i < p.length
    · go_wp2
      go_loop [4, 13] (fun t k => ∃ m : Nat, m ≤ p.length ∧ k = .int .i64 m ∧ t = .int .i64 ((p.take m).count (i : Int))) (fun _ k => p.length - (intOf k).toNat)
      case atStart => exact ⟨0, by omega, rfl, by simp⟩
      case round =>
        obtain ⟨m, hm, rfl, rfl⟩ := hrel
        have hle : (p.take m).count (i : Int) ≤ m := by
          have := List.count_le_length (a := (i : Int)) (l := p.take m); simp at this; omega
        by_cases hml : m < p.length
        · obtain ⟨b, off, x, rfl, hb, hx, hc⟩ := row_at hr hml
          have hst := count_take p i hml
          rw [← hx] at hst
          have HS := Lib.hid hst; clear hst hx
          by_cases hxi : x = i
          · subst hxi
            go_wp2_with fail
            refine ⟨⟨m + 1, by omega, by go_num, ?_⟩, by simp [intOf]; omega⟩
            rw [HS.out, if_pos rfl]; go_num
          · have hxi' : (x == (i : Int)) = false := by simpa using hxi
            go_wp2_with fail
            refine ⟨⟨m + 1, by omega, by go_num, ?_⟩, by simp [intOf]; omega⟩
            rw [HS.out, if_neg hxi]; go_num
        · obtain rfl : m = p.length := by omega
          rw [List.take_length] at hle ⊢
          by_cases h1 : p.count (i : Int) = 1
          · rw [h1]
            go_wp2_with fail
            refine ⟨⟨i + 1, by omega, by go_num, fun j hj => ?_⟩, by simp [intOf]; omega⟩
            rcases Nat.lt_or_ge j i with h | h
            · exact HA.out j h
            · obtain rfl : j = i := by omega
              exact h1
          · have hn : isP p = false := by
              cases hp : isP p with
              | false => rfl
              | true => exact absurd (isP_count.1 hp i hlt) h1
            have HN := Lib.hid hn; clear hn
            obtain ⟨cc, hcc⟩ : ∃ cc, cc = p.count (i : Int) := ⟨_, rfl⟩
            rw [← hcc] at hle h1 ⊢
            clear hcc
            have h1' : ((cc : Int) != 1) = true := by simp; omega
            go_wp2_with fail
            go_ret
            exact ⟨ret_bool HN.out.symm, rfl⟩
    · obtain rfl : i = p.length := by omega
      go_wp2
      go_ret
      exact ⟨ret_bool (isP_count.2 HA.out).symm, rfl⟩

theorem Try.info4 : (Try.prog.info? 4).map (fun i => (i.zero, i.size, i.bytes)) = some (some (.bool false), 1, 1) := by kernel_rfl

def seenL (p : List Int) (k : Nat) : List Value := (List.range p.length).map (fun i => Value.bool (decide (((i : Nat) : Int) ∈ p.take k)))
theorem seen_start (p : List Int) : (madeCells (Value.bool false).cells (p.length * 1)).toList = seenL p 0 := by
  have : (Value.bool false).cells = #[.bool false] := rfl
  rw [this, toList_madeCells_one]
  apply List.ext_getElem
  · simp [seenL]
  · intro i h1 h2; simp [seenL]
theorem seen_at (p : List Int) (k : Nat) {m : Nat} (h : m < p.length) : (seenL p k)[m]? = some (.bool (decide ((m : Int) ∈ p.take k))) := by
  simp [seenL, h]
theorem seen_set (p : List Int) {k m : Nat} (hk : k < p.length) (hx : p.getD k 0 = m) : (seenL p k).set m (.bool true) = seenL p (k + 1) := by
  apply List.ext_getElem
  · simp [seenL]
  · intro i h1 h2
    rw [List.getElem_set]
    simp only [seenL, List.getElem_map, List.getElem_range, take_getD hk, hx, List.mem_append, List.mem_singleton]
    by_cases h : m = i
    · subst h; simp
    · rw [if_neg h]
      have : ¬ ((i : Int) = (m : Int)) := by omega
      simp [this]
structure Good (p : List Int) (k : Nat) : Prop where
  low : ∀ x ∈ p.take k, 0 ≤ x ∧ x < p.length
  nodup : (p.take k).Nodup
theorem good_step {p : List Int} {k m : Nat} (h : Good p k) (hk : k < p.length) (hx : p.getD k 0 = m) (hm : m < p.length) (hn : ¬ (m : Int) ∈ p.take k) : Good p (k + 1) := by
  refine ⟨fun x hx' => ?_, ?_⟩
  · rw [take_getD hk, hx, List.mem_append, List.mem_singleton] at hx'
    rcases hx' with hx' | rfl
    · exact h.low x hx'
    · omega
  · rw [take_getD hk, hx]
    refine List.nodup_append.2 ⟨h.nodup, by simp, fun a ha b hb => ?_⟩
    rw [List.mem_singleton] at hb
    subst hb
    intro e; subst e; exact hn ha
theorem bad_range {p : List Int} {k : Nat} (hk : k < p.length) (h : ¬ (0 ≤ p.getD k 0 ∧ p.getD k 0 < p.length)) : isP p = false := by
  cases hp : isP p with
  | false => rfl
  | true => exact absurd ((isP_iff.1 hp).1 _ (getD_mem hk)) h
theorem bad_twice {p : List Int} {k : Nat} (hk : k < p.length) (h : p.getD k 0 ∈ p.take k) : isP p = false := by
  cases hp : isP p with
  | false => rfl
  | true =>
    exfalso
    have hn := (isP_iff.1 hp).2
    obtain ⟨i, hi, he⟩ := List.getElem_of_mem h
    have hi' : i < k := by simp at hi; omega
    rw [List.getElem_take, getD_lt hk] at he
    exact List.pairwise_iff_getElem.1 hn i k (by omega) hk hi' he

def IsRel (w : World) (p : List Int) (i : Value) (wr : World) : Prop :=
  ∃ k : Nat, k ≤ p.length ∧ i = .int .i64 k ∧ wr.ownsRow w.heap.size 4 1 (.slice (some ⟨w.heap.size, 0, none⟩) p.length p.length) p.length (seenL p k) ∧ Below w.heap.size w wr ∧ Good p k

set_option maxHeartbeats 1000000 in
theorem is_any (A : Option Addr) (c : Nat) (p : List Int) (w : World) (hr : Row w w.heap.size A p) (hl : p.length ≤ 1000000) :
    Calls Try.prog 8 #[.slice A p.length c] w fun e w' => e = .returned (.bool (isP p)) ∧ Below w.heap.size w w' := by
  obtain ⟨i0, hi, hz0, hz1, hz2⟩ := info_parts Try.info4
  have hby : i0.bytes * p.length ≤ 281474976710656 := by rw [hz2]; omega
  have HBY := Lib.hid hby; clear hby
  go_enter Try.func8, Try.ntmps8
  go_wp2_with (at_make; refine wpList_make_full _ rfl (.tmp 7) (.tmp 7) 33 rfl w.heap.size 4 i0 (.bool false) 1 Try.underlying33 hi hz0 hz1 .i64 .i64 _ _ p.length rfl rfl rfl rfl HBY.out (by unfold maxLen; omega) (Nat.le_refl _) ?_; intro w1 hown1 hg1; rw [seen_start] at hown1)
  have hb1 : Below w.heap.size w w1 := (Below.refl _ _).grown hg1 (Nat.le_refl _) (fun k hk => by cases hk)
  clear hg1
  go_loopw [11] (IsRel w p) (fun i _ => p.length - (intOf i).toNat)
  case atStart => exact ⟨0, by omega, rfl, hown1, hb1, ⟨fun x hx => by simp at hx, by simp⟩⟩
  case round =>
    clear hown1 hb1
    obtain ⟨k, hk, rfl, hown, hbel, hgood⟩ := hrel
    have HG := Lib.hid hgood; clear hgood
    by_cases hlt : k < p.length
    · obtain ⟨b, off, x, rfl, hb, hx, hc⟩ := row_at (hr.below hbel) hlt
      have HX := Lib.hid hx; clear hx
      by_cases h0 : x < 0
      · have HN := Lib.hid (bad_range hlt (by rw [← HX.out]; omega))
        go_wp2_with fail
        go_ret
        exact ⟨ret_bool HN.out.symm, hbel⟩
      · obtain ⟨m, rfl⟩ := Int.eq_ofNat_of_zero_le (show 0 ≤ x by omega)
        by_cases h1 : m < p.length
        · have hcs := (hown.cellAt m (by omega)).trans (seen_at p k h1)
          by_cases hs : (m : Int) ∈ p.take k
          · have HN := Lib.hid (bad_twice hlt (by rw [← HX.out]; exact hs))
            rw [decide_eq_true hs] at hcs
            go_wp2_with fail
            go_ret
            exact ⟨ret_bool HN.out.symm, hbel⟩
          · rw [decide_eq_false hs] at hcs
            have hfz := hown.frozenAt m
            have hst := hown.stored m (.bool true)
            rw [seen_set p hlt HX.out.symm] at hst
            have HST := Lib.hid hst
            have hgood2 := Lib.hid (good_step HG.out hlt HX.out.symm h1 hs)
            clear hst hown
            go_wp2_with fail
            exact ⟨⟨k + 1, by omega, by go_num, HST.out.1, hbel.setCell (Nat.le_refl _) _, hgood2.out⟩, by simp [intOf]; omega⟩
        · have HN := Lib.hid (bad_range hlt (by rw [← HX.out]; omega))
          have h1' : (p.length : Int) ≤ m := by omega
          go_wp2_with fail
          go_ret
          exact ⟨ret_bool HN.out.symm, hbel⟩
    · obtain rfl : k = p.length := by omega
      go_wp2
      go_ret
      refine ⟨ret_bool (Eq.symm (isP_iff.2 ?_)), hbel⟩
      have := HG.out
      exact ⟨by simpa using this.low, by simpa using this.nodup⟩
end Go.Proofs.Ytdfalejldjbaiaa
