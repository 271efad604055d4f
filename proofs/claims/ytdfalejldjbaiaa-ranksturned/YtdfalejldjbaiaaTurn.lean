/-
  ranks.Turn, tendrilref05.Turn, tendrilref05.Ranks, tendrilref05.Turned: what they answer.
-/
import Derived.Test.YtdfalejldjbaiaaIs
namespace Go.Proofs.Ytdfalejldjbaiaa
open Go.RowKit
set_option linter.unusedVariables false

def turnR (p : List Int) : List Int := if isP p then turnL p else []
theorem turnR_length {p : List Int} : (turnR p).length ≤ p.length := by unfold turnR; split <;> simp [turnL_length]

theorem turn_step {p st : List Int} {k : Nat} (h : isP p = true) (hk : k < p.length) (hl : st.length = p.length) (hs : ∀ j : Nat, j < k → st.getD (p.getD j 0).toNat 0 = j) :
    ∀ j : Nat, j < k + 1 → (st.set (p.getD k 0).toNat (k : Int)).getD (p.getD j 0).toNat 0 = j := by
  intro j hj
  have hn := isP_iff.1 h
  have hr : ∀ i, i < p.length → 0 ≤ p.getD i 0 ∧ p.getD i 0 < p.length := fun i hi => hn.1 _ (getD_mem hi)
  have hkr := hr k hk
  have hjr := hr j (by omega)
  rw [List.getD_eq_getElem?_getD, List.getElem?_set]
  rcases Nat.lt_or_ge j k with h1 | h1
  · have hne : p.getD j 0 ≠ p.getD k 0 := by
      rw [getD_lt (by omega), getD_lt hk]
      exact List.pairwise_iff_getElem.1 hn.2 j k (by omega) hk h1
    rw [if_neg (by omega), ← List.getD_eq_getElem?_getD]
    exact hs j h1
  · obtain rfl : j = k := by omega
    rw [if_pos rfl, if_pos (by omega)]
    rfl

def TurnRel (w : World) (g : Nat) (p : List Int) (i : Value) (wr : World) : Prop :=
  ∃ k : Nat, k ≤ p.length ∧ i = .int .i64 k ∧ ∃ st : List Int, st.length = p.length ∧ wr.ownsRow g 3 1 (.slice (some ⟨g, 0, none⟩) p.length p.length) p.length (ints st) ∧ Below w.heap.size w wr ∧ ∀ j : Nat, j < k → st.getD (p.getD j 0).toNat 0 = j

set_option maxHeartbeats 1000000 in
theorem turn_any (A : Option Addr) (c : Nat) (p : List Int) (w : World) (hr : Row w w.heap.size A p) (hl : p.length ≤ 1000000) :
    Calls Try.prog 11 #[.slice A p.length c] w (Made w (turnR p)) := by
  obtain ⟨i0, hi, hz0, hz1, hz2⟩ := info_parts Try.info3
  have hby : i0.bytes * p.length ≤ 281474976710656 := by rw [hz2]; omega
  have HBY := Lib.hid hby; clear hby
  go_enter Try.func11, Try.ntmps11
  go_wp2_with fail
  refine (is_any A c p w hr hl).mono ?_
  rintro e w1 ⟨rfl, hb1⟩
  cases hp : isP p with
  | false =>
    have HT := Lib.hid (show turnR p = [] by simp [turnR, hp])
    clear hp
    go_wp2_with fail
    go_ret
    rw [HT.out]
    exact ⟨none, 0, rfl, Row.nil _ _ _, by simp, by simp [maxLen], fun _ => rfl, hb1⟩
  | true =>
    have HT := Lib.hid (show turnR p = turnL p by simp [turnR, hp])
    have HP := Lib.hid hp
    clear hp
    have hsz := hb1.size
    go_wp2_with (at_make; refine wpList_make_full _ rfl (.tmp 10) (.tmp 10) 22 rfl w1.heap.size 3 i0 (.int .i64 0) 1 Try.underlying22 hi hz0 hz1 .i64 .i64 _ _ p.length rfl rfl rfl rfl HBY.out (by unfold maxLen; omega) (Nat.le_refl _) ?_; intro w2 hown2 hg2; rw [made_ints] at hown2)
    have hb2 : Below w.heap.size w w2 := hb1.grown hg2 hsz (fun k hk => by cases hk)
    clear hg2
    go_loopw [14] (TurnRel w w1.heap.size p) (fun i _ => p.length - (intOf i).toNat)
    case atStart => exact ⟨0, by omega, rfl, List.replicate p.length 0, by simp, hown2, hb2, fun j hj => by omega⟩
    case round =>
      clear hown2 hb2
      obtain ⟨k, hk, rfl, st, hsl, hown, hbel, hst⟩ := hrel
      have HS := Lib.hid hst; clear hst
      by_cases hlt : k < p.length
      · obtain ⟨b, off, x, rfl, hb, hx, hc⟩ := row_at (hr.below hbel) hlt
        have hxr := (isP_iff.1 HP.out).1 _ (getD_mem hlt)
        have hnew := turn_step HP.out hlt hsl HS.out
        rw [← hx] at hxr hnew
        obtain ⟨m, rfl⟩ := Int.eq_ofNat_of_zero_le hxr.1
        rw [Int.toNat_natCast] at hnew
        have HN := Lib.hid hnew; clear hnew hx
        have hml : m < p.length := by omega
        have hcs : wr.cell? ⟨w1.heap.size, m, none⟩ = some (.int .i64 (st.getD m 0)) := by
          rw [hown.cellAt m (by omega)]; simp [show m < st.length by omega]
        have hfz := hown.frozenAt m
        have hst2 := hown.stored m (.int .i64 k)
        have e1 : (ints st).set m (.int .i64 k) = ints (st.set m (k : Int)) := by simp [ints, List.map_set]
        rw [e1] at hst2
        have H2 := Lib.hid hst2
        have HL := Lib.hid hsl
        clear hst2 hown e1 hsl hxr
        go_wp2_with fail
        exact ⟨⟨k + 1, by omega, by go_num, st.set m (k : Int), by simp [HL.out], H2.out.1, hbel.setCell hsz _, HN.out⟩, by simp [intOf]; omega⟩
      · obtain rfl : k = p.length := by omega
        have hfin := turnL_only HP.out hsl HS.out
        go_wp2
        go_ret
        rw [HT.out, ← hfin]
        refine made_own (base := w1.heap.size) ?_ hbel
        unfold OwnI
        rw [hsl]; exact hown

theorem take_idx {p : List Int} (h : isP p = true) {i : Nat} (hi : i < p.length) {m : Nat} (hm : m < p.length) :
    (turnL p).take i ++ (if p.idxOf (i : Int) < m + 1 then [((p.idxOf (i : Int) : Nat) : Int)] else []) =
      if p.getD m 0 = i then (turnL p).take i ++ (if p.idxOf (i : Int) < m then [((p.idxOf (i : Int) : Nat) : Int)] else []) ++ [(m : Int)] else (turnL p).take i ++ (if p.idxOf (i : Int) < m then [((p.idxOf (i : Int) : Nat) : Int)] else []) := by
  by_cases he : p.getD m 0 = i
  · have := (isP_at h hm hi).1 he
    rw [if_pos he, if_pos (by omega), if_neg (by omega), ← this]; simp
  · have : m ≠ p.idxOf (i : Int) := fun e => he ((isP_at h hm hi).2 e)
    rw [if_neg he]
    by_cases h2 : p.idxOf (i : Int) < m
    · rw [if_pos (by omega), if_pos h2]
    · rw [if_neg (by omega), if_neg h2]
theorem take_idx_len {p : List Int} {i m : Nat} (hi : i < p.length) : ((turnL p).take i ++ (if p.idxOf (i : Int) < m then [((p.idxOf (i : Int) : Nat) : Int)] else [])).length ≤ i + 1 := by
  split <;> simp [turnL_length] <;> omega
theorem own_next {w : World} {base : Nat} {v : Value} {L : List Int} {x : Int} (h : w.ownsRow base 3 1 v (L.length + 1) (ints L ++ [.int .i64 x])) : OwnI w base v (L ++ [x]) := by
  unfold OwnI
  simpa using h

def RTurnRel (w : World) (p : List Int) (v i : Value) (wr : World) : Prop := ∃ k : Nat, k ≤ p.length ∧ i = .int .i64 k ∧ OwnI wr w.heap.size v ((turnL p).take k) ∧ Below w.heap.size w wr
def RTurnIn (w : World) (p : List Int) (i : Nat) (v k : Value) (wr : World) : Prop := ∃ m : Nat, m ≤ p.length ∧ k = .int .i64 m ∧ OwnI wr w.heap.size v ((turnL p).take i ++ (if p.idxOf (i : Int) < m then [((p.idxOf (i : Int) : Nat) : Int)] else [])) ∧ Below w.heap.size w wr

set_option maxHeartbeats 1000000 in
theorem refTurn_any (A : Option Addr) (c : Nat) (p : List Int) (w : World) (hr : Row w w.heap.size A p) (hl : p.length ≤ 1000000) :
    Calls Try.prog 12 #[.slice A p.length c] w (Made w (turnR p)) := by
  obtain ⟨i0, hi, hz0, hz1, hz2⟩ := info_parts Try.info3
  go_enter Try.func12, Try.ntmps12
  go_wp2_with fail
  refine (refIs_any A c p w hr hl).mono ?_
  rintro e w1 ⟨rfl, rfl⟩
  cases hp : isP p with
  | false =>
    have HT := Lib.hid (show turnR p = [] by simp [turnR, hp])
    clear hp
    go_wp2_with fail
    go_ret
    rw [HT.out]
    exact ⟨none, 0, rfl, Row.nil _ _ _, by simp, by simp [maxLen], fun _ => rfl, Below.refl _ _⟩
  | true =>
    have HT := Lib.hid (show turnR p = turnL p by simp [turnR, hp])
    have HP := Lib.hid hp
    clear hp
    go_wp2
    go_loopw [3, 11] (RTurnRel w p) (fun _ i _ => p.length - (intOf i).toNat)
    case atStart => exact ⟨0, by omega, rfl, by simpa [OwnI] using World.ownsRow_nil _ _ _ _, Below.refl _ _⟩
    case round =>
      obtain ⟨i, hil, rfl, hown, hbel⟩ := hrel
      by_cases hlt : i < p.length
      · go_wp2
        go_loopw [3, 16] (RTurnIn w p i) (fun _ k _ => p.length - (intOf k).toNat)
        case atStart => exact ⟨0, by omega, rfl, by simpa using hown, hbel⟩
        case round =>
          clear hown hbel
          obtain ⟨m, hm, rfl, hown, hbel⟩ := hrel
          by_cases hml : m < p.length
          · obtain ⟨b, off, x, rfl, hb, hx, hc⟩ := row_at (hr.below hbel) hml
            have hti := take_idx HP.out hlt hml
            have hle := take_idx_len (p := p) (i := i) (m := m) hlt
            rw [← hx] at hti
            have HTI := Lib.hid hti; clear hti hx
            have hsz := hbel.size
            generalize (turnL p).take i ++ (if p.idxOf (i : Int) < m then [((p.idxOf (i : Int) : Nat) : Int)] else []) = L at hown hle HTI
            by_cases hxi : x = i
            · subst hxi
              unfold OwnI at hown
              go_wp2_with (at_builtin; refine wpList_app1 rfl _ _ 22 rfl w.heap.size 3 i0 (.int .i64 0) 8 Try.underlying22 hi hz0 hz1 hz2 rfl _ _ _ rfl hown (.int .i64 (m : Int)) rfl rfl (by omega) (by simp [maxLen]; omega) (by omega) ?_; intro v' w2 hown2 hbel2)
              refine ⟨⟨m + 1, by omega, by go_num, ?_, hbel.trans hbel2⟩, by simp [intOf]; omega⟩
              rw [HTI.out, if_pos rfl]
              exact own_next hown2
            · have hxi' : (x == (i : Int)) = false := by simpa using hxi
              go_wp2_with fail
              refine ⟨⟨m + 1, by omega, by go_num, ?_, hbel⟩, by simp [intOf]; omega⟩
              rw [HTI.out, if_neg hxi]
              exact hown
          · obtain rfl : m = p.length := by omega
            rw [if_pos (isP_idx HP.out hlt).1, ← take_turnL hlt] at hown
            go_wp2
            exact ⟨⟨i + 1, by omega, by go_num, hown, hbel⟩, by simp [intOf]; omega⟩
      · obtain rfl : i = p.length := by omega
        rw [List.take_of_length_le (by rw [turnL_length]; omega)] at hown
        go_wp2
        go_ret
        rw [HT.out]
        exact made_own hown hbel
end Go.Proofs.Ytdfalejldjbaiaa
