/-
  Reordering: who stays, the plan, the line-up and what steps make of it; no fewer moves will do. The mathematics, without the program.
-/
import Derived.Test.YtlpjjnpafmakhaaMath
namespace Go.Proofs.Ytlpjjnpafmakhaa
set_option linter.unusedVariables false

/-! Two things at one index. -/
def twiceAt (l : List Int) (i n : Nat) : Bool := (List.range n).any fun k => decide (0 ≤ el l i ∧ el l i = el l k)
def twiceTo (l : List Int) (n : Nat) : Bool := (List.range n).any fun i => twiceAt l i i
def twice (l : List Int) : Bool := twiceTo l l.length
theorem twiceAt_succ (l : List Int) (i n : Nat) : twiceAt l i (n + 1) = (twiceAt l i n || decide (0 ≤ el l i ∧ el l i = el l n)) := by
  simp [twiceAt, List.range_succ]
theorem twiceTo_succ (l : List Int) (n : Nat) : twiceTo l (n + 1) = (twiceTo l n || twiceAt l n n) := by
  simp [twiceTo, List.range_succ]
theorem twiceTo_mono {l : List Int} {n m : Nat} (h : twiceTo l n = true) (hm : n ≤ m) : twiceTo l m = true := by
  simp only [twiceTo, List.any_eq_true, List.mem_range] at h ⊢
  obtain ⟨i, hi, h⟩ := h
  exact ⟨i, by omega, h⟩
theorem twice_hit {l : List Int} {i k : Nat} (hi : i < l.length) (hk : k < i) (h0 : 0 ≤ el l i) (he : el l i = el l k) : twice l = true := by
  simp only [twice, twiceTo, twiceAt, List.any_eq_true, List.mem_range, decide_eq_true_eq]
  exact ⟨i, hi, k, hk, h0, he⟩
theorem twice_not {l : List Int} (h : twice l = false) {i k : Nat} (hi : i < l.length) (hk : k < l.length) (h0 : 0 ≤ el l i) (he : el l i = el l k) : i = k := by
  rcases Nat.lt_trichotomy i k with h1 | h1 | h1
  · rw [twice_hit hk h1 (by omega) he.symm] at h; cases h
  · exact h1
  · rw [twice_hit hi h1 h0 he] at h; cases h

/-! Who stays. -/
def stays (l : List Int) (i : Nat) : Bool := decide (i ∈ longL l)
def stayL (l : List Int) : List Bool := (List.range l.length).map (stays l)
theorem stayL_length (l : List Int) : (stayL l).length = l.length := by simp [stayL]
theorem stayL_at {l : List Int} {i : Nat} (h : i < l.length) : (stayL l).getD i false = stays l i := by
  rw [List.getD_eq_getElem?_getD]; simp [stayL, h]
def leastTo (l : List Int) (n : Nat) : Nat := (List.range n).countP fun i => decide (0 ≤ el l i) && !stays l i
def least (l : List Int) : Nat := leastTo l l.length
theorem leastTo_succ (l : List Int) (n : Nat) : leastTo l (n + 1) = leastTo l n + (if decide (0 ≤ el l n) && !stays l n then 1 else 0) := by
  simp [leastTo, List.range_succ, List.countP_cons]
theorem leastTo_le (l : List Int) (n : Nat) : leastTo l n ≤ n := by
  have := List.countP_le_length (p := fun i => decide (0 ≤ el l i) && !stays l i) (l := List.range n)
  simpa [leastTo] using this

/-! The plan: what m rounds make. -/
def planAt (l : List Int) (m : Nat) : Int × Int := (((l.length - 1 - m : Nat) : Int), if m = 0 then -1 else ((l.length - m : Nat) : Int))
def planR (l : List Int) : Nat → List (Int × Int)
  | 0 => []
  | m + 1 => planR l m ++ (if stays l (l.length - 1 - m) then [] else [planAt l m])
def planL (l : List Int) : List (Int × Int) := planR l l.length
theorem planR_length (l : List Int) (m : Nat) : (planR l m).length ≤ m := by
  induction m with
  | zero => simp [planR]
  | succ m ih =>
    simp only [planR, List.length_append]
    split <;> simp <;> omega

/-! The line-up. -/
def oldL (l : List Int) : List Nat := (List.range l.length).filter fun i => decide (0 ≤ el l i)
def leL (l : List Int) (a b : Nat) : Bool := decide (el l a ≤ el l b)
def startL (l : List Int) : List Nat := (oldL l).mergeSort (leL l)
structure IsStart (l : List Int) (s : List Nat) : Prop where
  perm : s.Perm (oldL l)
  up : s.Pairwise fun a b => el l a < el l b
theorem mem_old {l : List Int} {a : Nat} : a ∈ oldL l ↔ a < l.length ∧ 0 ≤ el l a := by simp [oldL]
theorem nodup_filter {s : List Nat} (p : Nat → Bool) (h : s.Nodup) : (s.filter p).Nodup := List.Pairwise.filter p h
theorem old_nodup (l : List Int) : (oldL l).Nodup := nodup_filter _ List.nodup_range
theorem isStart_of {l : List Int} (ht : twice l = false) {s : List Nat} (hp : s.Perm (oldL l)) (hs : s.Pairwise fun a b => el l a ≤ el l b) : IsStart l s := by
  refine ⟨hp, ?_⟩
  have hn : s.Nodup := (hp.nodup_iff).2 (old_nodup l)
  have hb : s.Pairwise fun a b => el l a ≤ el l b ∧ a ≠ b := hs.and hn
  refine List.Pairwise.imp_of_mem (fun {a b} ha hb' h => ?_) hb
  have h1 := mem_old.1 (hp.mem_iff.1 ha)
  have h2 := mem_old.1 (hp.mem_iff.1 hb')
  rcases Int.lt_or_eq_of_le h.1 with h3 | h3
  · exact h3
  · exact absurd (twice_not ht h1.1 h2.1 h1.2 h3) h.2
theorem start_is {l : List Int} (ht : twice l = false) : IsStart l (startL l) := by
  refine isStart_of ht (List.mergeSort_perm _ _) ?_
  have := List.pairwise_mergeSort (le := leL l) (fun a b c h1 h2 => by simp [leL] at *; omega) (fun a b => by simp [leL]; omega) (oldL l)
  simpa [startL, leL] using this
theorem isStart_only {l : List Int} {s t : List Nat} (hs : IsStart l s) (ht : IsStart l t) : s = t :=
  List.Perm.eq_of_pairwise (le := fun a b => el l a < el l b) (fun a b _ _ h1 h2 => by omega) hs.up ht.up (hs.perm.trans ht.perm.symm)
theorem IsStart.low {l : List Int} {s : List Nat} (h : IsStart l s) {a : Nat} (ha : a ∈ s) : a < l.length ∧ 0 ≤ el l a := mem_old.1 (h.perm.mem_iff.1 ha)
theorem IsStart.nodup {l : List Int} {s : List Nat} (h : IsStart l s) : s.Nodup := (h.perm.nodup_iff).2 (old_nodup l)

/-- A thing put directly ahead of another one. -/
def ahead (s : List Nat) (b t : Nat) : List Nat := s.takeWhile (fun x => decide (x ≠ b)) ++ t :: s.dropWhile (fun x => decide (x ≠ b))
def less (s : List Nat) (t : Nat) : List Nat := s.filter fun x => decide (x ≠ t)
def stepL (n : Nat) (s : List Nat) (p : Int × Int) : Option (List Nat) :=
  if 0 ≤ p.1 ∧ p.1 < n ∧ p.2 ≠ p.1 then
    if p.2 = -1 then some (less s p.1.toNat ++ [p.1.toNat])
    else if 0 ≤ p.2 ∧ p.2.toNat ∈ less s p.1.toNat then some (ahead (less s p.1.toNat) p.2.toNat p.1.toNat) else none
  else none
def runL (n : Nat) (s : List Nat) : List (Int × Int) → Option (List Nat)
  | [] => some s
  | p :: ps => match stepL n s p with
    | some t => runL n t ps
    | none => none
theorem runL_append (n : Nat) (s : List Nat) (ps qs : List (Int × Int)) : runL n s (ps ++ qs) = (runL n s ps).bind fun t => runL n t qs := by
  induction ps generalizing s with
  | nil => rfl
  | cons p ps ih =>
    simp only [List.cons_append, runL]
    cases stepL n s p with
    | none => rfl
    | some t => exact ih t
theorem runL_one (n : Nat) (s : List Nat) (p : Int × Int) : runL n s [p] = stepL n s p := by
  simp only [runL]
  cases stepL n s p <;> rfl
/-- A line-up: each thing once, all of them things. -/
structure Fine (n : Nat) (s : List Nat) : Prop where
  low : ∀ a ∈ s, a < n
  nodup : s.Nodup
theorem Fine.len {n : Nat} {s : List Nat} (h : Fine n s) : s.length ≤ n := by
  have hp : s.Perm ((List.range n).filter fun x => decide (x ∈ s)) := (List.perm_ext_iff_of_nodup h.nodup (nodup_filter _ List.nodup_range)).2 fun a => by
    rw [List.mem_filter, List.mem_range]; exact ⟨fun ha => ⟨h.low a ha, by simpa using ha⟩, fun ha => by simpa using ha.2⟩
  have := List.length_filter_le (fun x => decide (x ∈ s)) (List.range n)
  rw [hp.length_eq]
  simpa using this
theorem IsStart.fine {l : List Int} {s : List Nat} (h : IsStart l s) : Fine l.length s := ⟨fun a ha => (h.low ha).1, h.nodup⟩
theorem Fine.less {n : Nat} {s : List Nat} (h : Fine n s) (t : Nat) : Fine n (less s t) := ⟨fun a ha => h.low a (List.mem_filter.1 ha).1, nodup_filter _ h.nodup⟩
theorem not_mem_less (s : List Nat) (t : Nat) : t ∉ less s t := by simp [less]
theorem split_at {s : List Nat} {b : Nat} (h : b ∈ s) : ∃ u v, s = u ++ b :: v ∧ b ∉ u ∧ s.takeWhile (fun x => decide (x ≠ b)) = u ∧ s.dropWhile (fun x => decide (x ≠ b)) = b :: v := by
  obtain ⟨u, v, rfl, hu⟩ := List.eq_append_cons_of_mem h
  have hall : ∀ x ∈ u, decide (x ≠ b) = true := fun x hx => by simp; rintro rfl; exact hu hx
  refine ⟨u, v, rfl, hu, ?_, ?_⟩
  · rw [List.takeWhile_append_of_pos hall]; simp
  · rw [List.dropWhile_append_of_pos hall]; simp
theorem Fine.put {n : Nat} {u v : List Nat} {t : Nat} (h : Fine n (u ++ v)) (ht : t < n) (hn : t ∉ u ++ v) : Fine n (u ++ t :: v) := by
  refine ⟨fun a ha => ?_, ?_⟩
  · simp only [List.mem_append, List.mem_cons] at ha
    rcases ha with ha | rfl | ha
    · exact h.low a (by simp [ha])
    · exact ht
    · exact h.low a (by simp [ha])
  · have hp : (u ++ t :: v).Perm (t :: (u ++ v)) := List.perm_middle
    rw [hp.nodup_iff, List.nodup_cons]
    exact ⟨hn, h.nodup⟩
theorem Fine.step {n : Nat} {s t : List Nat} {p : Int × Int} (h : Fine n s) (hs : stepL n s p = some t) : Fine n t := by
  unfold stepL at hs
  split at hs
  · rename_i h1
    have hl := h.less p.1.toNat
    have hn := not_mem_less s p.1.toNat
    split at hs
    · cases hs
      exact Fine.put (v := []) (by simpa using hl) (by omega) (by simpa using hn)
    · split at hs
      · rename_i h3
        cases hs
        obtain ⟨u, v, e, _, e1, e2⟩ := split_at h3.2
        unfold ahead
        rw [e1, e2]
        rw [e] at hl hn
        exact Fine.put hl (by omega) hn
      · cases hs
  · cases hs
theorem Fine.run {n : Nat} {s t : List Nat} {ps : List (Int × Int)} (h : Fine n s) (hs : runL n s ps = some t) : Fine n t := by
  induction ps generalizing s with
  | nil => simp only [runL] at hs; cases hs; exact h
  | cons p ps ih =>
    simp only [runL] at hs
    cases he : stepL n s p with
    | none => rw [he] at hs; cases hs
    | some u => rw [he] at hs; exact ih (h.step he) hs

/-! What is not moved keeps its order. -/
theorem filter_less (s : List Nat) (t : Nat) (f : Nat → Bool) (hf : f t = false) : (less s t).filter f = s.filter f := by
  unfold less
  rw [List.filter_filter]
  refine List.filter_congr fun x _ => ?_
  by_cases h : x = t
  · subst h; simp [hf]
  · simp [h]
theorem filter_put (u v : List Nat) (t : Nat) (f : Nat → Bool) (hf : f t = false) : (u ++ t :: v).filter f = (u ++ v).filter f := by
  simp [List.filter_append, hf]
theorem step_filter {n : Nat} {s t : List Nat} {p : Int × Int} (hs : stepL n s p = some t) (f : Nat → Bool) (hf : f p.1.toNat = false) : t.filter f = s.filter f := by
  unfold stepL at hs
  split at hs
  · split at hs
    · cases hs
      rw [filter_put _ [] _ f hf, List.append_nil, filter_less _ _ f hf]
    · split at hs
      · rename_i h3
        cases hs
        obtain ⟨u, v, e, _, e1, e2⟩ := split_at h3.2
        unfold ahead
        rw [e1, e2, filter_put _ _ _ f hf, ← e, filter_less _ _ f hf]
      · cases hs
  · cases hs
theorem step_at {n : Nat} {s t : List Nat} {p : Int × Int} (hs : stepL n s p = some t) : 0 ≤ p.1 ∧ p.1 < n := by
  unfold stepL at hs
  split at hs
  · rename_i h1; exact ⟨h1.1, h1.2.1⟩
  · cases hs
def movedL (ps : List (Int × Int)) (i : Nat) : Bool := ps.any fun p => p.1 == (i : Int)
theorem run_filter {n : Nat} {s t : List Nat} {ps : List (Int × Int)} (f : Nat → Bool) (hf : ∀ i, f i = true → movedL ps i = false) (hs : runL n s ps = some t) : t.filter f = s.filter f := by
  induction ps generalizing s with
  | nil => simp only [runL] at hs; cases hs; rfl
  | cons p ps ih =>
    simp only [runL] at hs
    cases he : stepL n s p with
    | none => rw [he] at hs; cases hs
    | some u =>
      rw [he] at hs
      have h1 := ih (fun i hi => by have := hf i hi; simp only [movedL, List.any_cons, Bool.or_eq_false_iff] at this; exact this.2) hs
      rw [h1]
      refine step_filter he f ?_
      cases hfp : f p.1.toNat with
      | false => rfl
      | true =>
        have h2 := hf _ hfp
        have h3 := step_at he
        simp only [movedL, List.any_cons, Bool.or_eq_false_iff] at h2
        have h4 := h2.1
        rw [Int.toNat_of_nonneg h3.1] at h4
        simp at h4
theorem pair_at {R : Nat → Nat → Prop} {s : List Nat} (h : s.Pairwise R) {i j : Nat} (hij : i < j) (hj : j < s.length) : R (s.getD i 0) (s.getD j 0) := by
  rw [getD_lt (by omega), getD_lt hj]
  exact List.pairwise_iff_getElem.1 h i j (by omega) hj hij
/-- An increasing choice is no longer than the longest. -/
theorem choice_len {l : List Int} {s : List Nat} (h1 : ∀ a ∈ s, a < l.length ∧ 0 ≤ el l a) (h2 : s.Pairwise (· < ·)) (h3 : s.Pairwise fun a b => el l a < el l b) : s.length ≤ lenL l := by
  have hr : risingL l (nats s) = true := by
    refine rising_of fun i hi => ?_
    rw [nats_length] at hi
    have hm := h1 (s.getD i 0) (by rw [getD_lt hi]; exact List.getElem_mem _)
    rw [nats_at hi, Int.toNat_natCast]
    refine ⟨by omega, by omega, hm.2, fun h0 => ?_⟩
    rw [nats_at (by omega), Int.toNat_natCast]
    exact ⟨by have := pair_at h2 (show i - 1 < i by omega) hi; omega, pair_at h3 (show i - 1 < i by omega) hi⟩
  have := rising_len hr
  rwa [nats_length] at this
theorem long_low {l : List Int} {a : Nat} (h : a ∈ longL l) : a < l.length ∧ 0 ≤ el l a := (longL_chain l).low a h
theorem chain_pair {R : Nat → Nat → Prop} (ht : ∀ a b c, R a b → R b c → R a c) {s : List Nat} (h : ∀ i, i + 1 < s.length → R (s.getD i 0) (s.getD (i + 1) 0)) : s.Pairwise R := by
  refine List.pairwise_iff_getElem.2 ?_
  intro i j hi hj hij
  induction j with
  | zero => omega
  | succ j ih =>
    have h1 := h j hj
    rw [getD_lt (by omega), getD_lt hj] at h1
    rcases Nat.lt_or_ge i j with h2 | h2
    · exact ht _ _ _ (ih (by omega) h2) h1
    · obtain rfl : i = j := by omega
      exact h1
theorem long_up (l : List Int) : (longL l).Pairwise (· < ·) := chain_pair (fun a b c h1 h2 => by omega) fun i hi => ((longL_chain l).up i hi).1
theorem long_el (l : List Int) : (longL l).Pairwise fun a b => el l a < el l b := chain_pair (fun a b c h1 h2 => by omega) fun i hi => ((longL_chain l).up i hi).2
theorem long_nodup (l : List Int) : (longL l).Nodup := (long_up l).imp (fun h => by omega)
theorem sorted_eq {s t : List Nat} (hs : s.Pairwise (· < ·)) (ht : t.Pairwise (· < ·)) (hm : ∀ a, a ∈ s ↔ a ∈ t) : s = t := by
  refine List.Perm.eq_of_pairwise (le := (· < ·)) (fun a b _ _ h1 h2 => by omega) hs ht ?_
  exact (List.perm_ext_iff_of_nodup (hs.imp (fun h => by omega)) (ht.imp (fun h => by omega))).2 hm
/-- The longest choice, as what is filtered out of all things. -/
theorem long_filter (l : List Int) : (List.range l.length).filter (stays l) = longL l := by
  refine sorted_eq (List.Pairwise.filter _ List.pairwise_lt_range) (long_up l) fun a => ?_
  simp only [List.mem_filter, List.mem_range, stays, decide_eq_true_eq]
  exact ⟨fun h => h.2, fun h => ⟨(long_low h).1, h⟩⟩
theorem count_long (l : List Int) : (List.range l.length).countP (stays l) = lenL l := by
  rw [List.countP_eq_length_filter, long_filter, longL_length]
theorem stays_old {l : List Int} {i : Nat} (h : stays l i = true) : 0 ≤ el l i := (long_low (by simpa [stays] using h)).2
theorem least_sum (l : List Int) : least l + lenL l = (oldL l).length := by
  unfold least leastTo oldL
  rw [← count_long, ← List.countP_eq_length_filter]
  have : ∀ s : List Nat, s.countP (fun i => decide (0 ≤ el l i) && !stays l i) + s.countP (stays l) = s.countP (fun i => decide (0 ≤ el l i)) := by
    intro s
    induction s with
    | nil => rfl
    | cons a s ih =>
      simp only [List.countP_cons]
      cases h : stays l a with
      | false => cases h2 : decide (0 ≤ el l a) <;> simp <;> omega
      | true => have h2 := stays_old h; simp [h2]; omega
  exact this _
/-- How many things that are not new the steps move. -/
def movedTo (l : List Int) (ps : List (Int × Int)) (n : Nat) : Nat := (List.range n).countP fun i => movedL ps i && decide (0 ≤ el l i)
theorem movedTo_succ (l : List Int) (ps : List (Int × Int)) (n : Nat) : movedTo l ps (n + 1) = movedTo l ps n + (if movedL ps n && decide (0 ≤ el l n) then 1 else 0) := by
  simp [movedTo, List.range_succ, List.countP_cons]
theorem movedTo_le (l : List Int) (ps : List (Int × Int)) (n : Nat) : movedTo l ps n ≤ n := by
  have := List.countP_le_length (p := fun i => movedL ps i && decide (0 ≤ el l i)) (l := List.range n)
  simpa [movedTo] using this
/-- NO FEWER MOVES WILL DO. -/
theorem least_moves {l : List Int} {s : List Nat} {ps : List (Int × Int)} (hs : IsStart l s) (hr : runL l.length s ps = some (List.range l.length)) : least l ≤ movedTo l ps l.length := by
  have hf := run_filter (f := fun i => !movedL ps i) (fun i hi => by simpa using hi) hr
  have hc := choice_len (l := l) (s := (List.range l.length).filter fun i => !movedL ps i)
    (fun a ha => by rw [hf] at ha; exact hs.low (List.mem_filter.1 ha).1)
    (List.Pairwise.filter _ List.pairwise_lt_range) (by rw [hf]; exact List.Pairwise.filter _ hs.up)
  have hsum := least_sum l
  have hall : ∀ a ∈ (List.range l.length).filter (fun i => !movedL ps i), 0 ≤ el l a := fun a ha => by rw [hf] at ha; exact (hs.low (List.mem_filter.1 ha).1).2
  have hcount : movedTo l ps l.length + ((List.range l.length).filter fun i => !movedL ps i).length = (oldL l).length := by
    unfold movedTo oldL
    rw [← List.countP_eq_length_filter, ← List.countP_eq_length_filter]
    have : ∀ s : List Nat, (∀ a ∈ s, movedL ps a = false → 0 ≤ el l a) → s.countP (fun i => movedL ps i && decide (0 ≤ el l i)) + s.countP (fun i => !movedL ps i) = s.countP (fun i => decide (0 ≤ el l i)) := by
      intro s
      induction s with
      | nil => intro _; rfl
      | cons a s ih =>
        intro h
        have h1 := ih (fun b hb => h b (by simp [hb]))
        have h2 := h a (by simp)
        simp only [List.countP_cons]
        cases h3 : movedL ps a with
        | false => simp [h2 h3]; omega
        | true => cases h4 : decide (0 ≤ el l a) <;> simp <;> omega
    exact this _ fun a ha hm => hall a (List.mem_filter.2 ⟨ha, by simp [hm]⟩)
  omega

/-! The steps of the plan. -/
def kept (l : List Int) (i x : Nat) : Bool := decide (i ≤ x) || stays l x
theorem uniq_split {u u' v v' : List Nat} {b : Nat} (h : u ++ b :: v = u' ++ b :: v') (h1 : b ∉ u) (h2 : b ∉ u') : u = u' ∧ v = v' := by
  induction u generalizing u' with
  | nil =>
    cases u' with
    | nil => simpa using h
    | cons y u' => simp at h; exact absurd (by simp [h.1]) h2
  | cons x u ih =>
    cases u' with
    | nil => simp at h; exact absurd (by simp [h.1]) h1
    | cons y u' =>
      simp at h
      obtain ⟨rfl, h⟩ := h
      have := ih h (fun hm => h1 (by simp [hm])) (fun hm => h2 (by simp [hm]))
      exact ⟨by rw [this.1], this.2⟩
theorem plan_inv {l : List Int} (ht : twice l = false) (m : Nat) (hm : m ≤ l.length) : ∃ s, runL l.length (startL l) (planR l m) = some s ∧ Fine l.length s ∧ s.filter (kept l (l.length - m)) = (List.range l.length).filter (kept l (l.length - m)) := by
  induction m with
  | zero =>
    refine ⟨startL l, rfl, (start_is ht).fine, ?_⟩
    have hS := start_is ht
    have e1 : (startL l).filter (kept l l.length) = (startL l).filter (stays l) := List.filter_congr fun x hx => by have := (hS.low hx).1; simp [kept]; omega
    have e2 : (List.range l.length).filter (kept l l.length) = (List.range l.length).filter (stays l) := List.filter_congr fun x hx => by have := List.mem_range.1 hx; simp [kept]; omega
    rw [Nat.sub_zero, e1, e2, long_filter]
    have hmem : ∀ a, a ∈ (startL l).filter (stays l) ↔ a ∈ longL l := by
      intro a
      rw [List.mem_filter]
      constructor
      · intro h; simpa [stays] using h.2
      · intro h; exact ⟨hS.perm.mem_iff.2 (mem_old.2 (long_low h)), by simpa [stays] using h⟩
    refine List.Perm.eq_of_pairwise (le := fun a b => el l a < el l b) (fun a b _ _ h1 h2 => by omega) (List.Pairwise.filter _ hS.up) (long_el l) ?_
    exact (List.perm_ext_iff_of_nodup (nodup_filter _ hS.nodup) (long_nodup l)).2 hmem
  | succ m ih =>
    obtain ⟨s, hrun, hfine, hfil⟩ := ih (by omega)
    obtain ⟨t, ht'⟩ : ∃ t, l.length - (m + 1) = t := ⟨_, rfl⟩
    have e0 : l.length - m = t + 1 := by omega
    have e1 : l.length - 1 - m = t := by omega
    rw [ht']
    rw [e0] at hfil
    simp only [planR]
    rw [e1]
    cases hst : stays l t with
    | true =>
      have hk : ∀ x, kept l t x = kept l (t + 1) x := by
        intro x
        by_cases hx : x = t
        · subst hx; simp [kept, hst]
        · simp only [kept]; congr 1; simp; omega
      refine ⟨s, by simpa using hrun, hfine, ?_⟩
      rw [show kept l t = kept l (t + 1) from funext hk]
      exact hfil
    | false =>
      have hk : ∀ x, x ≠ t → kept l t x = kept l (t + 1) x := by
        intro x hx
        simp only [kept]; congr 1; simp; omega
      have hkt : kept l (t + 1) t = false := by simp [kept, hst]
      have htt : kept l t t = true := by simp [kept]
      have hless : (less s t).filter (kept l t) = (List.range l.length).filter (kept l (t + 1)) := by
        rw [← hfil, ← filter_less s t _ hkt]
        refine List.filter_congr fun x hx => hk x ?_
        rintro rfl
        exact not_mem_less s x hx
      have hgoal : (List.range l.length).filter (kept l t) = (List.range t).filter (stays l) ++ t :: (List.range l.length).filter (fun x => decide (t < x)) := by
        refine sorted_eq (List.Pairwise.filter _ List.pairwise_lt_range) ?_ ?_
        · rw [List.pairwise_append, List.pairwise_cons]
          refine ⟨List.Pairwise.filter _ List.pairwise_lt_range, ⟨fun b hb => by simpa using (List.mem_filter.1 hb).2, List.Pairwise.filter _ List.pairwise_lt_range⟩, fun a ha b hb => ?_⟩
          have h1 := List.mem_range.1 (List.mem_filter.1 ha).1
          rcases List.mem_cons.1 hb with rfl | hb
          · exact h1
          · have h2 := (List.mem_filter.1 hb).2
            simp at h2
            omega
        · intro a
          simp only [List.mem_filter, List.mem_range, List.mem_append, List.mem_cons, kept, Bool.or_eq_true, decide_eq_true_eq]
          constructor
          · rintro ⟨h1, h2⟩
            rcases Nat.lt_trichotomy a t with h3 | h3 | h3
            · rcases h2 with h2 | h2
              · omega
              · exact .inl ⟨h3, h2⟩
            · exact .inr (.inl h3)
            · exact .inr (.inr ⟨h1, h3⟩)
          · rintro (⟨h1, h2⟩ | rfl | ⟨h1, h2⟩)
            · exact ⟨by omega, .inr h2⟩
            · exact ⟨by omega, .inl (Nat.le_refl _)⟩
            · exact ⟨h1, .inl (by omega)⟩
      have hsrc : (List.range l.length).filter (kept l (t + 1)) = (List.range t).filter (stays l) ++ (List.range l.length).filter (fun x => decide (t < x)) := by
        have := filter_put ((List.range t).filter (stays l)) ((List.range l.length).filter (fun x => decide (t < x))) t (kept l (t + 1)) hkt
        rw [← hgoal] at this
        rw [List.filter_filter] at this
        have e3 : (List.range l.length).filter (fun a => kept l (t + 1) a && kept l t a) = (List.range l.length).filter (kept l (t + 1)) := by
          refine List.filter_congr fun x _ => ?_
          cases h : kept l (t + 1) x with
          | false => simp
          | true =>
            simp only [kept, Bool.or_eq_true, decide_eq_true_eq] at h
            have : kept l t x = true := by
              simp only [kept, Bool.or_eq_true, decide_eq_true_eq]
              rcases h with h | h
              · exact .inl (by omega)
              · exact .inr h
            rw [this]; rfl
        rw [e3] at this
        rw [this, List.filter_eq_self]
        intro a ha
        rcases List.mem_append.1 ha with h | h
        · simp [kept, (List.mem_filter.1 h).2]
        · have := (List.mem_filter.1 h).2
          simp at this
          simp [kept]; omega
      have hfl := hfine.less t
      have hnt := not_mem_less s t
      have htn : t < l.length := by omega
      cases m with
      | zero =>
        have hst : stepL l.length s (planAt l 0) = some (less s t ++ [t]) := by
          unfold stepL planAt
          rw [if_pos ⟨by simp, by simp; omega, by omega⟩]
          have : l.length - 1 - 0 = t := by omega
          simp [this]
        refine ⟨less s t ++ [t], ?_, Fine.put (v := []) (by simpa using hfl) htn (by simpa using hnt), ?_⟩
        · rw [runL_append, hrun]
          simp [runL_one, hst]
        · rw [List.filter_append, hless, hsrc, hgoal]
          have e4 : (List.range l.length).filter (fun x => decide (t < x)) = [] := by
            rw [List.filter_eq_nil_iff]; intro a ha; have := List.mem_range.1 ha; simp; omega
          rw [e4]
          simp [htt]
      | succ k =>
        have hb : t + 1 < l.length := by omega
        have hmem : t + 1 ∈ less s t := by
          have h1 : t + 1 ∈ (List.range l.length).filter (kept l (t + 1)) := List.mem_filter.2 ⟨List.mem_range.2 hb, by simp [kept]⟩
          rw [← hless] at h1
          exact (List.mem_filter.1 h1).1
        have hst : stepL l.length s (planAt l (k + 1)) = some (ahead (less s t) (t + 1) t) := by
          have e5 : l.length - 1 - (k + 1) = t := by omega
          have e6 : l.length - (k + 1) = t + 1 := by omega
          have e8 : planAt l (k + 1) = (((t : Nat) : Int), ((t + 1 : Nat) : Int)) := by unfold planAt; rw [e5, e6, if_neg (by omega)]
          rw [e8]
          unfold stepL
          rw [if_pos ⟨by simp, by simp; omega, by simp; omega⟩, if_neg (by simp; omega)]
          simp only [Int.toNat_natCast]
          rw [if_pos ⟨by omega, hmem⟩]
        obtain ⟨u, v, e, hu, e1', e2'⟩ := split_at hmem
        have hah : ahead (less s t) (t + 1) t = u ++ t :: (t + 1) :: v := by unfold ahead; rw [e1', e2']
        refine ⟨u ++ t :: (t + 1) :: v, ?_, ?_, ?_⟩
        · rw [runL_append, hrun]
          simp [runL_one, hst, hah]
        · rw [e] at hfl hnt
          exact Fine.put hfl htn hnt
        · rw [e] at hless
          rw [hsrc] at hless
          have e7 : (List.range l.length).filter (fun x => decide (t < x)) = (t + 1) :: (List.range l.length).filter (fun x => decide (t + 1 < x)) := by
            refine sorted_eq (List.Pairwise.filter _ List.pairwise_lt_range) ?_ ?_
            · rw [List.pairwise_cons]
              exact ⟨fun b hb => by simpa using (List.mem_filter.1 hb).2, List.Pairwise.filter _ List.pairwise_lt_range⟩
            · intro a
              simp only [List.mem_filter, List.mem_range, List.mem_cons, decide_eq_true_eq]
              omega
          have hk1 : kept l t (t + 1) = true := by simp [kept]
          rw [e7, List.filter_append, List.filter_cons, if_pos hk1] at hless
          have hun := uniq_split hless (fun h => hu (List.mem_filter.1 h).1) (fun h => by have := List.mem_range.1 (List.mem_filter.1 h).1; omega)
          rw [hgoal, e7, List.filter_append, List.filter_cons, if_pos htt, List.filter_cons, if_pos hk1, hun.1, hun.2]
/-- After the steps of the plan all things stand in the order of their numbers. -/
theorem plan_makes {l : List Int} (ht : twice l = false) : runL l.length (startL l) (planL l) = some (List.range l.length) := by
  obtain ⟨s, h1, h2, h3⟩ := plan_inv ht l.length (Nat.le_refl _)
  have hk : kept l (l.length - l.length) = fun _ => true := by funext x; simp [kept]
  rw [hk] at h3
  rw [List.filter_eq_self.2 (fun _ _ => rfl), List.filter_eq_self.2 (fun _ _ => rfl)] at h3
  rw [planL, h1, h3]
/-- The steps of the plan that move what is not new. -/
theorem plan_count (l : List Int) (m : Nat) (hm : m ≤ l.length) : (planR l m).countP (fun p : Int × Int => decide (0 ≤ p.1 ∧ p.1 < l.length ∧ 0 ≤ el l p.1.toNat)) + leastTo l (l.length - m) = least l := by
  induction m with
  | zero => simp [planR, least]
  | succ m ih =>
    have h := ih (by omega)
    obtain ⟨t, ht'⟩ : ∃ t, l.length - (m + 1) = t := ⟨_, rfl⟩
    have e0 : l.length - m = t + 1 := by omega
    have e1 : l.length - 1 - m = t := by omega
    rw [e0, leastTo_succ] at h
    rw [ht']
    simp only [planR]
    rw [e1, List.countP_append]
    cases hst : stays l t with
    | true => simp [hst] at h ⊢; omega
    | false =>
      rw [hst] at h
      have htl : t < l.length := by omega
      by_cases h0 : 0 ≤ el l t
      · simp [h0, planAt, e1, htl] at h ⊢; omega
      · simp [h0, planAt, e1, htl] at h ⊢; omega
end Go.Proofs.Ytlpjjnpafmakhaa
