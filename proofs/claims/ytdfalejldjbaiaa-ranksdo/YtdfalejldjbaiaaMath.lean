/-
  Permutations, ranks, inversions: the mathematics, without the program.
-/
namespace Go.Proofs.Ytdfalejldjbaiaa

def su (f : Nat → Nat) : Nat → Nat
  | 0 => 0
  | n + 1 => su f n + f n
theorem su_one {f : Nat → Nat} {n : Nat} (h : ∀ i, i < n → f i = 1) : su f n = n := by
  induction n with
  | zero => rfl
  | succ n ih => simp only [su]; rw [ih (fun i hi => h i (by omega)), h n (by omega)]
theorem su_le {f : Nat → Nat} {n : Nat} (h : ∀ i, i < n → f i ≤ 1) : su f n ≤ n := by
  induction n with
  | zero => simp [su]
  | succ n ih => simp only [su]; have := ih (fun i hi => h i (by omega)); have := h n (by omega); omega
theorem one_of_su {f : Nat → Nat} {n : Nat} (h : ∀ i, i < n → f i ≤ 1) (hs : su f n = n) : ∀ i, i < n → f i = 1 := by
  induction n with
  | zero => intro i hi; omega
  | succ n ih =>
    simp only [su] at hs
    have h1 := su_le (f := f) (n := n) (fun i hi => h i (by omega))
    have h2 := h n (by omega)
    intro i hi
    rcases Nat.lt_or_ge i n with hlt | hge
    · exact ih (fun i hi => h i (by omega)) (by omega) i hlt
    · obtain rfl : i = n := by omega
      omega
theorem su_add (f g : Nat → Nat) (n : Nat) : su (fun i => f i + g i) n = su f n + su g n := by
  induction n with
  | zero => rfl
  | succ n ih => simp only [su, ih]; omega
theorem su_ind (x : Int) (n : Nat) : su (fun i => if x == (i : Int) then 1 else 0) n = if 0 ≤ x ∧ x < n then 1 else 0 := by
  induction n with
  | zero => simp only [su]; rw [if_neg (by omega)]
  | succ n ih =>
    simp only [su, ih]
    by_cases h : x = n
    · subst h
      rw [if_neg (by omega), if_pos (by simp), if_pos (by omega)]
    · rw [if_neg (show ¬ (x == (n : Int)) = true by simpa using h)]
      by_cases h2 : 0 ≤ x ∧ x < n
      · rw [if_pos h2, if_pos (by omega)]
      · rw [if_neg h2, if_neg (by omega)]
theorem su_count (p : List Int) (n : Nat) : su (fun i => p.count (i : Int)) n = p.countP (fun x => decide (0 ≤ x ∧ x < (n : Int))) := by
  induction p with
  | nil =>
    simp only [List.count_nil, List.countP_nil]
    induction n with
    | zero => rfl
    | succ n ih => simp only [su, ih]
  | cons x p ih =>
    have e : (fun i : Nat => (x :: p).count (i : Int)) = fun i : Nat => p.count (i : Int) + (if x == (i : Int) then 1 else 0) := by
      funext i; rw [List.count_cons]
    rw [e, su_add, ih, su_ind, List.countP_cons]
    by_cases h : 0 ≤ x ∧ x < n
    · rw [if_pos h, if_pos (by simpa using h)]
    · rw [if_neg h, if_neg (by simpa using h)]

/-- Is p a permutation of as many things as it has elements? -/
def isP (p : List Int) : Bool := (List.range p.length).all (fun i => p.count (i : Int) == 1)
theorem isP_count {p : List Int} : isP p = true ↔ ∀ i : Nat, i < p.length → p.count (i : Int) = 1 := by
  simp [isP, List.all_eq_true]
theorem isP_iff {p : List Int} : isP p = true ↔ (∀ x ∈ p, 0 ≤ x ∧ x < p.length) ∧ p.Nodup := by
  rw [isP_count]
  constructor
  · intro h
    have h1 := su_one (f := fun i => p.count (i : Int)) h
    rw [su_count] at h1
    have h2 : ∀ x ∈ p, 0 ≤ x ∧ x < p.length := by
      have := List.countP_eq_length.1 h1
      intro x hx; simpa using this x hx
    refine ⟨h2, List.nodup_iff_count.2 fun a => ?_⟩
    by_cases ha : a ∈ p
    · have hb := h2 a ha
      have := h a.toNat (by omega)
      rw [Int.toNat_of_nonneg hb.1] at this
      omega
    · rw [List.count_eq_zero.2 ha]; omega
  · intro ⟨h1, h2⟩
    have h3 := List.nodup_iff_count.1 h2
    refine one_of_su (fun i _ => h3 _) ?_
    rw [su_count]
    exact List.countP_eq_length.2 (fun x hx => by simpa using h1 x hx)

theorem getD_lt {α : Type} {l : List α} {d : α} {j : Nat} (h : j < l.length) : l.getD j d = l[j] := by simp [List.getD_eq_getElem?_getD, List.getElem?_eq_getElem h]
theorem getD_mem {l : List Int} {j : Nat} (h : j < l.length) : l.getD j 0 ∈ l := by rw [getD_lt h]; exact List.getElem_mem _
theorem take_getD {l : List Int} {j : Nat} (h : j < l.length) : l.take (j + 1) = l.take j ++ [l.getD j 0] := by
  rw [getD_lt h]; exact List.take_succ_eq_append_getElem h

theorem isP_mem {p : List Int} (h : isP p = true) {i : Nat} (hi : i < p.length) : (i : Int) ∈ p := by
  have := isP_count.1 h i hi
  exact List.one_le_count_iff.1 (by omega)
/-- The first place of the number i. -/
theorem isP_idx {p : List Int} (h : isP p = true) {i : Nat} (hi : i < p.length) : p.idxOf (i : Int) < p.length ∧ p.getD (p.idxOf (i : Int)) 0 = i := by
  have h1 := List.idxOf_lt_length_iff.2 (isP_mem h hi)
  exact ⟨h1, by rw [getD_lt h1]; exact List.getElem_idxOf h1⟩
theorem isP_at {p : List Int} (h : isP p = true) {k i : Nat} (hk : k < p.length) (hi : i < p.length) : p.getD k 0 = i ↔ k = p.idxOf (i : Int) := by
  constructor
  · intro e
    have := (isP_iff.1 h).2.idxOf_getElem k hk
    rw [← getD_lt (d := 0) hk, e] at this
    exact this.symm
  · intro e
    have := (isP_idx h hi).2
    rw [← e] at this; exact this

def turnL (p : List Int) : List Int := (List.range p.length).map (fun i => ((p.idxOf ((i : Nat) : Int) : Nat) : Int))
theorem turnL_length (p : List Int) : (turnL p).length = p.length := by simp [turnL]
theorem turnL_at {p : List Int} {i : Nat} (hi : i < p.length) : (turnL p).getD i 0 = (p.idxOf (i : Int) : Nat) := by
  rw [getD_lt (by rw [turnL_length]; exact hi)]; simp [turnL]
theorem turnL_only {p st : List Int} (h : isP p = true) (hl : st.length = p.length) (hs : ∀ j : Nat, j < p.length → st.getD (p.getD j 0).toNat 0 = j) : st = turnL p := by
  apply List.ext_getElem (by rw [turnL_length, hl])
  intro i h1 h2
  have hi : i < p.length := by omega
  obtain ⟨h3, h4⟩ := isP_idx h hi
  have h5 := hs _ h3
  rw [h4] at h5
  rw [← getD_lt (d := 0) h1, ← getD_lt (d := 0) h2, turnL_at hi]
  simpa using h5
theorem turnL_back {p : List Int} (h : isP p = true) {j : Nat} (hj : j < p.length) : (turnL p).getD (p.getD j 0).toNat 0 = j := by
  have hm := (isP_iff.1 h).1 _ (getD_mem hj)
  obtain ⟨x, hx⟩ := Int.eq_ofNat_of_zero_le hm.1
  have hx' : x < p.length := by omega
  rw [hx, Int.toNat_natCast, turnL_at hx']
  have := (isP_at h hj hx').1 hx
  omega
theorem turnL_isP {p : List Int} (h : isP p = true) : isP (turnL p) = true := by
  refine isP_iff.2 ⟨fun x hx => ?_, ?_⟩
  · rw [turnL_length]
    simp only [turnL, List.mem_map, List.mem_range] at hx
    obtain ⟨i, hi, rfl⟩ := hx
    have := (isP_idx h hi).1
    omega
  · refine List.pairwise_iff_getElem.2 fun i j hi hj hij => ?_
    rw [turnL_length] at hi hj
    rw [← getD_lt (d := 0) (by rw [turnL_length]; exact hi), ← getD_lt (d := 0) (by rw [turnL_length]; exact hj), turnL_at hi, turnL_at hj]
    intro e
    have e' : p.idxOf (i : Int) = p.idxOf (j : Int) := by omega
    have h1 := (isP_idx h hi).2
    have h2 := (isP_idx h hj).2
    rw [e', h2] at h1
    omega
theorem take_turnL {p : List Int} {i : Nat} (hi : i < p.length) : (turnL p).take (i + 1) = (turnL p).take i ++ [((p.idxOf (i : Int) : Nat) : Int)] := by
  rw [take_getD (by rw [turnL_length]; exact hi), turnL_at hi]

/-! Ranks. -/
def el (l : List Int) (i : Nat) : Int := l.getD i 0
def bef (l : List Int) (k i : Nat) : Bool := decide (el l k < el l i ∨ (el l k = el l i ∧ k < i))
def rank (l : List Int) (i : Nat) : Nat := (List.range l.length).countP (fun k => bef l k i)
def ranksL (l : List Int) : List Int := (List.range l.length).map (fun i => ((rank l i : Nat) : Int))
def sortedL (l : List Int) : List Int := turnL (ranksL l)
theorem ranksL_length (l : List Int) : (ranksL l).length = l.length := by simp [ranksL]
theorem ranksL_at {l : List Int} {i : Nat} (hi : i < l.length) : (ranksL l).getD i 0 = (rank l i : Nat) := by
  rw [getD_lt (by rw [ranksL_length]; exact hi)]; simp [ranksL]
theorem sortedL_length (l : List Int) : (sortedL l).length = l.length := by simp [sortedL, turnL_length, ranksL_length]
theorem take_ranksL {l : List Int} {i : Nat} (hi : i < l.length) : (ranksL l).take (i + 1) = (ranksL l).take i ++ [((rank l i : Nat) : Int)] := by
  rw [take_getD (by rw [ranksL_length]; exact hi), ranksL_at hi]
theorem rank_le (l : List Int) (i k : Nat) : (List.range k).countP (fun k => bef l k i) ≤ k := by
  have := List.countP_le_length (p := fun k => bef l k i) (l := List.range k)
  simpa using this
theorem countP_range_succ (f : Nat → Bool) (k : Nat) : (List.range (k + 1)).countP f = (List.range k).countP f + (if f k then 1 else 0) := by
  rw [List.range_succ, List.countP_append]; simp [List.countP_cons]

/-- The sorted order: the indices, each once, those ahead first. -/
structure IsSorted (l : List Int) (s : List Nat) : Prop where
  perm : s.Perm (List.range l.length)
  order : s.Pairwise (fun a b => bef l a b = true)
theorem IsSorted.len {l : List Int} {s : List Nat} (h : IsSorted l s) : s.length = l.length := by simpa using h.perm.length_eq
theorem bef_irrefl (l : List Int) (a : Nat) : bef l a a = false := by simp [bef]
theorem bef_asymm {l : List Int} {a b : Nat} (h : bef l a b = true) : bef l b a = false := by
  simp [bef] at h ⊢; omega
theorem rank_at {l : List Int} {s : List Nat} (h : IsSorted l s) {m : Nat} (hm : m < s.length) : rank l s[m] = m := by
  unfold rank
  rw [← h.perm.countP_eq]
  have hsplit : s = s.take m ++ s.drop m := (List.take_append_drop m s).symm
  have hp := List.pairwise_iff_getElem.1 h.order
  generalize hx : s[m] = x
  rw [hsplit, List.countP_append]
  have h1 : (s.take m).countP (fun k => bef l k x) = m := by
    have : (s.take m).countP (fun k => bef l k x) = (s.take m).length := by
      apply List.countP_eq_length.2
      intro a ha
      obtain ⟨i, hi, rfl⟩ := List.getElem_of_mem ha
      simp at hi
      rw [List.getElem_take, ← hx]
      exact hp i m (by omega) hm (by omega)
    rw [this]; simp; omega
  have h2 : (s.drop m).countP (fun k => bef l k x) = 0 := by
    apply List.countP_eq_zero.2
    intro a ha
    obtain ⟨i, hi, rfl⟩ := List.getElem_of_mem ha
    simp at hi
    rw [List.getElem_drop, ← hx]
    rcases Nat.eq_zero_or_pos i with rfl | h0
    · simp [bef_irrefl]
    · have := bef_asymm (hp m (m + i) hm (by omega) (by omega))
      simp [this]
  omega
theorem sorted_ranks {l : List Int} {s : List Nat} (h : IsSorted l s) {m : Nat} (hm : m < s.length) : (ranksL l).getD s[m] 0 = m := by
  have : s[m] < l.length := by have := h.perm.mem_iff.1 (List.getElem_mem hm); simpa using this
  rw [ranksL_at this, rank_at h hm]
theorem sorted_find {l : List Int} {s : List Nat} (h : IsSorted l s) {i : Nat} (hi : i < l.length) : ∃ m, ∃ hm : m < s.length, s[m] = i ∧ rank l i = m := by
  have : i ∈ s := h.perm.mem_iff.2 (by simpa using hi)
  obtain ⟨m, hm, rfl⟩ := List.getElem_of_mem this
  exact ⟨m, hm, rfl, rank_at h hm⟩
theorem ranksL_isP {l : List Int} {s : List Nat} (h : IsSorted l s) : isP (ranksL l) = true := by
  refine isP_iff.2 ⟨fun x hx => ?_, ?_⟩
  · rw [ranksL_length]
    simp only [ranksL, List.mem_map, List.mem_range] at hx
    obtain ⟨i, hi, rfl⟩ := hx
    obtain ⟨m, hm, -, he⟩ := sorted_find h hi
    have := h.len
    omega
  · refine List.pairwise_iff_getElem.2 fun i j hi hj hij => ?_
    rw [ranksL_length] at hi hj
    rw [← getD_lt (d := 0) (by rw [ranksL_length]; exact hi), ← getD_lt (d := 0) (by rw [ranksL_length]; exact hj), ranksL_at hi, ranksL_at hj]
    intro e
    obtain ⟨m, hm, e1, e2⟩ := sorted_find h hi
    obtain ⟨n, hn, e3, e4⟩ := sorted_find h hj
    have : m = n := by omega
    subst this
    omega
def nats (s : List Nat) : List Int := s.map (fun (n : Nat) => (n : Int))
theorem nats_length (s : List Nat) : (nats s).length = s.length := by simp [nats]
theorem nats_at {s : List Nat} {j : Nat} (h : j < s.length) : (nats s).getD j 0 = (s[j] : Int) := by
  rw [getD_lt (by rw [nats_length]; exact h)]; simp [nats]
theorem nats_isP {l : List Int} {s : List Nat} (h : IsSorted l s) : isP (nats s) = true := by
  refine isP_iff.2 ⟨fun x hx => ?_, ?_⟩
  · simp only [nats, List.mem_map] at hx
    obtain ⟨i, hi, rfl⟩ := hx
    have := h.perm.mem_iff.1 hi
    simp at this
    have := h.len
    simp [nats]; omega
  · have hn : s.Nodup := h.perm.nodup_iff.2 List.nodup_range
    refine List.pairwise_iff_getElem.2 fun i j hi hj hij => ?_
    simp [nats] at hi hj ⊢
    have := List.pairwise_iff_getElem.1 hn i j hi hj hij
    omega
theorem sortedL_eq {l : List Int} {s : List Nat} (h : IsSorted l s) : nats s = sortedL l := by
  refine turnL_only (ranksL_isP h) (by rw [nats_length, ranksL_length, h.len]) fun j hj => ?_
  rw [ranksL_length] at hj
  obtain ⟨m, hm, e1, e2⟩ := sorted_find h hj
  rw [ranksL_at hj, Int.toNat_natCast, e2, nats_at hm, e1]
theorem turn_sorted {l : List Int} {s : List Nat} (h : IsSorted l s) : turnL (nats s) = ranksL l := by
  refine (turnL_only (nats_isP h) (by rw [ranksL_length, nats_length, h.len]) fun j hj => ?_).symm
  rw [nats_length] at hj
  rw [nats_at hj, Int.toNat_natCast, sorted_ranks h hj]

/-! Inversions. -/
def cross (l : List Int) : List Nat → List Nat → Nat
  | [], _ => 0
  | x :: xs, ys => ys.countP (fun y => decide (el l y < el l x)) + cross l xs ys
def inv (l : List Int) : List Nat → Nat
  | [] => 0
  | x :: xs => xs.countP (fun y => decide (el l y < el l x)) + inv l xs
theorem inv_append (l : List Int) (xs ys : List Nat) : inv l (xs ++ ys) = inv l xs + inv l ys + cross l xs ys := by
  induction xs with
  | nil => simp [inv, cross]
  | cons x xs ih => simp only [List.cons_append, inv, cross, List.countP_append, ih]; omega
theorem cross_left {l : List Int} {xs xs' : List Nat} (h : xs.Perm xs') (ys : List Nat) : cross l xs ys = cross l xs' ys := by
  induction h with
  | nil => rfl
  | cons x _ ih => simp [cross, ih]
  | swap x y _ => simp only [cross]; omega
  | trans _ _ h1 h2 => rw [h1, h2]
theorem cross_right {l : List Int} (xs : List Nat) {ys ys' : List Nat} (h : ys.Perm ys') : cross l xs ys = cross l xs ys' := by
  induction xs with
  | nil => rfl
  | cons x xs ih => simp only [cross, ih, h.countP_eq]
theorem cross_nil (l : List Int) (xs : List Nat) : cross l xs [] = 0 := by
  induction xs with
  | nil => rfl
  | cons x xs ih => simp [cross, ih]
theorem cross_cons (l : List Int) (xs : List Nat) (y : Nat) (ys : List Nat) : cross l xs (y :: ys) = xs.countP (fun x => decide (el l y < el l x)) + cross l xs ys := by
  induction xs with
  | nil => rfl
  | cons x xs ih => simp only [cross, ih, List.countP_cons]; omega
def tur (l : List Int) : Nat → Nat
  | 0 => 0
  | n + 1 => tur l n + (List.range n).countP (fun k => decide (el l n < el l k))
theorem inv_range (l : List Int) (n : Nat) : inv l (List.range n) = tur l n := by
  induction n with
  | zero => rfl
  | succ n ih => rw [List.range_succ, inv_append, ih, cross_cons, cross_nil]; simp [inv, tur]
theorem tur_le (l : List Int) (n : Nat) : tur l n ≤ n * n := by
  induction n with
  | zero => simp [tur]
  | succ n ih =>
    have := List.countP_le_length (p := fun k => decide (el l n < el l k)) (l := List.range n)
    simp at this
    simp only [tur]
    have e : (n + 1) * (n + 1) = n * n + 2 * n + 1 := by rw [Nat.mul_add, Nat.add_mul]; omega
    omega
theorem inv_le (l : List Int) (s : List Nat) : inv l s ≤ s.length * s.length := by
  induction s with
  | nil => simp [inv]
  | cons x s ih =>
    have := List.countP_le_length (p := fun y => decide (el l y < el l x)) (l := s)
    have e : (s.length + 1) * (s.length + 1) = s.length * s.length + 2 * s.length + 1 := by rw [Nat.mul_add, Nat.add_mul]; omega
    simp only [inv, List.length_cons]
    omega
theorem cross_le (l : List Int) (xs ys : List Nat) : cross l xs ys ≤ xs.length * ys.length := by
  induction xs with
  | nil => simp [cross]
  | cons x xs ih =>
    have := List.countP_le_length (p := fun y => decide (el l y < el l x)) (l := ys)
    simp only [cross, List.length_cons, Nat.add_mul]
    omega

/-- The order by which the halves are merged. -/
def le (l : List Int) (a b : Nat) : Bool := decide (el l a < el l b ∨ (el l a = el l b ∧ a ≤ b))
theorem le_trans (l : List Int) (a b c : Nat) (h1 : le l a b = true) (h2 : le l b c = true) : le l a c = true := by
  simp [le] at *; omega
theorem le_total (l : List Int) (a b : Nat) : (le l a b || le l b a) = true := by
  simp [le]; omega
theorem le_lt {l : List Int} {a b : Nat} (h : a < b) : le l a b = decide (el l a ≤ el l b) := by
  have : (el l a < el l b ∨ (el l a = el l b ∧ a ≤ b)) ↔ el l a ≤ el l b := by omega
  unfold le
  exact decide_eq_decide.2 this
/-- A sorted piece. -/
def Srt (l : List Int) (s : List Nat) : Prop := s.Pairwise (fun a b => le l a b = true)
theorem Srt.tail {l : List Int} {x : Nat} {s : List Nat} (h : Srt l (x :: s)) : Srt l s := (List.pairwise_cons.1 h).2
theorem Srt.merge {l : List Int} {xs ys : List Nat} (hx : Srt l xs) (hy : Srt l ys) : Srt l (xs.merge ys (le l)) := List.pairwise_merge (le_trans l) (le_total l) xs ys hx hy
theorem cross_first {l : List Int} {x y : Nat} {xs ys : List Nat} (hy : Srt l (y :: ys)) (h : el l x ≤ el l y) : cross l (x :: xs) (y :: ys) = cross l xs (y :: ys) := by
  have : (y :: ys).countP (fun y => decide (el l y < el l x)) = 0 := by
    apply List.countP_eq_zero.2
    intro a ha
    rcases List.mem_cons.1 ha with rfl | ha
    · simp; omega
    · have := (List.pairwise_cons.1 hy).1 a ha
      simp [le] at this ⊢; omega
  simp only [cross, this, Nat.zero_add]
theorem cross_second {l : List Int} {x y : Nat} {xs ys : List Nat} (hx : Srt l (x :: xs)) (h : el l y < el l x) : cross l (x :: xs) (y :: ys) = (xs.length + 1) + cross l (x :: xs) ys := by
  rw [cross_cons]
  have : (x :: xs).countP (fun x => decide (el l y < el l x)) = (x :: xs).length := by
    apply List.countP_eq_length.2
    intro a ha
    rcases List.mem_cons.1 ha with rfl | ha
    · simp; omega
    · have := (List.pairwise_cons.1 hx).1 a ha
      simp [le] at this ⊢; omega
  rw [this]; simp
theorem merge_first {l : List Int} {x y : Nat} {xs ys : List Nat} (hl : x < y) (h : el l x ≤ el l y) : (x :: xs).merge (y :: ys) (le l) = x :: xs.merge (y :: ys) (le l) := by
  rw [List.cons_merge_cons, le_lt hl, if_pos (by simpa using h)]
theorem merge_second {l : List Int} {x y : Nat} {xs ys : List Nat} (hl : x < y) (h : el l y < el l x) : (x :: xs).merge (y :: ys) (le l) = y :: (x :: xs).merge ys (le l) := by
  rw [List.cons_merge_cons, le_lt hl, if_neg (by simp; omega)]
theorem srt_sorted {l : List Int} {s : List Nat} (hp : s.Perm (List.range l.length)) (hs : Srt l s) : IsSorted l s := by
  refine ⟨hp, ?_⟩
  have hn : s.Nodup := hp.nodup_iff.2 List.nodup_range
  refine List.pairwise_iff_getElem.2 fun i j hi hj hij => ?_
  have h1 := List.pairwise_iff_getElem.1 hn i j hi hj hij
  have h2 := List.pairwise_iff_getElem.1 hs i j hi hj hij
  simp [le, bef] at *; omega

/-! What Turned answers. -/
def turned (l : List Int) : Nat := tur l l.length
theorem exists_sorted (l : List Int) : ∃ s, IsSorted l s := by
  refine ⟨(List.range l.length).mergeSort (le l), srt_sorted (List.mergeSort_perm _ _) ?_⟩
  exact List.pairwise_mergeSort (le_trans l) (le_total l) _
theorem bef_rank {l : List Int} {i k : Nat} (hi : i < l.length) (hk : k < l.length) : rank l k < rank l i ↔ bef l k i = true := by
  obtain ⟨s, h⟩ := exists_sorted l
  obtain ⟨m, hm, e1, e2⟩ := sorted_find h hi
  obtain ⟨n, hn, e3, e4⟩ := sorted_find h hk
  have hp := List.pairwise_iff_getElem.1 h.order
  constructor
  · intro hlt
    have := hp n m hn hm (by omega)
    rwa [e1, e3] at this
  · intro hb
    rcases Nat.lt_trichotomy n m with hlt | heq | hgt
    · omega
    · subst heq
      have : i = k := by omega
      subst this
      rw [bef_irrefl] at hb; cases hb
    · have := hp m n hm hn hgt
      rw [e1, e3] at this
      rw [bef_asymm this] at hb; cases hb
theorem turned_ranks (l : List Int) : turned (ranksL l) = turned l := by
  unfold turned
  rw [ranksL_length]
  have : ∀ n, n ≤ l.length → tur (ranksL l) n = tur l n := by
    intro n
    induction n with
    | zero => intro _; rfl
    | succ n ih =>
      intro hn
      simp only [tur]
      rw [ih (by omega)]
      congr 1
      apply List.countP_congr
      intro k hk
      simp only [List.mem_range] at hk
      rw [decide_eq_true_iff, decide_eq_true_iff]
      unfold el
      rw [ranksL_at (show n < l.length by omega), ranksL_at (show k < l.length by omega)]
      have := bef_rank (l := l) (i := k) (k := n) (by omega) (by omega)
      have h2 : bef l n k = true ↔ (el l n < el l k ∨ (el l n = el l k ∧ n < k)) := by unfold bef; exact decide_eq_true_iff
      rw [h2] at this
      unfold el at this
      omega
  exact this _ (Nat.le_refl _)
/-- Is there a place where the numbers fall? -/
def fallsL (l : List Int) (n : Nat) : Bool := (List.range n).any (fun i => decide (0 < i) && decide (el l i < el l (i - 1)))
theorem falls_succ (l : List Int) (n : Nat) : fallsL l (n + 1) = (fallsL l n || (decide (0 < n) && decide (el l n < el l (n - 1)))) := by
  simp [fallsL, List.range_succ, List.any_append]
theorem rises {l : List Int} {n : Nat} (h : fallsL l n = false) : ∀ i j, i ≤ j → j < n → el l i ≤ el l j := by
  intro i j hij hj
  induction j with
  | zero => obtain rfl : i = 0 := by omega
            omega
  | succ j ih =>
    rcases Nat.lt_or_ge i (j + 1) with hlt | hge
    · have h1 := ih (by omega) (by omega)
      have h2 : ¬ (el l (j + 1) < el l j) := by
        intro hc
        have : fallsL l n = true := by
          simp only [fallsL, List.any_eq_true, List.mem_range]
          exact ⟨j + 1, hj, by simpa using hc⟩
        rw [h] at this; cases this
      omega
    · obtain rfl : i = j + 1 := by omega
      omega
theorem tur_pos (l : List Int) (n : Nat) : (0 < tur l n) ↔ fallsL l n = true := by
  constructor
  · intro h
    cases hf : fallsL l n with
    | true => rfl
    | false =>
      have : ∀ m, m ≤ n → tur l m = 0 := by
        intro m
        induction m with
        | zero => intro _; rfl
        | succ m ih =>
          intro hm
          simp only [tur]
          rw [ih (by omega)]
          have : (List.range m).countP (fun k => decide (el l m < el l k)) = 0 := by
            apply List.countP_eq_zero.2
            intro k hk
            simp only [List.mem_range] at hk
            have := rises hf k m (by omega) (by omega)
            simp; omega
          omega
      rw [this n (Nat.le_refl _)] at h; omega
  · intro h
    simp only [fallsL, List.any_eq_true, List.mem_range, Bool.and_eq_true, decide_eq_true_eq] at h
    obtain ⟨i, hi, h0, hlt⟩ := h
    have h1 : 0 < (List.range i).countP (fun k => decide (el l i < el l k)) := by
      apply List.countP_pos_iff.2
      exact ⟨i - 1, by simp; omega, by simpa using hlt⟩
    have h2 : ∀ m, i < m → 0 < tur l m := by
      intro m hm
      induction m with
      | zero => omega
      | succ m ih =>
        simp only [tur]
        rcases Nat.lt_or_ge i m with h | h
        · have := ih h; omega
        · obtain rfl : i = m := by omega
          omega
    exact h2 n hi
end Go.Proofs.Ytdfalejldjbaiaa
