/-
  Increasing choices, the lengths that end at each index, the chosen one: the mathematics, without the program.
-/
namespace Go.Proofs.Ytlpjjnpafmakhaa

theorem getD_lt {α : Type} {l : List α} {d : α} {j : Nat} (h : j < l.length) : l.getD j d = l[j] := by simp [List.getD_eq_getElem?_getD, List.getElem?_eq_getElem h]
def el (l : List Int) (i : Nat) : Int := l.getD i 0
def nats (s : List Nat) : List Int := s.map (fun (n : Nat) => (n : Int))
theorem nats_length (s : List Nat) : (nats s).length = s.length := by simp [nats]
theorem nats_at {s : List Nat} {j : Nat} (h : j < s.length) : (nats s).getD j 0 = ((s.getD j 0 : Nat) : Int) := by
  rw [getD_lt (by rw [nats_length]; exact h), getD_lt h]; simp [nats]

/-- The inner loop of the reference: after m rounds. -/
def enIn (l : List Int) (o : List Nat) (i : Nat) : Nat → Nat
  | 0 => if 0 ≤ el l i then 1 else 0
  | m + 1 => if 0 ≤ el l i ∧ 0 ≤ el l m ∧ el l m < el l i ∧ enIn l o i m < o.getD m 0 + 1 then o.getD m 0 + 1 else enIn l o i m
def enTo (l : List Int) : Nat → List Nat
  | 0 => []
  | i + 1 => enTo l i ++ [enIn l (enTo l i) i i]
/-- The length of a longest increasing choice that ends at i. -/
def en (l : List Int) (i : Nat) : Nat := enIn l (enTo l i) i i
theorem enTo_length (l : List Int) (n : Nat) : (enTo l n).length = n := by
  induction n with
  | zero => rfl
  | succ n ih => simp [enTo, ih]
theorem enTo_at (l : List Int) {n k : Nat} (h : k < n) : (enTo l n).getD k 0 = en l k := by
  induction n with
  | zero => omega
  | succ n ih =>
    rcases Nat.lt_or_ge k n with h' | h'
    · rw [← ih h', enTo, getD_lt (by simp [enTo_length]; omega), getD_lt (by rw [enTo_length]; exact h'), List.getElem_append_left]
    · obtain rfl : k = n := by omega
      rw [enTo, getD_lt (by simp [enTo_length])]
      simp [enTo_length, en]
theorem enTo_succ (l : List Int) (n : Nat) : enTo l (n + 1) = enTo l n ++ [en l n] := rfl
def endsL (l : List Int) : List Int := nats (enTo l l.length)
theorem endsL_length (l : List Int) : (endsL l).length = l.length := by simp [endsL, nats_length, enTo_length]
theorem endsL_at {l : List Int} {i : Nat} (h : i < l.length) : (endsL l).getD i 0 = (en l i : Nat) := by
  unfold endsL
  rw [nats_at (by rw [enTo_length]; exact h), enTo_at l h]

theorem enIn_neg {l : List Int} {o : List Nat} {i : Nat} (h : el l i < 0) (m : Nat) : enIn l o i m = 0 := by
  induction m with
  | zero => simp only [enIn]; rw [if_neg (by omega)]
  | succ m ih => simp only [enIn]; rw [if_neg (by omega), ih]
theorem enIn_pos {l : List Int} {o : List Nat} {i : Nat} (h : 0 ≤ el l i) (m : Nat) : 1 ≤ enIn l o i m ∧ (∀ k, k < m → 0 ≤ el l k → el l k < el l i → o.getD k 0 + 1 ≤ enIn l o i m) ∧
    (enIn l o i m = 1 ∨ ∃ k, k < m ∧ 0 ≤ el l k ∧ el l k < el l i ∧ enIn l o i m = o.getD k 0 + 1) := by
  induction m with
  | zero => simp only [enIn]; rw [if_pos h]; exact ⟨by omega, fun k hk => by omega, .inl rfl⟩
  | succ m ih =>
    obtain ⟨h1, h2, h3⟩ := ih
    simp only [enIn]
    by_cases hc : 0 ≤ el l i ∧ 0 ≤ el l m ∧ el l m < el l i ∧ enIn l o i m < o.getD m 0 + 1
    · rw [if_pos hc]
      refine ⟨by omega, fun k hk hk0 hkl => ?_, .inr ⟨m, by omega, hc.2.1, hc.2.2.1, rfl⟩⟩
      rcases Nat.lt_or_ge k m with hlt | hge
      · have := h2 k hlt hk0 hkl; omega
      · obtain rfl : k = m := by omega
        omega
    · rw [if_neg hc]
      refine ⟨h1, fun k hk hk0 hkl => ?_, ?_⟩
      · rcases Nat.lt_or_ge k m with hlt | hge
        · exact h2 k hlt hk0 hkl
        · obtain rfl : k = m := by omega
          omega
      · rcases h3 with h3 | ⟨k, hk, r⟩
        · exact .inl h3
        · exact .inr ⟨k, by omega, r⟩
theorem en_neg {l : List Int} {i : Nat} (h : el l i < 0) : en l i = 0 := enIn_neg h i
theorem en_pos {l : List Int} {i : Nat} (h : 0 ≤ el l i) : 1 ≤ en l i := (enIn_pos h i).1
theorem en_more {l : List Int} {i k : Nat} (hk : k < i) (hk0 : 0 ≤ el l k) (hlt : el l k < el l i) : en l k + 1 ≤ en l i := by
  have := (enIn_pos (o := enTo l i) (show 0 ≤ el l i by omega) i).2.1 k hk hk0 hlt
  rwa [enTo_at l hk] at this
theorem en_from {l : List Int} {i : Nat} (h : 0 ≤ el l i) : en l i = 1 ∨ ∃ k, k < i ∧ 0 ≤ el l k ∧ el l k < el l i ∧ en l i = en l k + 1 := by
  rcases (enIn_pos (o := enTo l i) h i).2.2 with h1 | ⟨k, hk, h1, h2, h3⟩
  · exact .inl h1
  · rw [enTo_at l hk] at h3
    exact .inr ⟨k, hk, h1, h2, h3⟩
theorem en_zero {l : List Int} {i : Nat} : en l i = 0 ↔ el l i < 0 := by
  constructor
  · intro h
    rcases Int.lt_or_le (el l i) 0 with h1 | h1
    · exact h1
    · have := en_pos h1; omega
  · exact en_neg
theorem en_le (l : List Int) (i : Nat) : en l i ≤ i + 1 := by
  induction i using Nat.strongRecOn with
  | _ i ih =>
    rcases Int.lt_or_le (el l i) 0 with h | h
    · rw [en_neg h]; omega
    · rcases en_from h with h1 | ⟨k, hk, _, _, h2⟩
      · omega
      · have := ih k hk; omega
/-- In one pile the elements never increase. -/
theorem en_pile {l : List Int} {i j : Nat} (hij : i < j) (he : en l i = en l j) (h0 : 0 ≤ el l i) : el l j ≤ el l i := by
  rcases Int.lt_or_le (el l i) (el l j) with h | h
  · have := en_more hij h0 h; omega
  · exact h

/-! The piles' tops. -/
structure Tops (l : List Int) (i : Nat) (T : List Int) : Prop where
  low : ∀ k, k < i → 0 ≤ el l k → en l k ≤ T.length ∧ T.getD (en l k - 1) 0 ≤ el l k
  hit : ∀ j, j < T.length → ∃ k, k < i ∧ 0 ≤ el l k ∧ en l k = j + 1 ∧ el l k = T.getD j 0
  up : ∀ j k, j < k → k < T.length → T.getD j 0 < T.getD k 0
  len : T.length ≤ i
theorem Tops.start (l : List Int) : Tops l 0 [] := ⟨fun k hk => by omega, fun j hj => by simp at hj, fun j k _ hk => by simp at hk, by simp⟩
theorem Tops.skip {l : List Int} {i : Nat} {T : List Int} (h : Tops l i T) (hx : el l i < 0) : Tops l (i + 1) T := by
  refine ⟨fun k hk hk0 => ?_, fun j hj => ?_, h.up, by have := h.len; omega⟩
  · rcases Nat.lt_or_ge k i with h' | h'
    · exact h.low k h' hk0
    · obtain rfl : k = i := by omega
      omega
  · obtain ⟨k, hk, r⟩ := h.hit j hj
    exact ⟨k, by omega, r⟩
/-- The pile on which x goes. -/
structure Pile (T : List Int) (x : Int) (p : Nat) : Prop where
  le : p ≤ T.length
  below : ∀ j, j < p → T.getD j 0 < x
  above : ∀ j, p ≤ j → j < T.length → x ≤ T.getD j 0
theorem Tops.en {l : List Int} {i : Nat} {T : List Int} {p : Nat} (h : Tops l i T) (h0 : 0 ≤ el l i) (hp : Pile T (el l i) p) : en l i = p + 1 := by
  have hup : Go.Proofs.Ytlpjjnpafmakhaa.en l i ≤ p + 1 := by
    rcases en_from h0 with h1 | ⟨k, hk, hk0, hkl, h2⟩
    · omega
    · have h3 := h.low k hk hk0
      have h4 := en_pos hk0
      rcases Nat.lt_or_ge (Go.Proofs.Ytlpjjnpafmakhaa.en l k - 1) p with h5 | h5
      · omega
      · have := hp.above _ h5 (by omega); omega
  have hlo : p + 1 ≤ Go.Proofs.Ytlpjjnpafmakhaa.en l i := by
    rcases Nat.eq_zero_or_pos p with rfl | hpos
    · have := en_pos h0; omega
    · have h1 := hp.below (p - 1) (by omega)
      obtain ⟨k, hk, hk0, hke, hkv⟩ := h.hit (p - 1) (by have := hp.le; omega)
      have := en_more hk hk0 (by omega : el l k < el l i)
      omega
  omega
theorem getD_set (T : List Int) (p j : Nat) (x : Int) (hp : p < T.length) : (T.set p x).getD j 0 = if p = j then x else T.getD j 0 := by
  rw [List.getD_eq_getElem?_getD, List.getElem?_set, List.getD_eq_getElem?_getD]
  by_cases h : p = j
  · subst h; simp [hp]
  · simp [h]
theorem Tops.set {l : List Int} {i : Nat} {T : List Int} {p : Nat} (h : Tops l i T) (h0 : 0 ≤ el l i) (hp : Pile T (el l i) p) (hlt : p < T.length) : Tops l (i + 1) (T.set p (el l i)) := by
  have he := h.en h0 hp
  refine ⟨fun k hk hk0 => ?_, fun j hj => ?_, fun j k hjk hk => ?_, by have := h.len; simp; omega⟩
  · rw [List.length_set, getD_set _ _ _ _ hlt]
    rcases Nat.lt_or_ge k i with h' | h'
    · obtain ⟨h1, h2⟩ := h.low k h' hk0
      refine ⟨h1, ?_⟩
      by_cases hc : p = Go.Proofs.Ytlpjjnpafmakhaa.en l k - 1
      · rw [if_pos hc]
        have h3 := hp.above p (Nat.le_refl _) hlt
        rw [← hc] at h2; omega
      · rw [if_neg hc]; exact h2
    · obtain rfl : k = i := by omega
      rw [he, if_pos (by omega)]
      exact ⟨by omega, Int.le_refl _⟩
  · rw [List.length_set] at hj
    rw [getD_set _ _ _ _ hlt]
    by_cases hc : p = j
    · subst hc
      exact ⟨i, by omega, h0, he, by rw [if_pos rfl]⟩
    · rw [if_neg hc]
      obtain ⟨k, hk, r⟩ := h.hit j hj
      exact ⟨k, by omega, r⟩
  · rw [List.length_set] at hk
    rw [getD_set _ _ _ _ hlt, getD_set _ _ _ _ hlt]
    have hu := h.up j k hjk hk
    by_cases h1 : p = j
    · subst h1
      rw [if_pos rfl, if_neg (by omega)]
      have := hp.above p (Nat.le_refl _) hlt
      omega
    · rw [if_neg h1]
      by_cases h2 : p = k
      · subst h2
        rw [if_pos rfl]
        exact hp.below j hjk
      · rw [if_neg h2]; exact hu
theorem getD_snoc (T : List Int) (j : Nat) (x : Int) : (T ++ [x]).getD j 0 = if j < T.length then T.getD j 0 else if j = T.length then x else 0 := by
  rw [List.getD_eq_getElem?_getD, List.getElem?_append, List.getD_eq_getElem?_getD]
  by_cases h : j < T.length
  · rw [if_pos h, if_pos h]
  · rw [if_neg h, if_neg h]
    by_cases h2 : j = T.length
    · subst h2; simp
    · rw [if_neg h2]
      simp [show ¬ j - T.length < 1 by omega]
theorem Tops.push {l : List Int} {i : Nat} {T : List Int} (h : Tops l i T) (h0 : 0 ≤ el l i) (hp : Pile T (el l i) T.length) : Tops l (i + 1) (T ++ [el l i]) := by
  have he := h.en h0 hp
  refine ⟨fun k hk hk0 => ?_, fun j hj => ?_, fun j k hjk hk => ?_, by have := h.len; simp; omega⟩
  · rw [List.length_append, List.length_singleton, getD_snoc]
    rcases Nat.lt_or_ge k i with h' | h'
    · obtain ⟨h1, h2⟩ := h.low k h' hk0
      have := en_pos hk0
      rw [if_pos (by omega)]
      exact ⟨by omega, h2⟩
    · obtain rfl : k = i := by omega
      rw [he, if_neg (by omega), if_pos (by omega)]
      exact ⟨by omega, Int.le_refl _⟩
  · rw [List.length_append, List.length_singleton] at hj
    rw [getD_snoc]
    rcases Nat.lt_or_ge j T.length with h' | h'
    · rw [if_pos h']
      obtain ⟨k, hk, r⟩ := h.hit j h'
      exact ⟨k, by omega, r⟩
    · obtain rfl : j = T.length := by omega
      rw [if_neg (by omega), if_pos rfl]
      exact ⟨i, by omega, h0, he, rfl⟩
  · rw [List.length_append, List.length_singleton] at hk
    rw [getD_snoc, getD_snoc, if_pos (by omega)]
    rcases Nat.lt_or_ge k T.length with h' | h'
    · rw [if_pos h']; exact h.up j k hjk h'
    · obtain rfl : k = T.length := by omega
      rw [if_neg (by omega), if_pos rfl]
      exact hp.below j hjk

/-! The greatest value. -/
def mx (f : Nat → Nat) : Nat → Nat
  | 0 => 0
  | n + 1 => max (mx f n) (f n)
theorem mx_le (f : Nat → Nat) {n k : Nat} (h : k < n) : f k ≤ mx f n := by
  induction n with
  | zero => omega
  | succ n ih =>
    simp only [mx]
    rcases Nat.lt_or_ge k n with h' | h'
    · have := ih h'; omega
    · obtain rfl : k = n := by omega
      omega
theorem mx_hit (f : Nat → Nat) (n : Nat) : mx f n = 0 ∨ ∃ k, k < n ∧ f k = mx f n := by
  induction n with
  | zero => exact .inl rfl
  | succ n ih =>
    simp only [mx]
    rcases Nat.le_total (mx f n) (f n) with h | h
    · rw [Nat.max_eq_right h]
      exact .inr ⟨n, by omega, rfl⟩
    · rw [Nat.max_eq_left h]
      rcases ih with h1 | ⟨k, hk, h1⟩
      · exact .inl h1
      · exact .inr ⟨k, by omega, h1⟩
theorem mx_congr {f g : Nat → Nat} {n : Nat} (h : ∀ k, k < n → f k = g k) : mx f n = mx g n := by
  induction n with
  | zero => rfl
  | succ n ih => simp only [mx]; rw [ih (fun k hk => h k (by omega)), h n (by omega)]
theorem mx_bound {f : Nat → Nat} {n B : Nat} (h : ∀ k, k < n → f k ≤ B) : mx f n ≤ B := by
  rcases mx_hit f n with h1 | ⟨k, hk, h1⟩
  · omega
  · rw [← h1]; exact h k hk
def lenL (l : List Int) : Nat := mx (en l) l.length
theorem lenL_le (l : List Int) : lenL l ≤ l.length := mx_bound (fun k hk => by have := en_le l k; omega)

/-! The chosen one. -/
def chosen (l : List Int) : Nat → Nat → List Nat
  | 0, _ => []
  | k + 1, w => if w = 0 then [] else if en l k = w then chosen l k (w - 1) ++ [k] else chosen l k w
def Has (l : List Int) (lim w : Nat) : Prop := w = 0 ∨ ∃ k, k < lim ∧ en l k = w
theorem chosen_zero (l : List Int) (lim : Nat) : chosen l lim 0 = [] := by
  cases lim with
  | zero => rfl
  | succ k => simp [chosen]
theorem chosen_hit {l : List Int} {k w : Nat} (h : en l k = w + 1) : chosen l (k + 1) (w + 1) = chosen l k w ++ [k] := by
  simp [chosen, h]
theorem chosen_miss {l : List Int} {k w : Nat} (h : en l k ≠ w + 1) : chosen l (k + 1) (w + 1) = chosen l k (w + 1) := by
  simp [chosen, h]
theorem Has.start (l : List Int) : Has l l.length (lenL l) := by
  rcases mx_hit (en l) l.length with h | h
  · exact .inl h
  · exact .inr h
theorem Has.hit {l : List Int} {k w : Nat} (h : en l k = w + 1) : Has l k w := by
  rcases Nat.eq_zero_or_pos w with rfl | hw
  · exact .inl rfl
  · have h0 : 0 ≤ el l k := by
      rcases Int.lt_or_le (el l k) 0 with h1 | h1
      · rw [en_neg h1] at h; omega
      · exact h1
    rcases en_from h0 with h1 | ⟨j, hj, _, _, h2⟩
    · omega
    · exact .inr ⟨j, hj, by omega⟩
theorem Has.miss {l : List Int} {k w : Nat} (h : Has l (k + 1) (w + 1)) (hn : en l k ≠ w + 1) : Has l k (w + 1) := by
  rcases h with h | ⟨j, hj, he⟩
  · omega
  · rcases Nat.lt_or_ge j k with h1 | h1
    · exact .inr ⟨j, h1, he⟩
    · obtain rfl : j = k := by omega
      exact absurd he hn
theorem Has.pos {l : List Int} {lim w : Nat} (h : Has l lim (w + 1)) : 0 < lim := by
  rcases h with h | ⟨j, hj, _⟩
  · omega
  · omega
theorem chosen_length {l : List Int} {lim w : Nat} (h : Has l lim w) : (chosen l lim w).length = w := by
  induction lim generalizing w with
  | zero =>
    rcases h with rfl | ⟨k, hk, _⟩
    · rfl
    · omega
  | succ k ih =>
    cases w with
    | zero => rw [chosen_zero]; rfl
    | succ w =>
      by_cases he : en l k = w + 1
      · rw [chosen_hit he, List.length_append, ih (Has.hit he)]; rfl
      · rw [chosen_miss he, ih (Has.miss h he)]
theorem chosen_low {l : List Int} {lim w : Nat} : ∀ a ∈ chosen l lim w, a < lim := by
  induction lim generalizing w with
  | zero => intro a ha; simp [chosen] at ha
  | succ k ih =>
    intro a ha
    cases w with
    | zero => rw [chosen_zero] at ha; simp at ha
    | succ w =>
      by_cases he : en l k = w + 1
      · rw [chosen_hit he, List.mem_append, List.mem_singleton] at ha
        rcases ha with ha | rfl
        · have := ih a ha; omega
        · omega
      · rw [chosen_miss he] at ha
        have := ih a ha; omega
/-- By the last index with the wanted value. -/
theorem chosen_last {l : List Int} {lim w a : Nat} (ha : a < lim) (he : en l a = w + 1) (hno : ∀ k, a < k → k < lim → en l k ≠ w + 1) : chosen l lim (w + 1) = chosen l a w ++ [a] := by
  induction lim with
  | zero => omega
  | succ k ih =>
    rcases Nat.lt_or_ge a k with h | h
    · rw [chosen_miss (hno k h (by omega))]
      exact ih h (fun j h1 h2 => hno j h1 (by omega))
    · obtain rfl : a = k := by omega
      exact chosen_hit he
def longL (l : List Int) : List Nat := chosen l l.length (lenL l)
theorem longL_length (l : List Int) : (longL l).length = lenL l := chosen_length (Has.start l)

/-- Is it an increasing choice? -/
def risingTo (l at_ : List Int) : Nat → Bool
  | 0 => true
  | i + 1 => risingTo l at_ i && decide (0 ≤ at_.getD i 0 ∧ at_.getD i 0 < l.length ∧ 0 ≤ el l (at_.getD i 0).toNat ∧ (0 < i → at_.getD (i - 1) 0 < at_.getD i 0 ∧ el l (at_.getD (i - 1) 0).toNat < el l (at_.getD i 0).toNat))
def risingL (l at_ : List Int) : Bool := risingTo l at_ at_.length
theorem rising_at {l at_ : List Int} {n : Nat} (h : risingTo l at_ n = true) : ∀ i, i < n → 0 ≤ at_.getD i 0 ∧ at_.getD i 0 < l.length ∧ 0 ≤ el l (at_.getD i 0).toNat ∧ (0 < i → at_.getD (i - 1) 0 < at_.getD i 0 ∧ el l (at_.getD (i - 1) 0).toNat < el l (at_.getD i 0).toNat) := by
  induction n with
  | zero => intro i hi; omega
  | succ n ih =>
    simp only [risingTo, Bool.and_eq_true, decide_eq_true_eq] at h
    intro i hi
    rcases Nat.lt_or_ge i n with h' | h'
    · exact ih h.1 i h'
    · obtain rfl : i = n := by omega
      exact h.2
theorem rising_of {l at_ : List Int} {n : Nat} (h : ∀ i, i < n → 0 ≤ at_.getD i 0 ∧ at_.getD i 0 < l.length ∧ 0 ≤ el l (at_.getD i 0).toNat ∧ (0 < i → at_.getD (i - 1) 0 < at_.getD i 0 ∧ el l (at_.getD (i - 1) 0).toNat < el l (at_.getD i 0).toNat)) : risingTo l at_ n = true := by
  induction n with
  | zero => rfl
  | succ n ih =>
    simp only [risingTo, Bool.and_eq_true, decide_eq_true_eq]
    exact ⟨ih (fun i hi => h i (by omega)), h n (by omega)⟩
theorem rising_more {l at_ : List Int} {n : Nat} (h : risingTo l at_ n = true) {i : Nat} (hi : i < n) : i + 1 ≤ en l (at_.getD i 0).toNat := by
  induction i with
  | zero => exact en_pos (rising_at h 0 hi).2.2.1
  | succ i ih =>
    have h1 := ih (by omega)
    have h2 := rising_at h i (by omega)
    have h3 := rising_at h (i + 1) hi
    have h4 := h3.2.2.2 (by omega)
    rw [Nat.add_sub_cancel] at h4
    have := en_more (l := l) (i := (at_.getD (i + 1) 0).toNat) (k := (at_.getD i 0).toNat) (by omega) h2.2.2.1 h4.2
    omega
theorem rising_len {l at_ : List Int} (h : risingL l at_ = true) : at_.length ≤ lenL l := by
  rcases Nat.eq_zero_or_pos at_.length with h0 | h0
  · omega
  · have h1 := rising_more h (i := at_.length - 1) (by omega)
    have h2 := rising_at h (at_.length - 1) (by omega)
    have := mx_le (en l) (n := l.length) (k := (at_.getD (at_.length - 1) 0).toNat) (by omega)
    unfold lenL; omega
structure Chain (l : List Int) (s : List Nat) : Prop where
  low : ∀ a ∈ s, a < l.length ∧ 0 ≤ el l a
  up : ∀ i, i + 1 < s.length → s.getD i 0 < s.getD (i + 1) 0 ∧ el l (s.getD i 0) < el l (s.getD (i + 1) 0)
theorem chosen_end {l : List Int} {lim w : Nat} (h : Has l lim (w + 1)) : ∃ a, a < lim ∧ en l a = w + 1 ∧ (∀ k, a < k → k < lim → en l k ≠ w + 1) ∧ chosen l lim (w + 1) = chosen l a w ++ [a] := by
  have : ∃ a, a < lim ∧ en l a = w + 1 ∧ (∀ k, a < k → k < lim → en l k ≠ w + 1) := by
    induction lim with
    | zero => exact absurd h.pos (by omega)
    | succ k ih =>
      by_cases he : en l k = w + 1
      · exact ⟨k, by omega, he, fun j h1 h2 => by omega⟩
      · obtain ⟨a, h1, h2, h3⟩ := ih (h.miss he)
        refine ⟨a, by omega, h2, fun j h4 h5 => ?_⟩
        rcases Nat.lt_or_ge j k with h6 | h6
        · exact h3 j h4 h6
        · obtain rfl : j = k := by omega
          exact he
  obtain ⟨a, h1, h2, h3⟩ := this
  exact ⟨a, h1, h2, h3, chosen_last h1 h2 h3⟩
theorem getD_snocN (T : List Nat) (j : Nat) (x : Nat) : (T ++ [x]).getD j 0 = if j < T.length then T.getD j 0 else if j = T.length then x else 0 := by
  rw [List.getD_eq_getElem?_getD, List.getElem?_append, List.getD_eq_getElem?_getD]
  by_cases h : j < T.length
  · rw [if_pos h, if_pos h]
  · rw [if_neg h, if_neg h]
    by_cases h2 : j = T.length
    · subst h2; simp
    · rw [if_neg h2]
      simp [show ¬ j - T.length < 1 by omega]
theorem chosen_chain {l : List Int} {w : Nat} : ∀ {lim : Nat}, lim ≤ l.length → Has l lim w → Chain l (chosen l lim w) ∧ (∀ v, w = v + 1 → ∃ a, a < lim ∧ (chosen l lim w).getD v 0 = a ∧ en l a = w ∧ ∀ k, a < k → k < lim → en l k ≠ w) := by
  induction w with
  | zero =>
    intro lim _ _
    rw [chosen_zero]
    exact ⟨⟨fun a ha => by simp at ha, fun i hi => by simp at hi⟩, fun v hv => by omega⟩
  | succ w ih =>
    intro lim hlim hh
    obtain ⟨a, h1, h2, h3, h4⟩ := chosen_end hh
    have ha0 : 0 ≤ el l a := by
      rcases Int.lt_or_le (el l a) 0 with hn | hn
      · rw [en_neg hn] at h2; omega
      · exact hn
    have hHas := Has.hit h2
    obtain ⟨hc, hl⟩ := ih (lim := a) (by omega) hHas
    have hlen := chosen_length hHas
    rw [h4]
    refine ⟨⟨fun b hb => ?_, fun i hi => ?_⟩, fun v hv => ?_⟩
    · rw [List.mem_append, List.mem_singleton] at hb
      rcases hb with hb | rfl
      · exact hc.low b hb
      · exact ⟨by omega, ha0⟩
    · rw [List.length_append, List.length_singleton, hlen] at hi
      rw [getD_snocN, getD_snocN, hlen, if_pos (by omega)]
      rcases Nat.lt_or_ge (i + 1) w with h5 | h5
      · rw [if_pos h5]; exact hc.up i (by omega)
      · have hiw : i + 1 = w := by omega
        rw [if_neg (by omega), if_pos hiw]
        obtain ⟨b, hb1, hb2, hb3, hb4⟩ := hl i hiw.symm
        rw [hb2]
        refine ⟨hb1, ?_⟩
        rcases en_from ha0 with h6 | ⟨k, hk, hk0, hkl, hk2⟩
        · omega
        · rcases Nat.lt_trichotomy k b with h7 | h7 | h7
          · have := en_pile h7 (by omega) hk0; omega
          · subst h7; exact hkl
          · exact absurd (by omega) (hb4 k h7 hk)
    · obtain rfl : v = w := by omega
      rw [getD_snocN, hlen, if_neg (by omega), if_pos rfl]
      exact ⟨a, h1, rfl, h2, h3⟩
theorem longL_chain (l : List Int) : Chain l (longL l) := (chosen_chain (Nat.le_refl _) (Has.start l)).1
theorem longL_rising (l : List Int) : risingL l (nats (longL l)) = true := by
  have hc := longL_chain l
  refine rising_of fun i hi => ?_
  rw [nats_length] at hi
  have hm : (longL l).getD i 0 ∈ longL l := by rw [getD_lt hi]; exact List.getElem_mem _
  have hl := hc.low _ hm
  rw [nats_at hi, Int.toNat_natCast]
  refine ⟨by omega, by omega, hl.2, fun h0 => ?_⟩
  rw [nats_at (by omega), Int.toNat_natCast]
  have := hc.up (i - 1) (by omega)
  rw [Nat.sub_add_cancel h0] at this
  exact ⟨by omega, this.2⟩
end Go.Proofs.Ytlpjjnpafmakhaa
