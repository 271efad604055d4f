/-
  Plain: what the calls of attrs do, on lists.
-/
import Derived.Test.YteamnjaepgfcmaaSMath
namespace Go.Proofs.Yteamnjaepgfcmaa
set_option linter.unusedVariables false

def StS (l : List At) : Prop := l.Pairwise fun x y => cmpN x.1 y.1 < 0
theorem StS.nil : StS [] := List.Pairwise.nil
theorem StS.srt {l : List At} (h : StS l) : Srt l := h.imp fun h => cmpN_asymm h
def getL : List At → ByteArray → Option ByteArray
  | [], _ => none
  | x :: r, n => if x.1 = n then some x.2 else getL r n
theorem getL_head (l : List At) (n : ByteArray) : getL l n = (fil n l).head?.map Prod.snd := by
  induction l with
  | nil => rfl
  | cons x r ih =>
    unfold fil at ih ⊢
    by_cases h : x.1 = n
    · simp [getL, h]
    · simp [getL, h, ih]
theorem getL_none {l : List At} {n : ByteArray} : getL l n = none ↔ ∀ x ∈ l, x.1 ≠ n := by
  induction l with
  | nil => simp [getL]
  | cons x r ih =>
    by_cases h : x.1 = n
    · simp [getL, h]
    · simp [getL, h, ih]
theorem getL_some {l : List At} {n v : ByteArray} (h : getL l n = some v) : (n, v) ∈ l := by
  induction l with
  | nil => simp [getL] at h
  | cons x r ih =>
    by_cases e : x.1 = n
    · simp [getL, e] at h
      subst e h
      exact List.mem_cons_self
    · simp [getL, e] at h
      exact List.mem_cons_of_mem _ (ih h)
theorem getL_append (a b : List At) (n : ByteArray) : getL (a ++ b) n = (getL a n).or (getL b n) := by
  induction a with
  | nil => simp [getL]
  | cons x r ih =>
    by_cases h : x.1 = n
    · simp [getL, h]
    · simp [getL, h, ih]

def replL (n v : ByteArray) : List At → List At
  | [] => []
  | x :: r => if x.1 = n then (n, v) :: r else x :: replL n v r
def insL (n v : ByteArray) : List At → List At
  | [] => [(n, v)]
  | x :: r => if 0 < cmpN x.1 n then (n, v) :: x :: r else x :: insL n v r
def hasL (l : List At) (n : ByteArray) : Bool := l.any fun x => decide (x.1 = n)
theorem hasL_iff {l : List At} {n : ByteArray} : hasL l n = true ↔ ∃ x ∈ l, x.1 = n := by simp [hasL]
theorem hasL_not {l : List At} {n : ByteArray} : hasL l n = false ↔ ∀ x ∈ l, x.1 ≠ n := by simp [hasL]
def withL (l : List At) (n v : ByteArray) : List At := if hasL l n then replL n v l else insL n v l
def withoutL (l : List At) (n : ByteArray) : List At := l.filter fun x => decide (x.1 ≠ n)

theorem replL_set (n v : ByteArray) : ∀ (l : List At) (k : Nat) (hk : k < l.length), l[k].1 = n → (∀ j, (hj : j < l.length) → j < k → l[j].1 ≠ n) → replL n v l = l.set k (n, v) := by
  intro l
  induction l with
  | nil => intro k hk; simp at hk
  | cons x r ih =>
    intro k hk h1 h2
    cases k with
    | zero => simp at h1; simp [replL, h1]
    | succ k =>
      have h0 : x.1 ≠ n := h2 0 (by simp) (by omega)
      simp only [replL, if_neg h0, List.set_cons_succ]
      rw [ih k (by simpa using hk) (by simpa using h1) (fun j hj hjk => by have := h2 (j + 1) (by simpa using hj) (by omega); simpa using this)]
theorem insL_take (n v : ByteArray) : ∀ (l : List At) (t : Nat), t ≤ l.length → (∀ j, (hj : j < l.length) → j < t → ¬ 0 < cmpN l[j].1 n) → (∀ h : t < l.length, 0 < cmpN l[t].1 n) → insL n v l = l.take t ++ (n, v) :: l.drop t := by
  intro l
  induction l with
  | nil => intro t ht _ _; simp [insL]
  | cons x r ih =>
    intro t ht h1 h2
    cases t with
    | zero => have := h2 (by simp); simp at this; simp [insL, this]
    | succ t =>
      have h0 : ¬ 0 < cmpN x.1 n := h1 0 (by simp) (by omega)
      simp only [insL, if_neg h0, List.take_succ_cons, List.drop_succ_cons, List.cons_append]
      rw [ih t (by simpa using ht) (fun j hj hjt => by have := h1 (j + 1) (by simpa using hj) (by omega); simpa using this) (fun h => by have := h2 (by simpa using h); simpa using this)]

theorem fil_repl {n v m : ByteArray} (h : m ≠ n) : ∀ l : List At, fil m (replL n v l) = fil m l
  | [] => rfl
  | x :: r => by
    by_cases e : x.1 = n
    · have e1 : ¬ x.1 = m := fun e' => h (e'.symm.trans e)
      simp only [replL, if_pos e, fil]
      rw [List.filter_cons_of_neg (by simpa using fun e' => h e'.symm), List.filter_cons_of_neg (by simpa using e1)]
    · have ih := fil_repl (v := v) h r
      simp only [replL, if_neg e]
      unfold fil at ih ⊢
      by_cases e1 : x.1 = m
      · rw [List.filter_cons_of_pos (by simpa using e1), List.filter_cons_of_pos (by simpa using e1), ih]
      · rw [List.filter_cons_of_neg (by simpa using e1), List.filter_cons_of_neg (by simpa using e1), ih]
theorem fil_ins {n v m : ByteArray} (h : m ≠ n) : ∀ l : List At, fil m (insL n v l) = fil m l
  | [] => by simp [insL, fil, Ne.symm h]
  | x :: r => by
    by_cases e : 0 < cmpN x.1 n
    · simp only [insL, if_pos e, fil]
      rw [List.filter_cons_of_neg (by simpa using fun e' => h e'.symm)]
    · have ih := fil_ins (v := v) h r
      simp only [insL, if_neg e]
      unfold fil at ih ⊢
      by_cases e1 : x.1 = m
      · rw [List.filter_cons_of_pos (by simpa using e1), List.filter_cons_of_pos (by simpa using e1), ih]
      · rw [List.filter_cons_of_neg (by simpa using e1), List.filter_cons_of_neg (by simpa using e1), ih]
theorem fil_with {n v m : ByteArray} (h : m ≠ n) (l : List At) : fil m (withL l n v) = fil m l := by
  unfold withL
  split
  · exact fil_repl h l
  · exact fil_ins h l
theorem fil_without {n m : ByteArray} (h : m ≠ n) (l : List At) : fil m (withoutL l n) = fil m l := by
  unfold fil withoutL
  rw [List.filter_filter]
  apply List.filter_congr
  intro x _
  by_cases e : x.1 = m
  · subst e; simp [h]
  · simp [e]
theorem fil_without_self (n : ByteArray) (l : List At) : fil n (withoutL l n) = [] := fil_none fun x hx => by simpa [withoutL] using (List.mem_filter.1 hx).2
theorem get_repl_self {n v : ByteArray} : ∀ {l : List At}, (∃ x ∈ l, x.1 = n) → getL (replL n v l) n = some v
  | [], h => by simp at h
  | x :: r, h => by
    by_cases e : x.1 = n
    · simp [replL, e, getL]
    · simp only [replL, if_neg e, getL]
      obtain ⟨y, hy, hn⟩ := h
      rcases List.mem_cons.1 hy with rfl | hy
      · exact absurd hn e
      · exact get_repl_self ⟨y, hy, hn⟩
theorem get_ins_self {n v : ByteArray} : ∀ {l : List At}, (∀ x ∈ l, x.1 ≠ n) → getL (insL n v l) n = some v
  | [], _ => by simp [insL, getL]
  | x :: r, h => by
    by_cases e : 0 < cmpN x.1 n
    · simp [insL, e, getL]
    · simp only [insL, if_neg e, getL]
      rw [if_neg (h x List.mem_cons_self)]
      exact get_ins_self fun y hy => h y (List.mem_cons_of_mem _ hy)
theorem get_with_self (l : List At) (n v : ByteArray) : getL (withL l n v) n = some v := by
  unfold withL
  cases h : hasL l n with
  | true => rw [if_pos rfl]; exact get_repl_self (hasL_iff.1 h)
  | false => rw [if_neg (by simp)]; exact get_ins_self (hasL_not.1 h)
theorem get_with (l : List At) (n v m : ByteArray) : getL (withL l n v) m = if m = n then some v else getL l m := by
  by_cases h : m = n
  · subst h; rw [if_pos rfl, get_with_self]
  · rw [if_neg h, getL_head, getL_head, fil_with h]
theorem get_without (l : List At) (n m : ByteArray) : getL (withoutL l n) m = if m = n then none else getL l m := by
  by_cases h : m = n
  · subst h; rw [if_pos rfl, getL_head, fil_without_self]; rfl
  · rw [if_neg h, getL_head, getL_head, fil_without h]

/-! Strictly rising lists. -/
theorem mem_repl {n v : ByteArray} {x : At} : ∀ {l : List At}, x ∈ replL n v l → x = (n, v) ∨ x ∈ l
  | [], h => by simp [replL] at h
  | y :: r, h => by
    by_cases e : y.1 = n
    · simp only [replL, if_pos e] at h
      rcases List.mem_cons.1 h with rfl | h
      · exact .inl rfl
      · exact .inr (List.mem_cons_of_mem _ h)
    · simp only [replL, if_neg e] at h
      rcases List.mem_cons.1 h with rfl | h
      · exact .inr List.mem_cons_self
      · rcases mem_repl h with h | h
        · exact .inl h
        · exact .inr (List.mem_cons_of_mem _ h)
theorem mem_ins {n v : ByteArray} {x : At} : ∀ {l : List At}, x ∈ insL n v l → x = (n, v) ∨ x ∈ l
  | [], h => by simp [insL] at h; exact .inl h
  | y :: r, h => by
    by_cases e : 0 < cmpN y.1 n
    · simp only [insL, if_pos e] at h
      rcases List.mem_cons.1 h with rfl | h
      · exact .inl rfl
      · exact .inr h
    · simp only [insL, if_neg e] at h
      rcases List.mem_cons.1 h with rfl | h
      · exact .inr List.mem_cons_self
      · rcases mem_ins h with h | h
        · exact .inl h
        · exact .inr (List.mem_cons_of_mem _ h)
theorem mem_with {n v : ByteArray} {x : At} {l : List At} (h : x ∈ withL l n v) : x = (n, v) ∨ x ∈ l := by
  unfold withL at h
  split at h
  · exact mem_repl h
  · exact mem_ins h
theorem names_repl (n v : ByteArray) : ∀ l : List At, (replL n v l).map Prod.fst = l.map Prod.fst
  | [] => rfl
  | y :: r => by
    by_cases e : y.1 = n
    · simp [replL, e]
    · simp [replL, e, names_repl n v r]
theorem sts_names {l l' : List At} (h : l'.map Prod.fst = l.map Prod.fst) (hs : StS l) : StS l' := by
  have h1 : (l.map Prod.fst).Pairwise fun a b => cmpN a b < 0 := List.pairwise_map.2 hs
  rw [← h] at h1
  exact List.pairwise_map.1 h1
theorem sts_ins {n v : ByteArray} : ∀ {l : List At}, StS l → (∀ x ∈ l, x.1 ≠ n) → StS (insL n v l)
  | [], _, _ => by simp [insL, StS]
  | y :: r, hs, hn => by
    obtain ⟨h1, h2⟩ := List.pairwise_cons.1 hs
    by_cases e : 0 < cmpN y.1 n
    · have e' : cmpN n y.1 < 0 := by rw [cmpN_neg y.1 n]; omega
      simp only [insL, if_pos e]
      refine List.pairwise_cons.2 ⟨fun z hz => ?_, hs⟩
      rcases List.mem_cons.1 hz with rfl | hz
      · exact e'
      · exact cmpN_trans e' (h1 z hz)
    · simp only [insL, if_neg e]
      refine List.pairwise_cons.2 ⟨fun z hz => ?_, sts_ins h2 fun x hx => hn x (List.mem_cons_of_mem _ hx)⟩
      rcases mem_ins hz with rfl | hz
      · rcases cmpN_total y.1 n with h | h | h
        · exact h
        · exact absurd h (hn y List.mem_cons_self)
        · exact absurd (show 0 < cmpN y.1 n by rw [cmpN_neg n y.1]; omega) e
      · exact h1 z hz
theorem sts_with {l : List At} (h : StS l) (n v : ByteArray) : StS (withL l n v) := by
  unfold withL
  cases hh : hasL l n with
  | true => rw [if_pos rfl]; exact sts_names (names_repl n v l) h
  | false => rw [if_neg (by simp)]; exact sts_ins h (hasL_not.1 hh)
theorem sts_without {l : List At} (h : StS l) (n : ByteArray) : StS (withoutL l n) := h.sublist (List.filter_sublist)
theorem sts_unique : ∀ {a b : List At}, StS a → StS b → (∀ n, getL a n = getL b n) → a = b
  | [], [], _, _, _ => rfl
  | [], y :: s, _, _, h => by have := h y.1; simp [getL] at this
  | x :: r, [], _, _, h => by have := h x.1; simp [getL] at this
  | x :: r, y :: s, ha, hb, h => by
    obtain ⟨ha1, ha2⟩ := List.pairwise_cons.1 ha
    obtain ⟨hb1, hb2⟩ := List.pairwise_cons.1 hb
    have nr : ∀ z ∈ r, z.1 ≠ x.1 := fun z hz => (cmpN_ne (ha1 z hz)).symm
    have ns : ∀ z ∈ s, z.1 ≠ y.1 := fun z hz => (cmpN_ne (hb1 z hz)).symm
    have hx := h x.1
    have hy := h y.1
    rcases cmpN_total x.1 y.1 with e | e | e
    · have : getL (y :: s) x.1 = none := getL_none.2 fun z hz => by
        rcases List.mem_cons.1 hz with rfl | hz
        · exact (cmpN_ne e).symm
        · exact (cmpN_ne (cmpN_trans e (hb1 z hz))).symm
      rw [this] at hx; simp [getL] at hx
    · have e2 : x.2 = y.2 := by simp [getL, e] at hx; exact hx
      have exy : x = y := Prod.ext e e2
      subst exy
      have : r = s := sts_unique ha2 hb2 fun n => by
        by_cases hn : x.1 = n
        · subst hn; rw [getL_none.2 nr, getL_none.2 ns]
        · have := h n; simpa [getL, hn] using this
      rw [this]
    · have : getL (x :: r) y.1 = none := getL_none.2 fun z hz => by
        rcases List.mem_cons.1 hz with rfl | hz
        · exact (cmpN_ne e).symm
        · exact (cmpN_ne (cmpN_trans e (ha1 z hz))).symm
      rw [this] at hy; simp [getL] at hy

/-! Norm. -/
theorem snoc_ind {M : List At → Prop} (h0 : M []) (h1 : ∀ l x, M l → M (l ++ [x])) (l : List At) : M l := by
  have : ∀ r : List At, M r.reverse := fun r => by
    induction r with
    | nil => exact h0
    | cons x r ih => rw [List.reverse_cons]; exact h1 _ _ ih
  have := this l.reverse
  rwa [List.reverse_reverse] at this
def normL (l : List At) : List At := l.foldl (fun acc x => withL acc x.1 x.2) []
theorem normL_snoc (l : List At) (x : At) : normL (l ++ [x]) = withL (normL l) x.1 x.2 := by simp [normL]
theorem norm_facts (l : List At) : StS (normL l) ∧ ∀ n, getL (normL l) n = getL l.reverse n := by
  refine snoc_ind (M := fun l => StS (normL l) ∧ ∀ n, getL (normL l) n = getL l.reverse n) ⟨StS.nil, fun n => rfl⟩ (fun l x ih => ?_) l
  · rw [normL_snoc]
    refine ⟨sts_with ih.1 _ _, fun n => ?_⟩
    rw [get_with, ih.2 n]
    simp only [List.reverse_append, List.reverse_cons, List.reverse_nil, List.nil_append, List.singleton_append, getL]
    by_cases h : n = x.1
    · subst h; simp
    · simp [h, Ne.symm h]
theorem fil_reverse (n : ByteArray) (l : List At) : fil n l.reverse = (fil n l).reverse := by simp [fil, List.filter_reverse]
theorem sts_fil {l : List At} (h : StS l) (n : ByteArray) : (fil n l).length ≤ 1 := by
  have h1 : (fil n l).Pairwise fun x y => cmpN x.1 y.1 < 0 := h.sublist List.filter_sublist
  match hf : fil n l, h1 with
  | [], _ => simp
  | [x], _ => simp
  | x :: y :: r, h1 =>
    have hx : x ∈ fil n l := by rw [hf]; simp
    have hy : y ∈ fil n l := by rw [hf]; simp
    have := (List.pairwise_cons.1 h1).1 y (by simp)
    rw [(mem_fil.1 hx).2, (mem_fil.1 hy).2] at this
    exact absurd this (cmpN_irrefl n)
theorem sts_get_rev {l : List At} (h : StS l) (n : ByteArray) : getL l.reverse n = getL l n := by
  rw [getL_head, getL_head, fil_reverse]
  have := sts_fil h n
  match fil n l, this with
  | [], _ => rfl
  | [x], _ => rfl
theorem norm_self {l : List At} (h : StS l) : normL l = l := sts_unique (norm_facts l).1 h fun n => by rw [(norm_facts l).2, sts_get_rev h]

def goC (p : At) : List At → List At
  | [] => []
  | y :: r => if y.1 = p.1 then goC y r else y :: goC y r
def compL : List At → List At
  | [] => []
  | x :: r => x :: goC x r
theorem goC_get (n : ByteArray) : ∀ (r : List At) (p : At), p.1 ≠ n → getL (goC p r) n = getL r n
  | [], p, _ => rfl
  | y :: r, p, h => by
    by_cases e : y.1 = p.1
    · have hy : y.1 ≠ n := by rw [e]; exact h
      simp only [goC, if_pos e, getL, if_neg hy]
      exact goC_get n r y hy
    · simp only [goC, if_neg e, getL]
      by_cases hy : y.1 = n
      · rw [if_pos hy, if_pos hy]
      · rw [if_neg hy, if_neg hy]; exact goC_get n r y hy
theorem goC_lt : ∀ (r : List At) (p : At), Srt (p :: r) → ∀ z ∈ goC p r, cmpN p.1 z.1 < 0
  | [], p, _, z, hz => by simp [goC] at hz
  | y :: r, p, h, z, hz => by
    obtain ⟨h1, h2⟩ := List.pairwise_cons.1 h
    by_cases e : y.1 = p.1
    · simp only [goC, if_pos e] at hz
      rw [← e]; exact goC_lt r y h2 z hz
    · simp only [goC, if_neg e] at hz
      have hpy : cmpN p.1 y.1 < 0 := by
        rcases cmpN_total p.1 y.1 with h | h | h
        · exact h
        · exact absurd h.symm e
        · exact absurd h (h1 y List.mem_cons_self)
      rcases List.mem_cons.1 hz with rfl | hz
      · exact hpy
      · exact cmpN_trans hpy (goC_lt r y h2 z hz)
theorem goC_sts : ∀ (r : List At) (p : At), Srt (p :: r) → StS (goC p r)
  | [], p, _ => StS.nil
  | y :: r, p, h => by
    obtain ⟨h1, h2⟩ := List.pairwise_cons.1 h
    by_cases e : y.1 = p.1
    · simp only [goC, if_pos e]; exact goC_sts r y h2
    · simp only [goC, if_neg e]
      exact List.pairwise_cons.2 ⟨fun z hz => goC_lt r y h2 z hz, goC_sts r y h2⟩
theorem comp_norm {l S : List At} (hS : Srt S) (hst : Stb l.reverse S) : compL S = normL l := by
  apply sts_unique _ (norm_facts l).1
  · intro n
    rw [(norm_facts l).2]
    have e : getL S n = getL l.reverse n := by rw [getL_head, getL_head, hst n]
    rw [← e]
    cases S with
    | nil => rfl
    | cons x r =>
      by_cases h : x.1 = n
      · simp [compL, getL, h]
      · simp only [compL, getL, if_neg h]; exact goC_get n r x h
  · cases S with
    | nil => exact StS.nil
    | cons x r => exact List.pairwise_cons.2 ⟨fun z hz => goC_lt r x hS z hz, goC_sts r x hS⟩
/-- compL, one element more. -/
theorem goC_snoc (y : At) : ∀ (r : List At) (p : At), goC p (r ++ [y]) = goC p r ++ (if y.1 = ((p :: r).getLast (by simp)).1 then [] else [y])
  | [], p => by
    by_cases e : y.1 = p.1
    · simp [goC, e]
    · simp [goC, e]
  | z :: r, p => by
    have ih := goC_snoc y r z
    by_cases e : z.1 = p.1
    · simp only [List.cons_append, goC, if_pos e, ih]
      rfl
    · simp only [List.cons_append, goC, if_neg e, ih]
      rfl
theorem compL_snoc (l : List At) (y : At) : compL (l ++ [y]) = compL l ++ (if ∃ h : l ≠ [], y.1 = (l.getLast h).1 then [] else [y]) := by
  cases l with
  | nil => simp [compL, goC]
  | cons x r =>
    simp only [List.cons_append, compL, goC_snoc]
    simp
theorem compL_le (l : List At) : (compL l).length ≤ l.length := by
  refine snoc_ind (M := fun l => (compL l).length ≤ l.length) (by simp [compL]) (fun l x ih => ?_) l
  · rw [compL_snoc]
    split <;> simp <;> omega
end Go.Proofs.Yteamnjaepgfcmaa
