/-
  Plain: what the calls of adiff do, on lists.
-/
import Derived.Test.YteamnjaepgfcmaaLMath
namespace Go.Proofs.Yteamnjaepgfcmaa
set_option linter.unusedVariables false

abbrev Ch := ByteArray × ByteArray × Bool
abbrev noS : ByteArray := { data := #[] }
def wasO (n : ByteArray) : Option ByteArray → Ch
  | some v => (n, v, false)
  | none => (n, noS, true)
def wasC (a : List At) (n : ByteArray) : Ch := wasO n (getL a n)
theorem wasO_inj {n : ByteArray} {x y : Option ByteArray} (h : wasO n x = wasO n y) : x = y := by
  cases x <;> cases y <;> simp [wasO] at h ⊢
  exact h
theorem wasC_inj {a b : List At} {n : ByteArray} : wasC a n = wasC b n ↔ getL a n = getL b n := ⟨fun h => wasO_inj h, fun h => by unfold wasC; rw [h]⟩
def SN (l : List ByteArray) : Prop := l.Pairwise fun x y => cmpN x y < 0
theorem sn_unique : ∀ {a b : List ByteArray}, SN a → SN b → (∀ n, n ∈ a ↔ n ∈ b) → a = b
  | [], [], _, _, _ => rfl
  | [], y :: b, _, _, h => by have := (h y).2 List.mem_cons_self; simp at this
  | x :: a, [], _, _, h => by have := (h x).1 List.mem_cons_self; simp at this
  | x :: a, y :: b, ha, hb, h => by
    obtain ⟨ha1, ha2⟩ := List.pairwise_cons.1 ha
    obtain ⟨hb1, hb2⟩ := List.pairwise_cons.1 hb
    have e : x = y := by
      rcases List.mem_cons.1 ((h x).1 List.mem_cons_self) with e | hx
      · exact e
      · rcases List.mem_cons.1 ((h y).2 List.mem_cons_self) with e | hy
        · exact e.symm
        · exact absurd (cmpN_trans (hb1 x hx) (ha1 y hy)) (cmpN_irrefl _)
    subst e
    rw [sn_unique ha2 hb2 fun n => ?_]
    constructor
    · intro hn
      rcases List.mem_cons.1 ((h n).1 (List.mem_cons_of_mem _ hn)) with e | hx
      · subst e; exact absurd (ha1 _ hn) (cmpN_irrefl _)
      · exact hx
    · intro hn
      rcases List.mem_cons.1 ((h n).2 (List.mem_cons_of_mem _ hn)) with e | hx
      · subst e; exact absurd (hb1 _ hn) (cmpN_irrefl _)
      · exact hx
theorem sn_nodup {l : List ByteArray} (h : SN l) : l.Nodup := h.imp fun h => cmpN_ne h
def namesL (a b : List At) : List ByteArray := (normL (a ++ b)).map Prod.fst
theorem names_sn (a b : List At) : SN (namesL a b) := List.pairwise_map.2 (norm_facts (a ++ b)).1
theorem mem_norm (l : List At) (n : ByteArray) : n ∈ (normL l).map Prod.fst ↔ ∃ x ∈ l, x.1 = n := by
  have h : getL (normL l) n = none ↔ getL l.reverse n = none := by rw [(norm_facts l).2]
  rw [getL_none, getL_none] at h
  constructor
  · intro hn
    obtain ⟨x, hx, hxn⟩ := List.mem_map.1 hn
    apply Classical.byContradiction
    intro hno
    exact h.2 (fun y hy e => hno ⟨y, List.mem_reverse.1 hy, e⟩) x hx hxn
  · rintro ⟨x, hx, hxn⟩
    apply Classical.byContradiction
    intro hno
    exact h.1 (fun y hy e => hno (List.mem_map.2 ⟨y, hy, e⟩)) x (List.mem_reverse.2 hx) hxn
theorem mem_names {a b : List At} {n : ByteArray} : n ∈ namesL a b ↔ (∃ x ∈ a, x.1 = n) ∨ ∃ x ∈ b, x.1 = n := by
  unfold namesL
  rw [mem_norm]
  constructor
  · rintro ⟨x, hx, e⟩
    rcases List.mem_append.1 hx with h | h
    · exact .inl ⟨x, h, e⟩
    · exact .inr ⟨x, h, e⟩
  · rintro (⟨x, hx, e⟩ | ⟨x, hx, e⟩)
    · exact ⟨x, List.mem_append.2 (.inl hx), e⟩
    · exact ⟨x, List.mem_append.2 (.inr hx), e⟩
theorem not_names {a b : List At} {n : ByteArray} (h : ¬ n ∈ namesL a b) : getL a n = none ∧ getL b n = none := by
  rw [mem_names] at h
  exact ⟨getL_none.2 fun x hx e => h (.inl ⟨x, hx, e⟩), getL_none.2 fun x hx e => h (.inr ⟨x, hx, e⟩)⟩
def leastN : List At → List At → ByteArray
  | [], [] => noS
  | [], y :: _ => y.1
  | x :: _, [] => x.1
  | x :: _, y :: _ => if cmpN y.1 x.1 < 0 then y.1 else x.1
def takeL (l : List At) (n : ByteArray) : Ch × List At :=
  match l with
  | [] => ((n, noS, true), [])
  | x :: r => if x.1 = n then ((n, x.2, false), r) else ((n, noS, true), x :: r)
theorem sts_head {x : At} {r : List At} (h : StS (x :: r)) : ∀ y ∈ r, cmpN x.1 y.1 < 0 := (List.pairwise_cons.1 h).1
theorem sts_tail {x : At} {r : List At} (h : StS (x :: r)) : StS r := (List.pairwise_cons.1 h).2
theorem head_le {x : At} {r : List At} (h : StS (x :: r)) {n : ByteArray} (hn : ¬ cmpN x.1 n < 0) : ∀ y ∈ x :: r, ¬ cmpN y.1 n < 0 := by
  intro y hy hl
  rcases List.mem_cons.1 hy with rfl | hy
  · exact hn hl
  · exact hn (cmpN_trans (sts_head h y hy) hl)
theorem least_le {a b : List At} (ha : StS a) (hb : StS b) : (∀ y ∈ a, ¬ cmpN y.1 (leastN a b) < 0) ∧ ∀ y ∈ b, ¬ cmpN y.1 (leastN a b) < 0 := by
  cases a with
  | nil =>
    cases b with
    | nil => simp
    | cons y s => exact ⟨by simp, head_le hb (by simp only [leastN]; exact cmpN_irrefl _)⟩
  | cons x r =>
    cases b with
    | nil => exact ⟨head_le ha (by simp only [leastN]; exact cmpN_irrefl _), by simp⟩
    | cons y s =>
      simp only [leastN]
      by_cases h : cmpN y.1 x.1 < 0
      · rw [if_pos h]
        exact ⟨head_le ha (cmpN_asymm h), head_le hb (cmpN_irrefl _)⟩
      · rw [if_neg h]
        exact ⟨head_le ha (cmpN_irrefl _), head_le hb h⟩
theorem least_mem {a b : List At} (h : ¬ (a = [] ∧ b = [])) : leastN a b ∈ namesL a b := by
  rw [mem_names]
  cases a with
  | nil =>
    cases b with
    | nil => simp at h
    | cons y s => exact .inr ⟨y, List.mem_cons_self, rfl⟩
  | cons x r =>
    cases b with
    | nil => exact .inl ⟨x, List.mem_cons_self, rfl⟩
    | cons y s =>
      simp only [leastN]
      by_cases h : cmpN y.1 x.1 < 0
      · rw [if_pos h]; exact .inr ⟨y, List.mem_cons_self, rfl⟩
      · rw [if_neg h]; exact .inl ⟨x, List.mem_cons_self, rfl⟩
theorem take_facts {a : List At} (ha : StS a) {n : ByteArray} (h : ∀ y ∈ a, ¬ cmpN y.1 n < 0) :
    StS (takeL a n).2 ∧ (∀ y ∈ (takeL a n).2, cmpN n y.1 < 0) ∧ (takeL a n).1 = wasC a n ∧ (∀ m, m ≠ n → getL (takeL a n).2 m = getL a m) ∧ (∀ m, m ≠ n → ((∃ x ∈ (takeL a n).2, x.1 = m) ↔ ∃ x ∈ a, x.1 = m)) := by
  cases a with
  | nil => exact ⟨StS.nil, by simp [takeL], rfl, fun _ _ => rfl, fun _ _ => Iff.rfl⟩
  | cons x r =>
    by_cases e : x.1 = n
    · have et : takeL (x :: r) n = ((n, x.2, false), r) := by simp [takeL, e]
      rw [et]
      refine ⟨sts_tail ha, fun y hy => by rw [← e]; exact sts_head ha y hy, ?_, fun m hm => ?_, fun m hm => ?_⟩
      · simp [wasC, getL, e, wasO]
      · have : ¬ x.1 = m := fun e' => hm (e'.symm.trans e)
        simp [getL, this]
      · have : ¬ x.1 = m := fun e' => hm (e'.symm.trans e)
        constructor
        · rintro ⟨y, hy, e⟩; exact ⟨y, List.mem_cons_of_mem _ hy, e⟩
        · rintro ⟨y, hy, e⟩
          rcases List.mem_cons.1 hy with e2 | hy
          · rw [e2] at e; exact absurd e this
          · exact ⟨y, hy, e⟩
    · have et : takeL (x :: r) n = ((n, noS, true), x :: r) := by simp [takeL, e]
      have hx : cmpN n x.1 < 0 := by
        rcases cmpN_total n x.1 with h1 | h1 | h1
        · exact h1
        · exact absurd h1.symm e
        · exact absurd h1 (h x List.mem_cons_self)
      have hlt : ∀ y ∈ x :: r, cmpN n y.1 < 0 := by
        intro y hy
        rcases List.mem_cons.1 hy with rfl | hy
        · exact hx
        · exact cmpN_trans hx (sts_head ha y hy)
      rw [et]
      refine ⟨ha, hlt, ?_, fun _ _ => rfl, fun _ _ => Iff.rfl⟩
      have : getL (x :: r) n = none := getL_none.2 fun y hy e => (cmpN_ne (hlt y hy)) e.symm
      unfold wasC
      rw [this]; rfl
/-- What comes: for each name what the first list has of it, and what the second has. -/
def pairsD (a b : List At) : List (Ch × Ch) := (namesL a b).map fun n => (wasC a n, wasC b n)
theorem pairs_nil : pairsD [] [] = [] := rfl
theorem names_step {a b : List At} (ha : StS a) (hb : StS b) (h : ¬ (a = [] ∧ b = [])) : namesL a b = leastN a b :: namesL (takeL a (leastN a b)).2 (takeL b (leastN a b)).2 := by
  have hl := least_le ha hb
  obtain ⟨-, a2, -, -, a5⟩ := take_facts ha hl.1
  obtain ⟨-, b2, -, -, b5⟩ := take_facts hb hl.2
  have hm := least_mem h
  obtain ⟨n, hn⟩ : ∃ n, n = leastN a b := ⟨_, rfl⟩
  rw [← hn] at a2 a5 b2 b5 hm ⊢
  refine sn_unique (names_sn _ _) (List.pairwise_cons.2 ⟨fun m hm => ?_, names_sn _ _⟩) fun m => ?_
  · rcases mem_names.1 hm with ⟨x, hx, rfl⟩ | ⟨x, hx, rfl⟩
    · exact a2 x hx
    · exact b2 x hx
  · by_cases e : m = n
    · subst e; simp [hm]
    · rw [List.mem_cons, mem_names, mem_names, a5 m e, b5 m e]; simp [e]
theorem pairs_step {a b : List At} (ha : StS a) (hb : StS b) (h : ¬ (a = [] ∧ b = [])) :
    pairsD a b = ((takeL a (leastN a b)).1, (takeL b (leastN a b)).1) :: pairsD (takeL a (leastN a b)).2 (takeL b (leastN a b)).2 := by
  have hl := least_le ha hb
  obtain ⟨-, a2, a3, a4, -⟩ := take_facts ha hl.1
  obtain ⟨-, b2, b3, b4, -⟩ := take_facts hb hl.2
  unfold pairsD
  rw [names_step ha hb h, List.map_cons, a3, b3]
  congr 1
  apply List.map_congr_left
  intro m hm
  have e : m ≠ leastN a b := by
    rcases mem_names.1 hm with ⟨x, hx, rfl⟩ | ⟨x, hx, rfl⟩
    · exact (cmpN_ne (a2 x hx)).symm
    · exact (cmpN_ne (b2 x hx)).symm
  unfold wasC
  rw [a4 m e, b4 m e]
theorem take_sts {a b : List At} (ha : StS a) (hb : StS b) : StS (takeL a (leastN a b)).2 ∧ StS (takeL b (leastN a b)).2 := ⟨(take_facts ha (least_le ha hb).1).1, (take_facts hb (least_le ha hb).2).1⟩
theorem take_len (a : List At) (n : ByteArray) : (takeL a n).2.length ≤ a.length := by
  unfold takeL
  split
  · simp
  · split <;> simp
theorem take_less {a b : List At} (h : ¬ (a = [] ∧ b = [])) : (takeL a (leastN a b)).2.length + (takeL b (leastN a b)).2.length < a.length + b.length := by
  have h1 := take_len a (leastN a b)
  have h2 := take_len b (leastN a b)
  cases a with
  | nil =>
    cases b with
    | nil => simp at h
    | cons y s => simp [takeL, leastN]
  | cons x r =>
    cases b with
    | nil => simp [takeL, leastN]
    | cons y s =>
      simp only [leastN] at h1 h2 ⊢
      by_cases h : cmpN y.1 x.1 < 0
      · rw [if_pos h] at h1 h2 ⊢
        have : (takeL (y :: s) y.1).2 = s := by simp [takeL]
        rw [this]; simp at h1 ⊢; omega
      · rw [if_neg h] at h1 h2 ⊢
        have : (takeL (x :: r) x.1).2 = r := by simp [takeL]
        rw [this]; simp at h2 ⊢; omega
theorem pairs_length (a b : List At) : (pairsD a b).length ≤ a.length + b.length := by
  have h : ∀ l : List At, (normL l).length ≤ l.length := by
    intro l
    refine snoc_ind (M := fun l => (normL l).length ≤ l.length) (by simp [normL]) (fun l x ih => ?_) l
    rw [normL_snoc, List.length_append]
    have h2 : (withL (normL l) x.1 x.2).length ≤ (normL l).length + 1 := by
      have hr : ∀ r : List At, (replL x.1 x.2 r).length = r.length := fun r => by have := congrArg List.length (names_repl x.1 x.2 r); simpa using this
      have hi : ∀ r : List At, (insL x.1 x.2 r).length = r.length + 1 := by
        intro r
        induction r with
        | nil => rfl
        | cons y r ih => unfold insL; split <;> simp [ih]
      unfold withL
      split
      · rw [hr]; omega
      · rw [hi]; omega
    simp; omega
  have := h (a ++ b)
  simp [pairsD, namesL] at this ⊢
  exact this

def chs (a b : List At) (ns : List ByteArray) : List Ch := ns.flatMap fun n => if wasC a n = wasC b n then [] else [wasC b n]
def diffP (ps : List (Ch × Ch)) : List Ch := ps.flatMap fun p => if p.1 = p.2 then [] else [p.2]
theorem diffP_snoc (ps : List (Ch × Ch)) (p : Ch × Ch) : diffP (ps ++ [p]) = diffP ps ++ (if p.1 = p.2 then [] else [p.2]) := by simp [diffP]
theorem diffP_len (ps : List (Ch × Ch)) : (diffP ps).length ≤ ps.length := by
  induction ps with
  | nil => simp [diffP]
  | cons p ps ih =>
    have e : diffP (p :: ps) = (if p.1 = p.2 then [] else [p.2]) ++ diffP ps := by simp [diffP]
    rw [e, List.length_append, List.length_cons]
    split
    · simp; omega
    · simp; omega
theorem diff_chs (a b : List At) : diffP (pairsD a b) = chs a b (namesL a b) := by simp [diffP, pairsD, chs, List.flatMap_map]
theorem chs_snoc (a b : List At) (ns : List ByteArray) (n : ByteArray) : chs a b (ns ++ [n]) = chs a b ns ++ (if wasC a n = wasC b n then [] else [wasC b n]) := by simp [chs]
/-- Of. -/
def diffD (a b : List At) : List Ch := diffP (pairsD (normL a) (normL b))
theorem diffD_len (a b : List At) : (diffD a b).length ≤ (normL a).length + (normL b).length := Nat.le_trans (diffP_len _) (pairs_length _ _)
def oneD (a : List At) (c : Ch) : List At := if c.2.2 then withoutL a c.1 else withL a c.1 c.2.1
def doL (a : List At) (l : List Ch) : List At := l.foldl oneD a
theorem doL_snoc (a : List At) (l : List Ch) (c : Ch) : doL a (l ++ [c]) = oneD (doL a l) c := by simp [doL]
theorem sts_do {a : List At} (h : StS a) : ∀ l : List Ch, StS (doL a l) := by
  intro l
  induction l generalizing a with
  | nil => exact h
  | cons c l ih =>
    refine ih (a := oneD a c) ?_
    unfold oneD
    split
    · exact sts_without h _
    · exact sts_with h _ _
theorem one_get (x : List At) (n : ByteArray) (o : Option ByteArray) (m : ByteArray) : getL (oneD x (wasO n o)) m = if m = n then o else getL x m := by
  cases o with
  | none => exact get_without x n m
  | some v => exact get_with x n v m
open Classical in
theorem do_get (a b : List At) : ∀ (ns : List ByteArray), ns.Nodup → ∀ x : List At, (∀ m ∈ ns, getL x m = getL a m) → ∀ m, getL (doL x (chs a b ns)) m = if m ∈ ns then getL b m else getL x m := by
  intro ns
  induction ns with
  | nil => intro _ x _ m; simp [chs, doL]
  | cons n ns ih =>
    intro hnd x hx m
    obtain ⟨hn, hnd⟩ := List.nodup_cons.1 hnd
    by_cases e : wasC a n = wasC b n
    · have e1 : chs a b (n :: ns) = chs a b ns := by simp [chs, e]
      rw [e1, ih hnd x (fun m hm => hx m (List.mem_cons_of_mem _ hm)) m]
      by_cases e2 : m ∈ ns
      · simp [e2]
      · by_cases e3 : m = n
        · subst e3
          rw [if_neg e2, if_pos List.mem_cons_self, hx m List.mem_cons_self]
          exact wasC_inj.1 e
        · simp [e2, e3]
    · have e1 : chs a b (n :: ns) = wasC b n :: chs a b ns := by simp [chs, e]
      have e2 : doL x (wasC b n :: chs a b ns) = doL (oneD x (wasC b n)) (chs a b ns) := rfl
      rw [e1, e2, ih hnd _ (fun k hk => ?_) m]
      · unfold wasC
        rw [one_get]
        by_cases e3 : m = n
        · subst e3; simp
        · simp [e3]
      · unfold wasC
        rw [one_get, if_neg (fun e => hn (by rw [← e]; exact hk)), hx k (List.mem_cons_of_mem _ hk)]
open Classical in
theorem do_diff {a b : List At} (ha : StS a) (hb : StS b) : doL a (diffD a b) = b := by
  unfold diffD
  rw [norm_self ha, norm_self hb, diff_chs]
  refine sts_unique (sts_do ha _) hb fun n => ?_
  rw [do_get a b _ (sn_nodup (names_sn a b)) a (fun _ _ => rfl)]
  split
  · rfl
  · rename_i h
    have := not_names h
    rw [this.1, this.2]
theorem diff_self (a : List At) : diffD a a = [] := by
  unfold diffD
  rw [diff_chs]
  simp [chs]
theorem chs_len (a b : List At) (ns : List ByteArray) : (chs a b ns).length = (chs b a ns).length := by
  induction ns with
  | nil => rfl
  | cons n ns ih =>
    simp only [chs, List.flatMap_cons, List.length_append] at ih ⊢
    rw [ih]
    by_cases e : wasC a n = wasC b n
    · rw [if_pos e, if_pos e.symm]
    · rw [if_neg e, if_neg (Ne.symm e)]; rfl
theorem names_comm (a b : List At) : namesL a b = namesL b a := sn_unique (names_sn _ _) (names_sn _ _) fun n => by rw [mem_names, mem_names]; exact Or.comm
theorem diff_comm (a b : List At) : (diffD a b).length = (diffD b a).length := by
  unfold diffD
  rw [diff_chs, diff_chs, chs_len, names_comm]
theorem nodup_len {α : Type} [DecidableEq α] : ∀ {a b : List α}, a.Nodup → (∀ x ∈ a, x ∈ b) → a.length ≤ b.length
  | [], b, _, _ => by simp
  | x :: a, b, hn, h => by
    obtain ⟨hx, hn⟩ := List.nodup_cons.1 hn
    have hb := h x List.mem_cons_self
    have := nodup_len (b := b.erase x) hn fun y hy => (List.mem_erase_of_ne (fun e => hx (by rw [← e]; exact hy))).2 (h y (List.mem_cons_of_mem _ hy))
    rw [List.length_erase_of_mem hb] at this
    have := List.length_pos_of_mem hb
    simp; omega
theorem chs_fst (a b : List At) (ns : List ByteArray) : (chs a b ns).length = (ns.filter fun n => decide (wasC a n ≠ wasC b n)).length := by
  induction ns with
  | nil => rfl
  | cons n ns ih =>
    simp only [chs, List.flatMap_cons, List.length_append, List.filter_cons] at ih ⊢
    rw [ih]
    by_cases e : wasC a n = wasC b n
    · simp [e]
    · simp [e]; omega
theorem fil_one {n : ByteArray} {c : Ch} (h : n ≠ c.1) (a : List At) : fil n (oneD a c) = fil n a := by
  unfold oneD
  split
  · exact fil_without h a
  · exact fil_with h a
theorem fil_do {n : ByteArray} : ∀ (l : List Ch) (a : List At), (∀ c ∈ l, n ≠ c.1) → fil n (doL a l) = fil n a
  | [], a, _ => rfl
  | c :: l, a, h => by
    have := fil_do l (oneD a c) fun c hc => h c (List.mem_cons_of_mem _ hc)
    rw [show doL a (c :: l) = doL (oneD a c) l from rfl, this, fil_one (h c List.mem_cons_self)]
theorem diff_least (a : List At) (l : List Ch) : (diffD a (doL a l)).length ≤ l.length := by
  unfold diffD
  rw [diff_chs, chs_fst, ← List.length_map (f := fun c : Ch => c.1) (as := l)]
  refine nodup_len ((sn_nodup (names_sn _ _)).sublist List.filter_sublist) fun n hn => ?_
  have h := of_decide_eq_true (List.mem_filter.1 hn).2
  apply Classical.byContradiction
  intro hno
  apply h
  rw [wasC_inj, (norm_facts a).2, (norm_facts (doL a l)).2, getL_head, getL_head, fil_reverse, fil_reverse, fil_do l a fun c hc e => hno (List.mem_map.2 ⟨c, hc, e.symm⟩)]
end Go.Proofs.Yteamnjaepgfcmaa
