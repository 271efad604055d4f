/-
  The line-up as a ring of links: the mathematics, without the program.
-/
import Derived.Test.YtlpjjnpafmakhaaMvMath
namespace Go.Proofs.Ytlpjjnpafmakhaa
set_option linter.unusedVariables false

def Links (N P : List Int) : Nat → List Nat → Nat → Prop
  | a, [], z => el N a = z ∧ el P z = a
  | a, x :: s, z => el N a = x ∧ el P x = a ∧ Links N P x s z
def lastOf : Nat → List Nat → Nat
  | a, [] => a
  | _, x :: s => lastOf x s
theorem lastOf_mem (a : Nat) (s : List Nat) : lastOf a s ∈ a :: s := by
  induction s generalizing a with
  | nil => simp [lastOf]
  | cons x s ih => have := ih x; simp only [lastOf]; exact List.mem_cons_of_mem _ this
theorem links_append {N P : List Int} {a x z : Nat} {u v : List Nat} : Links N P a (u ++ x :: v) z ↔ Links N P a u x ∧ Links N P x v z := by
  induction u generalizing a with
  | nil => simp [Links, and_assoc]
  | cons y u ih => simp [Links, ih, and_assoc]
theorem links_last {N P : List Int} {a z : Nat} {s : List Nat} (h : Links N P a s z) : el P z = lastOf a s ∧ el N (lastOf a s) = z := by
  induction s generalizing a with
  | nil => exact ⟨h.2, h.1⟩
  | cons x s ih => exact ih h.2.2
theorem links_first {N P : List Int} {a z : Nat} {s : List Nat} (h : Links N P a s z) : el N a = (s.headD z : Nat) := by
  cases s with
  | nil => exact h.1
  | cons x s => exact h.1
theorem links_frame {N P N' P' : List Int} {a z : Nat} {s : List Nat} (h : Links N P a s z) (hN : ∀ y ∈ a :: s, el N' y = el N y) (hP : ∀ y ∈ s ++ [z], el P' y = el P y) : Links N' P' a s z := by
  induction s generalizing a with
  | nil => exact ⟨(hN a (by simp)).trans h.1, (hP z (by simp)).trans h.2⟩
  | cons x s ih =>
    exact ⟨(hN a (by simp)).trans h.1, (hP x (by simp)).trans h.2.1, ih h.2.2 (fun y hy => hN y (List.mem_cons_of_mem _ hy)) (fun y hy => hP y (by simp at hy ⊢; exact .inr hy))⟩
theorem links_turn {N P N' P' : List Int} {a z t : Nat} {u : List Nat} (h : Links N P a u z) (hd : (a :: u).Nodup) (h1 : el N' (lastOf a u) = t) (h2 : el P' t = lastOf a u)
    (hN : ∀ y ∈ a :: u, y ≠ lastOf a u → el N' y = el N y) (hP : ∀ y ∈ u, el P' y = el P y) : Links N' P' a u t := by
  induction u generalizing a with
  | nil => exact ⟨h1, h2⟩
  | cons x u ih =>
    have hd' := List.nodup_cons.1 hd
    have hl := lastOf_mem x u
    refine ⟨(hN a (by simp) (fun e => hd'.1 ?_)).trans h.1, (hP x (by simp)).trans h.2.1, ih h.2.2 hd'.2 h1 h2 (fun y hy => hN y (List.mem_cons_of_mem _ hy)) (fun y hy => hP y (List.mem_cons_of_mem _ hy))⟩
    rw [e]; exact hl
structure Ring (n : Nat) (N P : List Int) (s : List Nat) : Prop where
  lenN : N.length = n + 1
  lenP : P.length = n + 1
  fine : Fine n s
  links : Links N P n s n
  out : ∀ x, x < n → x ∉ s → el N x = -1
theorem el_set {T : List Int} {p : Nat} (hp : p < T.length) (j : Nat) (x : Int) : el (T.set p x) j = if p = j then x else el T j := getD_set T p j x hp
theorem el_set_ne {T : List Int} {p j : Nat} (h : p ≠ j) (x : Int) : el (T.set p x) j = el T j := by
  unfold el; rw [List.getD_eq_getElem?_getD, List.getElem?_set, List.getD_eq_getElem?_getD, if_neg h]
theorem el_set_eq {T : List Int} {p : Nat} (hp : p < T.length) (x : Int) : el (T.set p x) p = x := by rw [el_set hp, if_pos rfl]
theorem Ring.stands {n : Nat} {N P : List Int} {s : List Nat} (h : Ring n N P s) {x : Nat} (hx : x < n) : (el N x ≠ -1) ↔ x ∈ s := by
  constructor
  · intro h1
    rcases Classical.em (x ∈ s) with h2 | h2
    · exact h2
    · exact absurd (h.out x hx h2) h1
  · intro h1
    obtain ⟨u, v, rfl⟩ := List.append_of_mem h1
    have h2 := links_first (links_append.1 h.links).2
    rw [h2]
    omega
theorem Ring.prev {n : Nat} {N P : List Int} {u v : List Nat} (h : Ring n N P (u ++ v)) : el P (v.headD n) = lastOf n u := by
  cases v with
  | nil => have := h.links; rw [List.append_nil] at this; exact (links_last this).1
  | cons b v => exact (links_last (links_append.1 h.links).1).1
theorem Ring.insert {n : Nat} {N P : List Int} {u v : List Nat} {t q b : Nat} (h : Ring n N P (u ++ v)) (ht : t < n) (hn : t ∉ u ++ v) (hq : lastOf n u = q) (hb : v.headD n = b) :
    Ring n ((N.set t b).set q t) ((P.set t q).set b t) (u ++ t :: v) := by
  have hq' := lastOf_mem n u
  rw [hq] at hq'
  have hnu : n ∉ u := fun hm => by have := h.fine.low n (by simp [hm]); omega
  have hnv : n ∉ v := fun hm => by have := h.fine.low n (by simp [hm]); omega
  have hdis : ∀ a ∈ u, a ∉ v := fun a ha hv => (List.nodup_append.1 h.fine.nodup).2.2 a ha a hv rfl
  have htu : t ∉ u := fun hm => hn (by simp [hm])
  have htv : t ∉ v := fun hm => hn (by simp [hm])
  have hqn : q ≤ n := by
    rcases List.mem_cons.1 hq' with rfl | hm
    · exact Nat.le_refl _
    · exact Nat.le_of_lt (h.fine.low q (by simp [hm]))
  have hqt : q ≠ t := by rintro rfl; rcases List.mem_cons.1 hq' with rfl | hm; exact absurd ht (by omega); exact htu hm
  have hbn : b ≤ n := by
    cases v with
    | nil => simp at hb; omega
    | cons c v => simp at hb; subst hb; exact Nat.le_of_lt (h.fine.low c (by simp))
  have hbt : b ≠ t := by
    cases v with
    | nil => simp at hb; omega
    | cons c v => simp at hb; subst hb; rintro rfl; exact htv (by simp)
  have hqv : q ∉ v := by
    intro hm
    rcases List.mem_cons.1 hq' with rfl | hu
    · exact hnv hm
    · exact hdis q hu hm
  have hbu : b ∉ u := by
    cases v with
    | nil => simp at hb; subst hb; exact hnu
    | cons c v => simp at hb; subst hb; exact fun hm => hdis c hm (by simp)
  have hlN := h.lenN
  have hlP := h.lenP
  have eN : ∀ y, y ≠ t → y ≠ q → el ((N.set t b).set q t) y = el N y := fun y h1 h2 => by rw [el_set_ne (Ne.symm h2), el_set_ne (Ne.symm h1)]
  have eP : ∀ y, y ≠ t → y ≠ b → el ((P.set t q).set b t) y = el P y := fun y h1 h2 => by rw [el_set_ne (Ne.symm h2), el_set_ne (Ne.symm h1)]
  have eNq : el ((N.set t b).set q t) q = t := el_set_eq (by simp; omega) _
  have eNt : el ((N.set t b).set q t) t = b := by rw [el_set_ne hqt, el_set_eq (by omega)]
  have ePb : el ((P.set t q).set b t) b = t := el_set_eq (by simp; omega) _
  have ePt : el ((P.set t q).set b t) t = q := by rw [el_set_ne hbt, el_set_eq (by omega)]
  have hnud : (n :: u).Nodup := List.nodup_cons.2 ⟨hnu, (List.nodup_append.1 h.fine.nodup).1⟩
  have hturn : ∀ z, Links N P n u z → Links ((N.set t b).set q t) ((P.set t q).set b t) n u t := fun z hz =>
    links_turn hz hnud (by rw [hq]; exact eNq) (by rw [hq]; exact ePt)
      (fun y hy hne => by rw [hq] at hne; exact eN y (by rintro rfl; rcases List.mem_cons.1 hy with rfl | hm; exact absurd ht (by omega); exact htu hm) hne)
      (fun y hy => eP y (by rintro rfl; exact htu hy) (by rintro rfl; exact hbu hy))
  refine ⟨by simp [hlN], by simp [hlP], Fine.put h.fine ht hn, ?_, ?_⟩
  · rw [links_append]
    cases v with
    | nil =>
      have hL := h.links
      rw [List.append_nil] at hL
      simp at hb
      subst hb
      exact ⟨hturn _ hL, eNt, ePb⟩
    | cons c v =>
      simp at hb
      subst hb
      have hL := links_append.1 h.links
      have hdv := List.nodup_cons.1 (List.nodup_append.1 h.fine.nodup).2.1
      refine ⟨hturn _ hL.1, eNt, ePb, links_frame hL.2 (fun y hy => eN y (by rintro rfl; exact htv hy) (by rintro rfl; exact hqv hy)) (fun y hy => ?_)⟩
      rw [List.mem_append, List.mem_singleton] at hy
      rcases hy with hy | rfl
      · exact eP y (by rintro rfl; exact htv (by simp [hy])) (by rintro rfl; exact hdv.1 hy)
      · exact eP y (by omega) (by rintro rfl; exact hnv (by simp))
  · intro x hx hm
    have hm' : x ∉ u ++ v ∧ x ≠ t := by
      simp only [List.mem_append, List.mem_cons, not_or] at hm ⊢
      exact ⟨⟨hm.1, hm.2.2⟩, hm.2.1⟩
    rw [eN x hm'.2 (by rintro rfl; rcases List.mem_cons.1 hq' with rfl | hu; exact absurd hx (by omega); exact hm'.1 (by simp [hu]))]
    exact h.out x hx hm'.1
theorem Ring.remove {n : Nat} {N P : List Int} {u v : List Nat} {t q b : Nat} (h : Ring n N P (u ++ t :: v)) (hq : lastOf n u = q) (hb : v.headD n = b) :
    el P t = q ∧ el N t = b ∧ Ring n ((N.set q b).set t (-1)) ((P.set b q).set t (-1)) (u ++ v) := by
  have hL := links_append.1 h.links
  have hq' := lastOf_mem n u
  rw [hq] at hq'
  have htn : t < n := h.fine.low t (by simp)
  have hnu : n ∉ u := fun hm => by have := h.fine.low n (by simp [hm]); omega
  have hnv : n ∉ v := fun hm => by have := h.fine.low n (by simp [hm]); omega
  have hnd := List.nodup_append.1 h.fine.nodup
  have hdv := List.nodup_cons.1 hnd.2.1
  have htu : t ∉ u := fun hm => hnd.2.2 t hm t (by simp) rfl
  have hdis : ∀ a ∈ u, a ∉ v := fun a ha hv => hnd.2.2 a ha a (by simp [hv]) rfl
  have hqn : q ≤ n := by
    rcases List.mem_cons.1 hq' with rfl | hm
    · exact Nat.le_refl _
    · exact Nat.le_of_lt (h.fine.low q (by simp [hm]))
  have hqt : q ≠ t := by rintro rfl; rcases List.mem_cons.1 hq' with rfl | hm; exact absurd htn (by omega); exact htu hm
  have hbn : b ≤ n := by
    cases v with
    | nil => simp at hb; omega
    | cons c v => simp at hb; subst hb; exact Nat.le_of_lt (h.fine.low c (by simp))
  have hbt : b ≠ t := by
    cases v with
    | nil => simp at hb; omega
    | cons c v => simp at hb; subst hb; rintro rfl; exact hdv.1 (by simp)
  have hqv : q ∉ v := by
    intro hm
    rcases List.mem_cons.1 hq' with rfl | hu
    · exact hnv hm
    · exact hdis q hu hm
  have hbu : b ∉ u := by
    cases v with
    | nil => simp at hb; subst hb; exact hnu
    | cons c v => simp at hb; subst hb; exact fun hm => hdis c hm (by simp)
  have hlN := h.lenN
  have hlP := h.lenP
  have eN : ∀ y, y ≠ t → y ≠ q → el ((N.set q b).set t (-1)) y = el N y := fun y h1 h2 => by rw [el_set_ne (Ne.symm h1), el_set_ne (Ne.symm h2)]
  have eP : ∀ y, y ≠ t → y ≠ b → el ((P.set b q).set t (-1)) y = el P y := fun y h1 h2 => by rw [el_set_ne (Ne.symm h1), el_set_ne (Ne.symm h2)]
  have eNq : el ((N.set q b).set t (-1)) q = b := by rw [el_set_ne (Ne.symm hqt), el_set_eq (by omega)]
  have ePb : el ((P.set b q).set t (-1)) b = q := by rw [el_set_ne (Ne.symm hbt), el_set_eq (by omega)]
  have eNt : el ((N.set q b).set t (-1)) t = -1 := el_set_eq (by simp; omega) _
  have hnud : (n :: u).Nodup := List.nodup_cons.2 ⟨hnu, hnd.1⟩
  have hfine : Fine n (u ++ v) := ⟨fun a ha => h.fine.low a (by simp at ha ⊢; rcases ha with h1 | h1; exact .inl h1; exact .inr (.inr h1)), List.nodup_append.2 ⟨hnd.1, hdv.2, fun a ha c hc => hnd.2.2 a ha c (by simp [hc])⟩⟩
  have hturn : Links ((N.set q b).set t (-1)) ((P.set b q).set t (-1)) n u b :=
    links_turn hL.1 hnud (by rw [hq]; exact eNq) (by rw [hq]; exact ePb)
      (fun y hy hne => by rw [hq] at hne; exact eN y (by rintro rfl; rcases List.mem_cons.1 hy with rfl | hm; exact absurd htn (by omega); exact htu hm) hne)
      (fun y hy => eP y (by rintro rfl; exact htu hy) (by rintro rfl; exact hbu hy))
  refine ⟨by rw [← hq]; exact (links_last hL.1).1, by rw [← hb]; exact links_first hL.2, by simp [hlN], by simp [hlP], hfine, ?_, ?_⟩
  · cases v with
    | nil => simp at hb; subst hb; rw [List.append_nil]; exact hturn
    | cons c v =>
      simp at hb
      subst hb
      rw [links_append]
      have hdc := List.nodup_cons.1 hdv.2
      refine ⟨hturn, links_frame hL.2.2.2 (fun y hy => eN y (by rintro rfl; exact hdv.1 hy) (by rintro rfl; exact hqv hy)) (fun y hy => ?_)⟩
      rw [List.mem_append, List.mem_singleton] at hy
      rcases hy with hy | rfl
      · exact eP y (by rintro rfl; exact hdv.1 (by simp [hy])) (by rintro rfl; exact hdc.1 hy)
      · exact eP y (by omega) (by rintro rfl; exact hnv (by simp))
  · intro x hx hm
    by_cases hxt : x = t
    · subst hxt; exact eNt
    · rw [eN x hxt (by rintro rfl; rcases List.mem_cons.1 hq' with rfl | hu; exact absurd hx (by omega); exact hm (by simp [hu]))]
      exact h.out x hx (fun h1 => hm (by simp at h1 ⊢; rcases h1 with h1 | h1 | h1; exact .inl h1; exact absurd h1 hxt; exact .inr h1))
theorem less_split {u v : List Nat} {t : Nat} (h : (u ++ t :: v).Nodup) : less (u ++ t :: v) t = u ++ v := by
  have hnd := List.nodup_append.1 h
  have hdv := List.nodup_cons.1 hnd.2.1
  unfold less
  rw [List.filter_append, List.filter_cons]
  rw [List.filter_eq_self.2 (fun a ha => by simp; rintro rfl; exact hnd.2.2 a ha a (by simp) rfl), List.filter_eq_self.2 (fun a ha => by simp; rintro rfl; exact hdv.1 ha)]
  simp
theorem less_none {s : List Nat} {t : Nat} (h : t ∉ s) : less s t = s := List.filter_eq_self.2 (fun a ha => by simp; rintro rfl; exact h ha)
/-- The ring of no thing. -/
def emptyN (n : Nat) : List Int := List.replicate n (-1) ++ [(n : Int)]
theorem el_empty {n x : Nat} (h : x ≤ n) : el (emptyN n) x = if x = n then (n : Int) else -1 := by
  unfold el emptyN
  rw [getD_snoc]
  simp only [List.length_replicate]
  by_cases h1 : x < n
  · rw [if_pos h1, if_neg (by omega), getD_lt (by simpa using h1)]; simp
  · rw [if_neg h1, if_pos (by omega), if_pos (by omega)]
theorem Ring.empty (n : Nat) : Ring n (emptyN n) (emptyN n) [] := by
  refine ⟨by simp [emptyN], by simp [emptyN], ⟨fun a ha => by simp at ha, List.nodup_nil⟩, ?_, ?_⟩
  · show el _ n = _ ∧ el _ n = _
    rw [el_empty (Nat.le_refl _), if_pos rfl]
    exact ⟨rfl, rfl⟩
  · intro x hx _
    rw [el_empty (by omega), if_neg (by omega)]
/-- A thing at the end. -/
theorem Ring.push {n : Nat} {N P : List Int} {s : List Nat} {t : Nat} (h : Ring n N P s) (ht : t < n) (hn : t ∉ s) : ∃ q, q ≤ n ∧ el P n = (q : Nat) ∧ Ring n ((N.set t n).set q t) ((P.set t q).set n t) (s ++ [t]) := by
  have h' : Ring n N P (s ++ []) := by rw [List.append_nil]; exact h
  have hm := lastOf_mem n s
  refine ⟨lastOf n s, ?_, h'.prev, h'.insert ht (by simpa using hn) rfl rfl⟩
  rcases List.mem_cons.1 hm with h1 | h1
  · omega
  · exact Nat.le_of_lt (h.fine.low _ h1)
end Go.Proofs.Ytlpjjnpafmakhaa
