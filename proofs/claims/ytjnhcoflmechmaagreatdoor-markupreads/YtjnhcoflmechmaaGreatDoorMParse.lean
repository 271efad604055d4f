/-
  How markup is read: the mathematics.
-/
import Derived.Test.YtjnhcoflmechmaaGreatDoorDParse
namespace Go.Proofs.YtjnhcoflmechmaaGreatDoor.M
open Go.RowKit
set_option linter.unusedVariables false
def bnd {α β : Type} (x : Rd α) (f : α → Bytes → Rd β) : Rd β := match x with
  | .ok a l => f a l
  | .bad n e => .bad n e
theorem bnd_ok {α β : Type} {x : Rd α} {f : α → Bytes → Rd β} {b : β} {l : Bytes} (h : bnd x f = .ok b l) : ∃ a l1, x = .ok a l1 ∧ f a l1 = .ok b l := by
  cases x with
  | ok a l1 => exact ⟨a, l1, rfl, h⟩
  | bad n e => cases h
/-- A piece that must stand here. -/
def preP (p l : Bytes) : Rd Unit := if p.isPrefixOf l then .ok () (l.drop p.length) else .bad l.length 2
def wordP (l : Bytes) : Rd ByteArray := match l with
  | [] => .bad 0 2
  | c :: r => if lowC c then .ok (strB ((c :: r).takeWhile nameC)) ((c :: r).dropWhile nameC) else .bad (r.length + 1) 2
def txtP (l : Bytes) : Rd ByteArray := if (E.unesc (l.take (E.spanN l))).2.2 ≠ 0 then .bad (l.length - (E.unesc (l.take (E.spanN l))).2.1) 2 else .ok (strB (E.unesc (l.take (E.spanN l))).1) (l.drop (E.spanN l))
def keyP (l : Bytes) : Rd ByteArray := match preP [32, 35, 61, 34] l with
  | .bad _ _ => .ok noB l
  | .ok _ l1 => bnd (txtP l1) fun k l2 => if k = noB then .bad l1.length 2 else bnd (preP [34] l2) fun _ l3 => .ok k l3
def attP (l : Bytes) : Rd At := bnd (wordP l) fun n l1 => bnd (preP [61, 34] l1) fun _ l2 => bnd (txtP l2) fun v l3 => bnd (preP [34] l3) fun _ l4 => .ok (n, v) l4
def attsP (l : Bytes) : Rd (List At) := match preP [32] l with
  | .bad _ _ => .ok [] l
  | .ok _ l0 => match attP l0 with
    | .bad n e => .bad n e
    | .ok a l1 => if l1.length < l.length then (match attsP l1 with
      | .bad n e => .bad n e
      | .ok atz l2 => .ok (a :: atz) l2) else .bad 0 0
termination_by l.length
abbrev Hd := ByteArray × ByteArray × List At
def headP (l : Bytes) : Rd Hd := bnd (preP [60] l) fun _ l1 => bnd (wordP l1) fun tag l2 => bnd (keyP l2) fun key l3 => bnd (attsP l3) fun atz l4 => .ok (tag, key, atz) l4
def endP (t : Tr) (l : Bytes) : Rd Tr := bnd (preP [60, 47] l) fun _ l1 => bnd (preP t.tag.data.toList l1) fun _ l2 => bnd (preP [62] l2) fun _ l3 => .ok t l3
/-- Does a child begin here? -/
def kidC (l : Bytes) : Bool := [60].isPrefixOf l && !([60, 47].isPrefixOf l)
mutual
noncomputable def nodeP (l : Bytes) : Rd Tr := match headP l with
  | .bad n e => .bad n e
  | .ok h l1 => match preP [47, 62] l1 with
    | .ok _ l2 => .ok (.mk h.1 h.2.1 noB h.2.2 []) l2
    | .bad _ _ => match preP [62] l1 with
      | .bad n e => .bad n e
      | .ok _ l2 => match txtP l2 with
        | .bad n e => .bad n e
        | .ok t l3 => if l3.length < l.length then (match kidsP l3 with
          | .bad n e => .bad n e
          | .ok ks l4 => if t = noB ∧ ks = [] then .bad l4.length 2 else endP (.mk h.1 h.2.1 t h.2.2 ks) l4) else .bad 0 0
termination_by 2 * l.length
noncomputable def kidsP (l : Bytes) : Rd (List Tr) := if kidC l then (match nodeP l with
    | .bad n e => .bad n e
    | .ok k l1 => if l1.length < l.length then (match kidsP l1 with
      | .bad n e => .bad n e
      | .ok ks l2 => .ok (k :: ks) l2) else .bad 0 0) else .ok [] l
termination_by 2 * l.length + 1
end
theorem preP_ok {p l l' : Bytes} {u : Unit} (h : preP p l = .ok u l') : l = p ++ l' := by
  unfold preP at h
  split at h
  · rename_i hp
    cases h
    obtain ⟨t, rfl⟩ := List.isPrefixOf_iff_prefix.1 hp
    simp
  · cases h
theorem preP_app (p l : Bytes) : preP p (p ++ l) = .ok () l := by
  unfold preP
  rw [if_pos (List.isPrefixOf_iff_prefix.2 (List.prefix_append p l))]
  simp
theorem preP_no {p l : Bytes} (h : p.isPrefixOf l = false) : preP p l = .bad l.length 2 := by
  unfold preP; rw [h]; rfl
theorem preP_suf {p l l' : Bytes} {u : Unit} (h : preP p l = .ok u l') : l' <:+ l ∧ l'.length + p.length = l.length := by
  rw [preP_ok h]; exact ⟨List.suffix_append _ _, by simp; omega⟩
theorem wordP_ok {l l' : Bytes} {t : ByteArray} (h : wordP l = .ok t l') : l = t.data.toList ++ l' ∧ (∃ c r, t.data.toList = c :: r ∧ lowC c = true ∧ ∀ x ∈ c :: r, nameC x = true) := by
  cases l with
  | nil => cases h
  | cons c r =>
    unfold wordP at h
    simp only at h
    split at h
    · rename_i hc
      cases h
      rw [strB_data, List.takeWhile_append_dropWhile]
      have hn : nameC c = true := by unfold nameC; rw [hc]; rfl
      refine ⟨rfl, c, r.takeWhile nameC, by rw [List.takeWhile_cons, if_pos hn], hc, fun x hx => ?_⟩
      rcases List.mem_cons.1 hx with rfl | hx
      · exact hn
      · exact List.all_eq_true.1 (List.all_takeWhile (l := r) (p := nameC)) x hx
    · cases h
theorem wordP_suf {l l' : Bytes} {t : ByteArray} (h : wordP l = .ok t l') : l' <:+ l ∧ l'.length < l.length := by
  obtain ⟨h1, c, r, h2, _⟩ := wordP_ok h
  rw [h1, h2]
  exact ⟨List.suffix_append _ _, by simp; omega⟩
theorem txtP_ok {l l' : Bytes} {t : ByteArray} (h : txtP l = .ok t l') : l = E.escL t.data.toList ++ l' := by
  unfold txtP at h
  split at h
  · cases h
  · rename_i h0
    cases h
    rw [strB_data]
    have hu : E.escL (E.unesc (l.take (E.spanN l))).1 = l.take (E.spanN l) := by
      rcases E.unesc_only (l.take (E.spanN l)) with ⟨_, _, h3⟩ | ⟨h3, _⟩
      · exact h3
      · rw [h3] at h0; exact absurd (by decide) h0
    rw [hu, List.take_append_drop]
theorem txtP_suf {l l' : Bytes} {t : ByteArray} (h : txtP l = .ok t l') : l' <:+ l ∧ l'.length ≤ l.length := by
  have e := txtP_ok h
  have hs : l' <:+ l := ⟨_, e.symm⟩
  exact ⟨hs, hs.length_le⟩
theorem keyP_ok {l l' : Bytes} {k : ByteArray} (h : keyP l = .ok k l') : l = (if k = noB then [] else [32, 35, 61, 34] ++ E.escL k.data.toList ++ [34]) ++ l' := by
  unfold keyP at h
  split at h
  · cases h; simp
  · rename_i u l1 h1
    have e1 := preP_ok h1
    obtain ⟨k', l2, h2, h3⟩ := bnd_ok h
    have e2 := txtP_ok h2
    split at h3
    · cases h3
    · rename_i hk
      obtain ⟨u', l3, h4, h5⟩ := bnd_ok h3
      cases h5
      rw [if_neg hk, e1, e2, preP_ok h4]
      simp
theorem keyP_suf {l l' : Bytes} {k : ByteArray} (h : keyP l = .ok k l') : l' <:+ l := ⟨_, (keyP_ok h).symm⟩
/-- How an attribute is written. -/
def attB (a : At) : Bytes := 32 :: (a.1.data.toList ++ [61, 34] ++ E.escL a.2.data.toList ++ [34])
theorem attP_ok {l l' : Bytes} {a : At} (h : attP l = .ok a l') : l = a.1.data.toList ++ [61, 34] ++ E.escL a.2.data.toList ++ [34] ++ l' ∧ ∃ c r, a.1.data.toList = c :: r ∧ lowC c = true ∧ ∀ x ∈ c :: r, nameC x = true := by
  obtain ⟨n, l1, h1, h⟩ := bnd_ok h
  obtain ⟨u, l2, h2, h⟩ := bnd_ok h
  obtain ⟨v, l3, h3, h⟩ := bnd_ok h
  obtain ⟨u', l4, h4, h⟩ := bnd_ok h
  cases h
  obtain ⟨e1, hw⟩ := wordP_ok h1
  refine ⟨?_, hw⟩
  rw [e1, preP_ok h2, txtP_ok h3, preP_ok h4]
  simp
theorem attP_suf {l l' : Bytes} {a : At} (h : attP l = .ok a l') : l' <:+ l := ⟨_, (attP_ok h).1.symm⟩
theorem attsP_eq (l : Bytes) : attsP l = match preP [32] l with
    | .bad _ _ => .ok [] l
    | .ok _ l0 => bnd (attP l0) fun a l1 => bnd (attsP l1) fun atz l2 => .ok (a :: atz) l2 := by
  rw [attsP]
  cases h : preP [32] l with
  | bad n e => rfl
  | ok u l0 =>
    simp only
    cases ha : attP l0 with
    | bad n e => rfl
    | ok a l1 =>
      have h1 := (preP_suf h).2
      have h2 := (attP_suf ha).length_le
      simp only [List.length_cons, List.length_nil] at h1
      simp only
      rw [if_pos (by omega)]
      show _ = bnd (attsP l1) fun atz l2 => .ok (a :: atz) l2
      cases attsP l1 <;> rfl
def Wordy (t : ByteArray) : Prop := ∃ c r, t.data.toList = c :: r ∧ lowC c = true ∧ ∀ x ∈ c :: r, nameC x = true
theorem attsP_ok : ∀ (n : Nat) (l l' : Bytes) (atz : List At), l.length ≤ n → attsP l = .ok atz l' → l = atz.flatMap attB ++ l' ∧ ∀ a ∈ atz, Wordy a.1 := by
  intro n
  induction n with
  | zero =>
    intro l l' atz hl h
    have : l = [] := List.length_eq_zero_iff.1 (by omega)
    subst this
    rw [attsP_eq] at h
    cases h
    exact ⟨rfl, fun a ha => by cases ha⟩
  | succ n ih =>
    intro l l' atz hl h
    rw [attsP_eq] at h
    split at h
    · cases h; exact ⟨rfl, fun a ha => by cases ha⟩
    · rename_i u l0 h0
      obtain ⟨a, l1, h1, h⟩ := bnd_ok h
      obtain ⟨atz', l2, h2, h⟩ := bnd_ok h
      cases h
      have e0 := preP_ok h0
      obtain ⟨e1, hw⟩ := attP_ok h1
      have s0 := (preP_suf h0).2
      have s1 := (attP_suf h1).length_le
      simp only [List.length_cons, List.length_nil] at s0
      obtain ⟨e2, hws⟩ := ih l1 l' atz' (by omega) h2
      refine ⟨?_, fun b hb => ?_⟩
      · rw [e0, e1, e2]; simp [attB]
      · rcases List.mem_cons.1 hb with rfl | hb
        · exact hw
        · exact hws b hb
def headB (h : Hd) : Bytes := 60 :: (h.1.data.toList ++ (if h.2.1 = noB then [] else [32, 35, 61, 34] ++ E.escL h.2.1.data.toList ++ [34]) ++ h.2.2.flatMap attB)
theorem headP_ok {l l' : Bytes} {h : Hd} (hh : headP l = .ok h l') : l = headB h ++ l' ∧ Wordy h.1 ∧ ∀ a ∈ h.2.2, Wordy a.1 := by
  obtain ⟨u, l1, h1, hh⟩ := bnd_ok hh
  obtain ⟨tag, l2, h2, hh⟩ := bnd_ok hh
  obtain ⟨key, l3, h3, hh⟩ := bnd_ok hh
  obtain ⟨atz, l4, h4, hh⟩ := bnd_ok hh
  cases hh
  obtain ⟨e2, hw⟩ := wordP_ok h2
  obtain ⟨e4, hws⟩ := attsP_ok l3.length l3 l' atz (Nat.le_refl _) h4
  refine ⟨?_, hw, hws⟩
  rw [preP_ok h1, e2, keyP_ok h3, e4]
  simp [headB]
theorem headP_suf {l l' : Bytes} {h : Hd} (hh : headP l = .ok h l') : l' <:+ l ∧ l'.length + 2 ≤ l.length := by
  obtain ⟨e, ⟨c, r, hc, _⟩, _⟩ := headP_ok hh
  rw [e]
  refine ⟨List.suffix_append _ _, ?_⟩
  simp [headB, hc]
  omega
end Go.Proofs.YtjnhcoflmechmaaGreatDoor.M
