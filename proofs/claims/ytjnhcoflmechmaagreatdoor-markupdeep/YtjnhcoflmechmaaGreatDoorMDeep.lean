/-
  Deeply nested markup: its mathematics.
-/
import Derived.Test.YtjnhcoflmechmaaGreatDoorMSame
namespace Go.Proofs.YtjnhcoflmechmaaGreatDoor.M
open Go.RowKit
set_option linter.unusedVariables false
set_option maxRecDepth 100000
abbrev tA (k : Tr) : Tr := .mk ⟨#[97]⟩ ⟨#[]⟩ ⟨#[]⟩ [] [k]
/-- n nodes a, one within the other, and a node b within. -/
def deepT : Nat → Tr
  | 0 => tB
  | n + 1 => tA (deepT n)
def rep : Nat → Bytes → Bytes
  | 0, _ => []
  | n + 1, l => l ++ rep n l
theorem rep_end (n : Nat) (l : Bytes) : rep n l ++ l = l ++ rep n l := by
  induction n with
  | zero => simp [rep]
  | succ n ih => rw [rep, List.append_assoc, ih]
def openA : Bytes := [60, 97, 62]
def shutA : Bytes := [60, 47, 97, 62]
def leafB : Bytes := [60, 98, 47, 62]
theorem pr_tB : prT tB = leafB := by
  have n3 : (⟨#[]⟩ : ByteArray) = noB := rfl
  rw [prT, if_pos ⟨n3, rfl⟩]
  simp [headB, n3, leafB]
theorem pr_tA (k : Tr) : prT (tA k) = openA ++ (prT k ++ shutA) := by
  have n3 : (⟨#[]⟩ : ByteArray) = noB := rfl
  have e : E.escL (⟨#[]⟩ : ByteArray).data.toList = [] := rfl
  rw [prT, if_neg (fun h => by cases h.2), e]
  simp [headB, n3, openA, shutA, prL]
theorem pr_deep (n : Nat) : prT (deepT n) = rep n openA ++ (leafB ++ rep n shutA) := by
  induction n with
  | zero => rw [deepT, pr_tB]; simp [rep]
  | succ n ih =>
    rw [deepT, pr_tA, ih, rep, rep, List.append_assoc, List.append_assoc, List.append_assoc, rep_end]
theorem wordy_deep (n : Nat) : WordyT (deepT n) := by
  induction n with
  | zero => exact .mk (wordy_one 98 (by decide)) (fun a ha => by simp [deepT, Tr.as] at ha) (fun k hk => by simp [deepT, Tr.kids] at hk)
  | succ n ih => exact .mk (wordy_one 97 (by decide)) (fun a ha => by simp [deepT, Tr.as] at ha) (fun k hk => by
      simp [deepT, Tr.kids] at hk
      subst hk
      exact ih)
theorem size_deep (n : Nat) : sizeT (deepT n) = n + 1 := by
  induction n with
  | zero => rfl
  | succ n ih => rw [deepT, sizeT, sizeK, sizeK, ih]; omega
theorem good_deep (n : Nat) : GoodT (deepT n) := by
  have hz : GoodT tB := .mk (by decide) (by decide) (by decide) (by decide) (fun x hx => by cases hx) (by decide) (fun k hk => by cases hk)
  induction n with
  | zero => exact hz
  | succ n ih => exact .mk (show (1 : Nat) ≤ maxLen by decide) (show (0 : Nat) ≤ 100000000 by decide) (show (0 : Nat) ≤ 100000000 by decide) (show (0 : Nat) ≤ 1000000 by decide) (fun x hx => by cases hx) (show (1 : Nat) ≤ 1000000 by decide) (fun k hk => by
      simp [deepT, Tr.kids] at hk
      subst hk
      exact ih)
/-- The text that is read: whole, or without its last byte. -/
theorem start_A (r : Bytes) (h : kidC r = true) : startP (openA ++ r) = .ok (true, .mk ⟨#[97]⟩ noB noB [] []) r := by
  obtain ⟨q, hq⟩ : ∃ q, r = 60 :: q := by
    cases r with
    | nil => cases h
    | cons c q =>
      by_cases hc : c = 60
      · exact ⟨q, by rw [hc]⟩
      · rw [kidC_not hc] at h; cases h
  have hh : headP (openA ++ r) = .ok (⟨#[97]⟩, noB, []) (62 :: r) := head_of (h := (⟨#[97]⟩, noB, [])) (c := 62) (r := r) (wordy_one 97 (by decide)) (fun a ha => by cases ha) (.inr rfl)
  have ht : txtP r = .ok noB r := by rw [hq]; exact txt_of noB (c := 60) (r := q) (by decide)
  rw [show startP (openA ++ r) = bnd (headP (openA ++ r)) tailP from rfl, hh, bnd_okE]
  unfold tailP
  rw [show preP [47, 62] (62 :: r) = .bad (62 :: r).length 2 from preP_no rfl]
  simp only
  rw [show (62 :: r) = [62] ++ r from rfl, preP_app, bnd_okE, ht, bnd_okE, if_neg (fun e => by rw [h] at e; cases e.2)]
theorem kid_deep (n : Nat) (r : Bytes) : kidC (prT (deepT n) ++ r) = true := kidC_node (wordy_deep n) r
theorem node_whole (n : Nat) : nodeP (prT (deepT n)) = .ok (deepT n) [] := by
  have := node_of (deepT n) (wordy_deep n) []
  rwa [List.append_nil] at this
/-- Without the last byte the text ends too early. -/
theorem node_cut (n : Nat) : nodeP (openA ++ (prT (deepT n) ++ [60, 47, 97])) = .bad 0 2 := by
  rw [node_start, start_A _ (kid_deep n _), bnd_okE]
  show restF _ _ = _
  rw [rest_kid (kid_deep n _), node_of (deepT n) (wordy_deep n), bnd_okE, rest_end (by decide) (.inr (by rw [addK_kids]; simp)), endP_1]
  rfl
theorem cut_list (n : Nat) : rep (n + 1) openA ++ (leafB ++ rep (n + 1) shutA) = openA ++ (prT (deepT n) ++ [60, 47, 97]) ++ [62] := by
  rw [← pr_deep, deepT, pr_tA]
  simp [shutA]
theorem cnt_deep (n : Nat) (r : Bytes) : cntK (prT (deepT n) ++ r) ≤ n + 1 + cntK r := by
  have := cntK_pr (deepT n) (wordy_deep n) r
  rw [size_deep] at this
  exact this
theorem alone_tA (k : Tr) : aloneT (tA k) = 0 := alone_of (show wfB tagB ⟨#[97]⟩ = true by decide +kernel) (show (0 : Nat) ≤ 65536 by decide) (show (0 : Nat) ≤ 65536 by decide) (fun j hj => by simp [Tr.as] at hj)
theorem alone_deep (n : Nat) : aloneT (deepT n) = 0 := by
  cases n with
  | zero => exact alone_tB
  | succ n => exact alone_tA _
theorem key_deep (n : Nat) : (deepT n).key = noB := by cases n <;> rfl
theorem visit_deep : ∀ (m d : Nat) (up : Int) (l : List It), l.length + 1 = d → d ≤ 65 → (d + m ≤ 64 → (visitL aloneT (deepT m) d up l).2 = 0) ∧ (64 < d + m → (visitL aloneT (deepT m) d up l).2 = 11 ∧ (visitL aloneT (deepT m) d up l).1.length = 64) := by
  intro m
  induction m with
  | zero =>
    intro d up l hl hd
    by_cases h : 64 < d
    · have hn : nodeF aloneT l ⟨deepT 0, d, up⟩ = 11 := nodeF_deep (by omega) h
      have hv : visitL aloneT (deepT 0) d up l = (l, 11) := by rw [visitL_eq, if_neg (by rw [hn]; decide), hn]
      rw [hv]
      exact ⟨fun h2 => by omega, fun _ => ⟨rfl, by show l.length = 64; omega⟩⟩
    · have hn : nodeF aloneT l ⟨deepT 0, d, up⟩ = 0 := nodeF_ok (by omega) h (alone_deep 0) (fun e => e.2.1 (key_deep 0))
      have hv : visitL aloneT (deepT 0) d up l = (l ++ [⟨deepT 0, d, up⟩], 0) := by
        rw [visitL_eq, if_pos hn]
        show visitK aloneT [] _ _ _ = _
        rw [visitK]
      rw [hv]
      exact ⟨fun _ => rfl, fun h2 => by omega⟩
  | succ m ih =>
    intro d up l hl hd
    by_cases h : 64 < d
    · have hn : nodeF aloneT l ⟨deepT (m + 1), d, up⟩ = 11 := nodeF_deep (by omega) h
      have hv : visitL aloneT (deepT (m + 1)) d up l = (l, 11) := by rw [visitL_eq, if_neg (by rw [hn]; decide), hn]
      rw [hv]
      exact ⟨fun h2 => by omega, fun _ => ⟨rfl, by show l.length = 64; omega⟩⟩
    · have hn : nodeF aloneT l ⟨deepT (m + 1), d, up⟩ = 0 := nodeF_ok (by omega) h (alone_deep (m + 1)) (fun e => e.2.1 (key_deep (m + 1)))
      have hv : visitL aloneT (deepT (m + 1)) d up l = visitL aloneT (deepT m) (d + 1) l.length (l ++ [⟨deepT (m + 1), d, up⟩]) := by
        rw [visitL_eq, if_pos hn]
        show visitK aloneT [deepT m] _ _ _ = _
        rw [visitK_one]
      rw [hv]
      obtain ⟨i1, i2⟩ := ih (d + 1) l.length (l ++ [⟨deepT (m + 1), d, up⟩]) (by simp; omega) (by omega)
      exact ⟨fun h2 => i1 (by omega), fun h2 => i2 (by omega)⟩
theorem first_deep (n : Nat) : (n < 64 → FirstF aloneT (itemsL (deepT n)) 0 0) ∧ (64 ≤ n → FirstF aloneT (itemsL (deepT n)) 64 11) := by
  obtain ⟨h1, h2⟩ := visit_deep n 1 (-1) [] rfl (by decide)
  have hs := seen_first aloneT (deepT n)
  refine ⟨fun h => ?_, fun h => ?_⟩
  · rw [show (seenL aloneT (deepT n)).2 = 0 from h1 (by omega)] at hs
    exact hs
  · obtain ⟨e1, e2⟩ := h2 (by omega)
    rw [show (seenL aloneT (deepT n)).2 = 11 from e1, show (seenL aloneT (deepT n)).1.length = 64 from e2] at hs
    exact hs
/-- What Parse says of the whole text. -/
theorem says_deep {n : Nat} {s : ByteArray} {t : Tr} {a er : Int} (hs : s.data.toList = prT (deepT n)) (h : ParseM s t a er) : (n < 64 → a = 0 ∧ er = 0) ∧ (64 ≤ n → a = 64 ∧ er = 11) := by
  unfold ParseM at h
  have hw : wholeP s.data.toList = .ok (deepT n) [] := by unfold wholeP; rw [hs, node_whole]; rfl
  rw [hw] at h
  obtain ⟨f, g, hf, h⟩ := h
  obtain ⟨d1, d2⟩ := first_deep n
  refine ⟨fun hn => ?_, fun hn => ?_⟩
  · obtain ⟨rfl, rfl⟩ := firstF_unique hf (d1 hn)
    rcases h with ⟨_, _, h1, h2⟩ | ⟨h0, _⟩
    · exact ⟨h1, h2⟩
    · exact absurd rfl h0
  · obtain ⟨rfl, rfl⟩ := firstF_unique hf (d2 hn)
    rcases h with ⟨h0, _⟩ | ⟨_, _, h1, h2⟩
    · cases h0
    · exact ⟨h1, h2⟩
/-- What Parse says of the text without its last byte. -/
theorem says_cut {n : Nat} {s : ByteArray} {t : Tr} {a er : Int} (hs : s.data.toList = openA ++ (prT (deepT n) ++ [60, 47, 97])) (h : ParseM s t a er) : a = (s.size : Int) ∧ er = 2 := by
  unfold ParseM at h
  have hw : wholeP s.data.toList = .bad 0 2 := by unfold wholeP; rw [hs, node_cut]; rfl
  rw [hw] at h
  exact ⟨h.2.1, h.2.2⟩
theorem rep_len (n : Nat) (l : Bytes) : (rep n l).length = n * l.length := by
  induction n with
  | zero => simp [rep]
  | succ n ih => rw [rep, List.length_append, ih, Nat.add_mul]; omega
end Go.Proofs.YtjnhcoflmechmaaGreatDoor.M
