/-
  Plain: the lists behind symMerge's three ways.
-/
import Derived.Test.YteamnjaepgfcmaaBase
namespace Go.Proofs.Yteamnjaepgfcmaa
open Go.RowKit Go.Sort
set_option linter.unusedVariables false

theorem at_list {d : Array At} {L1 L2 : List At} {x : At} (h : d.toList = L1 ++ x :: L2) {i : Nat} (hi : i = L1.length) : d[i]! = x := by
  obtain ⟨l⟩ := d
  simp at h
  subst h hi
  simp
theorem size_list' {d : Array At} {l : List At} (h : d.toList = l) : d.size = l.length := by rw [← h, Array.length_toList]

/-- One ahead: x, then Y sorted; i: where the first not less than x stands. -/
theorem put_facts {d : Array At} {P Y Z : List At} {x : At} {a m b i : Nat} (hd : d.toList = P ++ (x :: Y) ++ Z) (ha : P.length = a) (hm : a + 1 = m) (hb : m + Y.length = b)
    (hmi : m ≤ i) (hib : i ≤ b) (hY : Srt Y) (h1 : i = m ∨ cmpN d[i - 1]!.1 x.1 < 0) (h2 : i = b ∨ ¬ cmpN d[i]!.1 x.1 < 0) :
    Srt (Y.take (i - m) ++ x :: Y.drop (i - m)) ∧ Stb (x :: Y) (Y.take (i - m) ++ x :: Y.drop (i - m)) := by
  have key := put_ok (x := x) (M1 := Y.take (i - m)) (M2 := Y.drop (i - m)) (by rw [List.take_append_drop]; exact hY)
    (fun y B e => by
      have hl : (Y.take (i - m)).length = B.length + 1 := by rw [e]; simp
      rw [List.length_take] at hl
      rcases h1 with h1 | h1
      · omega
      · have : d.toList = (P ++ x :: B) ++ y :: (Y.drop (i - m) ++ Z) := by
          rw [hd]
          conv => lhs; rw [← List.take_append_drop (i - m) Y, e]
          simp
        rw [at_list this (i := i - 1) (by simp; omega)] at h1
        exact h1)
    (fun y B e => by
      have hl : (Y.drop (i - m)).length = B.length + 1 := by rw [e]; simp
      rw [List.length_drop] at hl
      rcases h2 with h2 | h2
      · omega
      · have : d.toList = (P ++ x :: Y.take (i - m)) ++ y :: (B ++ Z) := by
          rw [hd]
          conv => lhs; rw [← List.take_append_drop (i - m) Y, e]
          simp
        rw [at_list this (i := i) (by simp; omega)] at h2
        exact h2)
  rw [List.take_append_drop] at key
  exact key
/-- One behind: X sorted, then y. -/
theorem pull_facts {d : Array At} {P X Z : List At} {y : At} {a m i : Nat} (hd : d.toList = P ++ X ++ (y :: Z)) (ha : P.length = a) (hm : a + X.length = m)
    (hai : a ≤ i) (him : i ≤ m) (hX : Srt X) (h1 : i = a ∨ ¬ cmpN y.1 d[i - 1]!.1 < 0) (h2 : i = m ∨ cmpN y.1 d[i]!.1 < 0) :
    Srt (X.take (i - a) ++ y :: X.drop (i - a)) ∧ Stb (X ++ [y]) (X.take (i - a) ++ y :: X.drop (i - a)) := by
  have key := pull_ok (y := y) (A1 := X.take (i - a)) (A2 := X.drop (i - a)) (by rw [List.take_append_drop]; exact hX)
    (fun x A e => by
      have hl : (X.take (i - a)).length = A.length + 1 := by rw [e]; simp
      rw [List.length_take] at hl
      rcases h1 with h1 | h1
      · omega
      · have : d.toList = (P ++ A) ++ x :: (X.drop (i - a) ++ y :: Z) := by
          rw [hd]
          conv => lhs; rw [← List.take_append_drop (i - a) X, e]
          simp
        rw [at_list this (i := i - 1) (by simp; omega)] at h1
        exact h1)
    (fun x A e => by
      have hl : (X.drop (i - a)).length = A.length + 1 := by rw [e]; simp
      rw [List.length_drop] at hl
      rcases h2 with h2 | h2
      · omega
      · have : d.toList = (P ++ X.take (i - a)) ++ x :: (A ++ y :: Z) := by
          rw [hd]
          conv => lhs; rw [← List.take_append_drop (i - a) X, e]
          simp
        rw [at_list this (i := i) (by simp; omega)] at h2
        exact h2)
  rw [List.take_append_drop] at key
  exact key
/-- The cut of a pair: what is known of it, for any two merges. -/
def CutOk (A1 A2 B1 B2 : List At) : Prop := Srt A1 ∧ Srt A2 ∧ Srt B1 ∧ Srt B2 ∧ ∀ S T : List At, Srt S → Srt T → Stb (A1 ++ B1) S → Stb (A2 ++ B2) T → Srt (S ++ T) ∧ Stb ((A1 ++ A2) ++ (B1 ++ B2)) (S ++ T)
theorem cut_facts {d : Array At} {P X Y Z : List At} {a m b s e : Nat} (hd : d.toList = P ++ X ++ Y ++ Z) (ha : P.length = a) (hm : a + X.length = m) (hb : m + Y.length = b)
    (has : a ≤ s) (hsm : s ≤ m) (hme : m ≤ e) (heb : e ≤ b) (hX : Srt X) (hY : Srt Y)
    (h1 : s = a ∨ e = b ∨ ¬ cmpN d[e]!.1 d[s - 1]!.1 < 0) (h2 : s = m ∨ e = m ∨ cmpN d[e - 1]!.1 d[s]!.1 < 0) :
    CutOk (X.take (s - a)) (X.drop (s - a)) (Y.take (e - m)) (Y.drop (e - m)) := by
  have hX' : Srt (X.take (s - a) ++ X.drop (s - a)) := by rw [List.take_append_drop]; exact hX
  have hY' : Srt (Y.take (e - m) ++ Y.drop (e - m)) := by rw [List.take_append_drop]; exact hY
  refine ⟨hX'.left, hX'.right, hY'.left, hY'.right, fun S T hS hT sS sT => cut_ok hX' hY' ?_ ?_ hS hT sS sT⟩
  · intro x A eA y B eB
    have l1 : (X.drop (s - a)).length = A.length + 1 := by rw [eA]; simp
    have l2 : (Y.take (e - m)).length = B.length + 1 := by rw [eB]; simp
    rw [List.length_drop] at l1
    rw [List.length_take] at l2
    rcases h2 with h2 | h2 | h2
    · omega
    · omega
    · have e1 : d.toList = (P ++ X.take (s - a)) ++ x :: (A ++ Y ++ Z) := by
        rw [hd]
        conv => lhs; rw [← List.take_append_drop (s - a) X, eA]
        simp
      have e2 : d.toList = (P ++ X ++ B) ++ y :: (Y.drop (e - m) ++ Z) := by
        rw [hd]
        conv => lhs; rw [← List.take_append_drop (e - m) Y, eB]
        simp
      rw [at_list e1 (i := s) (by simp; omega), at_list e2 (i := e - 1) (by simp; omega)] at h2
      exact h2
  · intro x A eA y B eB
    have l1 : (X.take (s - a)).length = A.length + 1 := by rw [eA]; simp
    have l2 : (Y.drop (e - m)).length = B.length + 1 := by rw [eB]; simp
    rw [List.length_take] at l1
    rw [List.length_drop] at l2
    rcases h1 with h1 | h1 | h1
    · omega
    · omega
    · have e1 : d.toList = (P ++ A) ++ x :: (X.drop (s - a) ++ Y ++ Z) := by
        rw [hd]
        conv => lhs; rw [← List.take_append_drop (s - a) X, eA]
        simp
      have e2 : d.toList = (P ++ X ++ Y.take (e - m)) ++ y :: (B ++ Z) := by
        rw [hd]
        conv => lhs; rw [← List.take_append_drop (e - m) Y, eB]
        simp
      rw [at_list e1 (i := s - 1) (by simp; omega), at_list e2 (i := e) (by simp; omega)] at h1
      exact h1
/-- One step of the walk that carries x behind. -/
theorem carry_step {dk : Array At} {P M Z : List At} {x : At} {a t : Nat} (ha : P.length = a) (ht : t < M.length) (h : dk.toList = P ++ (M.take t ++ x :: M.drop t) ++ Z) :
    (swp dk (a + t) (a + t + 1)).toList = P ++ (M.take (t + 1) ++ x :: M.drop (t + 1)) ++ Z := by
  rw [drop_cons' M t ht] at h
  have h' : dk.toList = (P ++ M.take t) ++ x :: ([] ++ M[t] :: (M.drop (t + 1) ++ Z)) := by rw [h]; simp only [List.append_assoc, List.cons_append, List.nil_append]
  rw [(swp_list h' (i := a + t) (j := a + t + 1) (by simp; omega) (by simp; omega)).1, take_succ' M t ht]
  simp only [List.append_assoc, List.cons_append, List.nil_append]
/-- .. and that carries y ahead. -/
theorem carry_back {dk : Array At} {P M Z : List At} {x : At} {a t : Nat} (ha : P.length = a) (ht : t < M.length) (h : dk.toList = P ++ (M.take (t + 1) ++ x :: M.drop (t + 1)) ++ Z) :
    (swp dk (a + t + 1) (a + t)).toList = P ++ (M.take t ++ x :: M.drop t) ++ Z := by
  rw [take_succ' M t ht] at h
  have h' : dk.toList = (P ++ M.take t) ++ M[t] :: ([] ++ x :: (M.drop (t + 1) ++ Z)) := by rw [h]; simp only [List.append_assoc, List.cons_append, List.nil_append]
  have hl := (swp_list h' (i := a + t) (j := a + t + 1) (by simp; omega) (by simp; omega))
  have hc : swp dk (a + t + 1) (a + t) = swp dk (a + t) (a + t + 1) := by
    unfold swp
    rw [Array.setIfInBounds_comm _ _ (by omega)]
  rw [hc, hl.1, drop_cons' M t ht]
  simp only [List.append_assoc, List.cons_append, List.nil_append]
end Go.Proofs.Yteamnjaepgfcmaa
