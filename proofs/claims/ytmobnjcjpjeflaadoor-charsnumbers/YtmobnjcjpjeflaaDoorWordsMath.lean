/-
  Plain: a text cut at its blanks.
-/
import Derived.Test.YtmobnjcjpjeflaaDoorPairsMath
namespace Go.Proofs.YtmobnjcjpjeflaaDoor
open Go.RowKit
set_option linter.unusedVariables false

def splitSp : List UInt8 → List (List UInt8)
  | [] => [[]]
  | c :: r => if c = 32 then [] :: splitSp r else (c :: (splitSp r).headD []) :: (splitSp r).tail
theorem splitSp_ne (l : List UInt8) : splitSp l ≠ [] := by
  cases l with
  | nil => simp [splitSp]
  | cons c r => simp only [splitSp]; split <;> simp
theorem head_tail {α : Type} {l : List (List α)} (h : l ≠ []) : l = l.headD [] :: l.tail := by
  cases l with
  | nil => exact absurd rfl h
  | cons a r => rfl
def okW (l : List UInt8) : List (List UInt8) × Bool := if l = [] then ([], true) else if (splitSp l).any (·.isEmpty) then ([], false) else (splitSp l, true)

def NoSp (l : List UInt8) (k : Nat) : Prop := ∀ j, j < k → l.getD j 0 ≠ 32
theorem noSp_succ {l : List UInt8} {k : Nat} (h : NoSp l k) (e : l.getD k 0 ≠ 32) : NoSp l (k + 1) := by
  intro j hj
  rcases Nat.lt_or_ge j k with h1 | h1
  · exact h j h1
  · have : j = k := by omega
    subst this; exact e
theorem split_at : ∀ (l : List UInt8) (k : Nat), k < l.length → NoSp l k → l.getD k 0 = 32 → splitSp l = l.take k :: splitSp (l.drop (k + 1)) := by
  intro l
  induction l with
  | nil => intro k h; simp at h
  | cons c r ih =>
    intro k hk hn he
    cases k with
    | zero => simp at he; simp [splitSp, he]
    | succ k =>
      have hc : c ≠ 32 := by have := hn 0 (by omega); simpa using this
      have := ih k (by simpa using hk) (fun j hj => by have := hn (j + 1) (by omega); simpa using this) (by simpa using he)
      simp [splitSp, hc, this]
theorem split_none : ∀ (l : List UInt8), NoSp l l.length → splitSp l = [l] := by
  intro l
  induction l with
  | nil => intro _; rfl
  | cons c r ih =>
    intro hn
    have hc : c ≠ 32 := by have := hn 0 (by simp); simpa using this
    have := ih (fun j hj => by have := hn (j + 1) (by simp; omega); simpa using this)
    simp [splitSp, hc, this]
theorem ext_toList {a b : ByteArray} (h : a.data.toList = b.data.toList) : a = b := by
  apply ByteArray.ext
  exact Array.toList_inj.1 h
theorem extract_list (s : ByteArray) (i j : Nat) : (s.extract i j).data.toList = (s.data.toList.drop i).take (j - i) := by simp
theorem take_list (s : ByteArray) (k : Nat) (h : k ≤ s.size) : (s.extract 0 k).data.toList = s.data.toList.take k := by simp
theorem drop_list (s : ByteArray) (k : Nat) : (s.extract k s.size).data.toList = s.data.toList.drop k := by
  rw [extract_list]
  exact List.take_of_length_le (by simp)
theorem getD_byte (s : ByteArray) (k : Nat) : s.data.toList.getD k 0 = 32 ↔ byte s k = 32 := by
  unfold byte
  constructor
  · intro h; rw [h]; rfl
  · intro h; exact UInt8.toNat_inj.1 (by simpa using (show (s.data.toList.getD k 0).toNat = 32 by omega))

/-- What holds of the words so far (ws), of what is left (r) and of the whole (l). -/
def WInv (l : List UInt8) (ws : List ByteArray) (r : ByteArray) : Prop :=
  splitSp l = ws.map (·.data.toList) ++ splitSp r.data.toList ∧ (∀ x ∈ ws, x.data.toList ≠ []) ∧ (r.size = 0 → l = [] ∧ ws = []) ∧ (r.size ≠ 0 → l ≠ []) ∧ ws.length + r.size ≤ l.length

theorem winv_start (s : ByteArray) : WInv s.data.toList [] s := by
  refine ⟨by simp, by simp, fun h => ⟨List.eq_nil_of_length_eq_zero (by simpa using h), rfl⟩, fun h e => h ?_, by simp⟩
  have := congrArg List.length e
  simpa using this
theorem winv_step {l : List UInt8} {ws : List ByteArray} {r : ByteArray} {k : Nat} (h : WInv l ws r) (hk : k < r.size) (h0 : k ≠ 0) (h1 : k ≠ r.size - 1) (hn : NoSp r.data.toList k) (he : r.data.toList.getD k 0 = 32) :
    WInv l (ws ++ [r.extract 0 k]) (r.extract (k + 1) r.size) := by
  obtain ⟨a1, a2, a3, a4, a5⟩ := h
  have hs := split_at r.data.toList k (by simpa using hk) hn he
  have hsz : (r.extract (k + 1) r.size).size = r.size - (k + 1) := by simp
  refine ⟨?_, ?_, ?_, ?_, ?_⟩
  · rw [a1, hs, drop_list]
    simp
  · intro x hx
    rcases List.mem_append.1 hx with h | h
    · exact a2 x h
    · simp at h
      subst h
      rw [take_list r k (by omega)]
      intro e
      have := congrArg List.length e
      rw [List.length_take, size_list, List.length_nil] at this
      omega
  · intro h; rw [hsz] at h; omega
  · intro _; exact a4 (by omega)
  · rw [hsz]; simp; omega
theorem winv_false {l : List UInt8} {ws : List ByteArray} {r : ByteArray} {k : Nat} (h : WInv l ws r) (hk : k < r.size) (h01 : k = 0 ∨ k = r.size - 1) (hn : NoSp r.data.toList k) (he : r.data.toList.getD k 0 = 32) :
    okW l = ([], false) := by
  obtain ⟨a1, a2, a3, a4, a5⟩ := h
  have hs := split_at r.data.toList k (by simpa using hk) hn he
  have hl : l ≠ [] := a4 (by omega)
  have hany : (splitSp l).any (·.isEmpty) = true := by
    rw [a1, hs, List.any_append]
    rcases h01 with h | h
    · subst h; simp
    · have : r.data.toList.drop (k + 1) = [] := List.drop_eq_nil_of_le (by simp; omega)
      rw [this]
      simp [splitSp]
  simp [okW, hl, hany]
theorem winv_end {l : List UInt8} {ws : List ByteArray} {r : ByteArray} (h : WInv l ws r) (h0 : r.size ≠ 0) (hn : NoSp r.data.toList r.size) : okW l = ((ws ++ [r]).map (·.data.toList), true) := by
  obtain ⟨a1, a2, a3, a4, a5⟩ := h
  have hs := split_none r.data.toList (by simpa using hn)
  rw [hs] at a1
  have hl : l ≠ [] := a4 h0
  have hr : r.data.toList ≠ [] := by intro e; have := congrArg List.length e; rw [size_list, List.length_nil] at this; omega
  have hany : (splitSp l).any (·.isEmpty) = false := by
    rw [a1, List.any_append]
    simp only [List.any_map, Bool.or_eq_false_iff]
    refine ⟨?_, by simpa using hr⟩
    rw [List.any_eq_false]
    intro x hx
    simpa using a2 x hx
  simp only [okW, hl, hany, if_false]
  simp [a1]
theorem winv_nil {l : List UInt8} {ws : List ByteArray} {r : ByteArray} (h : WInv l ws r) (h0 : r.size = 0) : okW l = ([], true) ∧ ws = [] := by
  have := h.2.2.1 h0
  exact ⟨by simp [okW, this.1], this.2⟩
end Go.Proofs.YtmobnjcjpjeflaaDoor
