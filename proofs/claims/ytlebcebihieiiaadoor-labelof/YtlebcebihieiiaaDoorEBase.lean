/-
  What the library's variables hold; escape.formsOf and its closure: what they answer.
-/
import Derived.Test.YtlebcebihieiiaaDoorEForms
import Derived.Test.YtlebcebihieiiaaDoorShelf
import Derived.Test.YtlebcebihieiiaaDoorVars
import Derived.WalkKit
import Derived.WalkLawsBesides
import Derived.WalkSpells
import Derived.WalkMore
import Derived.Outline
import Derived.Below
import Derived.Lib.Hide
import Derived.Lib.SmallJoins
import Derived.Lib.AppendIntMem
import Derived.BigQuiet
import Derived.Deep.QuietTactic
namespace Go.Proofs.YtlebcebihieiiaaDoor.E
open Go.RowKit
set_option linter.unusedVariables false

def str (l : List UInt8) : ByteArray := ⟨l.toArray⟩
theorem str_data (l : List UInt8) : (str l).data.toList = l := rfl
theorem str_size (l : List UInt8) : (str l).size = l.length := by show l.toArray.size = _; simp

def StrPost (w : World) (l : List UInt8) (e : Ending) (w' : World) : Prop := e = .returned (.string (str l)) ∧ Below w.heap.size w w'

theorem itoa_any (c : UInt8) (w : World) (hv : Vars w) : Calls Tryd.prog 50 #[.int .i64 (c.toNat : Int)] w (StrPost w (dg c.toNat)) := by
  have hc := c.toNat_lt
  have h := Tryd.strconv_Itoa (c.toNat : Int) (by omega) (by omega) w hv.1
  refine h.mono ?_
  rintro e w' ⟨rfl, k, os, rfl⟩
  refine ⟨?_, Lib.below_grow _ _ (Nat.le_refl _) _ _⟩
  rw [show Lib.itoa (c.toNat : Int) = dg c.toNat by unfold Lib.itoa; rw [if_neg (by omega), Int.toNat_natCast, dg_eq _ (by omega)]]
  rfl

theorem ret_str {a b : ByteArray} (h : a.data.toList = b.data.toList) : Ending.returned (.string a) = .returned (.string b) := by
  have : a = b := by
    cases a; cases b
    simpa using h
  rw [this]
theorem app_list (a b : ByteArray) : (a ++ b).data.toList = a.data.toList ++ b.data.toList := Joins.data_append a b
theorem dg_len (n : Nat) : (dg n).length ≤ 3 := by
  unfold dg
  split
  · simp
  · split <;> simp
theorem one_list (s : ByteArray) (k : Nat) (hk : k < s.size) : (s.extract k (k + 1)).data.toList = [s[k]] := by
  have hk' : k < s.data.size := hk
  rw [Lib.extract_data]
  apply List.ext_getElem?
  intro j
  rcases j with _ | j
  · simp
    exact Array.getElem?_eq_getElem hk'
  · simp
    omega

theorem form_num {c : UInt8} (h1 : c ≠ 38) (h2 : c ≠ 60) (h3 : c ≠ 62) (h4 : c ≠ 34) (h : c < 32 ∨ c = 127) : form c = [38, 35] ++ dg c.toNat ++ [59] := by unfold form; rw [if_neg h1, if_neg h2, if_neg h3, if_neg h4, if_pos h]
theorem form_plain {c : UInt8} (h1 : c ≠ 38) (h2 : c ≠ 60) (h3 : c ≠ 62) (h4 : c ≠ 34) (h5 : ¬ c < 32) (h6 : c ≠ 127) : form c = [c] := by unfold form; rw [if_neg h1, if_neg h2, if_neg h3, if_neg h4, if_neg (fun h => h.elim h5 h6)]
theorem nat_ne {c d : UInt8} (h : c ≠ d) : c.toNat ≠ d.toNat := fun e => h (UInt8.toNat_inj.1 e)

set_option maxHeartbeats 1000000 in
theorem form_any (s : ByteArray) (k F : Nat) (c : UInt8) (w : World) (hk : k < s.size) (hc : s[k] = c) (hs : s.size ≤ 1000000) (hF : w.cell? ⟨F, 0, none⟩ = some (.string s)) (hv : Vars w) :
    Calls Tryd.prog 66 #[.int .i64 k, .pointer (some ⟨F, 0, none⟩)] w (StrPost w (form c)) := by
  have hcl := c.toNat_lt
  by_cases h1 : c = 38
  · subst h1
    go_enter Tryd.func66, Tryd.ntmps66
    go_wp2
    go_ret
    exact ⟨ret_str (by decide), Below.refl _ _⟩
  by_cases h2 : c = 60
  · subst h2
    go_enter Tryd.func66, Tryd.ntmps66
    go_wp2
    go_ret
    exact ⟨ret_str (by decide), Below.refl _ _⟩
  by_cases h3 : c = 62
  · subst h3
    go_enter Tryd.func66, Tryd.ntmps66
    go_wp2
    go_ret
    exact ⟨ret_str (by decide), Below.refl _ _⟩
  by_cases h4 : c = 34
  · subst h4
    go_enter Tryd.func66, Tryd.ntmps66
    go_wp2
    go_ret
    exact ⟨ret_str (by decide), Below.refl _ _⟩
  have g1 : ((c.toNat : Int) == 38) = false := by have := nat_ne h1; simp at this ⊢; omega
  have g2 : ((c.toNat : Int) == 60) = false := by have := nat_ne h2; simp at this ⊢; omega
  have g3 : ((c.toNat : Int) == 62) = false := by have := nat_ne h3; simp at this ⊢; omega
  have g4 : ((c.toNat : Int) == 34) = false := by have := nat_ne h4; simp at this ⊢; omega
  by_cases h5 : c < 32 ∨ c = 127
  · have hf := form_num h1 h2 h3 h4 h5
    have HF := Lib.hid hf; clear hf
    have hl := dg_len c.toNat
    have CI := Lib.hid (itoa_any c w hv)
    have hsz := str_size (dg c.toNat)
    have q1 : ¬ 9223372036854775807 < 2 + (str (dg c.toNat)).size := by omega
    have q2 : ¬ 9223372036854775807 < 2 + (str (dg c.toNat)).size + 1 := by omega
    clear hsz
    by_cases h6 : c < 32
    · have h6' : decide ((c.toNat : Int) < 32) = true := by have : c.toNat < 32 := h6; simp; omega
      clear h1 h2 h3 h4 h5 h6
      go_enter Tryd.func66, Tryd.ntmps66
      go_wp2_with (go_at_call 50; refine CI.out.mono ?_; rintro e w' ⟨rfl, hb⟩)
      go_ret
      exact ⟨ret_str (by rw [app_list, app_list, str_data, HF.out, str_data]), hb⟩
    · have h6' : decide ((c.toNat : Int) < 32) = false := by have : ¬ c.toNat < 32 := h6; simp; omega
      have h7 : ((c.toNat : Int) == 127) = true := by rw [h5.resolve_left h6]; rfl
      clear h1 h2 h3 h4 h5 h6
      go_enter Tryd.func66, Tryd.ntmps66
      go_wp2_with (go_at_call 50; refine CI.out.mono ?_; rintro e w' ⟨rfl, hb⟩)
      go_ret
      exact ⟨ret_str (by rw [app_list, app_list, str_data, HF.out, str_data]), hb⟩
  · have h6 : ¬ c < 32 := fun h => h5 (.inl h)
    have h7 : c ≠ 127 := fun h => h5 (.inr h)
    have h6' : decide ((c.toNat : Int) < 32) = false := by have : ¬ c.toNat < 32 := h6; simp; omega
    have h7' : ((c.toNat : Int) == 127) = false := by have := nat_ne h7; simp at this ⊢; omega
    have hf := form_plain h1 h2 h3 h4 h6 h7
    have HF := Lib.hid hf
    have HO := Lib.hid (one_list s k hk)
    clear h1 h2 h3 h4 h5 h6 h7 hf
    go_enter Tryd.func66, Tryd.ntmps66
    go_wp2
    go_ret
    exact ⟨ret_str (by rw [HO.out, HF.out, str_data, hc]), Below.refl _ _⟩

/-- The forms of a text: a closure over a new cell. -/
def FormsPost (w : World) (s : ByteArray) (e : Ending) (w' : World) : Prop :=
  e = .returned (.func (.func 66) #[] #[.pointer (some ⟨w.heap.size, 0, none⟩)]) ∧ w.alloc (.cells #[.string s] 9) = w'
theorem formsOf_any (s : ByteArray) (w : World) : Calls Tryd.prog 47 #[.string s] w (FormsPost w s) := by
  have hmf : ∀ (fn : Fn) (first cap : Array Value) (w : World), (Instr.makeFunc fn first cap).run Tryd.prog w = .ok (.func fn first cap) w := fun _ _ _ _ => rfl
  go_enter Tryd.func47, Tryd.ntmps47
  go_wp2
  go_ret
  exact ⟨rfl, rfl⟩
end Go.Proofs.YtlebcebihieiiaaDoor.E
