/-
  What the library's variables hold; escape.formsOf and its closure: what they answer. | escape.Length: what it answers. | The builder's copyCheck, WriteByte and WriteString, as this program has them: what they do. | escape.Escape: what it answers.
-/
import Derived.Test.YtjnhcoflmechmaaGreatDoorESpanM
import Derived.Test.YtjnhcoflmechmaaGreatDoorShelf
import Derived.Test.YtjnhcoflmechmaaGreatDoorVars
import Derived.WalkKit
import Derived.WalkLawsBesides
import Derived.WalkSpells
import Derived.WalkMore
import Derived.Outline
import Derived.Below
import Derived.Lib.Hide
import Derived.Lib.SmallJoins
import Derived.Lib.AppendIntMem
import Derived.BigQuiet
import Derived.Deep.QuietTactic
import Derived.Lib.Builder
import Derived.Lib.AppendStr
namespace Go.Proofs.YtjnhcoflmechmaaGreatDoor.E
open Go.RowKit
set_option linter.unusedVariables false

def str (l : List UInt8) : ByteArray := ⟨l.toArray⟩
theorem str_data (l : List UInt8) : (str l).data.toList = l := rfl
theorem str_size (l : List UInt8) : (str l).size = l.length := by show l.toArray.size = _; simp

def StrPost (w : World) (l : List UInt8) (e : Ending) (w' : World) : Prop := e = .returned (.string (str l)) ∧ Below w.heap.size w w'

theorem itoa_any (c : UInt8) (w : World) (hv : Vars w) : Calls Tryz.prog 112 #[.int .i64 (c.toNat : Int)] w (StrPost w (dg c.toNat)) := by
  have hc := c.toNat_lt
  have h := Tryz.strconv_Itoa (c.toNat : Int) (by omega) (by omega) w hv.1
  refine h.mono ?_
  rintro e w' ⟨rfl, k, os, rfl⟩
  refine ⟨?_, Lib.below_grow _ _ (Nat.le_refl _) _ _⟩
  rw [show Lib.itoa (c.toNat : Int) = dg c.toNat by unfold Lib.itoa; rw [if_neg (by omega), Int.toNat_natCast, dg_eq _ (by omega)]]
  rfl

theorem ret_str {a b : ByteArray} (h : a.data.toList = b.data.toList) : Ending.returned (.string a) = .returned (.string b) := by
  have : a = b := by
    cases a; cases b
    simpa using h
  rw [this]
theorem app_list (a b : ByteArray) : (a ++ b).data.toList = a.data.toList ++ b.data.toList := Joins.data_append a b
theorem dg_len (n : Nat) : (dg n).length ≤ 3 := by
  unfold dg
  split
  · simp
  · split <;> simp
theorem one_list (s : ByteArray) (k : Nat) (hk : k < s.size) : (s.extract k (k + 1)).data.toList = [s[k]] := by
  have hk' : k < s.data.size := hk
  rw [Lib.extract_data]
  apply List.ext_getElem?
  intro j
  rcases j with _ | j
  · simp
    exact Array.getElem?_eq_getElem hk'
  · simp
    omega

theorem form_num {c : UInt8} (h1 : c ≠ 38) (h2 : c ≠ 60) (h3 : c ≠ 62) (h4 : c ≠ 34) (h : c < 32 ∨ c = 127) : form c = [38, 35] ++ dg c.toNat ++ [59] := by unfold form; rw [if_neg h1, if_neg h2, if_neg h3, if_neg h4, if_pos h]
theorem form_plain {c : UInt8} (h1 : c ≠ 38) (h2 : c ≠ 60) (h3 : c ≠ 62) (h4 : c ≠ 34) (h5 : ¬ c < 32) (h6 : c ≠ 127) : form c = [c] := by unfold form; rw [if_neg h1, if_neg h2, if_neg h3, if_neg h4, if_neg (fun h => h.elim h5 h6)]
theorem nat_ne {c d : UInt8} (h : c ≠ d) : c.toNat ≠ d.toNat := fun e => h (UInt8.toNat_inj.1 e)

set_option maxHeartbeats 1000000 in
theorem form_any (s : ByteArray) (k F : Nat) (c : UInt8) (w : World) (hk : k < s.size) (hc : s[k] = c) (hs : s.size ≤ 1000000000) (hF : w.cell? ⟨F, 0, none⟩ = some (.string s)) (hv : Vars w) :
    Calls Tryz.prog 130 #[.int .i64 k, .pointer (some ⟨F, 0, none⟩)] w (StrPost w (form c)) := by
  have hcl := c.toNat_lt
  by_cases h1 : c = 38
  · subst h1
    go_enter Tryz.func130, Tryz.ntmps130
    go_wp2
    go_ret
    exact ⟨ret_str (by decide), Below.refl _ _⟩
  by_cases h2 : c = 60
  · subst h2
    go_enter Tryz.func130, Tryz.ntmps130
    go_wp2
    go_ret
    exact ⟨ret_str (by decide), Below.refl _ _⟩
  by_cases h3 : c = 62
  · subst h3
    go_enter Tryz.func130, Tryz.ntmps130
    go_wp2
    go_ret
    exact ⟨ret_str (by decide), Below.refl _ _⟩
  by_cases h4 : c = 34
  · subst h4
    go_enter Tryz.func130, Tryz.ntmps130
    go_wp2
    go_ret
    exact ⟨ret_str (by decide), Below.refl _ _⟩
  have g1 : ((c.toNat : Int) == 38) = false := by have := nat_ne h1; simp at this ⊢; omega
  have g2 : ((c.toNat : Int) == 60) = false := by have := nat_ne h2; simp at this ⊢; omega
  have g3 : ((c.toNat : Int) == 62) = false := by have := nat_ne h3; simp at this ⊢; omega
  have g4 : ((c.toNat : Int) == 34) = false := by have := nat_ne h4; simp at this ⊢; omega
  by_cases h5 : c < 32 ∨ c = 127
  · have hf := form_num h1 h2 h3 h4 h5
    have HF := Lib.hid hf; clear hf
    have hl := dg_len c.toNat
    have CI := Lib.hid (itoa_any c w hv)
    have hsz := str_size (dg c.toNat)
    have q1 : ¬ 9223372036854775807 < 2 + (str (dg c.toNat)).size := by omega
    have q2 : ¬ 9223372036854775807 < 2 + (str (dg c.toNat)).size + 1 := by omega
    clear hsz
    by_cases h6 : c < 32
    · have h6' : decide ((c.toNat : Int) < 32) = true := by have : c.toNat < 32 := h6; simp; omega
      clear h1 h2 h3 h4 h5 h6
      go_enter Tryz.func130, Tryz.ntmps130
      go_wp2_with (go_at_call 112; refine CI.out.mono ?_; rintro e w' ⟨rfl, hb⟩)
      go_ret
      exact ⟨ret_str (by rw [app_list, app_list, str_data, HF.out, str_data]), hb⟩
    · have h6' : decide ((c.toNat : Int) < 32) = false := by have : ¬ c.toNat < 32 := h6; simp; omega
      have h7 : ((c.toNat : Int) == 127) = true := by rw [h5.resolve_left h6]; rfl
      clear h1 h2 h3 h4 h5 h6
      go_enter Tryz.func130, Tryz.ntmps130
      go_wp2_with (go_at_call 112; refine CI.out.mono ?_; rintro e w' ⟨rfl, hb⟩)
      go_ret
      exact ⟨ret_str (by rw [app_list, app_list, str_data, HF.out, str_data]), hb⟩
  · have h6 : ¬ c < 32 := fun h => h5 (.inl h)
    have h7 : c ≠ 127 := fun h => h5 (.inr h)
    have h6' : decide ((c.toNat : Int) < 32) = false := by have : ¬ c.toNat < 32 := h6; simp; omega
    have h7' : ((c.toNat : Int) == 127) = false := by have := nat_ne h7; simp at this ⊢; omega
    have hf := form_plain h1 h2 h3 h4 h6 h7
    have HF := Lib.hid hf
    have HO := Lib.hid (one_list s k hk)
    clear h1 h2 h3 h4 h5 h6 h7 hf
    go_enter Tryz.func130, Tryz.ntmps130
    go_wp2
    go_ret
    exact ⟨ret_str (by rw [HO.out, HF.out, str_data, hc]), Below.refl _ _⟩

/-- The forms of a text: a closure over a new cell. -/
def FormsPost (w : World) (s : ByteArray) (e : Ending) (w' : World) : Prop :=
  e = .returned (.func (.func 130) #[] #[.pointer (some ⟨w.heap.size, 0, none⟩)]) ∧ w.alloc (.cells #[.string s] 9) = w'
theorem formsOf_any (s : ByteArray) (w : World) : Calls Tryz.prog 102 #[.string s] w (FormsPost w s) := by
  have hmf : ∀ (fn : Fn) (first cap : Array Value) (w : World), (Instr.makeFunc fn first cap).run Tryz.prog w = .ok (.func fn first cap) w := fun _ _ _ _ => rfl
  go_enter Tryz.func102, Tryz.ntmps102
  go_wp2
  go_ret
  exact ⟨rfl, rfl⟩
end Go.Proofs.YtjnhcoflmechmaaGreatDoor.E

namespace Go.Proofs.YtjnhcoflmechmaaGreatDoor.E
open Go.RowKit
set_option linter.unusedVariables false

theorem ret_int {k : IntKind} {a b : Int} (h : a = b) : Ending.returned (.int k a) = .returned (.int k b) := by rw [h]
theorem take_esc (s : ByteArray) (k : Nat) (hk : k < s.size) {c : UInt8} (hc : s[k] = c) : escL (s.data.toList.take (k + 1)) = escL (s.data.toList.take k) ++ form c := by
  have hk' : k < s.data.toList.length := by simpa using hk
  rw [List.take_succ_eq_append_getElem hk', escL_append]
  have : s.data.toList[k] = c := by rw [← hc]; simp; rfl
  rw [this]; simp [escL]
theorem take_len (s : ByteArray) (k : Nat) (hk : k ≤ s.size) : (s.data.toList.take k).length = k := by
  rw [List.length_take]
  have : s.data.toList.length = s.size := by simp
  omega

def LenRel (s : ByteArray) (w : World) (t i : Value) (wr : World) : Prop :=
  ∃ k : Nat, k ≤ s.size ∧ i = .int .i64 k ∧ t = .int .i64 ((escL (s.data.toList.take k)).length : Int) ∧ Below w.heap.size w wr

def IntPost (w : World) (n : Int) (e : Ending) (w' : World) : Prop := e = .returned (.int .i64 n) ∧ Below w.heap.size w w'

set_option maxHeartbeats 1000000 in
theorem length_any (s : ByteArray) (w : World) (hs : s.size ≤ 900000) (hv : Vars w) : Calls Tryz.prog 101 #[.string s] w (IntPost w (escL s.data.toList).length) := by
  have h4 := hv.2.2.2
  go_enter Tryz.func101, Tryz.ntmps101
  go_wp2_with fail
  refine (formsOf_any s w).mono ?_
  rintro e w1 ⟨rfl, hw1⟩
  have hF : w1.cell? ⟨w.heap.size, 0, none⟩ = some (.string s) := by rw [← hw1]; simp
  have hb1 : Below w.heap.size w w1 := by rw [← hw1]; exact (Below.refl _ _).alloc (Nat.le_refl _) _
  have hsz1 : w.heap.size < w1.heap.size := by rw [← hw1]; simp
  clear hw1
  have HF := Lib.hid hF; clear hF
  go_wp2
  go_loopw [3, 10] (LenRel s w1) (fun _ i _ => s.size - (intOf i).toNat)
  case atStart => exact ⟨0, by omega, rfl, by simp [escL], Below.refl _ _⟩
  case round =>
    obtain ⟨k, hk, rfl, rfl, hbel⟩ := hrel
    have hel := escL_length (s.data.toList.take k)
    rw [take_len s k hk] at hel
    by_cases hlt : k < s.size
    · obtain ⟨c, hc⟩ : ∃ c, s[k] = c := ⟨_, rfl⟩
      have ht := take_esc s k hlt hc
      have HT := Lib.hid ht; clear ht
      have hfp := form_pos c
      have hF := (hbel.cell (p := ⟨w.heap.size, 0, none⟩) hsz1).trans HF.out
      have hb2 := hb1.trans (hbel.mono hb1.size)
      have CF := Lib.hid (form_any s k w.heap.size c wr hlt hc (by omega) hF (hv.below h4 hb2))
      clear hc hF
      have hss := str_size (form c)
      have HSS := Lib.hid hss; clear hss
      have hfs : (str (form c)).size ≤ 6 := by rw [HSS.out]; exact hfp.2
      go_wp2_with fail
      refine CF.out.mono ?_
      rintro e w2 ⟨rfl, hb3⟩
      go_wp2
      refine ⟨⟨k + 1, by omega, by go_num, ?_, hbel.trans (hb3.mono hbel.size)⟩, by simp [intOf]; omega⟩
      rw [HT.out, List.length_append, HSS.out]; go_num
    · obtain rfl : k = s.size := by omega
      have he : s.data.toList.take s.size = s.data.toList := List.take_of_length_le (by simp)
      rw [he]
      go_wp2
      go_ret
      exact ⟨rfl, hb1.trans (hbel.mono hb1.size)⟩
end Go.Proofs.YtjnhcoflmechmaaGreatDoor.E

namespace Go.Proofs.YtjnhcoflmechmaaGreatDoor.E
open Go.RowKit
set_option linter.unusedVariables false

theorem info68 : (Tryz.prog.info? 68).map (fun i => i.size) = some 2 := by kernel_rfl
theorem info5 : (Tryz.prog.info? 5).map (fun i => (i.zero, i.size, i.bytes)) = some (some (.int .u8 0), 1, 1) := by kernel_rfl

/-- What is no builder and no row of bytes stands as it stood. -/
def Stands (b : Nat) (w w' : World) : Prop := ∀ F cs t fr, F ≠ b → t ≠ 5 → w.heap[F]? = some (.cells cs t fr) → w'.heap[F]? = some (.cells cs t fr)
theorem Stands.refl (b : Nat) (w : World) : Stands b w w := fun _ _ _ _ _ _ h => h
theorem Stands.trans {b : Nat} {w w1 w2 : World} (h : Stands b w w1) (k : Stands b w1 w2) : Stands b w w2 := fun F cs t fr h1 h2 h3 => k F cs t fr h1 h2 (h F cs t fr h1 h2 h3)
theorem stands_below {b : Nat} {w w' : World} (h : Below w.heap.size w w') : Stands b w w' := fun F cs t fr _ _ h3 => (h.block F (Array.getElem?_eq_some_iff.1 h3).1).trans h3
theorem stands_setCell (b o : Nat) (w : World) (u : Value) : Stands b w (w.setCell ⟨b, o, none⟩ u) := fun F cs t fr h1 _ h3 => (Below.heap_setCell w ⟨b, o, none⟩ u F h1).trans h3
theorem stands_grown {b : Nat} {w w' : World} {B : Nat} {v : Value} {n : Nat} {xs : List Value} (hown : w.ownsRow B 5 1 v n xs) (hg : w.grownBy w' v.ownBlock) : Stands b w w' := by
  intro F cs t fr _ h2 h3
  refine (hg.block F (Array.getElem?_eq_some_iff.1 h3).1 (fun e => ?_)).trans h3
  rcases hown.2 with ⟨rfl, _⟩ | ⟨g, cap, cur, rfl, _, hh, _⟩
  · simp [Value.ownBlock] at e
  · simp [Value.ownBlock] at e
    subst e
    rw [hh] at h3
    simp at h3
    exact h2 h3.2.1.symm

def Bd (w : World) (B b : Nat) (bs : List Value) : Prop := Lib.IsBuilder 68 5 B b bs w
def BdPost (B b : Nat) (bs : List Value) (v : Value) (w : World) (e : Ending) (w' : World) : Prop := e = .returned v ∧ Lib.BuilderAt 68 5 B b (.pointer (some ⟨b, 0, none⟩)) bs w' ∧ Below B w w' ∧ Stands b w w'

set_option maxRecDepth 100000 in
theorem copy_used (b : Nat) (w : World) (h0 : w.cell? ⟨b, 0, none⟩ = some (.pointer (some ⟨b, 0, none⟩))) :
    Calls Tryz.prog 111 #[.pointer (some ⟨b, 0, none⟩)] w fun e w' => e = .returned (.tuple #[]) ∧ w = w' := by
  obtain ⟨j, hj, _⟩ := Option.map_eq_some_iff.1 info68
  go_enter Tryz.func111, Tryz.ntmps111
  go_wp2
  rw [Lib.run_neq_ptr_same w _ Tryz.underlying66 hj]
  go_wp2
  go_end0
  exact ⟨rfl, rfl⟩
set_option maxRecDepth 100000 in
theorem copy_fresh (b : Nat) (w : World) (h0 : w.cell? ⟨b, 0, none⟩ = some (.pointer none)) (hsh : w.shape? b = some (68, 2)) (hfz : w.frozen? ⟨b, 0, none⟩ = false) :
    Calls Tryz.prog 111 #[.pointer (some ⟨b, 0, none⟩)] w fun e w' => e = .returned (.tuple #[]) ∧ w.setCell ⟨b, 0, none⟩ (.pointer (some ⟨b, 0, none⟩)) = w' := by
  obtain ⟨j, hj, hjs⟩ := Option.map_eq_some_iff.1 info68
  go_enter Tryz.func111, Tryz.ntmps111
  go_wp2
  rw [Lib.run_to_unsafe w ⟨b, 0, none⟩ Tryz.underlying66 Tryz.underlying173 hj (by rw [hjs]; decide) hsh (Nat.zero_lt_succ 1)]
  simp only [Result.andThen]
  rw [Oper.upon_value]
  go_wp2
  rw [run_callFunc_extern Tryz.func140 (by kernel_rfl) (by kernel_rfl) (by kernel_rfl) (e := Extern.AbiNoEscape.same) (by kernel_rfl)]
  rw [Lib.run_noEscape]
  simp only [Result.andThen]
  rw [Oper.upon_value]
  go_wp2
  rw [Lib.run_from_unsafe w ⟨b, 0, none⟩ Tryz.underlying173 Tryz.underlying66 hj hsh (by kernel_rfl)]
  simp only [Result.andThen]
  rw [Oper.upon_value]
  go_wp2
  go_end0
  exact ⟨rfl, rfl⟩
theorem copy_any (B b : Nat) (bs : List Value) (w : World) (h : Lib.IsBuilder 68 5 B b bs w) : Calls Tryz.prog 111 #[.pointer (some ⟨b, 0, none⟩)] w (BdPost B b bs (.tuple #[]) w) := by
  rcases h with h | h
  · refine (copy_fresh b w h.cell0 h.shape h.frozen0).mono ?_
    rintro e w' ⟨rfl, rfl⟩
    exact ⟨rfl, h.used _, (Below.refl B w).setCell (p := ⟨b, 0, none⟩) h.1 _, stands_setCell _ _ _ _⟩
  · refine (copy_used b w h.cell0).mono ?_
    rintro e w' ⟨rfl, rfl⟩
    exact ⟨rfl, h, Below.refl B _, Stands.refl _ _⟩

theorem bd_parts {B b : Nat} {bs : List Value} {w : World} (h : Lib.BuilderAt 68 5 B b (.pointer (some ⟨b, 0, none⟩)) bs w) :
    ∃ v, B ≤ b ∧ w.heap[b]? = some (.cells #[.pointer (some ⟨b, 0, none⟩), v] 68 (0, 0)) ∧ w.ownsRow B 5 1 v bs.length bs ∧ v.ownBlock ≠ some b ∧ w.cell? ⟨b, 1, none⟩ = some v := by
  obtain ⟨hB, v, hbk, hown, hne⟩ := h
  exact ⟨v, hB, hbk, hown, hne, by rw [Lib.cell_of_heap hbk]; rfl⟩

set_option maxHeartbeats 1000000 in
theorem writeByte_any (B b : Nat) (bs : List Value) (c : Int) (w : World) (h : Lib.IsBuilder 68 5 B b bs w) (hlen : bs.length + 1 ≤ 140737488355328) (hBw : B ≤ w.heap.size) :
    Calls Tryz.prog 74 #[.pointer (some ⟨b, 0, none⟩), .int .u8 c] w (BdPost B b (bs ++ [.int .u8 c]) .nilIface w) := by
  obtain ⟨i0, hi, hz0, hz1, hz2⟩ := info_parts info5
  go_enter Tryz.func74, Tryz.ntmps74
  go_wp2_with fail
  refine (copy_any B b bs w h).mono ?_
  rintro e w1 ⟨rfl, h1, hb1, hst1⟩
  obtain ⟨v, hB, hbk, hown, hne, c1⟩ := bd_parts h1
  have hlt : b < w1.heap.size := (Array.getElem?_eq_some_iff.1 hbk).1
  have hs1 := hb1.size
  go_wp2_with (at_builtin; refine wpList_append_own _ rfl _ _ 41 rfl B 5 i0 (.int .u8 0) 1 1 Tryz.underlying41 hi hz0 hz1 hz2 rfl (by decide) _ _ _ rfl (hown.alloc _) ⟨w1.heap.size, 0, none⟩ 1 1 [.int .u8 c] rfl rfl ?c1 ?c2 ?c3 ?c4 ?c5 ?_)
  case c1 =>
    intro j u hj
    match j, hj with
    | 0, hj => simp at hj; subst hj; simp [Addr.add]
  case c2 => intro u hu; simp at hu; subst hu; rfl
  case c3 => unfold maxLen; omega
  case c4 => omega
  case c5 => simp; omega
  intro v' w2 hown' hgrow _
  have hb2 : w2.heap[b]? = some (.cells #[.pointer (some ⟨b, 0, none⟩), v] 68 (0, 0)) := by
    rw [hgrow.block b (by simp; omega) (fun e => hne e.symm), Lib.alloc_old w1 _ b hlt]
    exact hbk
  have d1 : w2.cell? ⟨b, 1, none⟩ = some v := by rw [Lib.cell_of_heap hb2]; rfl
  have f1 : w2.frozen? ⟨b, 1, none⟩ = false := Lib.frozen_of_heap hb2 1
  obtain ⟨ao, n', cap, rfl⟩ : ∃ ao n' cap, v' = .slice ao n' cap := by
    rcases hown'.2 with ⟨hv, _⟩ | ⟨g, cap, cur, hv, _⟩
    · exact ⟨_, _, _, hv⟩
    · exact ⟨_, _, _, hv⟩
  go_wp2
  go_ret
  refine ⟨rfl, ?_, ?_, ?_⟩
  · exact Lib.BuilderAt.put (T := 68) (e := 5) hB hb2 (bs' := bs ++ [.int .u8 c]) (by simpa using hown') (by decide)
  · exact ((hb1.alloc (by omega) _).grown hgrow (by simp; omega) (fun k hk => (hown.lt k hk).1)).setCell (p := ⟨b, 1, none⟩) hB _
  · exact ((hst1.trans (stands_below ((Below.refl _ _).alloc (Nat.le_refl _) _))).trans (stands_grown (hown.alloc _) hgrow)).trans (stands_setCell _ _ _ _)

set_option maxHeartbeats 1000000 in
theorem writeString_any (B b : Nat) (bs : List Value) (s : ByteArray) (w : World) (h : Lib.IsBuilder 68 5 B b bs w) (hlen : bs.length + s.size ≤ 140737488355328) (hBw : B ≤ w.heap.size) :
    Calls Tryz.prog 71 #[.pointer (some ⟨b, 0, none⟩), .string s] w (BdPost B b (bs ++ Lib.strCells s) (.tuple #[.int .i64 s.size, .nilIface]) w) := by
  obtain ⟨i0, hi, hz0, hz1, hz2⟩ := info_parts info5
  go_enter Tryz.func71, Tryz.ntmps71
  go_wp2_with fail
  refine (copy_any B b bs w h).mono ?_
  rintro e w1 ⟨rfl, h1, hb1, hst1⟩
  obtain ⟨v, hB, hbk, hown, hne, c1⟩ := bd_parts h1
  have hlt : b < w1.heap.size := (Array.getElem?_eq_some_iff.1 hbk).1
  have hs1 := hb1.size
  go_wp2_with (at_builtin; refine Lib.wpList_append_own_string _ rfl _ _ 41 9 rfl B 5 i0 Tryz.underlying41 Tryz.underlying9 hi hz0 hz1 hz2 _ _ _ rfl hown s rfl ?c3 ?c4 ?c5 ?_)
  case c3 => unfold maxLen; omega
  case c4 => omega
  case c5 => omega
  intro v' w2 hown' hgrow _
  have hb2 : w2.heap[b]? = some (.cells #[.pointer (some ⟨b, 0, none⟩), v] 68 (0, 0)) := by
    rw [hgrow.block b hlt (fun e => hne e.symm)]
    exact hbk
  have d1 : w2.cell? ⟨b, 1, none⟩ = some v := by rw [Lib.cell_of_heap hb2]; rfl
  have f1 : w2.frozen? ⟨b, 1, none⟩ = false := Lib.frozen_of_heap hb2 1
  obtain ⟨ao, n', cap, rfl⟩ : ∃ ao n' cap, v' = .slice ao n' cap := by
    rcases hown'.2 with ⟨hv, _⟩ | ⟨g, cap, cur, hv, _⟩
    · exact ⟨_, _, _, hv⟩
    · exact ⟨_, _, _, hv⟩
  go_wp2
  go_ret2
  refine ⟨rfl, ?_, ?_, ?_⟩
  · exact Lib.BuilderAt.put (T := 68) (e := 5) hB hb2 (bs' := bs ++ Lib.strCells s) (by simpa [Lib.strCells_length] using hown') (by decide)
  · exact (hb1.grown hgrow (by omega) (fun k hk => (hown.lt k hk).1)).setCell (p := ⟨b, 1, none⟩) hB _
  · exact (hst1.trans (stands_grown hown hgrow)).trans (stands_setCell _ _ _ _)
end Go.Proofs.YtjnhcoflmechmaaGreatDoor.E

namespace Go.Proofs.YtjnhcoflmechmaaGreatDoor.E
open Go.RowKit
set_option linter.unusedVariables false

theorem at_below {B b : Nat} {p : Value} {bs : List Value} {w w' : World} (h : Lib.BuilderAt 68 5 B b p bs w) (hb : Below w.heap.size w w') : Lib.BuilderAt 68 5 B b p bs w' := by
  obtain ⟨hB, v, hbk, hown, hne⟩ := h
  refine ⟨hB, v, (hb.block b (Array.getElem?_eq_some_iff.1 hbk).1).trans hbk, ⟨hown.1, ?_⟩, hne⟩
  rcases hown.2 with hn | ⟨g, cap, cur, rfl, hg, hh, r⟩
  · exact .inl hn
  · exact .inr ⟨g, cap, cur, rfl, hg, (hb.block g (Array.getElem?_eq_some_iff.1 hh).1).trans hh, r⟩
theorem heap_below {w w' : World} {F : Nat} {o : Obj} (h : w.heap[F]? = some o) (hb : Below w.heap.size w w') : w'.heap[F]? = some o := (hb.block F (Array.getElem?_eq_some_iff.1 h).1).trans h

def EscRel (s : ByteArray) (w : World) (F : Nat) (i : Value) (wr : World) : Prop :=
  ∃ k : Nat, k ≤ s.size ∧ i = .int .i64 k ∧ Lib.BuilderAt 68 5 w.heap.size w.heap.size (.pointer (some ⟨w.heap.size, 0, none⟩)) (Lib.byteCells (escL (s.data.toList.take k))) wr ∧ wr.heap[F]? = some (.cells #[.string s] 9 (0, 0)) ∧ Below w.heap.size w wr

set_option maxHeartbeats 2000000 in
theorem escape_any (s : ByteArray) (w : World) (hs : s.size ≤ 900000) (hv : Vars w) : Calls Tryz.prog 60 #[.string s] w (StrPost w (escL s.data.toList)) := by
  have h4 := hv.2.2.2
  have hel := escL_length s.data.toList
  rw [show s.data.toList.length = s.size by simp] at hel
  go_enter Tryz.func60, Tryz.ntmps60
  go_wp2_with fail
  obtain ⟨w1, hw1⟩ : ∃ w1, w1 = w.alloc (.cells #[.pointer none, .slice none 0 0] 68) := ⟨_, rfl⟩
  rw [← hw1]
  have hbk1 : w1.heap[w.heap.size]? = some (.cells #[.pointer none, .slice none 0 0] 68 (0, 0)) := by rw [hw1]; exact heap_alloc_new w _
  have hb1 : Below w.heap.size w w1 := by rw [hw1]; exact (Below.refl _ _).alloc (Nat.le_refl _) _
  clear hw1
  refine (length_any s w1 hs (hv.below h4 hb1)).mono ?_
  rintro e w2 ⟨rfl, hb2⟩
  have hb12 := hb1.trans (hb2.mono hb1.size)
  go_wp2_with fail
  refine (Tryz.Builder_Grow_fresh w.heap.size w.heap.size (escL s.data.toList).length w2 (Nat.le_refl _) (heap_below hbk1 hb2) hb12.size (by omega)).mono ?_
  rintro e w3 ⟨rfl, hat3, hb3⟩
  have hb13 := hb12.trans hb3
  go_wp2_with fail
  refine (formsOf_any s w3).mono ?_
  rintro e w4 ⟨rfl, hw4⟩
  have hF4 : w4.heap[w3.heap.size]? = some (.cells #[.string s] 9 (0, 0)) := by rw [← hw4]; exact heap_alloc_new w3 _
  have hb4 : Below w3.heap.size w3 w4 := by rw [← hw4]; exact (Below.refl _ _).alloc (Nat.le_refl _) _
  have hFb : w3.heap.size ≠ w.heap.size := by
    have := hat3.lt
    omega
  have hat4 := at_below hat3 hb4
  have hb14 := hb13.trans (hb4.mono hb13.size)
  clear hw4 hat3 hb4 hb3 hb12 hb2 hbk1
  go_wp2
  go_loopw [13] (EscRel s w w3.heap.size) (fun i _ => s.size - (intOf i).toNat)
  case atStart => exact ⟨0, by omega, rfl, by simpa [escL, Lib.byteCells] using hat4, hF4, hb14⟩
  case round =>
    obtain ⟨k, hk, rfl, hat, hF, hbel⟩ := hrel
    clear hat4 hF4 hb14
    have hel2 := escL_length (s.data.toList.take k)
    rw [take_len s k hk] at hel2
    have hbl := Lib.byteCells_length (escL (s.data.toList.take k))
    have hbl' : (Lib.byteCells (escL (s.data.toList.take k))).length ≤ 5400000 := by omega
    clear hbl
    by_cases hlt : k < s.size
    · obtain ⟨c, hc⟩ : ∃ c, s[k] = c := ⟨_, rfl⟩
      have HT := Lib.hid (take_esc s k hlt hc)
      have hfp := form_pos c
      have CF := Lib.hid (form_any s k w3.heap.size c wr hlt hc (by omega) (by rw [Lib.cell_of_heap hF]; rfl) (hv.below h4 hbel))
      have HSS := Lib.hid (str_size (form c))
      have hfs : (str (form c)).size ≤ 6 := by rw [HSS.out]; exact hfp.2
      clear hc
      have HAT := Lib.hid hat; clear hat
      go_wp2_with fail
      refine CF.out.mono ?_
      rintro e w5 ⟨rfl, hb5⟩
      go_wp2_with fail
      refine (writeString_any w.heap.size w.heap.size _ (str (form c)) w5 (.inr (at_below HAT.out hb5)) (by omega) (Nat.le_trans hbel.size hb5.size)).mono ?_
      rintro e w6 ⟨rfl, hat6, hb6, hst6⟩
      go_wp2
      refine ⟨⟨k + 1, by omega, by go_num, ?_, hst6 _ _ _ _ hFb (by decide) (heap_below hF hb5), (hbel.trans (hb5.mono hbel.size)).trans hb6⟩, by simp [intOf]; omega⟩
      rw [HT.out, Lib.byteCells_append]
      exact hat6
    · obtain rfl : k = s.size := by omega
      have he : s.data.toList.take s.size = s.data.toList := List.take_of_length_le (by simp)
      rw [he] at hat
      clear hel2 he hbl'
      go_wp2_with fail
      refine (Tryz.Builder_String_any w.heap.size w.heap.size (escL s.data.toList) wr (.inr hat) hbel.size).mono ?_
      rintro e w7 ⟨rfl, hb7⟩
      go_wp2
      go_ret
      exact ⟨rfl, hbel.trans hb7⟩
end Go.Proofs.YtjnhcoflmechmaaGreatDoor.E
