/-
  markup's parser: its small steps.
-/
import Derived.Test.YtjnhcoflmechmaaGreatDoorMBack
import Derived.Test.YtjnhcoflmechmaaGreatDoorDName
namespace Go.Proofs.YtjnhcoflmechmaaGreatDoor.M
open Go.RowKit Go.Sort
set_option linter.unusedVariables false
set_option maxRecDepth 100000
/-- The parser at P: its text, where it is, how many nodes below the root have begun. -/
def P3 (W : World) (P : Nat) (s : ByteArray) (a b : Nat) : Prop := W.heap[P]? = some (.cells #[.string s, .int .i64 a, .int .i64 b] 113 (0, 0))
section
variable {W : World} {P : Nat} {s : ByteArray} {a b : Nat}
theorem P3.lt (h : P3 W P s a b) : P < W.heap.size := (Array.getElem?_eq_some_iff.1 h).1
theorem P3.cells (h : P3 W P s a b) : W.cell? ⟨P, 0, none⟩ = some (.string s) ∧ W.cell? ⟨P, 1, none⟩ = some (.int .i64 a) ∧ W.cell? ⟨P, 2, none⟩ = some (.int .i64 b) := by
  have e : ∀ j, W.cell? ⟨P, j, none⟩ = (#[Value.string s, .int .i64 a, .int .i64 b] : Array Value)[j]? := fun j => cell_of_row _ _ _ _ _ (0, 0) h
  exact ⟨by rw [e]; rfl, by rw [e]; rfl, by rw [e]; rfl⟩
theorem P3.frozen (h : P3 W P s a b) (j : Nat) : W.frozen? ⟨P, j, none⟩ = false := by
  simp [World.frozen?, show W.heap[P]? = _ from h]
theorem P3.kept {W' : World} (h : P3 W P s a b) {S : Nat → Prop} (hk : Kept S W W') (hs : ¬ S P) : P3 W' P s a b := (hk.block P h.lt hs).trans h
theorem P3.below {W' : World} {B : Nat} (h : P3 W P s a b) (hb : Below B W W') (hlt : P < B) : P3 W' P s a b := (hb.block P hlt).trans h
theorem P3.set1 (h : P3 W P s a b) (u : Nat) : P3 (W.setCell ⟨P, 1, none⟩ (.int .i64 u)) P s u b := by
  have hh : W.heap[P]? = _ := h
  unfold P3
  simp only [World.setCell, Array.getElem?_modify, if_true, hh, Option.map_some]
  rfl
theorem P3.set2 (h : P3 W P s a b) (u : Nat) : P3 (W.setCell ⟨P, 2, none⟩ (.int .i64 u)) P s a u := by
  have hh : W.heap[P]? = _ := h
  unfold P3
  simp only [World.setCell, Array.getElem?_modify, if_true, hh, Option.map_some]
  rfl
end
/-- The panic that tells of a syntax error at an index. -/
def PanE (a : Nat) : Ending := .panicked [{ v := .iface 76 (.int .i64 a), recovered := false }]
theorem mfail_any (P : Nat) (s : ByteArray) (a b : Nat) (w : World) (h : P3 w P s a b) : Calls Tryz.prog 65 #[.pointer (some ⟨P, 0, none⟩)] w fun e w' => e = PanE a ∧ w = w' := by
  obtain ⟨a0, a1, a2⟩ := h.cells
  clear h
  go_enter Tryz.func65, Tryz.ntmps65
  go_wp2_with fail
  exact ⟨rfl, rfl, rfl⟩
def isP (p : ByteArray) (l : Bytes) : Bool := p.data.toList.isPrefixOf l
set_option maxHeartbeats 4000000 in
theorem begins_any (P : Nat) (s p : ByteArray) (a b : Nat) (w : World) (h : P3 w P s a b) (ha : a ≤ s.size) (hs : s.size ≤ 1000000000) : Calls Tryz.prog 137 #[.pointer (some ⟨P, 0, none⟩), .string p] w fun e w' => e = .returned (.bool (isP p (restL s a))) ∧ ∃ q, w' = w.drewN q := by
  obtain ⟨t, ht⟩ : ∃ t, t = s.extract a s.size := ⟨_, rfl⟩
  have htl : t.data.toList = restL s a := by rw [ht]; exact ext_rest s a
  have CT := Lib.hid (show ∀ n, Calls Tryz.prog 159 #[.string t, .string p] (w.drewN n) fun e w' => e = .returned (.bool (isP p (restL s a))) ∧ w' = w.drewN n from fun n => by
    have := Tryz.strings_HasPrefix t p (w.drewN n)
    rw [htl] at this
    exact this)
  obtain ⟨a0, a1, a2⟩ := h.cells
  have hai : (a : Int) ≤ (s.size : Int) := by omega
  have ha0 : (0 : Int) ≤ (a : Int) := by omega
  have hts' : s.extract a s.size = t := ht.symm
  obtain ⟨r, hr⟩ : ∃ r, r = isP p (restL s a) := ⟨_, rfl⟩
  rw [← hr] at CT ⊢
  clear ht htl hr h
  go_enter Tryz.func137, Tryz.ntmps137
  go_wp2_with fail
  go_quiet ((go_at_call 159; exact Calls.quiet_of_same (CT.out _)))
  go_wp2_with fail
  go_ret
  exact ⟨rfl, _, rfl⟩
theorem kept_drew (w : World) (n : Nat) (S : Nat → Prop) : Kept S w (w.drewN n) := kept_below (below_drewN _ _ _) _
theorem isP_pre {p : ByteArray} {l : Bytes} (h : isP p l = true) : preP p.data.toList l = .ok () (l.drop p.data.toList.length) := by unfold preP; exact if_pos h
theorem isP_no {p : ByteArray} {l : Bytes} (h : isP p l = false) : preP p.data.toList l = .bad l.length 2 := preP_no h
theorem isP_len {s p : ByteArray} {a : Nat} (h : isP p (restL s a) = true) (ha : a ≤ s.size) : a + p.size ≤ s.size := by
  have := (List.isPrefixOf_iff_prefix.1 h).length_le
  rw [restL_len, size_list] at this
  omega
set_option maxHeartbeats 4000000 in
theorem mtake_any (P : Nat) (s p : ByteArray) (a b : Nat) (w : World) (h : P3 w P s a b) (ha : a ≤ s.size) (hs : s.size ≤ 1000000000) : Calls Tryz.prog 133 #[.pointer (some ⟨P, 0, none⟩), .string p] w fun e w' => e = .returned (.bool (isP p (restL s a))) ∧ P3 w' P s (if isP p (restL s a) then a + p.size else a) b ∧ Kept (· = P) w w' := by
  have CB := Lib.hid (begins_any P s p a b w h ha hs)
  have hlen := @isP_len s p a
  obtain ⟨r, hr⟩ : ∃ r, r = isP p (restL s a) := ⟨_, rfl⟩
  rw [← hr] at CB hlen ⊢
  have HP := Lib.hid h
  have HL := Lib.hid hlen
  clear hr h hlen
  go_enter Tryz.func133, Tryz.ntmps133
  go_wp2_with fail
  refine CB.out.mono ?_
  rintro e w1 ⟨rfl, q, hq⟩
  have hk1 : Kept (· = P) w w1 := by rw [hq]; exact kept_drew _ _ _
  have hp1 := HP.out.kept (show Kept (fun _ => False) w w1 by rw [hq]; exact kept_drew _ _ _) (fun h => h)
  have HK1 := Lib.hid hk1; have HP1 := Lib.hid hp1
  clear hq hk1 CB HP
  cases r with
  | true =>
    have hl := HL.out rfl ha
    obtain ⟨a0, a1, a2⟩ := hp1.cells
    have f1 := hp1.frozen 1
    have hwr : IntKind.i64.wrap ((a : Int) + (p.size : Int)) = (a : Int) + (p.size : Int) := by rw [IntKind.wrap_i64]; omega
    clear hp1
    go_wp2_with fail
    go_ret
    refine ⟨rfl, ?_, HK1.out.trans (kept_setCell _ ⟨P, 1, none⟩ _)⟩
    have := HP1.out.set1 (a + p.size)
    rw [show ((a + p.size : Nat) : Int) = (a : Int) + (p.size : Int) by omega] at this
    exact this
  | false =>
    clear hp1
    go_wp2_with fail
    go_ret
    exact ⟨rfl, HP1.out, HK1.out⟩
/-- What a step of the parser says: the value and where the parser is then, or the panic. -/
def MStep {α : Type} (P : Nat) (s : ByteArray) (b : Nat) (val : α → Value) (R : Rd α) (w : World) (e : Ending) (w' : World) : Prop :=
  (match R with
    | .ok x l => e = .returned (val x) ∧ l.length ≤ s.size ∧ restL s (s.size - l.length) = l ∧ P3 w' P s (s.size - l.length) b
    | .bad n _ => e = PanE (s.size - n) ∧ n ≤ s.size) ∧ Kept (· = P) w w'
abbrev unitV : Unit → Value := fun _ => .tuple #[]
theorem mok {α : Type} {P : Nat} {s : ByteArray} {a b : Nat} {val : α → Value} {R : Rd α} {x : α} {w w' : World} (hR : R = .ok x (restL s a)) (ha : a ≤ s.size) (hp : P3 w' P s a b) (hk : Kept (· = P) w w') : MStep P s b val R w (.returned (val x)) w' := by
  subst hR
  have e : s.size - (restL s a).length = a := by rw [restL_len]; omega
  exact ⟨⟨rfl, by rw [restL_len]; omega, by rw [e], by rw [e]; exact hp⟩, hk⟩
theorem mbad {α : Type} {P : Nat} {s : ByteArray} {a b n : Nat} {er : Int} {val : α → Value} {R : Rd α} {w w' : World} (hR : R = .bad n er) (hn : n ≤ s.size) (ha : a = s.size - n) (hk : Kept (· = P) w w') : MStep P s b val R w (PanE a) w' := by
  subst hR; subst ha
  exact ⟨⟨rfl, hn⟩, hk⟩
set_option maxHeartbeats 4000000 in
theorem mneed_any (P : Nat) (s p : ByteArray) (a b : Nat) (w : World) (h : P3 w P s a b) (ha : a ≤ s.size) (hs : s.size ≤ 1000000000) : Calls Tryz.prog 131 #[.pointer (some ⟨P, 0, none⟩), .string p] w (MStep P s b unitV (preP p.data.toList (restL s a)) w) := by
  have CT := mtake_any P s p a b w h ha hs
  obtain ⟨R, hR⟩ : ∃ R, R = preP p.data.toList (restL s a) := ⟨_, rfl⟩
  rw [← hR]
  obtain ⟨r, hr⟩ : ∃ r, r = isP p (restL s a) := ⟨_, rfl⟩
  rw [← hr] at CT
  have HC := Lib.hid CT; have HR := Lib.hid hr; have HRR := Lib.hid hR
  clear CT h hr hR
  go_enter Tryz.func131, Tryz.ntmps131
  go_wp2_with fail
  refine HC.out.mono ?_
  rintro e w1 ⟨rfl, hp1, hk1⟩
  have HK1 := Lib.hid hk1
  clear hk1 HC
  cases r with
  | true =>
    have e1 := isP_pre HR.out.symm
    rw [size_list, restL_drop] at e1
    have HF := Lib.hid (show MStep P s b unitV R w (.returned (.tuple #[])) w1 from mok (x := ()) (HRR.out.trans e1) (isP_len HR.out.symm ha) hp1 HK1.out)
    clear hp1
    go_wp2_with fail
    go_end0
    exact HF.out
  | false =>
    have hp1' : P3 w1 P s a b := hp1
    have CF := Lib.hid (mfail_any P s a b w1 hp1')
    have HF := Lib.hid (show MStep P s b unitV R w (PanE a) w1 from mbad (HRR.out.trans (isP_no HR.out.symm)) (by rw [restL_len]; omega) (by rw [restL_len]; omega) HK1.out)
    clear hp1 hp1'
    go_wp2_with fail
    refine CF.out.mono ?_
    rintro e w2 ⟨rfl, rfl⟩
    exact ⟨rfl, HF.out⟩
set_option maxHeartbeats 4000000 in
theorem matKid_any (P : Nat) (s : ByteArray) (a b : Nat) (w : World) (h : P3 w P s a b) (ha : a ≤ s.size) (hs : s.size ≤ 1000000000) : Calls Tryz.prog 106 #[.pointer (some ⟨P, 0, none⟩)] w fun e w' => e = .returned (.bool (kidC (restL s a))) ∧ P3 w' P s a b ∧ Kept (· = P) w w' := by
  have C1 := Lib.hid (begins_any P s ⟨#[60]⟩ a b w h ha hs)
  obtain ⟨r1, hr1⟩ : ∃ r, r = isP ⟨#[60]⟩ (restL s a) := ⟨_, rfl⟩
  obtain ⟨r2, hr2⟩ : ∃ r, r = isP ⟨#[60, 47]⟩ (restL s a) := ⟨_, rfl⟩
  rw [← hr1] at C1
  have HE := Lib.hid (show kidC (restL s a) = (r1 && !r2) by rw [hr1, hr2]; rfl)
  have C2 := Lib.hid (show ∀ W, P3 W P s a b → Calls Tryz.prog 137 #[.pointer (some ⟨P, 0, none⟩), .string ⟨#[60, 47]⟩] W fun e w' => e = .returned (.bool r2) ∧ ∃ q, w' = W.drewN q from fun W hW => by rw [hr2]; exact begins_any P s ⟨#[60, 47]⟩ a b W hW ha hs)
  have HP := Lib.hid h
  generalize kidC (restL s a) = k at HE ⊢
  clear hr1 hr2 h
  go_enter Tryz.func106, Tryz.ntmps106
  go_wp2_with fail
  refine C1.out.mono ?_
  rintro e w1 ⟨rfl, q, hq⟩
  have hk1 : Kept (· = P) w w1 := by rw [hq]; exact kept_drew _ _ _
  have hp1 := HP.out.kept (show Kept (fun _ => False) w w1 by rw [hq]; exact kept_drew _ _ _) (fun h => h)
  have HK1 := Lib.hid hk1; have HP1 := Lib.hid hp1
  clear hq hk1 hp1 C1 HP
  cases r1 with
  | true =>
    go_wp2_with fail
    refine (C2.out _ HP1.out).mono ?_
    rintro e w2 ⟨rfl, q, hq⟩
    have hk2 : Kept (· = P) w1 w2 := by rw [hq]; exact kept_drew _ _ _
    have hp2 := HP1.out.kept (show Kept (fun _ => False) w1 w2 by rw [hq]; exact kept_drew _ _ _) (fun h => h)
    have HK2 := Lib.hid (HK1.out.trans hk2); have HP2 := Lib.hid hp2
    clear hq hk2 hp2 C2
    cases r2
    all_goals
      go_wp2_with fail
      go_ret
      exact ⟨by rw [HE.out]; rfl, HP2.out, HK2.out⟩
  | false =>
    go_wp2_with fail
    go_ret
    exact ⟨by rw [HE.out]; rfl, HP1.out, HK1.out⟩
end Go.Proofs.YtjnhcoflmechmaaGreatDoor.M
