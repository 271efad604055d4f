/-
  The reference parser of markup: its steps. | The reference parser of markup: its words and texts.
-/
import Derived.Test.YtjnhcoflmechmaaGreatDoorMEsc
import Derived.Test.YtjnhcoflmechmaaGreatDoorESpanR
import Derived.BigQuiet
namespace Go.Proofs.YtjnhcoflmechmaaGreatDoor.M
open Go.RowKit Go.Sort
set_option linter.unusedVariables false
set_option maxRecDepth 100000
/-- The reference parser at P: its text, where it is, whether it stopped, and where. -/
def R4 (W : World) (P : Nat) (s : ByteArray) (a : Nat) (bad : Bool) (st : Nat) : Prop := W.heap[P]? = some (.cells #[.string s, .int .i64 a, .bool bad, .int .i64 st] 83 (0, 0))
section
variable {W : World} {P : Nat} {s : ByteArray} {a st : Nat} {bad : Bool}
theorem R4.lt (h : R4 W P s a bad st) : P < W.heap.size := (Array.getElem?_eq_some_iff.1 h).1
theorem R4.cells (h : R4 W P s a bad st) : W.cell? ⟨P, 0, none⟩ = some (.string s) ∧ W.cell? ⟨P, 1, none⟩ = some (.int .i64 a) ∧ W.cell? ⟨P, 2, none⟩ = some (.bool bad) ∧ W.cell? ⟨P, 3, none⟩ = some (.int .i64 st) := by
  have e : ∀ j, W.cell? ⟨P, j, none⟩ = (#[Value.string s, .int .i64 a, .bool bad, .int .i64 st] : Array Value)[j]? := fun j => cell_of_row _ _ _ _ _ (0, 0) h
  exact ⟨by rw [e]; rfl, by rw [e]; rfl, by rw [e]; rfl, by rw [e]; rfl⟩
theorem R4.frozen (h : R4 W P s a bad st) (j : Nat) : W.frozen? ⟨P, j, none⟩ = false := by
  simp [World.frozen?, show W.heap[P]? = _ from h]
theorem R4.kept {W' : World} (h : R4 W P s a bad st) {S : Nat → Prop} (hk : Kept S W W') (hs : ¬ S P) : R4 W' P s a bad st := (hk.block P h.lt hs).trans h
theorem R4.below {W' : World} {B : Nat} (h : R4 W P s a bad st) (hb : Below B W W') (hlt : P < B) : R4 W' P s a bad st := (hb.block P hlt).trans h
theorem R4.set1 (h : R4 W P s a bad st) (u : Nat) : R4 (W.setCell ⟨P, 1, none⟩ (.int .i64 u)) P s u bad st := by
  have hh : W.heap[P]? = _ := h
  unfold R4
  simp only [World.setCell, Array.getElem?_modify, if_true, hh, Option.map_some]
  rfl
theorem R4.set23 (h : R4 W P s a bad st) (b : Bool) (u : Nat) : R4 ((W.setCell ⟨P, 2, none⟩ (.bool b)).setCell ⟨P, 3, none⟩ (.int .i64 u)) P s a b u := by
  have hh : W.heap[P]? = _ := h
  unfold R4
  simp only [World.setCell, Array.getElem?_modify, if_true, hh, Option.map_some]
  rfl
end
theorem qfail_new (P : Nat) (s : ByteArray) (a st p : Nat) (w : World) (h : R4 w P s a false st) : Calls Tryz.prog 43 #[.pointer (some ⟨P, 0, none⟩), .int .i64 p] w fun e w' => e = .returned (.tuple #[]) ∧ R4 w' P s a true p ∧ Kept (· = P) w w' := by
  obtain ⟨a0, a1, a2, a3⟩ := h.cells
  have f2 := h.frozen 2; have f3 := h.frozen 3
  have HP := Lib.hid (h.set23 true p)
  have HK := Lib.hid (show Kept (· = P) w ((w.setCell ⟨P, 2, none⟩ (.bool true)).setCell ⟨P, 3, none⟩ (.int .i64 p)) from (kept_setCell w ⟨P, 2, none⟩ _).trans (kept_setCell _ ⟨P, 3, none⟩ _))
  clear h
  go_enter Tryz.func43, Tryz.ntmps43
  go_wp2_with fail
  go_end0
  exact ⟨rfl, HP.out, HK.out⟩
theorem qfail_old (P : Nat) (s : ByteArray) (a st p : Nat) (w : World) (h : R4 w P s a true st) : Calls Tryz.prog 43 #[.pointer (some ⟨P, 0, none⟩), .int .i64 p] w fun e w' => e = .returned (.tuple #[]) ∧ w = w' := by
  obtain ⟨a0, a1, a2, a3⟩ := h.cells
  clear h
  go_enter Tryz.func43, Tryz.ntmps43
  go_wp2_with fail
  go_end0
  exact ⟨rfl, rfl⟩
theorem isP_ext {s p : ByteArray} {a : Nat} : isP p (restL s a) = ((s.extract a (a + p.size)).toList == p.toList) := by
  rw [Lib.toList_data, Lib.toList_data, ext_mid, Bool.eq_iff_iff, beq_iff_eq]
  unfold isP
  rw [List.isPrefixOf_iff_prefix, List.prefix_iff_eq_take, size_list]
  exact eq_comm
theorem isP_short {s p : ByteArray} {a : Nat} (ha : a ≤ s.size) (h : ¬ a + p.size ≤ s.size) : isP p (restL s a) = false := by
  cases hp : isP p (restL s a) with
  | false => rfl
  | true => exact absurd (isP_len hp ha) h
set_option maxHeartbeats 4000000 in
theorem qnext_old (P : Nat) (s p : ByteArray) (a st : Nat) (w : World) (h : R4 w P s a true st) : Calls Tryz.prog 68 #[.pointer (some ⟨P, 0, none⟩), .string p] w fun e w' => e = .returned (.bool false) ∧ ∃ q, w' = w.drewN q := by
  obtain ⟨a0, a1, a2, a3⟩ := h.cells
  clear h
  go_enter Tryz.func68, Tryz.ntmps68
  go_wp2_with fail
  go_quiet (fail)
  go_wp2_with fail
  go_ret
  exact ⟨rfl, _, rfl⟩
set_option maxHeartbeats 4000000 in
theorem qnext_new (P : Nat) (s p : ByteArray) (a st : Nat) (w : World) (h : R4 w P s a false st) (ha : a ≤ s.size) (hs : s.size ≤ 1000000000) : Calls Tryz.prog 68 #[.pointer (some ⟨P, 0, none⟩), .string p] w fun e w' => e = .returned (.bool (isP p (restL s a))) ∧ ∃ q, w' = w.drewN q := by
  obtain ⟨a0, a1, a2, a3⟩ := h.cells
  have hsub : IntKind.i64.wrap ((s.size : Int) - (a : Int)) = (s.size : Int) - (a : Int) := by rw [IntKind.wrap_i64]; omega
  by_cases hl : a + p.size ≤ s.size
  · have hd : decide ((s.size : Int) - (a : Int) ≥ (p.size : Int)) = true := by simp; omega
    have hd2 : (p.size : Int) ≤ (s.size : Int) - (a : Int) := by omega
    have hadd : IntKind.i64.wrap ((a : Int) + (p.size : Int)) = (a : Int) + (p.size : Int) := by rw [IntKind.wrap_i64]; omega
    have h1 : (a : Int) ≤ (a : Int) + (p.size : Int) := by omega
    have h2 : (a : Int) + (p.size : Int) ≤ (s.size : Int) := by omega
    have h0 : (0 : Int) ≤ (a : Int) := by omega
    have htn : ((a : Int) + (p.size : Int)).toNat = a + p.size := by omega
    obtain ⟨t, ht⟩ : ∃ t, t = s.extract a (a + p.size) := ⟨_, rfl⟩
    have hts : s.extract a (a + p.size) = t := ht.symm
    obtain ⟨r, hr⟩ : ∃ r, r = isP p (restL s a) := ⟨_, rfl⟩
    have htr : (t.toList == p.toList) = r := by rw [hr, isP_ext, hts]
    rw [← hr]
    clear h ht hr
    go_enter Tryz.func68, Tryz.ntmps68
    go_wp2_with fail
    go_quiet (fail)
    go_wp2_with fail
    go_ret
    exact ⟨by first | rfl | rw [htr], _, rfl⟩
  · have hd : decide ((s.size : Int) - (a : Int) ≥ (p.size : Int)) = false := by simp; omega
    have hd2 : ¬ (p.size : Int) ≤ (s.size : Int) - (a : Int) := by omega
    rw [isP_short ha hl]
    clear h
    go_enter Tryz.func68, Tryz.ntmps68
    go_wp2_with fail
    go_quiet (fail)
    go_wp2_with fail
    go_ret
    exact ⟨rfl, _, rfl⟩
/-- Where a reader stands: behind what it has read, or at its first error. -/
def QSt {α : Type} (W : World) (P : Nat) (s : ByteArray) : Rd α → Prop
  | .ok _ l => l.length ≤ s.size ∧ restL s (s.size - l.length) = l ∧ R4 W P s (s.size - l.length) false 0
  | .bad n _ => n ≤ s.size ∧ ∃ a', a' ≤ s.size ∧ R4 W P s a' true (s.size - n)
theorem qst_ok {α : Type} {W : World} {P : Nat} {s : ByteArray} {a : Nat} (x : α) (ha : a ≤ s.size) (h : R4 W P s a false 0) : QSt W P s (Rd.ok x (restL s a)) :=
  ⟨by rw [restL_len]; omega, by rw [restL_len, show s.size - (s.size - a) = a by omega], by rw [restL_len, show s.size - (s.size - a) = a by omega]; exact h⟩
theorem qst_bad {α : Type} {W : World} {P : Nat} {s : ByteArray} {a p n : Nat} {er : Int} (hn : n = s.size - p) (hp : p ≤ s.size) (ha : a ≤ s.size) (h : R4 W P s a true p) : QSt W P s (Rd.bad n er : Rd α) := by
  subst hn
  exact ⟨by omega, a, ha, by rw [show s.size - (s.size - p) = p by omega]; exact h⟩
section
variable {α β : Type} {W W' : World} {P : Nat} {s : ByteArray} {R : Rd α}
theorem QSt.kept (h : QSt W P s R) {S : Nat → Prop} (hk : Kept S W W') (hS : ¬ S P) : QSt W' P s R := by
  cases R with
  | ok x l => exact ⟨h.1, h.2.1, h.2.2.kept hk hS⟩
  | bad n er => obtain ⟨h1, a', h3, h4⟩ := h; exact ⟨h1, a', h3, h4.kept hk hS⟩
theorem QSt.lt (h : QSt W P s R) : P < W.heap.size := by
  cases R with
  | ok x l => exact h.2.2.lt
  | bad n er => obtain ⟨h1, a', h3, h4⟩ := h; exact h4.lt
theorem QSt.at (h : QSt W P s R) : ∃ a bad st, a ≤ s.size ∧ R4 W P s a bad st := by
  cases R with
  | ok x l => exact ⟨_, _, _, Nat.sub_le _ _, h.2.2⟩
  | bad n er => obtain ⟨h1, a', h3, h4⟩ := h; exact ⟨_, _, _, h3, h4⟩
theorem QSt.to {R' : Rd β} (h : QSt W P s R) (hk : ∀ x l, R = .ok x l → ∃ y, R' = .ok y l) (hb : ∀ n e, R = .bad n e → ∃ e', R' = .bad n e') : QSt W P s R' := by
  cases R with
  | ok x l => obtain ⟨y, rfl⟩ := hk x l rfl; exact h
  | bad n e => obtain ⟨e', rfl⟩ := hb n e rfl; exact h
end
/-- Does a piece begin where the reader stands? -/
def nxt {α : Type} (R : Rd α) (p : ByteArray) : Bool := match R with
  | .ok _ l => isP p l
  | .bad _ _ => false
theorem qnext_any {α : Type} (P : Nat) (s p : ByteArray) (R : Rd α) (w : World) (h : QSt w P s R) (hs : s.size ≤ 1000000000) : Calls Tryz.prog 68 #[.pointer (some ⟨P, 0, none⟩), .string p] w fun e w' => e = .returned (.bool (nxt R p)) ∧ Kept (fun _ => False) w w' := by
  cases R with
  | ok x l =>
    obtain ⟨h1, h2, h3⟩ := h
    have := qnext_new P s p _ 0 w h3 (Nat.sub_le _ _) hs
    rw [h2] at this
    exact this.mono fun e w' ⟨e1, q, hq⟩ => ⟨e1, by rw [hq]; exact kept_drew _ _ _⟩
  | bad n er =>
    obtain ⟨h1, a, ha, h3⟩ := h
    exact (qnext_old P s p _ _ w h3).mono fun e w' ⟨e1, q, hq⟩ => ⟨e1, by rw [hq]; exact kept_drew _ _ _⟩
set_option maxHeartbeats 4000000 in
theorem qmust_any {α : Type} (P : Nat) (s p : ByteArray) (R : Rd α) (w : World) (h : QSt w P s R) (hs : s.size ≤ 1000000000) : Calls Tryz.prog 69 #[.pointer (some ⟨P, 0, none⟩), .string p] w fun e w' => e = .returned (.tuple #[]) ∧ QSt w' P s (R.then (preP p.data.toList)) ∧ Kept (· = P) w w' := by
  have CI := Lib.hid (qnext_any P s p R w h hs)
  cases R with
  | ok x l =>
    obtain ⟨h1, h2, h3⟩ := h
    obtain ⟨a, ha⟩ : ∃ a, a = s.size - l.length := ⟨_, rfl⟩
    rw [← ha] at h2 h3
    have hla : a ≤ s.size := by omega
    subst h2
    obtain ⟨r, hr⟩ : ∃ r, r = nxt (Rd.ok x (restL s a)) p := ⟨_, rfl⟩
    rw [← hr] at CI
    obtain ⟨B, hB⟩ : ∃ B, B = (Rd.ok x (restL s a)).then (preP p.data.toList) := ⟨_, rfl⟩
    rw [← hB]
    have HB := Lib.hid (show B = preP p.data.toList (restL s a) from hB); have HR := Lib.hid (show isP p (restL s a) = r from hr.symm); have HP := Lib.hid h3
    clear hB hr h3 h1 ha
    go_enter Tryz.func69, Tryz.ntmps69
    go_wp2_with fail
    refine CI.out.mono ?_
    rintro e w1 ⟨rfl, hk1⟩
    have hp1 := HP.out.kept hk1 (fun h => h)
    have HK1 := Lib.hid (hk1.mono (T := (· = P)) (fun _ _ h => absurd h (fun h => h))); have HP1 := Lib.hid hp1
    obtain ⟨b0, b1, b2, b3⟩ := hp1.cells
    have g1 := hp1.frozen 1
    clear hk1 hp1 CI
    cases r with
    | true =>
      have hl := isP_len HR.out hla
      have hwr : IntKind.i64.wrap ((a : Int) + (p.size : Int)) = (a : Int) + (p.size : Int) := by rw [IntKind.wrap_i64]; omega
      have hp2 := HP1.out.set1 (a + p.size)
      rw [show ((a + p.size : Nat) : Int) = (a : Int) + (p.size : Int) by omega] at hp2
      have HF := Lib.hid (show QSt (w1.setCell ⟨P, 1, none⟩ (.int .i64 ((a : Int) + (p.size : Int)))) P s B from by
        rw [HB.out, isP_pre HR.out, size_list, restL_drop]; exact qst_ok _ hl hp2)
      have HK2 := Lib.hid (HK1.out.trans (kept_setCell w1 ⟨P, 1, none⟩ (.int .i64 ((a : Int) + (p.size : Int)))))
      clear hp2
      go_wp2_with fail
      go_end0
      exact ⟨rfl, HF.out, HK2.out⟩
    | false =>
      have CF := Lib.hid (qfail_new P s a 0 a w1 HP1.out)
      go_wp2_with fail
      refine CF.out.mono ?_
      rintro e w2 ⟨rfl, hp2, hk2⟩
      have HF := Lib.hid (show QSt w2 P s B from by rw [HB.out, isP_no HR.out]; exact qst_bad (by rw [restL_len]) hla hla hp2)
      have HK := Lib.hid (HK1.out.trans hk2)
      clear hp2 hk2
      go_wp2_with fail
      refine bodyPost_ret (results_none rfl _ _ _) rfl ?_
      exact ⟨rfl, HF.out, HK.out⟩
  | bad n er =>
    obtain ⟨h1, a, ha, h3⟩ := h
    have HP := Lib.hid h3
    clear h3
    go_enter Tryz.func69, Tryz.ntmps69
    go_wp2_with fail
    refine CI.out.mono ?_
    rintro e w1 ⟨rfl, hk1⟩
    have hp1 := HP.out.kept hk1 (fun h => h)
    have HK1 := Lib.hid (hk1.mono (T := (· = P)) (fun _ _ h => absurd h (fun h => h)))
    have CF := Lib.hid (qfail_old P s a _ a w1 hp1)
    have HF := Lib.hid (show QSt w1 P s (Rd.bad n er : Rd Unit) from ⟨h1, a, ha, hp1⟩)
    obtain ⟨b0, b1, b2, b3⟩ := hp1.cells
    have hnx : nxt (Rd.bad n er : Rd α) p = false := rfl
    clear hk1 hp1 CI
    go_wp2_with fail
    refine CF.out.mono ?_
    rintro e w2 ⟨rfl, rfl⟩
    go_wp2_with fail
    refine bodyPost_ret (results_none rfl _ _ _) rfl ?_
    exact ⟨rfl, HF.out, HK1.out⟩
theorem letter_any (c : UInt8) (w : World) : Calls Tryz.prog 138 #[.int .u8 (c.toNat : Int)] w fun e w' => e = .returned (.bool (lowC c)) ∧ w' = w := by
  have h := c.toNat_lt
  rw [← lowC_byte]
  generalize (c.toNat : Int) = x at *
  go_enter Tryz.func138, Tryz.ntmps138
  go_wp2
  all_goals (go_ret; refine ⟨ret_bool ?_, rfl⟩; rw [Bool.eq_iff_iff]; simp [lowB] <;> omega)
end Go.Proofs.YtjnhcoflmechmaaGreatDoor.M

namespace Go.Proofs.YtjnhcoflmechmaaGreatDoor.M
open Go.RowKit Go.Sort
set_option linter.unusedVariables false
set_option maxRecDepth 100000
/-- What the reader says that hands back a string. -/
def QStrC (P : Nat) (s : ByteArray) (R : Rd ByteArray) (w : World) (e : Ending) (w' : World) : Prop :=
  ∃ t : ByteArray, e = .returned (.string t) ∧ (∀ t' l, R = .ok t' l → t = t') ∧ QSt w' P s R ∧ Kept (· = P) w w'
theorem qstr_bad {P : Nat} {s : ByteArray} {R : Rd ByteArray} {n : Nat} {er : Int} {w w' : World} {t : ByteArray} (hR : R = .bad n er) (h : QSt w' P s (Rd.bad n er : Rd ByteArray)) (hk : Kept (· = P) w w') : QStrC P s R w (.returned (.string t)) w' := by
  subst hR; exact ⟨t, rfl, fun t' l h => (by cases h), h, hk⟩
theorem qstr_ok {P : Nat} {s : ByteArray} {R : Rd ByteArray} {a : Nat} {w w' : World} {t : ByteArray} (hR : R = .ok t (restL s a)) (ha : a ≤ s.size) (h : R4 w' P s a false 0) (hk : Kept (· = P) w w') : QStrC P s R w (.returned (.string t)) w' := by
  subst hR; exact ⟨t, rfl, fun t' l h => (by cases h; rfl), qst_ok t ha h, hk⟩
theorem nameC_cases (x : UInt8) : (lowC x = true ∧ nameC x = true) ∨ (lowC x = false ∧ 48 ≤ x.toNat ∧ x.toNat ≤ 58 ∧ nameC x = true) ∨ (lowC x = false ∧ x.toNat = 45 ∧ nameC x = true) ∨ (lowC x = false ∧ x.toNat = 46 ∧ nameC x = true) ∨ (lowC x = false ∧ x.toNat < 48 ∧ x.toNat ≠ 45 ∧ x.toNat ≠ 46 ∧ nameC x = false) ∨ (lowC x = false ∧ 58 < x.toNat ∧ nameC x = false) := by
  unfold nameC numC
  cases lowC x with
  | true => exact .inl ⟨rfl, rfl⟩
  | false =>
    simp only [Bool.false_or, Bool.or_eq_true, Bool.or_eq_false_iff, Bool.and_eq_true, Bool.and_eq_false_iff, decide_eq_true_eq, decide_eq_false_iff_not, beq_iff_eq, beq_eq_false_iff_ne, true_and, false_and, false_or, Bool.false_eq_true]
    omega
set_option maxHeartbeats 8000000 in
theorem qword_new (P : Nat) (s : ByteArray) (a : Nat) (w : World) (h : R4 w P s a false 0) (ha : a ≤ s.size) (hs : s.size ≤ 1000000000) : Calls Tryz.prog 108 #[.pointer (some ⟨P, 0, none⟩)] w (QStrC P s (wordP (restL s a)) w) := by
  have HP := Lib.hid h
  have HNO := Lib.hid (@word_no s a ha); have HYES := Lib.hid (fun (c : Nat) => @word_yes s a c)
  obtain ⟨R, hR⟩ : ∃ R, R = wordP (restL s a) := ⟨_, rfl⟩
  rw [← hR] at HNO HYES ⊢
  obtain ⟨a0, a1, a2, a3⟩ := h.cells
  clear h hR
  have CX := Lib.hid (qfail_new P s a 0 a w HP.out)
  by_cases hlt : a < s.size
  · have hne : ((a : Int) == (s.size : Int)) = false := by simp; omega
    have hlti : (a : Int) < (s.size : Int) := by omega
    have ha0 : (0 : Int) ≤ (a : Int) := by omega
    obtain ⟨x, hx⟩ : ∃ x, s[a] = x := ⟨_, rfl⟩
    obtain ⟨r, hr⟩ : ∃ r, r = lowC x := ⟨_, rfl⟩
    have CL := Lib.hid (show Calls Tryz.prog 138 #[.int .u8 (x.toNat : Int)] w fun e w' => e = .returned (.bool r) ∧ w = w' from by rw [hr]; exact (letter_any x w).mono fun e w' h => ⟨h.1, h.2.symm⟩)
    have HX := Lib.hid hx; have HR := Lib.hid hr
    clear hr
    go_enter Tryz.func108, Tryz.ntmps108
    go_wp2_with fail
    refine CL.out.mono ?_
    rintro e w1 ⟨rfl, rfl⟩
    clear CL
    cases r with
    | false =>
      go_wp2_with fail
      refine CX.out.mono ?_
      rintro e w2 ⟨rfl, hp2, hk2⟩
      have HF := Lib.hid (show QStrC P s R _ (.returned (.string ⟨#[]⟩)) w2 from qstr_bad (HNO.out (fun _ => by rw [HX.out]; exact HR.out.symm)) (qst_bad rfl ha ha hp2) hk2)
      clear hp2 hk2 CX
      go_wp2_with fail
      go_ret
      exact HF.out
    | true =>
      clear CX hx
      go_wp2_with fail
      clear a0 a1 a2 a3
      have HST := Lib.hid (show ∀ b, a ≤ b → b ≤ s.size → (∀ j, (hj : j < s.size) → a ≤ j → j < b → nameC s[j] = true) → (∀ h : b < s.size, nameC s[b] = false) → R = .ok (s.extract a b) (restL s b) from fun b hab hb hn hstop => by
        have hlow : lowC s[a] = true := by rw [HX.out]; exact HR.out.symm
        refine HYES.out b ?_ hb hn hlow hstop
        rcases Nat.lt_or_ge a b with g | g
        · exact g
        · have e : b = a := by omega
          subst e
          have := hstop hlt
          rw [low_name hlow] at this; cases this)
      go_loopg [103] (s.size - a) (fun m _ wr => ∃ b : Nat, a ≤ b ∧ b ≤ s.size ∧ s.size - b ≤ m ∧ RowKit.Hid (R4 wr P s b false 0) ∧ RowKit.Hid (Kept (· = P) w wr) ∧ RowKit.Hid (∀ j, (hj : j < s.size) → a ≤ j → j < b → nameC s[j] = true))
      case atStart => exact ⟨a, by omega, by omega, by omega, HP, Lib.hid (Kept.refl _ _), Lib.hid (fun j _ h1 h2 => by omega)⟩
      case round =>
        obtain ⟨b, hab, hb, hm, HRb, HK, HN⟩ := hrel
        obtain ⟨a0, a1, a2, a3⟩ := HRb.out.cells
        have f1 := HRb.out.frozen 1
        have hwr : IntKind.i64.wrap ((b : Int) + 1) = (b : Int) + 1 := by rw [IntKind.wrap_i64]; omega
        by_cases hbl : b < s.size
        · have hd : decide ((b : Int) < (s.size : Int)) = true := by simpa using hbl
          have hd2 : (b : Int) < (s.size : Int) := by omega
          have hb0 : (0 : Int) ≤ (b : Int) := by omega
          obtain ⟨y, hy⟩ : ∃ y, s[b] = y := ⟨_, rfl⟩
          have CL0 : ∀ q, Calls Tryz.prog 138 #[.int .u8 (y.toNat : Int)] (wr.drewN q) fun e w' => e = .returned (.bool (lowC y)) ∧ w' = wr.drewN q := fun q => letter_any y _
          rcases nameC_cases y with ⟨h1, h2⟩ | ⟨h1, h3, h4, h2⟩ | ⟨h1, h3, h2⟩ | ⟨h1, h3, h2⟩ | ⟨h1, h3, h4, h5, h2⟩ | ⟨h1, h3, h2⟩
          · rw [h1] at CL0
            have CL := Lib.hid CL0
            have HN2 := Lib.hid (show ∀ j, (hj : j < s.size) → a ≤ j → j < b + 1 → nameC s[j] = true from fun j hj h1' h2' => by
              rcases Nat.lt_or_ge j b with g | g
              · exact HN.out j hj h1' g
              · have : j = b := by omega
                subst this; rw [hy, h2])
            clear h1 h2 CL0
            go_wp2_with fail
            refine wp_region_quiet_lit (by kernel_rfl) (by kernel_rfl) ?_
            try dsimp only [List.append]
            repeat (go_big_quiet_step ((go_at_call 138; exact Calls.quiet_of_same (CL.out _))))
            refine wpQuiet_nil ?_
            intro w2 hw'
            obtain ⟨nq, hw2⟩ := hw'
            clear CL
            have hp2 : R4 w2 P s b false 0 := HRb.out.kept (show Kept (fun _ => False) wr w2 from by rw [hw2]; exact kept_drew _ _ _) (fun h => h)
            have HP2 := Lib.hid hp2
            have HK2 := Lib.hid (HK.out.trans (show Kept (· = P) wr w2 from by rw [hw2]; exact kept_drew _ _ _))
            clear hw2 a0 a1 a2 a3 f1 HRb HK
            obtain ⟨a0, a1, a2, a3⟩ := hp2.cells
            have f1 := hp2.frozen 1
            clear hp2
            have hp3 := HP2.out.set1 (b + 1)
            rw [show ((b + 1 : Nat) : Int) = (b : Int) + 1 by omega] at hp3
            have HP3 := Lib.hid hp3
            have HK3 := Lib.hid (HK2.out.trans (kept_setCell w2 ⟨P, 1, none⟩ (.int .i64 ((b : Int) + 1))))
            clear hp3 HN HP2 HK2
            go_wp2_with fail
            go_roundg (s.size - (b + 1))
            case measure => omega
            case rel => exact ⟨b + 1, by omega, by omega, Nat.le_refl _, HP3, HK3, HN2⟩
          · rw [h1] at CL0
            have CL := Lib.hid CL0
            have HN2 := Lib.hid (show ∀ j, (hj : j < s.size) → a ≤ j → j < b + 1 → nameC s[j] = true from fun j hj h1' h2' => by
              rcases Nat.lt_or_ge j b with g | g
              · exact HN.out j hj h1' g
              · have : j = b := by omega
                subst this; rw [hy, h2])
            have k48 : decide ((y.toNat : Int) ≥ 48) = true := by simp; omega
            have k48' : decide ((48 : Int) ≤ (y.toNat : Int)) = true := by simp; omega
            have k58 : decide ((y.toNat : Int) ≤ 58) = true := by simp; omega
            clear h1 h2 CL0 h3 h4
            go_wp2_with fail
            refine wp_region_quiet_lit (by kernel_rfl) (by kernel_rfl) ?_
            try dsimp only [List.append]
            repeat (go_big_quiet_step ((go_at_call 138; exact Calls.quiet_of_same (CL.out _))))
            refine wpQuiet_nil ?_
            intro w2 hw'
            obtain ⟨nq, hw2⟩ := hw'
            clear CL
            have hp2 : R4 w2 P s b false 0 := HRb.out.kept (show Kept (fun _ => False) wr w2 from by rw [hw2]; exact kept_drew _ _ _) (fun h => h)
            have HP2 := Lib.hid hp2
            have HK2 := Lib.hid (HK.out.trans (show Kept (· = P) wr w2 from by rw [hw2]; exact kept_drew _ _ _))
            clear hw2 a0 a1 a2 a3 f1 HRb HK
            obtain ⟨a0, a1, a2, a3⟩ := hp2.cells
            have f1 := hp2.frozen 1
            clear hp2
            have hp3 := HP2.out.set1 (b + 1)
            rw [show ((b + 1 : Nat) : Int) = (b : Int) + 1 by omega] at hp3
            have HP3 := Lib.hid hp3
            have HK3 := Lib.hid (HK2.out.trans (kept_setCell w2 ⟨P, 1, none⟩ (.int .i64 ((b : Int) + 1))))
            clear hp3 HN HP2 HK2
            go_wp2_with fail
            go_roundg (s.size - (b + 1))
            case measure => omega
            case rel => exact ⟨b + 1, by omega, by omega, Nat.le_refl _, HP3, HK3, HN2⟩
          · rw [h1] at CL0
            have CL := Lib.hid CL0
            have HN2 := Lib.hid (show ∀ j, (hj : j < s.size) → a ≤ j → j < b + 1 → nameC s[j] = true from fun j hj h1' h2' => by
              rcases Nat.lt_or_ge j b with g | g
              · exact HN.out j hj h1' g
              · have : j = b := by omega
                subst this; rw [hy, h2])
            have k48 : decide ((y.toNat : Int) ≥ 48) = false := by simp; omega
            have k48' : decide ((48 : Int) ≤ (y.toNat : Int)) = false := by simp; omega
            have k45 : ((y.toNat : Int) == 45) = true := by simp; omega
            clear h1 h2 CL0 h3
            go_wp2_with fail
            refine wp_region_quiet_lit (by kernel_rfl) (by kernel_rfl) ?_
            try dsimp only [List.append]
            repeat (go_big_quiet_step ((go_at_call 138; exact Calls.quiet_of_same (CL.out _))))
            refine wpQuiet_nil ?_
            intro w2 hw'
            obtain ⟨nq, hw2⟩ := hw'
            clear CL
            have hp2 : R4 w2 P s b false 0 := HRb.out.kept (show Kept (fun _ => False) wr w2 from by rw [hw2]; exact kept_drew _ _ _) (fun h => h)
            have HP2 := Lib.hid hp2
            have HK2 := Lib.hid (HK.out.trans (show Kept (· = P) wr w2 from by rw [hw2]; exact kept_drew _ _ _))
            clear hw2 a0 a1 a2 a3 f1 HRb HK
            obtain ⟨a0, a1, a2, a3⟩ := hp2.cells
            have f1 := hp2.frozen 1
            clear hp2
            have hp3 := HP2.out.set1 (b + 1)
            rw [show ((b + 1 : Nat) : Int) = (b : Int) + 1 by omega] at hp3
            have HP3 := Lib.hid hp3
            have HK3 := Lib.hid (HK2.out.trans (kept_setCell w2 ⟨P, 1, none⟩ (.int .i64 ((b : Int) + 1))))
            clear hp3 HN HP2 HK2
            go_wp2_with fail
            go_roundg (s.size - (b + 1))
            case measure => omega
            case rel => exact ⟨b + 1, by omega, by omega, Nat.le_refl _, HP3, HK3, HN2⟩
          · rw [h1] at CL0
            have CL := Lib.hid CL0
            have HN2 := Lib.hid (show ∀ j, (hj : j < s.size) → a ≤ j → j < b + 1 → nameC s[j] = true from fun j hj h1' h2' => by
              rcases Nat.lt_or_ge j b with g | g
              · exact HN.out j hj h1' g
              · have : j = b := by omega
                subst this; rw [hy, h2])
            have k48 : decide ((y.toNat : Int) ≥ 48) = false := by simp; omega
            have k48' : decide ((48 : Int) ≤ (y.toNat : Int)) = false := by simp; omega
            have k45 : ((y.toNat : Int) == 45) = false := by simp; omega
            have k46 : ((y.toNat : Int) == 46) = true := by simp; omega
            clear h1 h2 CL0 h3
            go_wp2_with fail
            refine wp_region_quiet_lit (by kernel_rfl) (by kernel_rfl) ?_
            try dsimp only [List.append]
            repeat (go_big_quiet_step ((go_at_call 138; exact Calls.quiet_of_same (CL.out _))))
            refine wpQuiet_nil ?_
            intro w2 hw'
            obtain ⟨nq, hw2⟩ := hw'
            clear CL
            have hp2 : R4 w2 P s b false 0 := HRb.out.kept (show Kept (fun _ => False) wr w2 from by rw [hw2]; exact kept_drew _ _ _) (fun h => h)
            have HP2 := Lib.hid hp2
            have HK2 := Lib.hid (HK.out.trans (show Kept (· = P) wr w2 from by rw [hw2]; exact kept_drew _ _ _))
            clear hw2 a0 a1 a2 a3 f1 HRb HK
            obtain ⟨a0, a1, a2, a3⟩ := hp2.cells
            have f1 := hp2.frozen 1
            clear hp2
            have hp3 := HP2.out.set1 (b + 1)
            rw [show ((b + 1 : Nat) : Int) = (b : Int) + 1 by omega] at hp3
            have HP3 := Lib.hid hp3
            have HK3 := Lib.hid (HK2.out.trans (kept_setCell w2 ⟨P, 1, none⟩ (.int .i64 ((b : Int) + 1))))
            clear hp3 HN HP2 HK2
            go_wp2_with fail
            go_roundg (s.size - (b + 1))
            case measure => omega
            case rel => exact ⟨b + 1, by omega, by omega, Nat.le_refl _, HP3, HK3, HN2⟩
          · rw [h1] at CL0
            have CL := Lib.hid CL0
            have HYQ := Lib.hid (HST.out b hab hb HN.out (fun _ => by rw [hy, h2]))
            have k48 : decide ((y.toNat : Int) ≥ 48) = false := by simp; omega
            have k48' : decide ((48 : Int) ≤ (y.toNat : Int)) = false := by simp; omega
            have k45 : ((y.toNat : Int) == 45) = false := by simp; omega
            have k46 : ((y.toNat : Int) == 46) = false := by simp; omega
            clear h1 h2 CL0 h3 h4 h5
            go_wp2_with fail
            refine wp_region_quiet_lit (by kernel_rfl) (by kernel_rfl) ?_
            try dsimp only [List.append]
            repeat (go_big_quiet_step ((go_at_call 138; exact Calls.quiet_of_same (CL.out _))))
            refine wpQuiet_nil ?_
            intro w2 hw'
            obtain ⟨nq, hw2⟩ := hw'
            clear CL
            have hp2 : R4 w2 P s b false 0 := HRb.out.kept (show Kept (fun _ => False) wr w2 from by rw [hw2]; exact kept_drew _ _ _) (fun h => h)
            have HP2 := Lib.hid hp2
            have HK2 := Lib.hid (HK.out.trans (show Kept (· = P) wr w2 from by rw [hw2]; exact kept_drew _ _ _))
            clear hw2 a0 a1 a2 a3 f1 HRb HK
            obtain ⟨a0, a1, a2, a3⟩ := hp2.cells
            have f1 := hp2.frozen 1
            clear hp2
            have h1' : (a : Int) ≤ (b : Int) := by omega
            have h2' : (b : Int) ≤ (s.size : Int) := by omega
            have ha0' : (0 : Int) ≤ (a : Int) := by omega
            go_wp2_with fail
            go_quiet (fail)
            generalize hw3 : World.drewN w2 _ = w3
            have HF := Lib.hid (show QStrC P s R _ (.returned (.string (s.extract a b))) w3 from qstr_ok HYQ.out hb (by rw [← hw3]; exact HP2.out) (by rw [← hw3]; exact HK2.out.trans (kept_drew _ _ _)))
            clear hw3
            go_wp2_with fail
            go_ret
            exact HF.out
          · rw [h1] at CL0
            have CL := Lib.hid CL0
            have HYQ := Lib.hid (HST.out b hab hb HN.out (fun _ => by rw [hy, h2]))
            have k48 : decide ((y.toNat : Int) ≥ 48) = true := by simp; omega
            have k48' : decide ((48 : Int) ≤ (y.toNat : Int)) = true := by simp; omega
            have k58 : decide ((y.toNat : Int) ≤ 58) = false := by simp; omega
            have k45 : ((y.toNat : Int) == 45) = false := by simp; omega
            have k46 : ((y.toNat : Int) == 46) = false := by simp; omega
            clear h1 h2 CL0 h3
            go_wp2_with fail
            refine wp_region_quiet_lit (by kernel_rfl) (by kernel_rfl) ?_
            try dsimp only [List.append]
            repeat (go_big_quiet_step ((go_at_call 138; exact Calls.quiet_of_same (CL.out _))))
            refine wpQuiet_nil ?_
            intro w2 hw'
            obtain ⟨nq, hw2⟩ := hw'
            clear CL
            have hp2 : R4 w2 P s b false 0 := HRb.out.kept (show Kept (fun _ => False) wr w2 from by rw [hw2]; exact kept_drew _ _ _) (fun h => h)
            have HP2 := Lib.hid hp2
            have HK2 := Lib.hid (HK.out.trans (show Kept (· = P) wr w2 from by rw [hw2]; exact kept_drew _ _ _))
            clear hw2 a0 a1 a2 a3 f1 HRb HK
            obtain ⟨a0, a1, a2, a3⟩ := hp2.cells
            have f1 := hp2.frozen 1
            clear hp2
            have h1' : (a : Int) ≤ (b : Int) := by omega
            have h2' : (b : Int) ≤ (s.size : Int) := by omega
            have ha0' : (0 : Int) ≤ (a : Int) := by omega
            go_wp2_with fail
            go_quiet (fail)
            generalize hw3 : World.drewN w2 _ = w3
            have HF := Lib.hid (show QStrC P s R _ (.returned (.string (s.extract a b))) w3 from qstr_ok HYQ.out hb (by rw [← hw3]; exact HP2.out) (by rw [← hw3]; exact HK2.out.trans (kept_drew _ _ _)))
            clear hw3
            go_wp2_with fail
            go_ret
            exact HF.out
        · have hd : decide ((b : Int) < (s.size : Int)) = false := by simpa using hbl
          have hd2 : ¬ (b : Int) < (s.size : Int) := by omega
          have HYQ := Lib.hid (HST.out b hab hb HN.out (fun h => absurd h hbl))
          go_wp2_with fail
          refine wp_region_quiet_lit (by kernel_rfl) (by kernel_rfl) ?_
          try dsimp only [List.append]
          repeat (go_big_quiet_step (fail))
          refine wpQuiet_nil ?_
          intro w2 hw'
          obtain ⟨nq, hw2⟩ := hw'
          have hp2 : R4 w2 P s b false 0 := HRb.out.kept (show Kept (fun _ => False) wr w2 from by rw [hw2]; exact kept_drew _ _ _) (fun h => h)
          have HP2 := Lib.hid hp2
          have HK2 := Lib.hid (HK.out.trans (show Kept (· = P) wr w2 from by rw [hw2]; exact kept_drew _ _ _))
          clear hw2 a0 a1 a2 a3 f1 HRb HK
          obtain ⟨a0, a1, a2, a3⟩ := hp2.cells
          have f1 := hp2.frozen 1
          clear hp2
          have h1' : (a : Int) ≤ (b : Int) := by omega
          have h2' : (b : Int) ≤ (s.size : Int) := by omega
          have ha0' : (0 : Int) ≤ (a : Int) := by omega
          go_wp2_with fail
          go_quiet (fail)
          generalize hw3 : World.drewN w2 _ = w3
          have HF := Lib.hid (show QStrC P s R _ (.returned (.string (s.extract a b))) w3 from qstr_ok HYQ.out hb (by rw [← hw3]; exact HP2.out) (by rw [← hw3]; exact HK2.out.trans (kept_drew _ _ _)))
          clear hw3
          go_wp2_with fail
          go_ret
          exact HF.out
  · have hne : ((a : Int) == (s.size : Int)) = true := by simp; omega
    have HF := Lib.hid (fun (w2 : World) (hp : R4 w2 P s a true a) (hk : Kept (· = P) w w2) => (show QStrC P s R w (.returned (.string ⟨#[]⟩)) w2 from qstr_bad (HNO.out (fun h => absurd h hlt)) (qst_bad rfl ha ha hp) hk))
    go_enter Tryz.func108, Tryz.ntmps108
    go_wp2_with fail
    refine CX.out.mono ?_
    rintro e w2 ⟨rfl, hp2, hk2⟩
    have HF2 := Lib.hid (HF.out w2 hp2 hk2)
    clear hp2 hk2 CX
    go_wp2_with fail
    go_ret
    exact HF2.out
set_option maxHeartbeats 4000000 in
theorem qword_any {α : Type} (P : Nat) (s : ByteArray) (R : Rd α) (w : World) (h : QSt w P s R) (hs : s.size ≤ 1000000000) : Calls Tryz.prog 108 #[.pointer (some ⟨P, 0, none⟩)] w (QStrC P s (R.then wordP) w) := by
  cases R with
  | ok x l =>
    obtain ⟨h1, h2, h3⟩ := h
    have := qword_new P s _ w h3 (Nat.sub_le _ _) hs
    rw [h2] at this
    exact this
  | bad n er =>
    obtain ⟨h1, a, ha, h3⟩ := h
    obtain ⟨a0, a1, a2, a3⟩ := h3.cells
    have CF := Lib.hid (qfail_old P s a _ a w h3)
    have HF := Lib.hid (show QStrC P s ((Rd.bad n er : Rd α).then wordP) w (.returned (.string ⟨#[]⟩)) w from qstr_bad rfl ⟨h1, a, ha, h3⟩ (Kept.refl _ _))
    clear h3
    go_enter Tryz.func108, Tryz.ntmps108
    go_wp2_with fail
    refine CF.out.mono ?_
    rintro e w2 ⟨rfl, rfl⟩
    go_wp2_with fail
    go_ret
    exact HF.out
structure QxS (P : Nat) (s : ByteArray) (a : Nat) (w W : World) : Prop where
  p : R4 W P s a false 0
  k : Kept (· = P) w W
theorem QxS.below {P : Nat} {s : ByteArray} {a : Nat} {w W W' : World} (h : QxS P s a w W) (hb : Below W.heap.size W W') : QxS P s a w W' :=
  ⟨h.p.below hb h.p.lt, h.k.trans (kept_below hb _)⟩
theorem QxS.all {P : Nat} {s : ByteArray} {a : Nat} {w W : World} (h : QxS P s a w W) : W.cell? ⟨P, 0, none⟩ = some (.string s) ∧ W.cell? ⟨P, 1, none⟩ = some (.int .i64 a) ∧ QxS P s a w W := ⟨h.p.cells.1, h.p.cells.2.1, h⟩
theorem QxS.hd {P : Nat} {s : ByteArray} {a : Nat} {w W : World} (h : RowKit.Hid (QxS P s a w W)) : QxS P s a w W.drew := h.out.below (below_drewN _ _ _ : Below _ W (W.drewN 1))
theorem keepQ {P : Nat} {s : ByteArray} {a : Nat} {w W W' : World} (hb : Below W.heap.size W W') (h : W.cell? ⟨P, 0, none⟩ = some (.string s) ∧ W.cell? ⟨P, 1, none⟩ = some (.int .i64 a) ∧ QxS P s a w W) : W'.cell? ⟨P, 0, none⟩ = some (.string s) ∧ W'.cell? ⟨P, 1, none⟩ = some (.int .i64 a) ∧ QxS P s a w W' := (h.2.2.below hb).all
set_option maxHeartbeats 8000000 in
theorem qtext_new (P : Nat) (s : ByteArray) (a : Nat) (w : World) (h : R4 w P s a false 0) (ha : a ≤ s.size) (hs : s.size ≤ 100000) : Calls Tryz.prog 70 #[.pointer (some ⟨P, 0, none⟩)] w (QStrC P s (txtP (restL s a)) w) := by
  obtain ⟨n, hn⟩ : ∃ n, n = E.spanN (restL s a) := ⟨_, rfl⟩
  have hns : n ≤ s.size - a := by rw [hn, ← restL_len]; exact E.spanN_le _
  have CS := Lib.hid (show ∀ q, Calls Tryz.prog 109 #[.string s, .int .i64 a] (w.drewN q) (fun e w' => e = .returned (.int .i64 n) ∧ w' = w.drewN q) from fun q => by
    have := E.refSpan_any s a (w.drewN q) (by omega) (by omega) (by omega)
    have e : E.spanI s.data.toList a = (n : Int) := by
      unfold E.spanI
      by_cases h1 : a = s.size
      · rw [if_pos (by right; rw [size_list]; omega), hn, restL_nil (by omega)]; rfl
      · rw [if_neg (by rw [size_list]; omega), hn, Int.toNat_natCast]; rfl
    rw [e] at this; exact this.mono (fun e w' h => ⟨h.1, h.2.symm⟩))
  obtain ⟨t, ht⟩ : ∃ t, t = s.extract a (a + n) := ⟨_, rfl⟩
  have htl : t.data.toList = (restL s a).take n := by rw [ht]; exact ext_mid s a n
  obtain ⟨pl, hpl⟩ : ∃ pl, pl = strB (E.unesc ((restL s a).take n)).1 := ⟨_, rfl⟩
  obtain ⟨q, hq⟩ : ∃ q, q = (E.unesc ((restL s a).take n)).2.1 := ⟨_, rfl⟩
  obtain ⟨er, her⟩ : ∃ er, er = (E.unesc ((restL s a).take n)).2.2 := ⟨_, rfl⟩
  have CU := Lib.hid (show ∀ W, Calls Tryz.prog 110 #[.string t] W (fun e w' => e = .returned (.tuple #[.string pl, .int .i64 q, .int .i64 er]) ∧ Below W.heap.size W w') from fun W => by
    have := E.refUnescape_any t W (by rw [← size_list, htl, List.length_take, restL_len]; omega)
    rw [htl] at this
    rw [hpl, hq, her]; exact this)
  have hqn : q ≤ n ∧ (er = 0 ∨ er = 2) := by
    have h1 := E.unesc_only ((restL s a).take n)
    rw [← hq, ← her, List.length_take] at h1
    rcases h1 with h1 | h1 <;> omega
  have HT1 := Lib.hid (show QxS P s a w w from ⟨h, Kept.refl _ _⟩)
  have hts' : s.extract a (a + n) = t := ht.symm
  have htp : txtP (restL s a) = if er ≠ 0 then .bad (s.size - a - q) 2 else .ok pl (restL s (a + n)) := by
    unfold txtP
    rw [← hn, ← her, ← hq, ← hpl, restL_len, restL_drop]
  rw [htp]
  obtain ⟨R, hR⟩ : ∃ R : Rd ByteArray, R = if er ≠ 0 then .bad (s.size - a - q) 2 else .ok pl (restL s (a + n)) := ⟨_, rfl⟩
  rw [← hR]
  obtain ⟨a0, a1, a2, a3⟩ := h.cells
  have hai : (a : Int) ≤ (s.size : Int) := by omega
  have ha0 : (0 : Int) ≤ (a : Int) := by omega
  have hwr : IntKind.i64.wrap ((a : Int) + (n : Int)) = (a : Int) + (n : Int) := by rw [IntKind.wrap_i64]; omega
  have HRR := Lib.hid hR
  clear hR htp ht htl hpl hq her h hn
  go_enter Tryz.func70, Tryz.ntmps70
  go_wp2_with fail
  go_quiet ((go_at_call 109; exact Calls.quiet_of_same (CS.out _)))
  generalize hw2 : w.drewN _ = w2
  have hT2 : QxS P s a w w2 := by rw [← hw2]; exact HT1.out.below (below_drewN _ _ _)
  have HT2 := Lib.hid hT2
  clear hT2 hw2 HT1 a0 a1 a2 a3 CS
  obtain ⟨b0, b1, -⟩ := HT2.out.all
  have hni : (0 : Int) ≤ (n : Int) := by omega
  have han : (a : Int) + (n : Int) ≤ (s.size : Int) := by omega
  have htn : ((a : Int) + (n : Int)).toNat = a + n := by omega
  have hle2 : (a : Int) ≤ (a : Int) + (n : Int) := by omega
  go_wp2_with fail
  go_region_held3 (fun W => W.cell? ⟨P, 0, none⟩ = some (.string s) ∧ W.cell? ⟨P, 1, none⟩ = some (.int .i64 a) ∧ QxS P s a w W)
    (first | assumption | exact (QxS.hd HT2).all)
    ((go_at_call 110; refine (CU.out _).mono ?_; rintro e w8 ⟨rfl, hb8⟩; have hfin2 := keepQ hb8 (by assumption)))
  have HT3 := Lib.hid hfin2.2.2
  have f1 := hfin2.2.2.p.frozen 1
  obtain ⟨c0, c1, -⟩ := hfin2
  clear HT2 b0 b1 CU
  rcases hqn with ⟨hqn, rfl | rfl⟩
  · have hp9 : R4 (w8.setCell ⟨P, 1, none⟩ (.int .i64 ((a : Int) + (n : Int)))) P s (a + n) false 0 := by
      have := HT3.out.p.set1 (a + n)
      rw [show ((a + n : Nat) : Int) = (a : Int) + (n : Int) by omega] at this
      exact this
    have HF := Lib.hid (show QStrC P s R w (.returned (.string pl)) (w8.setCell ⟨P, 1, none⟩ (.int .i64 ((a : Int) + (n : Int)))) from qstr_ok (by rw [HRR.out]; rfl) (by omega) hp9 (HT3.out.k.trans (kept_setCell _ ⟨P, 1, none⟩ _)))
    clear hp9
    go_wp2_with fail
    go_ret
    exact HF.out
  · have hwq : IntKind.i64.wrap ((a : Int) + (q : Int)) = (a : Int) + (q : Int) := by rw [IntKind.wrap_i64]; omega
    have CF0 := qfail_new P s a 0 (a + q) w8 HT3.out.p
    rw [show ((a + q : Nat) : Int) = (a : Int) + (q : Int) by omega] at CF0
    have CF := Lib.hid CF0
    clear CF0
    go_wp2_with fail
    refine CF.out.mono ?_
    rintro e w11 ⟨rfl, hp11, hk11⟩
    have HF := Lib.hid (show QStrC P s R w (.returned (.string ⟨#[]⟩)) w11 from qstr_bad (n := s.size - a - q) (er := 2) (by rw [HRR.out]; rfl) (qst_bad (p := a + q) (by omega) (by omega) ha hp11) (HT3.out.k.trans hk11))
    clear hp11 hk11 CF HT3
    go_wp2_with fail
    go_ret
    exact HF.out
set_option maxHeartbeats 4000000 in
theorem qtext_any {α : Type} (P : Nat) (s : ByteArray) (R : Rd α) (w : World) (h : QSt w P s R) (hs : s.size ≤ 100000) : Calls Tryz.prog 70 #[.pointer (some ⟨P, 0, none⟩)] w (QStrC P s (R.then txtP) w) := by
  cases R with
  | ok x l =>
    obtain ⟨h1, h2, h3⟩ := h
    have := qtext_new P s _ w h3 (Nat.sub_le _ _) hs
    rw [h2] at this
    exact this
  | bad n er =>
    obtain ⟨h1, a, ha, h3⟩ := h
    obtain ⟨a0, a1, a2, a3⟩ := h3.cells
    have HF := Lib.hid (show QStrC P s ((Rd.bad n er : Rd α).then txtP) w (.returned (.string ⟨#[]⟩)) w from qstr_bad rfl ⟨h1, a, ha, h3⟩ (Kept.refl _ _))
    clear h3
    go_enter Tryz.func70, Tryz.ntmps70
    go_wp2_with fail
    go_ret
    exact HF.out
end Go.Proofs.YtjnhcoflmechmaaGreatDoor.M
