/-
  The reference parser's small steps. | The reference parser's runs. | The reference parser's texts.
-/
import Derived.Test.YtjnhcoflmechmaaGreatDoorDMem
import Derived.Test.YtjnhcoflmechmaaGreatDoorESpanR
import Derived.Laws.Rows
namespace Go.Proofs.YtjnhcoflmechmaaGreatDoor
open Go.RowKit Go.Sort
set_option linter.unusedVariables false
set_option maxRecDepth 100000
/-- The reference parser at P: its text, where it is, how many are open, its error, where that is. -/
abbrev R5 (W : World) (P : Nat) (s : ByteArray) (a o : Nat) (er : Int) (st : Nat) : Prop := B5 W P 97 (.string s) (.int .i64 a) (.int .i64 o) (.int .i64 er) (.int .i64 st)
theorem u8_ne {c d : UInt8} (h : c ≠ d) : (c.toNat : Int) ≠ (d.toNat : Int) := by have := E.nat_ne h; omega
theorem rfail_new (P : Nat) (s : ByteArray) (a o st p : Nat) (er : Int) (w : World) (h : R5 w P s a o 0 st) : Calls Tryz.prog 52 #[.pointer (some ⟨P, 0, none⟩), .int .i64 p, .int .i64 er] w fun e w' => e = .returned (.tuple #[]) ∧ R5 w' P s a o er p ∧ Kept (· = P) w w' := by
  obtain ⟨a0, a1, a2, a3, a4⟩ := h.cells
  have f3 := h.frozen 3; have f4 := (h.set3 (.int .i64 er)).frozen 4
  have HP := Lib.hid h
  clear h
  go_enter Tryz.func52, Tryz.ntmps52
  go_wp2_with fail
  go_end0
  exact ⟨rfl, (HP.out.set3 _).set4 _, (kept_setCell _ ⟨P, 3, none⟩ _).trans (kept_setCell _ ⟨P, 4, none⟩ _)⟩
theorem rfail_old (P : Nat) (s : ByteArray) (a o st p : Nat) (er er0 : Int) (w : World) (h : R5 w P s a o er0 st) (h0 : er0 ≠ 0) : Calls Tryz.prog 52 #[.pointer (some ⟨P, 0, none⟩), .int .i64 p, .int .i64 er] w fun e w' => e = .returned (.tuple #[]) ∧ w = w' := by
  obtain ⟨a0, a1, a2, a3, a4⟩ := h.cells
  have he : (er0 == 0) = false := by simpa using h0
  clear h
  go_enter Tryz.func52, Tryz.ntmps52
  go_wp2_with fail
  go_end0
  exact ⟨rfl, rfl⟩
set_option maxHeartbeats 4000000 in
theorem ris_old (P : Nat) (s : ByteArray) (a o st : Nat) (er : Int) (c : UInt8) (w : World) (h : R5 w P s a o er st) (h0 : er ≠ 0) : Calls Tryz.prog 123 #[.pointer (some ⟨P, 0, none⟩), .int .u8 (c.toNat : Int)] w fun e w' => e = .returned (.bool false) ∧ ∃ q, w' = w.drewN q := by
  obtain ⟨a0, a1, a2, a3, a4⟩ := h.cells
  have he : (er == 0) = false := by simpa using h0
  clear h
  go_enter Tryz.func123, Tryz.ntmps123
  go_wp2_with fail
  go_quiet (fail)
  go_wp2_with fail
  go_ret
  exact ⟨rfl, _, rfl⟩
set_option maxHeartbeats 4000000 in
theorem ris_new (P : Nat) (s : ByteArray) (a o st : Nat) (c : UInt8) (w : World) (h : R5 w P s a o 0 st) (ha : a ≤ s.size) (hs : s.size ≤ 1000000000) : Calls Tryz.prog 123 #[.pointer (some ⟨P, 0, none⟩), .int .u8 (c.toNat : Int)] w fun e w' => e = .returned (.bool (isC s a c)) ∧ ∃ q, w' = w.drewN q := by
  obtain ⟨a0, a1, a2, a3, a4⟩ := h.cells
  by_cases hlt : a < s.size
  · have hlti : decide ((a : Int) < (s.size : Int)) = true := by simpa using hlt
    have hlti2 : (a : Int) < (s.size : Int) := by omega
    have ha0 : (0 : Int) ≤ (a : Int) := by omega
    obtain ⟨x, hx⟩ : ∃ x, s[a] = x := ⟨_, rfl⟩
    obtain ⟨r, hr⟩ : ∃ r, r = isC s a c := ⟨_, rfl⟩
    have hxr : ((x.toNat : Int) == (c.toNat : Int)) = r := by
      rw [hr]; unfold isC; rw [restL_cons hlt, hx]
      by_cases hc : x = c
      · rw [hc]; simp
      · rw [beq_eq_false_iff_ne.2 (u8_ne hc)]; symm; simpa using hc
    rw [← hr]
    clear h hr
    go_enter Tryz.func123, Tryz.ntmps123
    go_wp2_with fail
    go_quiet (fail)
    go_wp2_with fail
    go_ret
    exact ⟨rfl, _, rfl⟩
  · have hic : isC s a c = false := by unfold isC; rw [restL_nil (by omega)]; rfl
    rw [hic]
    have hlti : decide ((a : Int) < (s.size : Int)) = false := by simpa using hlt
    clear h hic
    go_enter Tryz.func123, Tryz.ntmps123
    go_wp2_with fail
    go_quiet (fail)
    go_wp2_with fail
    go_ret
    exact ⟨rfl, _, rfl⟩

/-- Where a reader stands: behind what it has read, or at its first error. -/
def RSt {α : Type} (W : World) (P : Nat) (s : ByteArray) (o st : Nat) : Rd α → Prop
  | .ok _ l => l.length ≤ s.size ∧ restL s (s.size - l.length) = l ∧ R5 W P s (s.size - l.length) o 0 st
  | .bad n er => n ≤ s.size ∧ (er = 2 ∨ er = 11) ∧ ∃ a', a' ≤ s.size ∧ R5 W P s a' o er (s.size - n)
theorem rst_ok {α : Type} {W : World} {P : Nat} {s : ByteArray} {a o st : Nat} (x : α) (ha : a ≤ s.size) (h : R5 W P s a o 0 st) : RSt W P s o st (Rd.ok x (restL s a)) :=
  ⟨by rw [restL_len]; omega, by rw [restL_len, show s.size - (s.size - a) = a by omega], by rw [restL_len, show s.size - (s.size - a) = a by omega]; exact h⟩
theorem rst_bad {α : Type} {W : World} {P : Nat} {s : ByteArray} {a o st p n : Nat} {er : Int} (hn : n = s.size - p) (hp : p ≤ s.size) (her : er = 2 ∨ er = 11) (ha : a ≤ s.size) (h : R5 W P s a o er p) : RSt W P s o st (Rd.bad n er : Rd α) := by
  subst hn
  exact ⟨by omega, her, a, ha, by rw [show s.size - (s.size - p) = p by omega]; exact h⟩
theorem RSt.kept {α : Type} {W W' : World} {P : Nat} {s : ByteArray} {o st : Nat} {R : Rd α} (h : RSt W P s o st R) {S : Nat → Prop} (hk : Kept S W W') (hS : ¬ S P) : RSt W' P s o st R := by
  cases R with
  | ok x l => exact ⟨h.1, h.2.1, h.2.2.kept hk hS⟩
  | bad n er => obtain ⟨h1, h2, a', h3, h4⟩ := h; exact ⟨h1, h2, a', h3, h4.kept hk hS⟩
theorem RSt.lt {α : Type} {W : World} {P : Nat} {s : ByteArray} {o st : Nat} {R : Rd α} (h : RSt W P s o st R) : P < W.heap.size := by
  cases R with
  | ok x l => exact h.2.2.lt
  | bad n er => obtain ⟨h1, h2, a', h3, h4⟩ := h; exact h4.lt
def Rd.then {α β : Type} (R : Rd α) (f : Bytes → Rd β) : Rd β := match R with
  | .ok _ l => f l
  | .bad n e => .bad n e
theorem kept_drew (w : World) (n : Nat) (S : Nat → Prop) : Kept S w (w.drewN n) := kept_below (below_drewN _ _ _) _
set_option maxHeartbeats 4000000 in
theorem rmust_any {α : Type} (P : Nat) (s : ByteArray) (o st : Nat) (c : UInt8) (R : Rd α) (w : World) (h : RSt w P s o st R) (hs : s.size ≤ 1000000000) : Calls Tryz.prog 122 #[.pointer (some ⟨P, 0, none⟩), .int .u8 (c.toNat : Int)] w fun e w' => e = .returned (.tuple #[]) ∧ RSt w' P s o st (R.then (byteP c)) ∧ Kept (· = P) w w' := by
  cases R with
  | ok x l =>
    obtain ⟨h1, h2, h3⟩ := h
    show Calls Tryz.prog 122 _ w fun e w' => e = .returned (.tuple #[]) ∧ RSt w' P s o st (byteP c l) ∧ Kept (· = P) w w'
    obtain ⟨a, ha⟩ : ∃ a, a = s.size - l.length := ⟨_, rfl⟩
    rw [← ha] at h2 h3
    have hla : a ≤ s.size := by omega
    rw [← h2]
    clear ha h1 h2
    obtain ⟨B, hB⟩ : ∃ B, B = byteP c (restL s a) := ⟨_, rfl⟩
    rw [← hB]
    have HB := Lib.hid hB
    clear hB
    have CI := Lib.hid (ris_new P s a o st c w h3 hla hs)
    obtain ⟨r, hr⟩ : ∃ r, r = isC s a c := ⟨_, rfl⟩
    rw [← hr] at CI
    have HR := Lib.hid hr
    have HP := Lib.hid h3
    have hwr : IntKind.i64.wrap ((a : Int) + 1) = (a : Int) + 1 := by rw [IntKind.wrap_i64]; omega
    clear h3 hr
    go_enter Tryz.func122, Tryz.ntmps122
    go_wp2_with fail
    refine CI.out.mono ?_
    rintro e w1 ⟨rfl, q, hq⟩
    have hk1 : Kept (· = P) w w1 := by rw [hq]; exact kept_drew _ _ _
    have hp1 := HP.out.kept (show Kept (fun _ => False) w w1 by rw [hq]; exact kept_drew _ _ _) (fun h => h)
    have HK1 := Lib.hid hk1; have HP1 := Lib.hid hp1
    obtain ⟨b0, b1, b2, b3, b4⟩ := hp1.cells
    have g1 := hp1.frozen 1
    clear hq hk1 hp1 CI
    cases r with
    | true =>
      obtain ⟨e1, hlt⟩ := isC_ok HR.out.symm
      have HF := Lib.hid (show RSt (w1.setCell ⟨P, 1, none⟩ (.int .i64 ((a : Int) + 1))) P s o st B from by rw [HB.out, e1]; exact rst_ok _ (by omega) (HP1.out.set1 _))
      go_wp2_with fail
      go_end0
      exact ⟨rfl, HF.out, HK1.out.trans (kept_setCell _ ⟨P, 1, none⟩ _)⟩
    | false =>
      have e1 := isC_no HR.out.symm
      have CF := Lib.hid (rfail_new P s a o st a 2 w1 HP1.out)
      go_wp2_with fail
      refine CF.out.mono ?_
      rintro e w2 ⟨rfl, hp2, hk2⟩
      have HF := Lib.hid (show RSt w2 P s o st B from by rw [HB.out, e1]; exact rst_bad rfl hla (.inl rfl) hla hp2)
      have HK := Lib.hid (HK1.out.trans hk2)
      clear hp2 hk2
      go_wp2_with fail
      refine bodyPost_ret (results_none rfl _ _ _) rfl ?_
      exact ⟨rfl, HF.out, HK.out⟩
  | bad n er =>
    obtain ⟨h1, her, a, ha, h3⟩ := h
    have h0 : er ≠ 0 := by omega
    have CI := Lib.hid (ris_old P s a o _ er c w h3 h0)
    have HP := Lib.hid h3
    clear h3
    go_enter Tryz.func122, Tryz.ntmps122
    go_wp2_with fail
    refine CI.out.mono ?_
    rintro e w1 ⟨rfl, q, hq⟩
    have hk1 : Kept (· = P) w w1 := by rw [hq]; exact kept_drew _ _ _
    have hp1 := HP.out.kept (show Kept (fun _ => False) w w1 by rw [hq]; exact kept_drew _ _ _) (fun h => h)
    have HK1 := Lib.hid hk1
    have CF := Lib.hid (rfail_old P s a o _ a 2 er w1 hp1 h0)
    have HF := Lib.hid (show RSt w1 P s o st (Rd.bad n er : Rd Unit) from ⟨h1, her, a, ha, hp1⟩)
    obtain ⟨b0, b1, b2, b3, b4⟩ := hp1.cells
    clear hq hk1 hp1 CI her h0
    go_wp2_with fail
    refine CF.out.mono ?_
    rintro e w2 ⟨rfl, rfl⟩
    go_wp2_with fail
    refine bodyPost_ret (results_none rfl _ _ _) rfl ?_
    exact ⟨rfl, HF.out, HK1.out⟩
end Go.Proofs.YtjnhcoflmechmaaGreatDoor

namespace Go.Proofs.YtjnhcoflmechmaaGreatDoor
open Go.RowKit Go.Sort
set_option linter.unusedVariables false
set_option maxRecDepth 100000
theorem rinI0 (c : Int) (w : World) (h0 : 0 ≤ c) (h1 : c ≤ 255) : Calls Tryz.prog 83 #[.int .u8 c, .int .i64 0] w fun e w' => e = .returned (.bool (lowB c)) ∧ w' = w := by
  go_enter Tryz.func83, Tryz.ntmps83
  go_wp2
  all_goals (try (apply_assumption -exfalso; go_wp2_with fail))
  all_goals (try (apply_assumption -exfalso; go_wp2_with fail))
  all_goals (go_ret; refine ⟨ret_bool ?_, rfl⟩; rw [Bool.eq_iff_iff]; simp [lowB] <;> omega)
theorem rinI1 (c : Int) (w : World) (h0 : 0 ≤ c) (h1 : c ≤ 255) : Calls Tryz.prog 83 #[.int .u8 c, .int .i64 1] w fun e w' => e = .returned (.bool (numB c)) ∧ w' = w := by
  go_enter Tryz.func83, Tryz.ntmps83
  go_wp2
  all_goals (try (apply_assumption -exfalso; go_wp2_with fail))
  all_goals (try (apply_assumption -exfalso; go_wp2_with fail))
  all_goals (go_ret; refine ⟨ret_bool ?_, rfl⟩; rw [Bool.eq_iff_iff]; simp [numB] <;> omega)
theorem rinI2 (c : Int) (w : World) (h0 : 0 ≤ c) (h1 : c ≤ 255) : Calls Tryz.prog 83 #[.int .u8 c, .int .i64 2] w fun e w' => e = .returned (.bool (lowB c || numB c || c == 58 || c == 46)) ∧ w' = w := by
  go_enter Tryz.func83, Tryz.ntmps83
  go_wp2
  all_goals (try (apply_assumption -exfalso; go_wp2_with fail))
  all_goals (try (apply_assumption -exfalso; go_wp2_with fail))
  all_goals (try (apply_assumption -exfalso; go_wp2_with fail))
  all_goals (try (apply_assumption -exfalso; go_wp2_with fail))
  all_goals (go_ret; refine ⟨ret_bool ?_, rfl⟩; first | (rw [Bool.eq_iff_iff]; simp [lowB, numB]; omega) | (rw [Bool.eq_iff_iff]; simp [lowB, numB]; done) | rfl)
def RunIn (k : Int) (p : UInt8 → Bool) : Prop := ∀ (c : UInt8) (W : World), Calls Tryz.prog 83 #[.int .u8 (c.toNat : Int), .int .i64 k] W fun e w' => e = .returned (.bool (p c)) ∧ w' = W
theorem rin_low : RunIn 0 lowC := fun c W => by
  have h := c.toNat_lt
  have := rinI0 (c.toNat : Int) W (by omega) (by omega)
  rwa [lowC_byte] at this
theorem rin_num : RunIn 1 numC := fun c W => by
  have h := c.toNat_lt
  have := rinI1 (c.toNat : Int) W (by omega) (by omega)
  rwa [numC_byte] at this
theorem rin_name : RunIn 2 nameC := fun c W => by
  have h := c.toNat_lt
  have := rinI2 (c.toNat : Int) W (by omega) (by omega)
  rw [lowC_byte, numC_byte] at this
  have e : (lowC c || numC c || ((c.toNat : Int) == 58) || ((c.toNat : Int) == 46)) = nameC c := by
    unfold nameC
    rw [show ((c.toNat : Int) == 58) = (c.toNat == 58) by rw [Bool.eq_iff_iff]; simp; omega, show ((c.toNat : Int) == 46) = (c.toNat == 46) by rw [Bool.eq_iff_iff]; simp; omega]
  rwa [e] at this
theorem run_ext {p : UInt8 → Bool} {s : ByteArray} {a b : Nat} (hab : a ≤ b) (hb : b ≤ s.size) (h : ∀ j, (hj : j < s.size) → a ≤ j → j < b → p s[j] = true) (hs : ∀ hk : b < s.size, p s[b] = false) : s.extract a b = runB p (strB (restL s a)) ∧ (runB p (strB (restL s a))).size = b - a := by
  have hl := restL_len s a
  have hg : ∀ j, (hj : j < (restL s a).length) → (restL s a)[j] = s[a + j]'(by omega) := fun j hj => by
    simp only [restL, List.getElem_drop]
    rfl
  have ht := takeWhile_len p (restL s a) (b - a) (fun j hj hjk => by rw [hg j hj]; exact h _ (by omega) (by omega) (by omega)) (by omega) (fun hk => by
    rw [hg _ hk]
    have e : a + (b - a) = b := by omega
    simp only [e]
    exact hs (by omega))
  have e1 : runB p (strB (restL s a)) = strB ((restL s a).take (b - a)) := by unfold runB; rw [strB_data, ht]
  have e2 : s.extract a b = strB ((restL s a).take (b - a)) := by
    rw [← strB_eq (s.extract a b)]
    congr 1
    rw [show b = a + (b - a) by omega, ext_mid]
    congr 1; omega
  refine ⟨by rw [e1, e2], ?_⟩
  rw [e1, ← size_list, strB_data, List.length_take, hl]
  omega
set_option maxHeartbeats 8000000 in
theorem rrun_any (k : Int) (p : UInt8 → Bool) (hin : RunIn k p) (P : Nat) (s : ByteArray) (a o st : Nat) (er : Int) (w : World) (h : R5 w P s a o er st) (ha : a ≤ s.size) (hs : s.size ≤ 1000000000) :
    Calls Tryz.prog 84 #[.pointer (some ⟨P, 0, none⟩), .int .i64 k] w fun e w' => e = .returned (.string (runB p (strB (restL s a)))) ∧ R5 w' P s (a + (runB p (strB (restL s a))).size) o er st ∧ Kept (· = P) w w' := by
  have HF := Lib.hid hin
  have HP := Lib.hid h
  obtain ⟨a0, a1, a2, a3, a4⟩ := h.cells
  clear h hin
  have HEX := Lib.hid (fun (b : Nat) => @run_ext p s a b)
  obtain ⟨T, hT⟩ : ∃ T, T = runB p (strB (restL s a)) := ⟨_, rfl⟩
  rw [← hT] at HEX ⊢
  clear hT
  go_enter Tryz.func84, Tryz.ntmps84
  go_wp2_with fail
  clear a0 a1 a2 a3 a4
  go_loopg [10] (s.size - a) (fun m _ wr => ∃ b : Nat, a ≤ b ∧ b ≤ s.size ∧ s.size - b ≤ m ∧ RowKit.Hid (R5 wr P s b o er st) ∧ RowKit.Hid (Kept (· = P) w wr) ∧ RowKit.Hid (∀ j, (hj : j < s.size) → a ≤ j → j < b → p s[j] = true))
  case atStart => exact ⟨a, by omega, by omega, by omega, HP, Lib.hid (Kept.refl _ _), Lib.hid (fun j _ h1 h2 => by omega)⟩
  case round =>
    obtain ⟨b, hab, hb, hm, HR, HK, HN⟩ := hrel
    obtain ⟨a0, a1, a2, a3, a4⟩ := HR.out.cells
    have f1 := HR.out.frozen 1
    by_cases hlt : b < s.size
    · have hd : decide ((b : Int) < (s.size : Int)) = true := by simpa using hlt
      have hd2 : (b : Int) < (s.size : Int) := by omega
      have hb0 : (0 : Int) ≤ (b : Int) := by omega
      obtain ⟨x, hx⟩ : ∃ x, s[b] = x := ⟨_, rfl⟩
      obtain ⟨r, hr⟩ : ∃ r, r = p x := ⟨_, rfl⟩
      have CF := Lib.hid (show ∀ q, Calls Tryz.prog 83 #[.int .u8 (x.toNat : Int), .int .i64 k] (wr.drewN q) fun e w' => e = .returned (.bool r) ∧ w' = wr.drewN q from fun q => by rw [hr]; exact HF.out x _)
      have HX := Lib.hid hx; have HRR := Lib.hid hr
      have hwr : IntKind.i64.wrap ((b : Int) + 1) = (b : Int) + 1 := by rw [IntKind.wrap_i64]; omega
      clear hr
      go_wp2_with fail
      go_quiet ((go_at_call 83; exact Calls.quiet_of_same (CF.out _)))
      generalize hw2 : wr.drewN _ = w2
      have hp2 : R5 w2 P s b o er st := by rw [← hw2]; exact HR.out
      have hk2 : Kept (· = P) w w2 := by rw [← hw2]; exact HK.out.trans (kept_drew _ _ _)
      have HK2 := Lib.hid hk2; have HP2 := Lib.hid hp2
      clear hw2 a0 a1 a2 a3 a4 f1 hk2 CF HR HK
      obtain ⟨a0, a1, a2, a3, a4⟩ := hp2.cells
      have f1 := hp2.frozen 1
      clear hp2
      cases r with
      | true =>
        have HN2 := Lib.hid (show ∀ j, (hj : j < s.size) → a ≤ j → j < b + 1 → p s[j] = true from fun j hj h1 h2 => by
          rcases Nat.lt_or_ge j b with g | g
          · exact HN.out j hj h1 g
          · have : j = b := by omega
            subst this; rw [HX.out]; exact HRR.out.symm)
        have HP3 := Lib.hid (show R5 (w2.setCell ⟨P, 1, none⟩ (.int .i64 ((b : Int) + 1))) P s (b + 1) o er st from by
          unfold R5; rw [show ((b + 1 : Nat) : Int) = (b : Int) + 1 by omega]; exact HP2.out.set1 _)
        have HK3 := Lib.hid (HK2.out.trans (kept_setCell w2 ⟨P, 1, none⟩ (.int .i64 ((b : Int) + 1))))
        go_wp2_with fail
        go_roundg (s.size - (b + 1))
        case measure => omega
        case rel => exact ⟨b + 1, by omega, by omega, Nat.le_refl _, HP3, HK3, HN2⟩
      | false =>
        obtain ⟨e1, e2⟩ := HEX.out b hab hb HN.out (fun _ => by rw [HX.out]; exact HRR.out.symm)
        have hab2 : (a : Int) ≤ (b : Int) := by omega
        have hbs2 : (b : Int) ≤ (s.size : Int) := by omega
        have ha0 : (0 : Int) ≤ (a : Int) := by omega
        have HE2 := Lib.hid (show a + T.size = b by omega)
        clear e2
        go_wp2_with fail
        go_quiet (fail)
        go_wp2_with fail
        go_ret
        exact ⟨rfl, by rw [HE2.out]; exact HP2.out, HK2.out.trans (kept_drew _ _ _)⟩
    · have hd : decide ((b : Int) < (s.size : Int)) = false := by simpa using hlt
      have hd2 : ¬ (b : Int) < (s.size : Int) := by omega
      obtain ⟨e1, e2⟩ := HEX.out b hab hb HN.out (fun h => absurd h hlt)
      have hab2 : (a : Int) ≤ (b : Int) := by omega
      have hbs2 : (b : Int) ≤ (s.size : Int) := by omega
      have ha0 : (0 : Int) ≤ (a : Int) := by omega
      have HE2 := Lib.hid (show a + T.size = b by omega)
      clear e2
      go_wp2_with fail
      go_quiet (fail)
      generalize hw2 : wr.drewN _ = w2
      have hp2 : R5 w2 P s b o er st := by rw [← hw2]; exact HR.out
      have hk2 : Kept (· = P) w w2 := by rw [← hw2]; exact HK.out.trans (kept_drew _ _ _)
      have HK2 := Lib.hid hk2; have HP2 := Lib.hid hp2
      clear hw2 a0 a1 a2 a3 a4 f1 hk2 HR HK
      obtain ⟨a0, a1, a2, a3, a4⟩ := hp2.cells
      clear hp2
      go_wp2_with fail
      go_quiet (fail)
      go_wp2_with fail
      go_ret
      exact ⟨rfl, by rw [HE2.out]; exact HP2.out, HK2.out.trans (kept_drew _ _ _)⟩
end Go.Proofs.YtjnhcoflmechmaaGreatDoor

namespace Go.Proofs.YtjnhcoflmechmaaGreatDoor
open Go.RowKit Go.Sort
set_option linter.unusedVariables false
set_option maxRecDepth 100000
theorem RSt.to {α β : Type} {W : World} {P : Nat} {s : ByteArray} {o st : Nat} {R : Rd α} {R' : Rd β} (h : RSt W P s o st R) (hk : ∀ x l, R = .ok x l → ∃ y, R' = .ok y l) (hb : ∀ n e, R = .bad n e → R' = .bad n e) : RSt W P s o st R' := by
  cases R with
  | ok x l => obtain ⟨y, rfl⟩ := hk x l rfl; exact h
  | bad n e => rw [hb n e rfl]; exact h
/-- What the reference parser says that hands back a value. -/
def RValC (P : Nat) (s : ByteArray) (o st : Nat) (R : Rd Dt) (w : World) (e : Ending) (w' : World) : Prop :=
  ∃ (d : Dt) (x : NV), e = .returned (datV d x) ∧ DatIn w' (fun b => w.heap.size ≤ b) d x ∧ (∀ d' l, R = .ok d' l → d = d') ∧ RSt w' P s o st R ∧ Kept (· = P) w w'
theorem res51 {fn : Func} {p : Tmp} (h : fn.results = #[.cell p 46]) (tmps : Array Value) (w : World) (B : Nat) (v0 v1 v2 v3 v4 : Value) (hp : tmps.getD p undef = .pointer (some ⟨B, 0, none⟩)) (hg : B5 w B 46 v0 v1 v2 v3 v4) :
    (results fn tmps).run Tryz.prog w = .ok (.agg #[v0, v1, v2, v3, v4]) w :=
  results_cell_row h tmps w B 46 _ (0, 0) _ hp hg Tryz.underlying46 rfl (by kernel_rfl)
structure RxS (P : Nat) (s : ByteArray) (a o st : Nat) (w W : World) : Prop where
  p : R5 W P s a o 0 st
  z : B5 W w.heap.size 46 (.int .i64 0) (.int .i64 0) (.string ⟨#[]⟩) (.slice none 0 0) (.slice none 0 0)
  k : Kept (· = P) w W
theorem RxS.below {P : Nat} {s : ByteArray} {a o st : Nat} {w W W' : World} (h : RxS P s a o st w W) (hb : Below W.heap.size W W') : RxS P s a o st w W' :=
  ⟨h.p.below hb h.p.lt, h.z.below hb h.z.lt, h.k.trans (kept_below hb _)⟩
theorem RxS.all {P : Nat} {s : ByteArray} {a o st : Nat} {w W : World} (h : RxS P s a o st w W) : W.cell? ⟨P, 0, none⟩ = some (.string s) ∧ W.cell? ⟨P, 1, none⟩ = some (.int .i64 a) ∧ RxS P s a o st w W := ⟨h.p.cells.1, h.p.cells.2.1, h⟩
theorem RxS.hd {P : Nat} {s : ByteArray} {a o st : Nat} {w W : World} (h : RowKit.Hid (RxS P s a o st w W)) : RowKit.Hid (RxS P s a o st w W.drew) := Lib.hid (h.out.below (below_drewN _ _ _ : Below _ W (W.drewN 1)))
theorem keepR {P : Nat} {s : ByteArray} {a o st : Nat} {w W W' : World} (hb : Below W.heap.size W W') (h : W.cell? ⟨P, 0, none⟩ = some (.string s) ∧ W.cell? ⟨P, 1, none⟩ = some (.int .i64 a) ∧ RxS P s a o st w W) : W'.cell? ⟨P, 0, none⟩ = some (.string s) ∧ W'.cell? ⟨P, 1, none⟩ = some (.int .i64 a) ∧ RxS P s a o st w W' := (h.2.2.below hb).all
theorem rval_small {P : Nat} {s : ByteArray} {o st : Nat} {k m : Int} {t : ByteArray} {R : Rd Dt} {w W : World} (hd : ∀ d' l, R = .ok d' l → .mk k m t [] [] = d') (hr : RSt W P s o st R) (hP : P < w.heap.size) (hk : Kept (· = P) w W) :
    RValC P s o st R w (.returned (.agg #[.int .i64 k, .int .i64 m, .string t, .slice none 0 0, .slice none 0 0])) (put5 W w.heap.size (.int .i64 k) (.int .i64 m) (.string t) (.slice none 0 0) (.slice none 0 0)) :=
  ⟨.mk k m t [] [], ⟨none, 0, none, 0⟩, rfl, din_zero _ _ _ _ _, hd, hr.kept (kept_put5 _ _ _ _ _ _ _) (by omega), kept_boxP (Nat.le_refl _) hk (kept_put5 _ _ _ _ _ _ _)⟩
set_option maxHeartbeats 8000000 in
theorem rtext_any (P : Nat) (s : ByteArray) (a o st : Nat) (w : World) (h : R5 w P s a o 0 st) (ha : a ≤ s.size) (hs : s.size ≤ 100000) : Calls Tryz.prog 86 #[.pointer (some ⟨P, 0, none⟩)] w (RValC P s o st (textP (restL s a)) w) := by
  obtain ⟨w1, hw1⟩ : ∃ w1, w1 = zeroW w := ⟨_, rfl⟩
  have hk1 : Kept (fun _ => False) w w1 := by rw [hw1]; exact kept_alloc _ _ _
  have hPw : P < w.heap.size := h.lt
  have hT1 : RxS P s a o st w w1 := ⟨h.kept hk1 (fun h => h), by rw [hw1]; exact B5.new _ _ _ _ _ _ _ _ rfl, hk1.mono (fun _ _ h => absurd h (fun h => h))⟩
  obtain ⟨n, hn⟩ : ∃ n, n = E.spanN (restL s a) := ⟨_, rfl⟩
  have hns : n ≤ s.size - a := by rw [hn, ← restL_len]; exact E.spanN_le _
  have CS := Lib.hid (show ∀ q, Calls Tryz.prog 109 #[.string s, .int .i64 a] (w1.drewN q) (fun e w' => e = .returned (.int .i64 n) ∧ w' = w1.drewN q) from fun q => by
    have := E.refSpan_any s a (w1.drewN q) (by omega) (by omega) (by omega)
    have e : E.spanI s.data.toList a = (n : Int) := by
      unfold E.spanI
      by_cases h1 : a = s.size
      · rw [if_pos (by right; rw [size_list]; omega), hn, restL_nil (by omega)]; rfl
      · rw [if_neg (by rw [size_list]; omega), hn, Int.toNat_natCast]; rfl
    rw [e] at this; exact this.mono (fun e w' h => ⟨h.1, h.2.symm⟩))
  obtain ⟨t, ht⟩ : ∃ t, t = s.extract a (a + n) := ⟨_, rfl⟩
  have htl : t.data.toList = (restL s a).take n := by rw [ht]; exact ext_mid s a n
  obtain ⟨pl, hpl⟩ : ∃ pl, pl = strB (E.unesc ((restL s a).take n)).1 := ⟨_, rfl⟩
  obtain ⟨q, hq⟩ : ∃ q, q = (E.unesc ((restL s a).take n)).2.1 := ⟨_, rfl⟩
  obtain ⟨er, her⟩ : ∃ er, er = (E.unesc ((restL s a).take n)).2.2 := ⟨_, rfl⟩
  have CU := Lib.hid (show ∀ W, Calls Tryz.prog 110 #[.string t] W (fun e w' => e = .returned (.tuple #[.string pl, .int .i64 q, .int .i64 er]) ∧ Below W.heap.size W w') from fun W => by
    have := E.refUnescape_any t W (by rw [← size_list, htl, List.length_take, restL_len]; omega)
    rw [htl] at this
    rw [hpl, hq, her]; exact this)
  have hqn : q ≤ n ∧ (er = 0 ∨ er = 2) := by
    have h1 := E.unesc_only ((restL s a).take n)
    rw [← hq, ← her, List.length_take] at h1
    rcases h1 with h1 | h1 <;> omega
  have HT1 := Lib.hid hT1; have HW1 := Lib.hid hw1
  have hts' : s.extract a (a + n) = t := ht.symm
  have htp : textP (restL s a) = if er ≠ 0 then .bad (s.size - a - q) 2 else match byteP 34 (restL s (a + n)) with | .ok _ l => .ok (.mk 3 0 pl [] []) l | .bad n e => .bad n e := by
    unfold textP
    rw [← hn, ← her, ← hq, ← hpl, restL_len, restL_drop]
    rfl
  rw [htp]
  obtain ⟨R, hR⟩ : ∃ R : Rd Dt, R = if er ≠ 0 then .bad (s.size - a - q) 2 else match byteP 34 (restL s (a + n)) with | .ok _ l => .ok (.mk 3 0 pl [] []) l | .bad n e => .bad n e := ⟨_, rfl⟩
  rw [← hR]
  obtain ⟨a0, a1, -⟩ := hT1.p.cells
  have hai : (a : Int) ≤ (s.size : Int) := by omega
  have ha0 : (0 : Int) ≤ (a : Int) := by omega
  have hwr : IntKind.i64.wrap ((a : Int) + (n : Int)) = (a : Int) + (n : Int) := by rw [IntKind.wrap_i64]; omega
  have HRR := Lib.hid hR
  clear hR htp ht htl hpl hq her hT1 hw1 hk1 h hn
  go_enter Tryz.func86, Tryz.ntmps86
  go_upto_region 1 with (fail)
  rw [zeroW_out HW1]
  go_quiet ((go_at_call 109; exact Calls.quiet_of_same (CS.out _)))
  generalize hw2 : w1.drewN _ = w2
  have hT2 : RxS P s a o st w w2 := by rw [← hw2]; exact HT1.out.below (below_drewN _ _ _)
  have HT2 := Lib.hid hT2
  clear hT2 hw2 HT1 HW1 a0 a1 CS
  obtain ⟨b0, b1, -⟩ := HT2.out.p.cells
  have hni : (0 : Int) ≤ (n : Int) := by omega
  have han : (a : Int) + (n : Int) ≤ (s.size : Int) := by omega
  have htn : ((a : Int) + (n : Int)).toNat = a + n := by omega
  have hle2 : (a : Int) ≤ (a : Int) + (n : Int) := by omega
  go_wp2_with fail
  go_region_held3 (fun W => W.cell? ⟨P, 0, none⟩ = some (.string s) ∧ W.cell? ⟨P, 1, none⟩ = some (.int .i64 a) ∧ RxS P s a o st w W)
    (first | assumption | exact (RxS.hd HT2).out.all)
    ((go_at_call 110; refine (CU.out _).mono ?_; rintro e w8 ⟨rfl, hb8⟩; have hfin2 := keepR hb8 (by assumption)))
  have hT3 := hfin2.2.2
  have HT3 := Lib.hid hT3
  clear hfin2 HT2 b0 b1 CU
  rcases hqn with ⟨hqn, her | her⟩
  · subst her
    obtain ⟨b0, b1, b2, b3, b4⟩ := hT3.p.cells
    have f1 := hT3.p.frozen 1
    obtain ⟨w9, hw9⟩ : ∃ w9, w9 = w8.setCell ⟨P, 1, none⟩ (.int .i64 ((a : Int) + (n : Int))) := ⟨_, rfl⟩
    have hk9 : Kept (· = P) w8 w9 := by rw [hw9]; exact kept_setCell _ ⟨P, 1, none⟩ _
    have hp9 : R5 w9 P s (a + n) o 0 st := by unfold R5; rw [show ((a + n : Nat) : Int) = (a : Int) + (n : Int) by omega, hw9]; exact hT3.p.set1 _
    have hz9 := hT3.z.kept hk9 (show ¬ w.heap.size = P by omega)
    have CT := Lib.hid (rmust_any P s o st 34 (Rd.ok () (restL s (a + n))) w9 (rst_ok () (by omega) hp9) (by omega))
    have HZ9 := Lib.hid hz9; have HK9 := Lib.hid (hT3.k.trans hk9); have HW9 := Lib.hid hw9.symm
    have hR0 := HRR.out
    rw [if_neg (by decide)] at hR0
    have HR0 := Lib.hid hR0
    clear hR0 hz9 hk9 hp9 hw9 hT3
    go_wp2_with fail
    rw [HW9.out]
    refine CT.out.mono ?_
    rintro e w10 ⟨rfl, hr10, hk10⟩
    have hz10 := HZ9.out.kept hk10 (show ¬ w.heap.size = P by omega)
    have hr : RSt w10 P s o st R := hr10.to (fun x l h => by rw [HR0.out]; rw [show byteP 34 (restL s (a + n)) = _ from h]; exact ⟨_, rfl⟩) (fun m e h => by rw [HR0.out]; rw [show byteP 34 (restL s (a + n)) = _ from h])
    have HF := Lib.hid (rval_small (k := 3) (m := 0) (t := pl) (R := R) (w := w) (fun d' l h => by
      rw [HR0.out] at h
      rcases hb : byteP 34 (restL s (a + n)) with ⟨u, l'⟩ | ⟨n', e'⟩
      · rw [hb] at h; cases h; rfl
      · rw [hb] at h; cases h) hr hPw (HK9.out.trans hk10))
    have HZ := Lib.hid (hz10.put (.int .i64 3) (.int .i64 0) (.string pl) (.slice none 0 0) (.slice none 0 0))
    obtain ⟨z0, z1, z2, z3, z4⟩ := hz10.cells
    have y0 := hz10.frozen 0; have y1 := hz10.frozen 1; have y2 := hz10.frozen 2; have y3 := hz10.frozen 3; have y4 := hz10.frozen 4
    clear hz10 hk10 hr10 hr CT HZ9 HK9 HW9 HT3 b0 b1 b2 b3 b4 f1
    go_wp2_with fail
    refine bodyPost_ret (res51 rfl _ _ w.heap.size _ _ _ _ _ rfl HZ.out) rfl ?_
    exact HF.out
  · subst her
    have CF0 := rfail_new P s a o st (a + q) 2 w8 hT3.p
    rw [show ((a + q : Nat) : Int) = (a : Int) + (q : Int) by omega] at CF0
    have CF := Lib.hid CF0
    have hwq : IntKind.i64.wrap ((a : Int) + (q : Int)) = (a : Int) + (q : Int) := by rw [IntKind.wrap_i64]; omega
    obtain ⟨b0, b1, b2, b3, b4⟩ := hT3.p.cells
    have hR0 := HRR.out
    rw [if_pos (by decide)] at hR0
    have HR0 := Lib.hid hR0
    clear hT3 CF0 hR0
    go_wp2_with fail
    refine CF.out.mono ?_
    rintro e w11 ⟨rfl, hp11, hk11⟩
    have hz11 := HT3.out.z.kept hk11 (show ¬ w.heap.size = P by omega)
    have hr : RSt w11 P s o st R := by rw [HR0.out]; exact rst_bad (p := a + q) (by omega) (by omega) (.inl rfl) ha hp11
    have HF := Lib.hid (rval_small (k := 0) (m := 0) (t := ⟨#[]⟩) (R := R) (w := w) (fun d' l h => by rw [HR0.out] at h; cases h) hr hPw (HT3.out.k.trans hk11))
    have HZ := Lib.hid (hz11.put (.int .i64 0) (.int .i64 0) (.string ⟨#[]⟩) (.slice none 0 0) (.slice none 0 0))
    obtain ⟨z0, z1, z2, z3, z4⟩ := hz11.cells
    have y0 := hz11.frozen 0; have y1 := hz11.frozen 1; have y2 := hz11.frozen 2; have y3 := hz11.frozen 3; have y4 := hz11.frozen 4
    clear hz11 hk11 hp11 hr CF HT3 b0 b1 b2 b3 b4
    go_wp2_with fail
    refine bodyPost_ret (res51 rfl _ _ w.heap.size _ _ _ _ _ rfl HZ.out) rfl ?_
    exact HF.out
end Go.Proofs.YtjnhcoflmechmaaGreatDoor
