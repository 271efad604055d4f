/-
  What is wrong with a value by itself: tendrilref16.plain, datum.isBare, namesRight, fieldsRight. | What is wrong with a value by itself: datum.fieldsRight.
-/
import Derived.Test.YtjnhcoflmechmaaGreatDoorDFew
namespace Go.Proofs.YtjnhcoflmechmaaGreatDoor
open Go.RowKit Go.Sort
set_option linter.unusedVariables false
set_option maxRecDepth 100000
def BoolP (P : Prop) (w : World) (e : Ending) (w' : World) : Prop := ∃ b, e = .returned (.bool b) ∧ (b = true ↔ P) ∧ Below w.heap.size w w'
def BoolS (P : Prop) (w : World) (e : Ending) (w' : World) : Prop := ∃ b, e = .returned (.bool b) ∧ (b = true ↔ P) ∧ w = w'
theorem BoolP.imp {P Q : Prop} {w w' : World} {e : Ending} (h : BoolP P w e w') (hq : P ↔ Q) : BoolP Q w e w' := by
  obtain ⟨b, h1, h2, h3⟩ := h
  exact ⟨b, h1, h2.trans hq, h3⟩
def PlainR (k n : Int) (t : ByteArray) (ln ll : Nat) : Prop := (0 ≤ k ∧ k ≤ 5) ∧ (k ≠ 3 → t = noB) ∧ (k ≠ 1 → k ≠ 2 → n = 0) ∧ (k ≠ 5 → ln = 0) ∧ (k < 4 → ll = 0) ∧ (k = 1 → n = 0 ∨ n = 1) ∧ (k = 5 → ln = ll) ∧ t.size ≤ 65536
theorem plainR_iff (d : Dt) : PlainR d.kind d.num d.text d.names.length d.list.length ↔ PlainP d := by
  unfold PlainR PlainP
  simp only [List.length_eq_zero_iff]
theorem nil_noB {t : ByteArray} : t.toList = [] ↔ t = noB := by
  rw [← isEmpty_noB (k := t)]; simp
section
variable {k n : Int} {t : ByteArray} {ln ll : Nat}
theorem pf_k1 (h : k < 0) : (false = true ↔ PlainR k n t ln ll) := ⟨fun h => (by cases h), fun p => by have := p.1; omega⟩
theorem pf_k2 (h : k > 5) : (false = true ↔ PlainR k n t ln ll) := ⟨fun h => (by cases h), fun p => by have := p.1; omega⟩
theorem pf_t (h : ¬ t.toList = []) (hk : k ≠ 3) : (false = true ↔ PlainR k n t ln ll) := ⟨fun h => (by cases h), fun p => absurd (nil_noB.2 (p.2.1 hk)) h⟩
theorem pf_n (h : ¬ n = 0) (h1 : k ≠ 1) (h2 : k ≠ 2) : (false = true ↔ PlainR k n t ln ll) := ⟨fun h => (by cases h), fun p => absurd (p.2.2.1 h1 h2) h⟩
theorem pf_ln (h : ¬ ln = 0) (h1 : k ≠ 5) : (false = true ↔ PlainR k n t ln ll) := ⟨fun h => (by cases h), fun p => absurd (p.2.2.2.1 h1) h⟩
theorem pf_ll (h : 0 < ll) (h1 : k < 4) : (false = true ↔ PlainR k n t ln ll) := ⟨fun h => (by cases h), fun p => by have := p.2.2.2.2.1 h1; omega⟩
theorem pf_n1 (h : ¬ n = 0) (h' : ¬ n = 1) : (false = true ↔ PlainR 1 n t ln ll) := ⟨fun h => (by cases h), fun p => by have := p.2.2.2.2.2.1 rfl; omega⟩
theorem pf_5 (h : ((ln : Int) != (ll : Int)) = true) : (false = true ↔ PlainR 5 n t ln ll) := ⟨fun h => (by cases h), fun p => by have := p.2.2.2.2.2.2.1 rfl; simp at h; omega⟩
theorem pt_0 (h : t.toList = []) (h1 : n = 0) (h2 : ln = 0) (h3 : ¬ 0 < ll) : (decide ((t.size : Int) ≤ 65536) = true ↔ PlainR 0 n t ln ll) := by
  have e := nil_noB.1 h; have e3 : ll = 0 := by omega
  subst e h1 h2 e3; exact ⟨fun _ => ⟨by omega, fun _ => rfl, fun _ _ => rfl, fun _ => rfl, fun _ => rfl, fun _ => .inl rfl, fun _ => rfl, by decide⟩, fun _ => by decide⟩
theorem pt_1 (h : t.toList = []) (h1 : n = 0 ∨ n = 1) (h2 : ln = 0) (h3 : ¬ 0 < ll) : (decide ((t.size : Int) ≤ 65536) = true ↔ PlainR 1 n t ln ll) := by
  have e := nil_noB.1 h; have e3 : ll = 0 := by omega
  subst e h2 e3; exact ⟨fun _ => ⟨by omega, fun _ => rfl, fun h => absurd rfl h, fun _ => rfl, fun _ => rfl, fun _ => h1, fun _ => rfl, by decide⟩, fun _ => by decide⟩
theorem pt_2 (h : t.toList = []) (h2 : ln = 0) (h3 : ¬ 0 < ll) : (decide ((t.size : Int) ≤ 65536) = true ↔ PlainR 2 n t ln ll) := by
  have e := nil_noB.1 h; have e3 : ll = 0 := by omega
  subst e h2 e3; exact ⟨fun _ => ⟨by omega, fun _ => rfl, fun _ h => absurd rfl h, fun _ => rfl, fun _ => rfl, fun h => by omega, fun _ => rfl, by decide⟩, fun _ => by decide⟩
theorem pt_3 (h1 : n = 0) (h2 : ln = 0) (h3 : ¬ 0 < ll) : (decide ((t.size : Int) ≤ 65536) = true ↔ PlainR 3 n t ln ll) := by
  have e3 : ll = 0 := by omega
  subst h1 h2 e3; exact ⟨fun h => ⟨by omega, fun h => absurd rfl h, fun _ _ => rfl, fun _ => rfl, fun _ => rfl, fun h => by omega, fun _ => rfl, by simp at h; omega⟩, fun p => by have := p.2.2.2.2.2.2.2; simp; omega⟩
theorem pt_4 (h : t.toList = []) (h1 : n = 0) (h2 : ln = 0) : (decide ((t.size : Int) ≤ 65536) = true ↔ PlainR 4 n t ln ll) := by
  have e := nil_noB.1 h
  subst e h1 h2; exact ⟨fun _ => ⟨by omega, fun _ => rfl, fun _ _ => rfl, fun _ => rfl, fun h => by omega, fun _ => .inl rfl, fun h => by omega, by decide⟩, fun _ => by decide⟩
theorem pt_5 (h : t.toList = []) (h1 : n = 0) (h2 : ((ln : Int) != (ll : Int)) = false) : (decide ((t.size : Int) ≤ 65536) = true ↔ PlainR 5 n t ln ll) := by
  have e := nil_noB.1 h; have e2 : ln = ll := by simp at h2; omega
  subst e h1 e2; exact ⟨fun _ => ⟨by omega, fun _ => rfl, fun _ _ => rfl, fun h => absurd rfl h, fun h => by omega, fun _ => .inl rfl, fun _ => rfl, by decide⟩, fun _ => by decide⟩
end
set_option maxHeartbeats 4000000 in
theorem plain_raw (k n : Int) (t : ByteArray) (A K : Option Addr) (ln ll ca ck : Nat) (w : World) : Calls Tryz.prog 77 #[.agg #[.int .i64 k, .int .i64 n, .string t, .slice A ln ca, .slice K ll ck]] w (BoolP (PlainR k n t ln ll) w) := by
  have hk : k < 0 ∨ k = 0 ∨ k = 1 ∨ k = 2 ∨ k = 3 ∨ k = 4 ∨ k = 5 ∨ k > 5 := by omega
  rcases hk with hk | rfl | rfl | rfl | rfl | rfl | rfl | hk
  all_goals
    go_enter Tryz.func77, Tryz.ntmps77
    go_wp2_with fail
    all_goals (try (apply_assumption -exfalso; go_wp2_with fail))
    all_goals go_ret
    all_goals refine ⟨_, rfl, ?_, (Below.refl _ _).alloc (Nat.le_refl _) _⟩
    all_goals (first
      | exact pf_k1 hk
      | exact pf_k2 hk
      | exact pf_t (by assumption) (by decide)
      | exact pf_n1 (by assumption) (by assumption)
      | exact pf_n (by assumption) (by decide) (by decide)
      | exact pf_ln (by assumption) (by decide)
      | exact pf_ll (by assumption) (by decide)
      | exact pf_5 (by assumption)
      | exact pt_0 (by assumption) (by assumption) (by assumption) (by assumption)
      | exact pt_1 (by assumption) (.inl (by assumption)) (by assumption) (by assumption)
      | exact pt_1 (by assumption) (.inr (by assumption)) (by assumption) (by assumption)
      | exact pt_2 (by assumption) (by assumption) (by assumption)
      | exact pt_3 (by assumption) (by assumption) (by assumption)
      | exact pt_4 (by assumption) (by assumption) (by assumption)
      | exact pt_5 (by assumption) (by assumption) (by assumption))
set_option maxHeartbeats 4000000 in
theorem isBare_raw (k n : Int) (t : ByteArray) (A K : Option Addr) (ln ll ca ck : Nat) (w : World) : Calls Tryz.prog 113 #[.agg #[.int .i64 k, .int .i64 n, .string t, .slice A ln ca, .slice K ll ck]] w fun e w' => e = .returned (.bool (decide (ln = 0 ∧ ll = 0))) ∧ Below w.heap.size w w' := by
  by_cases h : ln = 0
  · subst h
    go_enter Tryz.func113, Tryz.ntmps113
    go_wp2_with fail
    go_ret
    exact ⟨ret_bool (by by_cases h2 : ll = 0 <;> simp [h2]), (Below.refl _ _).alloc (Nat.le_refl _) _⟩
  · have h1 : ((ln : Int) == 0) = false := by rw [beq_eq_false_iff_ne]; omega
    go_enter Tryz.func113, Tryz.ntmps113
    go_wp2_with fail
    go_ret
    exact ⟨ret_bool (by simp [h]), (Below.refl _ _).alloc (Nat.le_refl _) _⟩
theorem nameC_byte (c : UInt8) : nameB (c.toNat : Int) = nameC c := by
  unfold nameB tagB lowB nameC numC lowC
  rw [Bool.eq_iff_iff]
  simp
  omega
theorem lowC_byte (c : UInt8) : lowB (c.toNat : Int) = lowC c := by
  unfold lowB lowC
  rw [Bool.eq_iff_iff]
  simp
  omega
theorem wfB_nm (s : ByteArray) : wfB nameB s = nmB s := by
  unfold wfB nmB
  have h0 : lowB (byte s 0) = lowC (s.data.toList.getD 0 0) := by unfold byte; exact lowC_byte _
  rw [h0]
  by_cases hl : lowC (s.data.toList.getD 0 0) = true
  · congr 1
    rw [Bool.eq_iff_iff, List.all_eq_true, List.all_eq_true]
    constructor
    · intro h c hc
      obtain ⟨i, hi, rfl⟩ := List.getElem_of_mem hc
      rw [size_list] at hi
      have := h i (by simpa using hi)
      rcases Nat.eq_zero_or_pos i with rfl | hp
      · rw [List.getD_eq_getElem?_getD, List.getElem?_eq_getElem (by rw [size_list]; exact hi)] at hl
        simp only [Option.getD_some] at hl
        unfold nameC; rw [hl]; rfl
      · have e : byte s i = ((s.data.toList[i]'(by rw [size_list]; exact hi)).toNat : Int) := by
          unfold byte; rw [List.getD_eq_getElem?_getD, List.getElem?_eq_getElem (by rw [size_list]; exact hi)]; rfl
        rw [e, nameC_byte] at this
        have hz : (i == 0) = false := by simp; omega
        rw [hz] at this
        simpa using this
    · intro h i hi
      have hi' : i < s.size := by simpa using hi
      have e : byte s i = ((s.data.toList[i]'(by rw [size_list]; exact hi')).toNat : Int) := by
        unfold byte; rw [List.getD_eq_getElem?_getD, List.getElem?_eq_getElem (by rw [size_list]; exact hi')]; rfl
      rw [e, nameC_byte, h _ (List.getElem_mem _)]
      simp
  · simp only [Bool.not_eq_true] at hl
    rw [hl]; simp
def NamesTo (l : List ByteArray) (k : Nat) : Prop := ∀ i, (h : i < l.length) → i < k → nmB l[i] = true ∧ ∀ h0 : 0 < i, cmpN l[i - 1] l[i] < 0
theorem NamesTo.step {l : List ByteArray} {k : Nat} (h : NamesTo l k) (hk : k < l.length) (h1 : nmB l[k] = true) (h2 : ∀ h0 : 0 < k, cmpN l[k - 1] l[k] < 0) : NamesTo l (k + 1) := by
  intro i hi hik
  rcases Nat.lt_or_ge i k with h3 | h3
  · exact h i hi h3
  · have : i = k := by omega
    subst this
    exact ⟨h1, h2⟩
set_option maxHeartbeats 4000000 in
theorem namesRight_any (A : Option Addr) (c : Nat) (l : List ByteArray) (w : World) (h : SRow w w.heap.size A l) (hl : l.length ≤ 100000000) (hz : ∀ n ∈ l, n.size ≤ maxLen) :
    Calls Tryz.prog 115 #[.slice A l.length c] w (BoolS (NamesP l) w) := by
  have HR := Lib.hid h; have HZ := Lib.hid hz
  clear h hz
  go_enter Tryz.func115, Tryz.ntmps115
  go_wp2_with fail
  go_loopg [7] l.length (fun g s7 wr => ∃ k : Nat, s7 = .int .i64 k ∧ k ≤ l.length ∧ l.length - k ≤ g ∧ RowKit.Hid (NamesTo l k) ∧ RowKit.Hid (w = wr))
  case atStart => exact ⟨0, rfl, by omega, by omega, Lib.hid (fun i hi h => by omega), Lib.hid rfl⟩
  case round =>
    obtain ⟨k, rfl, hk, hg, HN, HW⟩ := hrel
    obtain rfl := HW.out
    by_cases hlt : k < l.length
    · have hlt' : (k : Int) < (l.length : Int) := by omega
      obtain ⟨b, off, p, hA, hb, hp, hc⟩ := srow_at HR.out hlt
      have hps : p.size ≤ maxLen := by rw [hp]; exact HZ.out _ (List.getElem_mem _)
      have CN := Lib.hid (name_any p w hps)
      rw [wfB_nm] at CN
      have HP := Lib.hid hp
      obtain ⟨q, hq⟩ : ∃ q, q = nmB p := ⟨_, rfl⟩
      rw [← hq] at CN
      have HQ := Lib.hid hq
      clear hp hq hps
      cases q with
      | false =>
        go_wp2_with fail
        refine CN.out.mono ?_
        rintro e w' ⟨rfl, rfl⟩
        go_wp2_with fail
        all_goals (try (apply_assumption -exfalso; go_wp2_with fail))
        go_ret
        refine ⟨_, rfl, ⟨fun h => (by cases h), fun h => ?_⟩, rfl⟩
        have := (h k hlt).1
        rw [← HP.out, ← HQ.out] at this
        cases this
      | true =>
        rcases Nat.eq_zero_or_pos k with hk0 | hpos
        · have HN2 := Lib.hid (HN.out.step hlt (by rw [← HP.out, ← HQ.out]) (fun h0 => by omega))
          have hkk : ¬ (k : Int) > 0 := by omega
          clear hk0
          go_wp2_with fail
          refine CN.out.mono ?_
          rintro e w' ⟨rfl, rfl⟩
          go_wp2_with fail
          all_goals (try (apply_assumption -exfalso; go_wp2_with fail))
          try rw [← hA]
          go_roundg (l.length - (k + 1))
          case measure => omega
          case rel => exact ⟨k + 1, by go_num, by omega, by omega, HN2, Lib.hid rfl⟩
        · obtain ⟨b', off', p', hA', hb', hp', hc'⟩ := srow_at HR.out (j := k - 1) (by omega)
          have hbo : b' = b ∧ off' = off := by rw [hA] at hA'; simp at hA'; exact ⟨hA'.1.symm, hA'.2.symm⟩
          obtain ⟨rfl, rfl⟩ := hbo
          have hkk : (k : Int) > 0 := by omega
          have hw1 : IntKind.i64.wrap ((k : Int) - 1) = ((k - 1 : Nat) : Int) := by rw [IntKind.wrap_i64]; omega
          have hw2 : (k : Int) - 1 = ((k - 1 : Nat) : Int) := by omega
          have hlt3 : ((k - 1 : Nat) : Int) < (l.length : Int) := by omega
          have CC := Lib.hid (charsCompare_any p' p w)
          obtain ⟨cv, hcv⟩ : ∃ cv, cv = cmpN p' p := ⟨_, rfl⟩
          rw [← hcv] at CC
          have HCV := Lib.hid hcv; have HP' := Lib.hid hp'
          clear hcv hp' hA'
          by_cases hge : cv ≥ 0
          · go_wp2_with fail
            refine CN.out.mono ?_
            rintro e w' ⟨rfl, rfl⟩
            go_wp2_with fail
            refine CC.out.mono ?_
            rintro e w' ⟨rfl, rfl⟩
            go_wp2_with fail
            all_goals (try (apply_assumption -exfalso; go_wp2_with fail))
            go_ret
            refine ⟨_, rfl, ⟨fun h => (by cases h), fun h => ?_⟩, rfl⟩
            have := (h k hlt).2 hpos
            rw [← HP.out, ← HP'.out, ← HCV.out] at this
            omega
          · have HN2 := Lib.hid (HN.out.step hlt (by rw [← HP.out, ← HQ.out]) (fun h0 => by rw [← HP.out, ← HP'.out, ← HCV.out]; omega))
            go_wp2_with fail
            refine CN.out.mono ?_
            rintro e w' ⟨rfl, rfl⟩
            go_wp2_with fail
            refine CC.out.mono ?_
            rintro e w' ⟨rfl, rfl⟩
            go_wp2_with fail
            all_goals (try (apply_assumption -exfalso; go_wp2_with fail))
            try rw [← hA]
            go_roundg (l.length - (k + 1))
            case measure => omega
            case rel => exact ⟨k + 1, by go_num, by omega, by omega, HN2, Lib.hid rfl⟩
    · have hlt' : ¬ (k : Int) < (l.length : Int) := by omega
      go_wp2_with fail
      go_ret
      exact ⟨_, rfl, ⟨fun _ i hi => HN.out i hi (by omega), fun _ => rfl⟩, rfl⟩
end Go.Proofs.YtjnhcoflmechmaaGreatDoor

namespace Go.Proofs.YtjnhcoflmechmaaGreatDoor
open Go.RowKit Go.Sort
set_option linter.unusedVariables false
set_option maxRecDepth 100000
def bareB (ln ll : Nat) : Bool := decide (ln = 0 ∧ ll = 0)
theorem isBare_any (k n : Int) (t : ByteArray) (A K : Option Addr) (ln ll ca ck : Nat) (w : World) : Calls Tryz.prog 113 #[.agg #[.int .i64 k, .int .i64 n, .string t, .slice A ln ca, .slice K ll ck]] w fun e w' => e = .returned (.bool (bareB ln ll)) ∧ Below w.heap.size w w' := isBare_raw k n t A K ln ll ca ck w
def FR (k n : Int) (t : ByteArray) (ln ll : Nat) (N : Prop) : Prop := PlainR k n t ln ll ∧ (k = 5 → N)
section
variable {k n : Int} {t : ByteArray} {ln ll : Nat} {N : Prop}
theorem ff (h : false = true ↔ PlainR k n t ln ll) : (false = true ↔ FR k n t ln ll N) := ⟨fun h => (by cases h), fun p => h.2 p.1⟩
theorem fr_of (hk : k ≠ 5) {b : Bool} (h : b = true ↔ PlainR k n t ln ll) : (b = true ↔ FR k n t ln ll N) := ⟨fun e => ⟨h.1 e, fun e5 => absurd e5 hk⟩, fun p => h.2 p.1⟩
theorem fit_nil (h : t.toList = []) : decide ((t.size : Int) ≤ 65536) = true := by rw [nil_noB.1 h]; decide
theorem q_0 (h : t.toList = []) (h1 : n = 0) : (bareB ln ll = true ↔ FR 0 n t ln ll N) := by
  refine fr_of (by decide) ?_
  unfold bareB; rw [decide_eq_true_eq]
  exact ⟨fun ⟨a, b⟩ => (pt_0 h h1 a (by omega)).1 (fit_nil h), fun p => ⟨p.2.2.2.1 (by decide), p.2.2.2.2.1 (by decide)⟩⟩
theorem q_1 (h : t.toList = []) (h1 : n = 0 ∨ n = 1) : (bareB ln ll = true ↔ FR 1 n t ln ll N) := by
  refine fr_of (by decide) ?_
  unfold bareB; rw [decide_eq_true_eq]
  exact ⟨fun ⟨a, b⟩ => (pt_1 h h1 a (by omega)).1 (fit_nil h), fun p => ⟨p.2.2.2.1 (by decide), p.2.2.2.2.1 (by decide)⟩⟩
theorem q_2 (h : t.toList = []) : (bareB ln ll = true ↔ FR 2 n t ln ll N) := by
  refine fr_of (by decide) ?_
  unfold bareB; rw [decide_eq_true_eq]
  exact ⟨fun ⟨a, b⟩ => (pt_2 h a (by omega)).1 (fit_nil h), fun p => ⟨p.2.2.2.1 (by decide), p.2.2.2.2.1 (by decide)⟩⟩
theorem q_3 (h : t.size ≤ 65536) (h1 : n = 0) : (bareB ln ll = true ↔ FR 3 n t ln ll N) := by
  refine fr_of (by decide) ?_
  unfold bareB; rw [decide_eq_true_eq]
  exact ⟨fun ⟨a, b⟩ => (pt_3 h1 a (by omega)).1 (by simp; omega), fun p => ⟨p.2.2.2.1 (by decide), p.2.2.2.2.1 (by decide)⟩⟩
theorem q_3f (h : ¬ t.size ≤ 65536) : (false = true ↔ FR 3 n t ln ll N) := by
  refine ff ⟨fun h => (by cases h), fun p => ?_⟩
  exact absurd p.2.2.2.2.2.2.2 h
theorem q_4 (h : t.toList = []) (h1 : n = 0) : (((ln : Int) == 0) = true ↔ FR 4 n t ln ll N) := by
  refine fr_of (by decide) ?_
  rw [beq_iff_eq]
  exact ⟨fun a => (pt_4 h h1 (by omega)).1 (fit_nil h), fun p => by have := p.2.2.2.1 (by decide); omega⟩
theorem q_5 (h : t.toList = []) (h1 : n = 0) (h2 : (ln : Int) = (ll : Int)) {b : Bool} (hb : b = true ↔ N) : (b = true ↔ FR 5 n t ln ll N) := by
  refine ⟨fun e => ⟨(pt_5 h h1 (by simp; omega)).1 (fit_nil h), fun _ => hb.1 e⟩, fun p => hb.2 (p.2 rfl)⟩
theorem q_5f (h2 : ¬ (ln : Int) = (ll : Int)) : (false = true ↔ FR 5 n t ln ll N) := ff (pf_5 (by simp; omega))
end
theorem bel1 {w w2 : World} {o : Obj} (hb : Below (w.alloc o).heap.size (w.alloc o) w2) : Below w.heap.size w w2 := ((Below.refl _ _).alloc (Nat.le_refl _) _).trans (hb.mono (by simp))
theorem bel2 {w w2 w3 : World} {o : Obj} (hb : Below (w.alloc o).heap.size (w.alloc o) w2) (hb' : Below w2.heap.size w2 w3) : Below w.heap.size w w3 := (bel1 hb).trans (hb'.mono (bel1 hb).size)
set_option maxHeartbeats 8000000 in
theorem fields_raw (k num : Int) (t : ByteArray) (A K : Option Addr) (ca ck ll : Nat) (ns : List ByteArray) (w : World) (h : SRow w w.heap.size A ns) (hl : ns.length ≤ 100000000) (hz : ∀ n ∈ ns, n.size ≤ maxLen) : Calls Tryz.prog 76 #[.agg #[.int .i64 k, .int .i64 num, .string t, .slice A ns.length ca, .slice K ll ck]] w (BoolP (FR k num t ns.length ll (NamesP ns)) w) := by
  have CN := Lib.hid (fun o => namesRight_any A ca ns (w.alloc o) (h.up ((Below.refl _ _).alloc (Nat.le_refl _) _)) hl hz)
  obtain ⟨ln, hln⟩ : ∃ ln, ln = ns.length := ⟨_, rfl⟩
  obtain ⟨N, hN⟩ : ∃ N, N = NamesP ns := ⟨_, rfl⟩
  rw [← hN] at CN ⊢
  rw [← hln] at CN ⊢
  clear hln hN h hl hz
  have hk : k < 0 ∨ k = 0 ∨ k = 1 ∨ k = 2 ∨ k = 3 ∨ k = 4 ∨ k = 5 ∨ k > 5 := by omega
  rcases hk with hk | rfl | rfl | rfl | rfl | rfl | rfl | hk
  all_goals try (
    have n0 : (k == 0) = false := by rw [beq_eq_false_iff_ne]; omega
    have n1 : (k == 1) = false := by rw [beq_eq_false_iff_ne]; omega
    have n2 : (k == 2) = false := by rw [beq_eq_false_iff_ne]; omega
    have n3 : (k == 3) = false := by rw [beq_eq_false_iff_ne]; omega
    have n4 : (k == 4) = false := by rw [beq_eq_false_iff_ne]; omega
    have n5 : (k == 5) = false := by rw [beq_eq_false_iff_ne]; omega)
  all_goals
    go_enter Tryz.func76, Tryz.ntmps76
    go_wp2_with fail
    all_goals (try (refine (fits_any _ _).mono ?_; rintro e w2 ⟨rfl, rfl⟩; go_wp2_with fail))
    all_goals (try (refine (isBare_any _ _ _ _ _ _ _ _ _ _).mono ?_; rintro e w2 ⟨rfl, hb⟩; go_wp2_with fail))
    all_goals (try (refine (CN.out _).mono ?_; rintro e w2 ⟨b, rfl, hbN, rfl⟩; go_wp2_with fail))
    all_goals (try (apply_assumption -exfalso; go_wp2_with fail))
  all_goals go_ret
  all_goals refine ⟨_, rfl, ?_, ?_⟩
  all_goals try (first
    | exact (Below.refl _ _).alloc (Nat.le_refl _) _
    | exact bel1 (by assumption))
  all_goals first
    | exact ff (pf_k1 hk)
    | exact ff (pf_k2 hk)
    | exact ff (pf_t (by assumption) (by decide))
    | exact ff (pf_n1 (by assumption) (by assumption))
    | exact ff (pf_n (by assumption) (by decide) (by decide))
    | exact q_5f (by assumption)
    | exact q_3f (by assumption)
    | exact q_0 (by assumption) (by assumption)
    | exact q_1 (by assumption) (.inl (by assumption))
    | exact q_1 (by assumption) (.inr (by assumption))
    | exact q_2 (by assumption)
    | exact q_3 (by assumption) (by assumption)
    | exact q_4 (by assumption) (by assumption)
    | exact q_5 (by assumption) (by assumption) (by assumption) (by assumption)
end Go.Proofs.YtjnhcoflmechmaaGreatDoor
