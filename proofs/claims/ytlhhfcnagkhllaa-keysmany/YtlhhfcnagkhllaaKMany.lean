/-
  The law KeysMany, walked.
-/
import Derived.Test.YtlhhfcnagkhllaaKDec
namespace Go.Proofs.Ytlhhfcnagkhllaa
open Go.RowKit
set_option linter.unusedVariables false

def ent (j : Nat) : Lab × Int := (lm j, (j : Int))
def gone (s cur j : Nat) : Bool := decide (j % s = 0) && decide (j < cur)
def manyE (N cur s : Nat) : List (Lab × Int) := ((List.range N).filter fun j => !gone s cur j).map ent
def putE (k : Nat) : List (Lab × Int) := (List.range k).map ent
theorem putE_len (k : Nat) : (putE k).length = k := by simp [putE]
theorem putE_succ (k : Nat) : putE (k + 1) = putE k ++ [ent k] := by simp [putE, List.range_succ]
theorem putE_new (k : Nat) : lm k ∉ (putE k).map Prod.fst := by
  intro h
  simp only [putE, List.map_map, List.mem_map, List.mem_range, Function.comp] at h
  obtain ⟨j, hj, he⟩ := h
  have := lm_inj (i := j) (j := k) he
  omega
theorem manyE_zero (N s : Nat) : manyE N 0 s = putE N := by
  unfold manyE putE
  rw [List.filter_eq_self.2 (fun a _ => by simp [gone])]
theorem filter_perm {l : List Nat} {p q : Nat → Bool} {x : Nat} (hn : l.Nodup) (hx : x ∈ l) (hp : p x = true) (hq : ∀ y ∈ l, q y = (p y && decide (y ≠ x))) : (l.filter p).Perm (x :: l.filter q) := by
  have n1 : (l.filter p).Nodup := List.Pairwise.filter p hn
  have n2 : (x :: l.filter q).Nodup := List.nodup_cons.2 ⟨fun h => by have := (List.mem_filter.1 h).2; rw [hq x hx] at this; simp at this, List.Pairwise.filter q hn⟩
  refine (List.perm_ext_iff_of_nodup n1 n2).2 fun a => ?_
  rw [List.mem_cons, List.mem_filter, List.mem_filter]
  constructor
  · rintro ⟨h1, h2⟩
    by_cases h : a = x
    · exact .inl h
    · exact .inr ⟨h1, by rw [hq a h1]; simp [h2, h]⟩
  · rintro (rfl | ⟨h1, h2⟩)
    · exact ⟨hx, hp⟩
    · rw [hq a h1] at h2
      simp at h2
      exact ⟨h1, h2.1⟩
theorem gone_step {s m y : Nat} (hs : 0 < s) : gone s (m * s + s) y = (gone s (m * s) y || decide (y = m * s)) := by
  unfold gone
  rw [Bool.eq_iff_iff]
  simp only [Bool.and_eq_true, Bool.or_eq_true, decide_eq_true_eq]
  constructor
  · rintro ⟨h1, h2⟩
    have e : y = s * (y / s) := by have := Nat.div_add_mod y s; omega
    have h3 : y / s < m + 1 := by
      rw [Nat.div_lt_iff_lt_mul hs, Nat.succ_mul]; exact h2
    rcases Nat.lt_or_ge (y / s) m with h4 | h4
    · refine .inl ⟨h1, ?_⟩
      rw [e, Nat.mul_comm m s]
      exact Nat.mul_lt_mul_of_pos_left h4 hs
    · refine .inr ?_
      have : y / s = m := by omega
      rw [e, this, Nat.mul_comm]
  · rintro (⟨h1, h2⟩ | rfl)
    · exact ⟨h1, by omega⟩
    · exact ⟨Nat.mul_mod_left m s, by omega⟩
theorem manyE_drop {N s m : Nat} (hs : 0 < s) (hm : m * s < N) : (manyE N (m * s) s).Perm (ent (m * s) :: manyE N (m * s + s) s) := by
  unfold manyE
  have h := filter_perm (l := List.range N) (p := fun j => !gone s (m * s) j) (q := fun j => !gone s (m * s + s) j) (x := m * s) List.nodup_range (List.mem_range.2 hm) (by simp [gone]) (fun y _ => by
    rw [gone_step hs]
    by_cases h : y = m * s <;> simp [h])
  exact h.map ent
theorem manyE_look {N s cur i : Nat} (hi : i < N) (hc : N ≤ cur) : Look (manyE N cur s) (lm i) (if i % s = 0 then 0 else (i : Int)) (!decide (i % s = 0)) := by
  by_cases h : i % s = 0
  · refine ⟨fun h1 => by simp [h] at h1, fun _ => ⟨fun hm => ?_, by simp [h]⟩⟩
    simp only [manyE, List.map_map, List.mem_map, List.mem_filter, List.mem_range, Function.comp] at hm
    obtain ⟨j, ⟨hj, hg⟩, he⟩ := hm
    have := lm_inj (i := j) (j := i) he
    subst this
    simp [gone, h] at hg
    omega
  · refine ⟨fun _ => ?_, fun h1 => by simp [h] at h1⟩
    simp only [manyE, List.mem_map, List.mem_filter, List.mem_range]
    exact ⟨i, ⟨hi, by simp [gone, h]⟩, by simp [ent, h]⟩
theorem gone_len (N cur s : Nat) : (manyE N cur s).length ≤ N := by
  unfold manyE
  rw [List.length_map]
  have := List.length_filter_le (fun j => !gone s cur j) (List.range N)
  simpa using this

def M1 (w : World) (X bm N : Nat) (i : Value) (wr : World) : Prop := ∃ k : Nat, k ≤ N ∧ i = .int .i64 k ∧ Ix wr w.heap.size X bm (putE k) ∧ Below w.heap.size w wr
def M2 (w : World) (X bm N s : Nat) (d i : Value) (wr : World) : Prop := ∃ m : Nat, i = .int .i64 ((m * s : Nat) : Int) ∧ m * s < N + s ∧ d = .int .i64 m ∧ (manyE N (m * s) s).length + m = N ∧ Ix wr w.heap.size X bm (manyE N (m * s) s) ∧ Below w.heap.size w wr
def M3 (w : World) (N : Nat) (i : Value) (wr : World) : Prop := ∃ k : Nat, k ≤ N ∧ i = .int .i64 k ∧ Below w.heap.size w wr
theorem put_is (base X bm : Nat) (es es' : List (Lab × Int)) (L : Lab) (n : Int) (w : World) (h : Ix w base X bm es) (hL : LWf L) (hn : wf64 n) (hl : L ∉ es.map Prod.fst) (hlen : es.length ≤ 1000000) (hp : es'.Perm ((L, n) :: es)) (v : Value) (hv : v = labV L) :
    Calls Try.prog 11 #[.pointer (some ⟨X, 0, none⟩), v, .int .i64 n] w (PutYes w base X bm es') := by rw [hv]; exact put_new base X bm es es' L n w h hL hn hl hlen hp
theorem drop_is (base X bm : Nat) (es es' : List (Lab × Int)) (L : Lab) (n : Int) (w : World) (h : Ix w base X bm es) (hL : LWf L) (hlen : es.length ≤ 1000000) (hp : es.Perm ((L, n) :: es')) (v : Value) (hv : v = labV L) :
    Calls Try.prog 14 #[.pointer (some ⟨X, 0, none⟩), v] w (PutYes w base X bm es') := by rw [hv]; exact drop_yes base X bm es es' L n w h hL hlen hp
theorem get_is (base X bm : Nat) (es : List (Lab × Int)) (L : Lab) (n : Int) (b : Bool) (w : World) (h : Ix w base X bm es) (hL : LWf L) (hl : Look es L n b) (v : Value) (hv : v = labV L) :
    Calls Try.prog 13 #[.pointer (some ⟨X, 0, none⟩), v] w fun e w' => e = .returned (.tuple #[.int .i64 n, .bool b]) ∧ Below w.heap.size w w' := by rw [hv]; exact get_any base X bm es L n b w h hL hl
theorem dec_is (x : Int) (m : Nat) (w : World) (hx : x = m) (hm : m ≤ 1000) : Calls Try.prog 18 #[.int .i64 x] w fun e w' => e = .returned (.string (decS m)) ∧ Below w.heap.size w w' := dec_any x m w hx hm

set_option maxRecDepth 100000 in
set_option maxHeartbeats 8000000 in
theorem law5_go (N s : Nat) (w : World) (hN : N ≤ 2000) (h2 : 2 ≤ s) (h50 : s ≤ 50) :
    Calls Try.prog 5 #[.int .i64 N, .int .i64 s] w fun e w' => e = .returned (.bool true) ∧ Below w.heap.size w w' := by
  have d1 : decide ((N : Int) < 0) = false := by simp
  have d2 : decide ((2000 : Int) < (N : Int)) = false := by simp; omega
  have d2' : decide (2000 < N) = false := by simp; omega
  have d3 : decide ((s : Int) < 2) = false := by simp; omega
  have d3' : decide (s < 2) = false := by simp; omega
  have d4 : decide ((50 : Int) < (s : Int)) = false := by simp; omega
  have d4' : decide (50 < s) = false := by simp; omega
  go_enter Try.func5, Try.ntmps5
  go_wp2_with fail
  refine (new_any 0 w).mono ?_
  rintro e w1 ⟨X, bm, rfl, hix, hb1⟩
  clear d1 d2 d2' d3 d3' d4 d4'
  go_wp2_with fail
  go_loopw [29] (M1 w X bm N) (fun i _ => N - (intOf i).toNat)
  case atStart => exact ⟨0, by omega, rfl, hix, hb1⟩
  case round =>
    clear hix hb1
    obtain ⟨k, hk, rfl, hix, hbel⟩ := hrel
    have HIX := Lib.hid hix
    clear hix
    by_cases hlt : k < N
    · have HD := Lib.hid (dec_is ((k : Int) / 3) (k / 3) wr (by omega) (by omega))
      go_wp2_with fail
      refine HD.out.mono ?_
      rintro e w2 ⟨rfl, hb2⟩
      have hbw2 : Below w.heap.size w w2 := hbel.trans (hb2.mono hbel.size)
      have HP := Lib.hid (put_is w.heap.size X bm (putE k) (putE (k + 1)) (lm k) (k : Int) w2 (HIX.out.below hb2) (lm_wf (by omega)) (wf_nat (by omega)) (putE_new k) (by rw [putE_len]; omega) (by rw [putE_succ]; exact List.perm_append_singleton _ _) (.agg #[.string ⟨#[116]⟩, .string (decS (k / 3)), .int .i64 ((k : Int) % 3)]) rfl)
      clear hb2
      generalize decS (k / 3) = ds at HP ⊢
      go_wp2_with fail
      refine HP.out.mono ?_
      rintro e w3 ⟨rfl, h3, hk3⟩
      have hb3 := hbw2.trans (hk3.below hbw2.size (fun j hj => by have : j = bm := hj; rw [this]; exact HIX.out.loM))
      have H3 := Lib.hid h3
      clear h3 hk3
      go_wp2_with fail
      exact ⟨⟨k + 1, by omega, by go_num, H3.out, hb3⟩, by simp [intOf]; omega⟩
    · obtain rfl : k = N := by omega
      clear hlt
      go_wp2_with fail
      go_loopw [7, 8] (M2 w X bm k s) (fun _ i _ => k + s - (intOf i).toNat)
      case atStart => exact ⟨0, by simp, by omega, rfl, by rw [Nat.zero_mul, manyE_zero, putE_len]; rfl, by rw [Nat.zero_mul, manyE_zero]; exact HIX.out, hbel⟩
      case round =>
        clear HIX hbel
        obtain ⟨m, rfl, hcur, rfl, hlen, hix, hbel⟩ := hrel
        have HLEN := Lib.hid hlen; have HIX := Lib.hid hix
        have hml : m ≤ k := by omega
        have hgl := gone_len k (m * s) s
        obtain ⟨cur, hc⟩ : ∃ cur, cur = m * s := ⟨_, rfl⟩
        have HC := Lib.hid hc
        rw [← hc] at HIX hcur hgl
        rw [← hc]
        clear hlen hix hc
        by_cases hlt : cur < k
        · have HD := Lib.hid (dec_is ((cur : Int) / 3) (cur / 3) wr (by omega) (by omega))
          go_wp2_with fail
          refine HD.out.mono ?_
          rintro e w2 ⟨rfl, hb2⟩
          have hbw2 : Below w.heap.size w w2 := hbel.trans (hb2.mono hbel.size)
          have hperm := manyE_drop (N := k) (s := s) (m := m) (by omega) (by rw [← HC.out]; exact hlt)
          rw [← HC.out] at hperm
          have hpl := hperm.length_eq
          have HPL := Lib.hid hpl
          have HP := Lib.hid (drop_is w.heap.size X bm (manyE k cur s) (manyE k (cur + s) s) (lm cur) (cur : Int) w2 (HIX.out.below hb2) (lm_wf (by omega)) (by omega) hperm (.agg #[.string ⟨#[116]⟩, .string (decS (cur / 3)), .int .i64 ((cur : Int) % 3)]) rfl)
          clear hb2 hpl hperm
          generalize decS (cur / 3) = ds at HP ⊢
          go_wp2_with fail
          refine HP.out.mono ?_
          rintro e w3 ⟨rfl, h3, hk3⟩
          have hb3 := hbw2.trans (hk3.below hbw2.size (fun j hj => by have : j = bm := hj; rw [this]; exact HIX.out.loM))
          have H3 := Lib.hid h3
          clear h3 hk3
          go_wp2_with fail
          have e1 : (m + 1) * s = cur + s := by rw [Nat.succ_mul, ← HC.out]
          refine ⟨⟨m + 1, by rw [e1]; go_num, by rw [e1]; omega, by go_num, ?_, by rw [e1]; exact H3.out, hb3⟩, by simp [intOf]; omega⟩
          have h1 := HPL.out
          have h2' := HLEN.out
          rw [← HC.out] at h2'
          rw [e1]
          simp at h1
          omega
        · have hge : k ≤ cur := by omega
          have hkl : (manyE k cur s).length + m = k := by have := HLEN.out; rwa [← HC.out] at this
          have HKL := Lib.hid hkl
          clear hkl
          go_wp2_with fail
          go_loopw [61] (M3 wr k) (fun i _ => k - (intOf i).toNat)
          case atStart => exact ⟨0, by omega, rfl, Below.refl _ _⟩
          case round =>
            obtain ⟨i, hi, rfl, hbel3⟩ := hrel
            by_cases hli : i < k
            · have HD := Lib.hid (dec_is ((i : Int) / 3) (i / 3) wr (by omega) (by omega))
              have h3 := HIX.out.below hbel3
              have HI3 := Lib.hid h3
              clear h3
              go_wp2_with fail
              refine HD.out.mono ?_
              rintro e w4 ⟨rfl, hb4⟩
              have hb34 := below_trans hbel3 hb4
              have hlk := manyE_look (N := k) (s := s) (cur := cur) hli hge
              obtain ⟨md, hmd⟩ : ∃ md, md = i % s := ⟨_, rfl⟩
              rw [← hmd] at hlk
              have hmd' : (i : Int) % (s : Int) = (md : Int) := by rw [hmd]; simp
              have HMD := Lib.hid hmd
              by_cases hz : md = 0
              · have hzz : (i : Int) % (s : Int) = 0 := by rw [hmd', hz]; rfl
                simp only [hz, if_true, decide_true, Bool.not_true] at hlk
                have HG := Lib.hid (get_is w.heap.size X bm _ (lm i) 0 false w4 (HI3.out.below hb4) (lm_wf (by omega)) hlk (.agg #[.string ⟨#[116]⟩, .string (decS (i / 3)), .int .i64 ((i : Int) % 3)]) rfl)
                generalize decS (i / 3) = ds at HG ⊢
                clear hlk hb4 hmd hmd' hz
                go_wp2_with fail
                refine HG.out.mono ?_
                rintro e w5 ⟨rfl, hb5⟩
                have hb35 := below_trans hb34 hb5
                clear hb5 hb34
                go_wp2_with fail
                exact ⟨⟨i + 1, by omega, by go_num, hb35⟩, by simp [intOf]; omega⟩
              · have hzz : ((i : Int) % (s : Int) == 0) = false := by rw [hmd']; simp; omega
                simp only [hz, if_false, decide_false, Bool.not_false] at hlk
                have HG := Lib.hid (get_is w.heap.size X bm _ (lm i) (i : Int) true w4 (HI3.out.below hb4) (lm_wf (by omega)) hlk (.agg #[.string ⟨#[116]⟩, .string (decS (i / 3)), .int .i64 ((i : Int) % 3)]) rfl)
                generalize decS (i / 3) = ds at HG ⊢
                clear hlk hb4 hmd hmd' hz
                go_wp2_with fail
                refine HG.out.mono ?_
                rintro e w5 ⟨rfl, hb5⟩
                have hb35 := below_trans hb34 hb5
                clear hb5 hb34
                go_wp2_with fail
                exact ⟨⟨i + 1, by omega, by go_num, hb35⟩, by simp [intOf]; omega⟩
            · have hbf : Below w.heap.size w wr := hbel.trans (hbel3.mono hbel.size)
              have HL := Lib.hid (len_any w.heap.size X bm _ wr (HIX.out.below hbel3))
              have hkl := HKL.out
              generalize (manyE k cur s).length = ln at HL hkl hgl
              have hq : ((ln : Int) == (k : Int) - (m : Int)) = true := by simp; omega
              clear hkl hbel3
              go_wp2_with fail
              refine HL.out.mono ?_
              rintro e w5 ⟨rfl, rfl⟩
              go_wp2_with fail
              refine (same_law wr).mono ?_
              rintro e w6 ⟨rfl, hb6⟩
              go_wp2_with fail
              go_ret
              exact ⟨rfl, hbf.trans (hb6.mono hbf.size)⟩

set_option maxRecDepth 100000 in
set_option maxHeartbeats 4000000 in
theorem law5_any (n s : Int) (w : World) :
    Calls Try.prog 5 #[.int .i64 n, .int .i64 s] w fun e w' => e = .returned (.bool true) ∧ Below w.heap.size w w' := by
  by_cases h : 0 ≤ n ∧ n ≤ 2000 ∧ 2 ≤ s ∧ s ≤ 50
  · obtain ⟨N, rfl⟩ : ∃ N : Nat, n = N := ⟨n.toNat, by omega⟩
    obtain ⟨S, rfl⟩ : ∃ S : Nat, s = S := ⟨s.toNat, by omega⟩
    exact law5_go N S w (by omega) (by omega) (by omega)
  · skip
    have hcase : decide (n < 0) = true ∨ (decide (n < 0) = false ∧ decide (2000 < n) = true) ∨ (decide (n < 0) = false ∧ decide (2000 < n) = false ∧ decide (s < 2) = true) ∨ (decide (n < 0) = false ∧ decide (2000 < n) = false ∧ decide (s < 2) = false ∧ decide (50 < s) = true) := by
      simp; omega
    clear h
    rcases hcase with h1 | ⟨h1, h2⟩ | ⟨h1, h2, h3⟩ | ⟨h1, h2, h3, h4⟩
    all_goals
      go_enter Try.func5, Try.ntmps5
      go_wp2_with fail
      refine (same_law w).mono ?_
      rintro e w1 ⟨rfl, hb1⟩
      go_wp2_with fail
      go_ret
      exact ⟨rfl, hb1⟩
end Go.Proofs.Ytlhhfcnagkhllaa
