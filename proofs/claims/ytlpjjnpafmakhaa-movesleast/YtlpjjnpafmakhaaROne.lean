/-
  tendrilref08.find, Start, One: what they answer.
-/
import Derived.Test.YtlpjjnpafmakhaaRPut
import Derived.Test.YtlpjjnpafmakhaaDoAll
namespace Go.Proofs.Ytlpjjnpafmakhaa
open Go.RowKit
set_option linter.unusedVariables false

theorem put_own {base : Nat} {v : Value} {zs : List Int} (at' : Nat) (x : Int) (w : World) (hown : OwnI w base v zs) (hl : zs.length ≤ 1000000) (hat : at' ≤ zs.length) :
    Calls Try.prog 36 #[v, .int .i64 at', .int .i64 x] w (MadeV w (zs.take at' ++ x :: zs.drop at')) := by
  obtain ⟨A, c, rfl, hrow, h1, h2, h3⟩ := row_own hown
  rcases hown.2 with ⟨hn, hz⟩ | ⟨g, cap, cur, he, _⟩
  · have hz' : zs = [] := List.eq_nil_of_length_eq_zero hz
    subst hz'
    obtain rfl : at' = 0 := by simpa using hat
    simp at hn
    obtain ⟨rfl, rfl⟩ := hn
    simpa using put_nil x w
  · simp at he
    obtain ⟨rfl, rfl⟩ := he
    exact put_some g 0 c zs at' x w hrow hl hat h1 h2

set_option maxHeartbeats 2000000 in
theorem find_yes (A : Option Addr) (c : Nat) (u v : List Int) (x : Int) (w : World) (hr : Row w w.heap.size A (u ++ x :: v)) (hl : (u ++ x :: v).length ≤ 1000000) (hu : ∀ j, j < u.length → u.getD j 0 ≠ x) :
    Calls Try.prog 37 #[.slice A (u ++ x :: v).length c, .int .i64 x] w fun e w' => e = .returned (.int .i64 u.length) ∧ w = w' := by
  obtain ⟨zs, hzs⟩ : ∃ zs, zs = u ++ x :: v := ⟨_, rfl⟩
  rw [← hzs] at hr hl ⊢
  have hlen : u.length < zs.length := by rw [hzs]; simp
  have hat : ∀ j, j < u.length → zs.getD j 0 ≠ x := fun j hj => by
    have := hu j hj
    rw [hzs]
    simpa [List.getD_eq_getElem?_getD, List.getElem?_append_left hj] using this
  have hx : zs.getD u.length 0 = x := by rw [hzs]; simp [List.getD_eq_getElem?_getD]
  have HAT := Lib.hid hat; have HX := Lib.hid hx
  clear hzs hat hx hu
  go_enter Try.func37, Try.ntmps37
  go_wp2_with fail
  go_loop [8] (fun i => ∃ k : Nat, k ≤ u.length ∧ i = .int .i64 k) (fun i => zs.length - (intOf i).toNat)
  case atStart => exact ⟨0, by omega, rfl⟩
  case round =>
    obtain ⟨k, hk, rfl⟩ := hrel
    obtain ⟨b, off, y, rfl, hb, hy, hc⟩ := row_at hr (show k < zs.length by omega)
    by_cases hlt : k < u.length
    · have hne : ¬ y = x := by rw [hy]; exact HAT.out k hlt
      have hq : (y == x) = false := by simpa using hne
      clear hy
      go_wp2_with fail
      exact ⟨⟨k + 1, by omega, by go_num⟩, by simp [intOf]; omega⟩
    · obtain rfl : k = u.length := by omega
      have hye : y = x := by rw [hy]; exact HX.out
      clear hy
      subst hye
      go_wp2_with fail
      go_ret
      exact ⟨rfl, rfl⟩
set_option maxHeartbeats 2000000 in
theorem find_no (A : Option Addr) (c : Nat) (zs : List Int) (x : Int) (w : World) (hr : Row w w.heap.size A zs) (hl : zs.length ≤ 1000000) (hu : ∀ j, j < zs.length → zs.getD j 0 ≠ x) :
    Calls Try.prog 37 #[.slice A zs.length c, .int .i64 x] w fun e w' => e = .returned (.int .i64 (-1)) ∧ w = w' := by
  have HAT := Lib.hid hu
  clear hu
  go_enter Try.func37, Try.ntmps37
  go_wp2_with fail
  go_loop [8] (fun i => ∃ k : Nat, k ≤ zs.length ∧ i = .int .i64 k) (fun i => zs.length - (intOf i).toNat)
  case atStart => exact ⟨0, by omega, rfl⟩
  case round =>
    obtain ⟨k, hk, rfl⟩ := hrel
    by_cases hlt : k < zs.length
    · obtain ⟨b, off, y, rfl, hb, hy, hc⟩ := row_at hr hlt
      have hne : ¬ y = x := by rw [hy]; exact HAT.out k hlt
      have hq : (y == x) = false := by simpa using hne
      clear hy
      go_wp2_with fail
      exact ⟨⟨k + 1, by omega, by go_num⟩, by simp [intOf]; omega⟩
    · go_wp2_with fail
      go_ret
      exact ⟨rfl, rfl⟩

/-! Start: by insertion. -/
structure StTo (l : List Int) (k : Nat) (s : List Nat) : Prop where
  perm : s.Perm (oldTo l k)
  up : s.Pairwise fun a b => el l a < el l b
theorem StTo.low {l : List Int} {k : Nat} {s : List Nat} (h : StTo l k s) {a : Nat} (ha : a ∈ s) : a < k ∧ 0 ≤ el l a := by
  have := h.perm.mem_iff.1 ha
  simpa [oldTo] using this
theorem StTo.len {l : List Int} {k : Nat} {s : List Nat} (h : StTo l k s) : s.length ≤ k := by
  rw [h.perm.length_eq]; exact oldTo_len l k
theorem StTo.put {l : List Int} {k q : Nat} {s : List Nat} (h : StTo l k s) (ht : twice l = false) (hk : k < l.length) (h0 : 0 ≤ el l k) (hq : q ≤ s.length) (hlo : ∀ j, (hj : j < q) → el l (s[j]'(by omega)) < el l k) (hhi : ∀ hj : q < s.length, ¬ el l s[q] < el l k) :
    StTo l (k + 1) (s.take q ++ k :: s.drop q) := by
  refine ⟨?_, ?_⟩
  · rw [oldTo_yes h0]
    refine List.perm_middle.trans ?_
    rw [List.take_append_drop]
    exact (List.Perm.cons k h.perm).trans (List.perm_append_singleton k (oldTo l k)).symm
  · have hpd := h.up
    rw [← List.take_append_drop q s, List.pairwise_append] at hpd
    rw [List.pairwise_append, List.pairwise_cons]
    have hlow : ∀ a ∈ s.take q, el l a < el l k := by
      intro a ha
      obtain ⟨j, hj, rfl⟩ := List.mem_take_iff_getElem.1 ha
      exact hlo j (by omega)
    have hhigh : ∀ a ∈ s.drop q, el l k < el l a := by
      intro a ha
      have hqs : q < s.length := by
        have := List.length_pos_of_mem ha
        simp at this; omega
      have hmem := List.mem_of_mem_drop ha
      have hne : el l a ≠ el l k := by
        intro e
        have hak := (h.low hmem).1
        have := twice_not ht (show a < l.length by omega) hk (h.low hmem).2 e
        omega
      have h1 := hhi hqs
      rw [List.drop_eq_getElem_cons hqs] at ha
      have hpd2 := hpd.2.1
      rw [List.drop_eq_getElem_cons hqs, List.pairwise_cons] at hpd2
      rcases List.mem_cons.1 ha with rfl | ha
      · omega
      · have := hpd2.1 a ha
        omega
    refine ⟨hpd.1, ⟨hhigh, hpd.2.1⟩, fun a ha b hb => ?_⟩
    have h1 := hlow a ha
    rcases List.mem_cons.1 hb with rfl | hb
    · exact h1
    · have := hhigh b hb; omega
theorem StTo.skip {l : List Int} {k : Nat} {s : List Nat} (h : StTo l k s) (h0 : el l k < 0) : StTo l (k + 1) s := ⟨by rw [oldTo_no h0]; exact h.perm, h.up⟩
theorem StTo.done {l : List Int} {s : List Nat} (h : StTo l l.length s) (ht : twice l = false) : s = startL l := isStart_only ⟨h.perm, h.up⟩ (start_is ht)
theorem nats_take (s : List Nat) (q : Nat) : (nats s).take q = nats (s.take q) := by simp [nats]
theorem nats_drop (s : List Nat) (q : Nat) : (nats s).drop q = nats (s.drop q) := by simp [nats]
theorem nats_cons (x : Nat) (s : List Nat) : nats (x :: s) = (x : Int) :: nats s := rfl
theorem nats_append (s t : List Nat) : nats (s ++ t) = nats s ++ nats t := by simp [nats]

def StRel (w : World) (l : List Int) (v i : Value) (wr : World) : Prop := ∃ (k : Nat) (s : List Nat), k ≤ l.length ∧ i = .int .i64 k ∧ StTo l k s ∧ OwnI wr w.heap.size v (nats s) ∧ Below w.heap.size w wr
def StIn (w : World) (l : List Int) (k : Nat) (s : List Nat) (v : Value) (at' : Value) (wr : World) : Prop := ∃ q : Nat, q ≤ s.length ∧ at' = .int .i64 q ∧ (∀ j, (hj : j < s.length) → j < q → el l s[j] < el l k) ∧ OwnI wr w.heap.size v (nats s) ∧ Below w.heap.size w wr
theorem own_drewN {w : World} {base : Nat} {v : Value} {zs : List Int} (h : OwnI w base v zs) (n : Nat) : OwnI (w.drewN n) base v zs := h

set_option maxRecDepth 100000 in
set_option maxHeartbeats 8000000 in
theorem refStart_any (A : Option Addr) (c : Nat) (l : List Int) (w : World) (hr : Row w w.heap.size A l) (hl : l.length ≤ 1000000) (ht : twice l = false) :
    Calls Try.prog 25 #[.slice A l.length c] w (Made w (nats (startL l))) := by
  have HT := Lib.hid ht; clear ht
  go_enter Try.func25, Try.ntmps25
  go_wp2_with fail
  go_loopw [3, 8] (StRel w l) (fun _ i _ => l.length - (intOf i).toNat)
  case atStart => exact ⟨0, [], by omega, rfl, ⟨by simp [oldTo], List.Pairwise.nil⟩, World.ownsRow_nil _ _ _ _, Below.refl _ _⟩
  case round =>
    obtain ⟨k, s, hkl, rfl, hst, hown, hbel⟩ := hrel
    have hsl := hst.len
    have HST := Lib.hid hst; clear hst
    obtain ⟨Ao, co, hv, -, -, -, -⟩ := row_own hown
    rw [nats_length] at hv
    subst hv
    by_cases hlt : k < l.length
    · have HO := Lib.hid hown; have HB := Lib.hid hbel
      clear hown hbel
      go_wp2_with fail
      go_loopw [5] (StIn w l k s (.slice Ao s.length co)) (fun a _ => s.length - (intOf a).toNat)
      case atStart => exact ⟨0, by omega, rfl, fun j hj h => by omega, HO.out, HB.out⟩
      case round =>
        clear HO HB
        obtain ⟨q, hq, rfl, hlo, hown, hbel⟩ := hrel
        obtain ⟨b, off, x, rfl, hb, hx, hc⟩ := row_at (hr.below hbel) hlt
        have ex : el l k = x := hx.symm
        have HX := Lib.hid ex; have HLO := Lib.hid hlo; have HO := Lib.hid hown
        clear hx ex hlo
        by_cases hqs : q < s.length
        · have hd0 : decide (q < s.length) = true := by simpa using hqs
          by_cases h0 : x < 0
          · have hd1 : decide (0 ≤ x) = false := by simpa using h0
            clear hown
            go_wp2_with fail
            go_quiet (fail)
            go_wp2
            exact ⟨⟨k + 1, s, by omega, by go_num, HST.out.skip (by rw [HX.out]; exact h0), own_drewN HO.out _, bel_drewN hbel _⟩, by simp [intOf]; omega⟩
          · have hd1 : decide (0 ≤ x) = true := by simp; omega
            obtain ⟨Ao', co', hv', hro, -, -, -⟩ := row_own hown
            rw [nats_length] at hv'
            obtain ⟨rfl, rfl⟩ : Ao = Ao' ∧ co = co' := by simpa using hv'
            obtain ⟨b2, off2, t', rfl, hb2, ht', hc2⟩ := row_at hro (show q < (nats s).length by rw [nats_length]; exact hqs)
            obtain ⟨t, htd⟩ : ∃ t, t = s[q] := ⟨_, rfl⟩
            have etk : t' = (t : Int) := by rw [ht']; simp [nats, List.getD_eq_getElem?_getD, hqs, htd]
            subst etk
            have htl : t < l.length := by have := (HST.out.low (show t ∈ s by rw [htd]; exact List.getElem_mem _)).1; omega
            have hc3 := Row.at2 (hr.below hbel) htl
            obtain ⟨y, hy⟩ : ∃ y, y = l.getD t 0 := ⟨_, rfl⟩
            rw [← hy] at hc3
            have ey : el l t = y := hy.symm
            have HY := Lib.hid ey; have HTD := Lib.hid htd
            clear hy ey htd ht' hv' hro hown
            by_cases h1 : y < x
            · have hd2 : decide (y < x) = true := by simpa using h1
              go_wp2_with fail
              go_quiet (fail)
              go_wp2
              refine ⟨⟨q + 1, by omega, by go_num, fun j hj hjq => ?_, own_drewN HO.out _, bel_drewN hbel _⟩, by simp [intOf]; omega⟩
              rcases Nat.lt_or_ge j q with h | h
              · exact HLO.out j hj h
              · obtain rfl : j = q := by omega
                rw [← HTD.out, HX.out, HY.out]; exact h1
            · have hd2 : decide (y < x) = false := by simpa using h1
              have hput := fun n => put_own q (k : Int) (wr.drewN n) (own_drewN HO.out n) (by rw [nats_length]; omega) (by rw [nats_length]; omega)
              have HP := Lib.hid hput; clear hput
              go_wp2_with fail
              go_quiet (fail)
              go_wp2_with fail
              refine (HP.out _).mono ?_
              rintro e w3 ⟨v3, rfl, hown3, hb3⟩
              rw [nats_take, nats_drop, ← nats_cons, ← nats_append] at hown3
              obtain ⟨s', hs'⟩ : ∃ s', s' = s.take q ++ k :: s.drop q := ⟨_, rfl⟩
              rw [← hs'] at hown3
              obtain ⟨A3, c3, hv3, -, -, -, -⟩ := row_own hown3
              rw [nats_length] at hv3
              subst hv3
              have hb3' := (bel_drewN hbel nq).trans (hb3.mono (bel_drewN hbel nq).size)
              have HO3 := Lib.hid hown3; have HS' := Lib.hid hs'
              clear hown3 hs'
              go_wp2_with fail
              refine ⟨⟨k + 1, s', by omega, by go_num, ?_, own_down HO3.out hbel.size, hb3'⟩, by simp [intOf]; omega⟩
              rw [HS'.out]
              exact HST.out.put HT.out hlt (by rw [HX.out]; omega) hq (fun j hj => HLO.out j (by omega) hj) (fun hj => by rw [← HTD.out, HX.out, HY.out]; omega)
        · obtain rfl : q = s.length := by omega
          have hd0 : decide (s.length < s.length) = false := by simp
          clear hown
          by_cases h0 : x < 0
          · have hd1 : decide (0 ≤ x) = false := by simpa using h0
            go_wp2_with fail
            go_quiet (fail)
            go_wp2
            exact ⟨⟨k + 1, s, by omega, by go_num, HST.out.skip (by rw [HX.out]; exact h0), own_drewN HO.out _, bel_drewN hbel _⟩, by simp [intOf]; omega⟩
          · have hd1 : decide (0 ≤ x) = true := by simp; omega
            have hput := fun n => put_own s.length (k : Int) (wr.drewN n) (own_drewN HO.out n) (by rw [nats_length]; omega) (by rw [nats_length]; omega)
            have HP := Lib.hid hput; clear hput
            go_wp2_with fail
            go_quiet (fail)
            go_wp2_with fail
            refine (HP.out _).mono ?_
            rintro e w3 ⟨v3, rfl, hown3, hb3⟩
            rw [nats_take, nats_drop, ← nats_cons, ← nats_append] at hown3
            obtain ⟨s', hs'⟩ : ∃ s', s' = s.take s.length ++ k :: s.drop s.length := ⟨_, rfl⟩
            rw [← hs'] at hown3
            obtain ⟨A3, c3, hv3, -, -, -, -⟩ := row_own hown3
            rw [nats_length] at hv3
            subst hv3
            have hb3' := (bel_drewN hbel nq).trans (hb3.mono (bel_drewN hbel nq).size)
            have HO3 := Lib.hid hown3; have HS' := Lib.hid hs'
            clear hown3 hs'
            go_wp2_with fail
            refine ⟨⟨k + 1, s', by omega, by go_num, ?_, own_down HO3.out hbel.size, hb3'⟩, by simp [intOf]; omega⟩
            rw [HS'.out]
            exact HST.out.put HT.out hlt (by rw [HX.out]; omega) (Nat.le_refl _) (fun j hj => HLO.out j (by omega) hj) (fun hj => by omega)
    · obtain rfl : k = l.length := by omega
      have HO := Lib.hid hown; clear hown
      go_wp2_with fail
      go_ret
      have := HO.out
      rw [HST.out.done HT.out] at this
      have hlen := (start_is HT.out).perm.length_eq
      rw [← HST.out.done HT.out] at this ⊢
      have h5 := made_own (w := w) this hbel
      exact h5
end Go.Proofs.Ytlpjjnpafmakhaa
