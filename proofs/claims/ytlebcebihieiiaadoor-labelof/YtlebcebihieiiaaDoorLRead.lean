/-
  label.Read: what it answers.
-/
import Derived.Test.YtlebcebihieiiaaDoorLMath
import Derived.Test.YtlebcebihieiiaaDoorEUnescape
import Derived.BigQuiet
namespace Go.Proofs.YtlebcebihieiiaaDoor
open Go.RowKit Go.Sort
set_option linter.unusedVariables false
theorem sign_iff (c : UInt8) : E.signs.contains c = true ↔ ((c.toNat : Int) = 58 ∨ (c.toNat : Int) = 35) := by
  have : ((List.range 256).all fun n => E.signs.contains (UInt8.ofNat n) == (decide (((UInt8.ofNat n).toNat : Int) = 58) || decide (((UInt8.ofNat n).toNat : Int) = 35))) = true := by decide +kernel
  have h := E.byte_all (p := fun c => E.signs.contains c == (decide ((c.toNat : Int) = 58) || decide ((c.toNat : Int) = 35))) this c
  have h' : E.signs.contains c = (decide ((c.toNat : Int) = 58) || decide ((c.toNat : Int) = 35)) := eq_of_beq h
  rw [h']
  rw [Bool.or_eq_true, decide_eq_true_eq, decide_eq_true_eq]
theorem byte_get {s : ByteArray} {j : Nat} {c : UInt8} (h : s.data.toList[j]? = some c) : byte s j = c.toNat := by
  unfold byte; rw [List.getD_eq_getElem?_getD, h]; rfl
def Marked (s : ByteArray) (j : Nat) : Prop := byte s j = 58 ∨ byte s j = 35
theorem any_upto (s : ByteArray) : ∀ k, k ≤ s.size → (Lib.NoAny s.data.toList E.signs k ∧ ∀ j, j < k → ¬ Marked s j) ∨ (∃ i, i < k ∧ Marked s i ∧ (∀ j, j < i → ¬ Marked s j) ∧ Lib.indexAny s.data.toList E.signs = i) := by
  intro k
  induction k with
  | zero => intro _; exact .inl ⟨Lib.NoAny.zero _ _, fun j hj => absurd hj (Nat.not_lt_zero _)⟩
  | succ k ih =>
    intro hk
    rcases ih (by omega) with ⟨h1, h2⟩ | ⟨i, h1, h2⟩
    · have hl : k < s.data.toList.length := by rw [bsize]; omega
      have hg := List.getElem?_eq_getElem hl
      cases hc : E.signs.contains s.data.toList[k] with
      | true => exact .inr ⟨k, by omega, by unfold Marked; rw [byte_get hg]; exact (sign_iff _).1 hc, h2, Lib.indexAny_hit h1 hg hc⟩
      | false =>
        refine .inl ⟨h1.succ hg hc, fun j hj hm => ?_⟩
        rcases Nat.lt_or_ge j k with h | h
        · exact h2 j h hm
        · have : j = k := by omega
          subst this
          unfold Marked at hm
          rw [byte_get hg] at hm
          rw [(sign_iff _).2 hm] at hc
          cases hc
    · exact .inr ⟨i, by omega, h2⟩
theorem any_cases (s : ByteArray) : ((∀ j, j < s.size → ¬ Marked s j) ∧ Lib.indexAny s.data.toList E.signs = -1) ∨ (∃ i, i < s.size ∧ Marked s i ∧ (∀ j, j < i → ¬ Marked s j) ∧ Lib.indexAny s.data.toList E.signs = i) := by
  rcases any_upto s s.size (Nat.le_refl _) with ⟨h1, h2⟩ | h
  · exact .inl ⟨h2, Lib.indexAny_none (by rw [bsize]; exact h1)⟩
  · exact .inr h
theorem isAt_small {s : ByteArray} {i : Nat} {x : Lab} (h : IsAt s i x) : i ≤ 32 := by
  have := (tag_size h.2.1).2
  rw [pre_size s i (Nat.le_of_lt h.1)] at this
  exact this
theorem no_marks {s : ByteArray} {k : Nat} (hk : k = min s.size 33) (h : ∀ j, j < k → ¬ Marked (s.extract 0 k) j) (i : Nat) (x : Lab) : ¬ IsAt s i x := fun hx => by
  have h1 := isAt_small hx
  have h2 := hx.1
  have hik : i < k := by omega
  refine h i hik ?_
  unfold Marked
  rw [byte_pre s k i hik]
  exact mark_at hx
theorem first_mark {s : ByteArray} {k i j : Nat} {x : Lab} (hk : k = min s.size 33) (hi : i < k) (hm : Marked (s.extract 0 k) i) (hn : ∀ j, j < i → ¬ Marked (s.extract 0 k) j) (hx : IsAt s j x) : j = i := by
  have h1 := isAt_small hx
  have h2 := hx.1
  have hjk : j < k := by omega
  unfold Marked at hm hn
  rw [byte_pre s k i hi] at hm
  rcases Nat.lt_trichotomy j i with h | h | h
  · exact absurd (by rw [byte_pre s k j hjk]; exact mark_at hx) (hn j h)
  · exact h
  · have := tag_mark hx.2.1 (j := i) (by rw [pre_size s j (by omega)]; exact h)
    rw [byte_pre s j i h] at this
    rcases hm with hm | hm
    · exact absurd hm this.1
    · exact absurd hm this.2
theorem whole_wide (s : ByteArray) (w : World) (hs : s.size ≤ 900000) (hv : Vars w) : Calls Tryd.prog 44 #[.string s] w (C.WholePost w s.data.toList) := by
  by_cases hw : s.size ≤ 100000
  · exact C.whole_any s w hw hv
  · have h20' : (20 : Int) < (s.size : Int) := by omega
    have hf : C.whN s.data.toList = (0, false) := if_pos (by rw [bsize]; omega)
    have HF := Lib.hid hf; clear hf hw
    go_enter Tryd.func44, Tryd.ntmps44
    go_wp2_with fail
    go_ret2
    exact C.wholePost_mk HF.out (Below.refl _ _)
def CountPost (w : World) (s : ByteArray) (e : Ending) (w' : World) : Prop := ∃ n b, e = .returned (.tuple #[.int .i64 n, .bool b]) ∧ (b = true → ∀ t, NumAt s ⟨t, noS, n⟩) ∧ (b = false → ∀ x, ¬ NumAt s x) ∧ Below w.heap.size w w'
theorem readCount_any (s : ByteArray) (w : World) (hs : s.size ≤ 900000) (hv : Vars w) : Calls Tryd.prog 26 #[.string s] w (CountPost w s) := by
  have HC := Lib.hid (whole_wide s w hs hv)
  obtain ⟨n, b, hn⟩ : ∃ n b, C.whN s.data.toList = (n, b) := ⟨_, _, rfl⟩
  have HN := Lib.hid hn
  clear hs hv hn
  cases b with
  | false =>
    go_enter Tryd.func26, Tryd.ntmps26
    go_wp2_with fail
    refine HC.out.mono ?_
    unfold C.WholePost
    rw [HN.out]
    rintro e w' ⟨rfl, hb⟩
    go_wp2_with fail
    go_ret2
    exact ⟨n, false, rfl, by simp, (fun _ x hx => absurd (HN.out.symm.trans hx.1) (by simp)), hb⟩
  | true =>
    by_cases h1 : 1 ≤ n
    · go_enter Tryd.func26, Tryd.ntmps26
      go_wp2_with fail
      refine HC.out.mono ?_
      unfold C.WholePost
      rw [HN.out]
      rintro e w' ⟨rfl, hb⟩
      go_wp2_with fail
      go_ret2
      exact ⟨n, true, rfl, fun _ t => ⟨HN.out, h1, rfl⟩, by simp, hb⟩
    · have HH := Lib.hid h1
      go_enter Tryd.func26, Tryd.ntmps26
      go_wp2_with fail
      refine HC.out.mono ?_
      unfold C.WholePost
      rw [HN.out]
      rintro e w' ⟨rfl, hb⟩
      go_wp2_with fail
      go_ret2
      exact ⟨n, false, by first | rfl | simp [HH.out], by simp, (fun _ x hx => by have := HN.out.symm.trans hx.1; simp at this; have := hx.2.1; have := HH.out; omega), hb⟩
def KeyPost (w : World) (s : ByteArray) (e : Ending) (w' : World) : Prop := ∃ k b, e = .returned (.tuple #[.string k, .bool b]) ∧ (b = true → ∀ t, KeyAt s ⟨t, k, 0⟩) ∧ (b = false → ∀ x, ¬ KeyAt s x) ∧ Below w.heap.size w w'
theorem readKey_any (s : ByteArray) (w : World) (hs : s.size ≤ 900000) (hv : Vars w) : Calls Tryd.prog 25 #[.string s] w (KeyPost w s) := by
  have HC := Lib.hid (E.unescape_any s w hs hv)
  obtain ⟨u, p, er, hu⟩ : ∃ u p er, E.unesc s.data.toList = (u, p, er) := ⟨_, _, _, rfl⟩
  obtain ⟨k, hk⟩ : ∃ k, k = E.str u := ⟨_, rfl⟩
  have hor := E.unesc_only s.data.toList
  rw [hu] at hor
  have HU := Lib.hid hu
  have HK := Lib.hid hk
  by_cases hbig : 393216 < s.size
  · have hbig' : (393216 : Int) < (s.size : Int) := by omega
    have HO := Lib.hid (show ∀ x, ¬ KeyAt s x from fun x hx => by
      have h1 := hx.1
      rw [HU.out] at h1
      rcases hor with ⟨h2, h3, h4⟩ | ⟨h2, _⟩
      · have h5 := E.escL_length u
        have h6 : E.escL u = s.data.toList := h4
        rw [h6, bsize] at h5
        have h7 := hx.2.2.2.1
        rw [hx.2.1, HU.out] at h7
        have h8 : (E.str u).size = u.length := List.size_toArray
        change (E.str u).size ≤ 65536 at h7
        omega
      · have h1' : er = 0 := h1
        have h2' : er = 2 := h2
        omega)
    clear hs hor hk hu hbig hv
    go_enter Tryd.func25, Tryd.ntmps25
    go_wp2_with fail
    go_ret2
    exact ⟨_, false, rfl, by simp, fun _ => HO.out, Below.refl _ _⟩
  · have hbig' : ¬ (393216 : Int) < (s.size : Int) := by omega
    clear hs hv hu hk
    rcases hor with ⟨h2, h3, h4⟩ | ⟨h2, h3, h4⟩
    · have h2' : er = 0 := h2
      subst h2'
      clear h2 h3 h4
      by_cases hne : k = noS
      · have hk' : k.toList.isEmpty = true := isEmpty_noS.2 hne
        have HN := Lib.hid hne
        clear hne
        go_enter Tryd.func25, Tryd.ntmps25
        go_wp2_with fail
        refine HC.out.mono ?_
        unfold E.UPost
        rw [HU.out]
        rintro e w' ⟨rfl, hb⟩
        dsimp only
        rw [← HK.out]
        go_wp2_with fail
        go_ret2
        exact ⟨k, false, rfl, by simp, fun _ x hx => by have := hx.2.1; rw [HU.out, ← HK.out] at this; exact hx.2.2.1 (this.trans HN.out), hb⟩
      · have hk' : k.toList.isEmpty = false := by
          cases hb : k.toList.isEmpty with
          | true => exact absurd (isEmpty_noS.1 hb) hne
          | false => rfl
        have HN := Lib.hid hne
        clear hne
        cases hfit : decide (k.size ≤ 65536) with
        | true =>
          go_enter Tryd.func25, Tryd.ntmps25
          go_wp2_with fail
          refine HC.out.mono ?_
          unfold E.UPost
          rw [HU.out]
          rintro e w' ⟨rfl, hb⟩
          dsimp only
          rw [← HK.out]
          have HFI := Lib.hid hfit
          clear hfit
          go_wp2_with fail
          refine (fits_any k w').mono ?_
          rintro e w2 ⟨rfl, rfl⟩
          rw [HFI.out]
          go_wp2_with fail
          go_ret2
          exact ⟨k, true, rfl, fun _ t => ⟨by rw [HU.out], by rw [HU.out]; exact HK.out, HN.out, of_decide_eq_true HFI.out, rfl⟩, by simp, hb⟩
        | false =>
          go_enter Tryd.func25, Tryd.ntmps25
          go_wp2_with fail
          refine HC.out.mono ?_
          unfold E.UPost
          rw [HU.out]
          rintro e w' ⟨rfl, hb⟩
          dsimp only
          rw [← HK.out]
          have HFI := Lib.hid hfit
          clear hfit
          go_wp2_with fail
          refine (fits_any k w').mono ?_
          rintro e w2 ⟨rfl, rfl⟩
          rw [HFI.out]
          go_wp2_with fail
          go_ret2
          exact ⟨k, false, rfl, by simp, fun _ x hx => by
            have h1 := hx.2.1
            rw [HU.out, ← HK.out] at h1
            have h2 := hx.2.2.2.1
            rw [h1] at h2
            exact of_decide_eq_false HFI.out h2, hb⟩
    · have h2' : er = 2 := h2
      subst h2'
      clear h2 h3 h4
      go_enter Tryd.func25, Tryd.ntmps25
      go_wp2_with fail
      refine HC.out.mono ?_
      unfold E.UPost
      rw [HU.out]
      rintro e w' ⟨rfl, hb⟩
      dsimp only
      rw [← HK.out]
      go_wp2_with fail
      go_ret2
      exact ⟨k, false, rfl, by simp, fun _ x hx => by have := hx.1; rw [HU.out] at this; exact absurd this (by simp), hb⟩
end Go.Proofs.YtlebcebihieiiaaDoor
