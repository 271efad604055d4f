/-
  ranks.merge: what it answers.
-/
import Derived.Test.YtdfalejldjbaiaaFrame
import Derived.Test.YtdfalejldjbaiaaMath
namespace Go.Proofs.Ytdfalejldjbaiaa
open Go.RowKit
set_option linter.unusedVariables false

def slen : Value → Nat | .slice _ n _ => n | _ => 0
/-- A half that is being merged: what is left of it. -/
def Half (w : World) (g : Nat) (v : Value) (xs : List Nat) : Prop := ∃ o c, v = .slice (some ⟨g, o, none⟩) xs.length c ∧ xs.length ≤ c ∧ RowAt w g o (nats xs)
theorem Half.kept {S : Nat → Prop} {w w' : World} {g : Nat} {v : Value} {xs : List Nat} (h : Half w g v xs) (hk : Kept S w w') (hs : ¬ S g) : Half w' g v xs := by
  obtain ⟨o, c, h1, h2, h3⟩ := h
  exact ⟨o, c, h1, h2, h3.kept hk hs⟩
theorem half_tail {w : World} {g o c x : Nat} {xs : List Nat} (hl : (x :: xs).length ≤ c) (h : RowAt w g o (nats (x :: xs))) : Half w g (.slice (some ⟨g, if c = 1 then o else o + 1, none⟩) xs.length (c - 1)) xs := by
  refine ⟨_, _, rfl, by simp at hl; omega, ?_⟩
  by_cases hc : c = 1
  · have : xs = [] := by simp at hl; exact List.eq_nil_of_length_eq_zero (by omega)
    subst this
    intro j hj; simp [nats] at hj
  · rw [if_neg hc]
    exact h.tail

structure MInv (l : List Int) (L R : List Nat) (d xs ys : List Nat) (ac : Nat) : Prop where
  list : d ++ xs.merge ys (le l) = L.merge R (le l)
  sum : ac + cross l xs ys = cross l L R
  left : Srt l xs
  right : Srt l ys
  apart : ∀ a ∈ xs, ∀ b ∈ ys, a < b
  lowL : ∀ a ∈ xs, a < l.length
  lowR : ∀ a ∈ ys, a < l.length
  len : d.length + (xs.length + ys.length) = L.length + R.length

theorem MInv.first {l : List Int} {L R d xs ys : List Nat} {x y ac : Nat} (h : MInv l L R d (x :: xs) (y :: ys) ac) (hle : el l x ≤ el l y) : MInv l L R (d ++ [x]) xs (y :: ys) ac := by
  have hlt := h.apart x (by simp) y (by simp)
  refine ⟨?_, ?_, h.left.tail, h.right, fun a ha b hb => h.apart a (by simp [ha]) b hb, fun a ha => h.lowL a (by simp [ha]), h.lowR, ?_⟩
  · rw [← h.list, merge_first hlt hle]; simp
  · rw [← h.sum, cross_first h.right hle]
  · have := h.len; simp at this ⊢; omega
theorem MInv.second {l : List Int} {L R d xs ys : List Nat} {x y ac : Nat} (h : MInv l L R d (x :: xs) (y :: ys) ac) (hlt' : el l y < el l x) : MInv l L R (d ++ [y]) (x :: xs) ys (ac + (xs.length + 1)) := by
  have hlt := h.apart x (by simp) y (by simp)
  refine ⟨?_, ?_, h.left, h.right.tail, fun a ha b hb => h.apart a ha b (by simp [hb]), h.lowL, fun a ha => h.lowR a (by simp [ha]), ?_⟩
  · rw [← h.list, merge_second hlt hlt']; simp
  · rw [← h.sum, cross_second h.left hlt']; omega
  · have := h.len; simp at this ⊢; omega
theorem MInv.done1 {l : List Int} {L R d ys : List Nat} {ac : Nat} (h : MInv l L R d [] ys ac) : d ++ ys = L.merge R (le l) ∧ ac = cross l L R := by
  refine ⟨?_, ?_⟩
  · rw [← h.list, List.nil_merge]
  · rw [← h.sum]; simp [cross]
theorem MInv.done2 {l : List Int} {L R d xs : List Nat} {ac : Nat} (h : MInv l L R d xs [] ac) : d ++ xs = L.merge R (le l) ∧ ac = cross l L R := by
  refine ⟨?_, ?_⟩
  · rw [← h.list, List.merge_right]
  · rw [← h.sum, cross_nil]; omega
theorem MInv.bound {l : List Int} {L R d xs ys : List Nat} {ac : Nat} (h : MInv l L R d xs ys ac) : ac ≤ L.length * R.length := by
  have h1 := h.sum
  have h2 := cross_le l L R
  omega

def MRel (w : World) (B gs go N : Nat) (l : List Int) (L R : List Nat) (out left right ac : Value) (wr : World) : Prop :=
  ∃ (d xs ys : List Nat) (n : Nat), out = .slice (some ⟨gs, 0, none⟩) d.length N ∧ wr.ownsRow B 3 1 (.slice (some ⟨gs, 0, none⟩) d.length N) d.length (ints (nats d)) ∧ Half wr go left xs ∧ Half wr go right ys ∧ ac = .int .i64 n ∧ MInv l L R d xs ys n ∧ Kept (· = gs) w wr
def MPost (w : World) (B gs N : Nat) (l : List Int) (L R : List Nat) (e : Ending) (w' : World) : Prop :=
  e = .returned (.tuple #[.slice (some ⟨gs, 0, none⟩) (L.length + R.length) N, .int .i64 (cross l L R)]) ∧ w'.ownsRow B 3 1 (.slice (some ⟨gs, 0, none⟩) (L.length + R.length) N) (L.length + R.length) (ints (nats (L.merge R (le l)))) ∧ Kept (· = gs) w w'

theorem own_nats {w : World} {B gs N : Nat} {d : List Nat} {x : Nat} (h : w.ownsRow B 3 1 (.slice (some ⟨gs, 0, none⟩) (d.length + 1) N) (d.length + 1) (ints (nats d) ++ [.int .i64 (x : Int)])) :
    w.ownsRow B 3 1 (.slice (some ⟨gs, 0, none⟩) (d ++ [x]).length N) (d ++ [x]).length (ints (nats (d ++ [x]))) := by
  simpa [ints, nats] using h

set_option maxRecDepth 100000 in
set_option maxHeartbeats 4000000 in
theorem merge_any (w : World) (B gs go N : Nat) (A : Option Addr) (cl : Nat) (l : List Int) (left right : Value) (L R : List Nat)
    (hsp : w.ownsRow B 3 1 (.slice (some ⟨gs, 0, none⟩) 0 N) 0 []) (hne : ¬ go = gs) (hBo : B ≤ go) (hBs : B ≤ gs) (hBw : B ≤ w.heap.size) (hl : Row w B A l) (hL : Half w go left L) (hR : Half w go right R)
    (hsL : Srt l L) (hsR : Srt l R) (hap : ∀ a ∈ L, ∀ b ∈ R, a < b) (hlL : ∀ a ∈ L, a < l.length) (hlR : ∀ a ∈ R, a < l.length) (hN : L.length + R.length ≤ N) (hsm : L.length + R.length ≤ 1000000) :
    Calls Try.prog 22 #[.slice (some ⟨gs, 0, none⟩) 0 N, left, right, .slice A l.length cl] w (MPost w B gs N l L R) := by
  obtain ⟨i0, hi, hz0, hz1, hz2⟩ := info_parts Try.info3
  have hprod : L.length * R.length ≤ 1000000 * 1000000 := Nat.mul_le_mul (by omega) (by omega)
  have HPR := Lib.hid hprod; clear hprod
  obtain ⟨o1, c1, rfl, hc1, hr1⟩ := hL
  obtain ⟨o2, c2, rfl, hc2, hr2⟩ := hR
  go_enter Try.func22, Try.ntmps22
  go_wp2
  go_loopw [0, 1, 2, 10] (MRel w B gs go N l L R) (fun _ a b _ _ => slen a + slen b)
  case atStart =>
    exact ⟨[], L, R, 0, rfl, by simpa [ints, nats] using hsp, ⟨o1, c1, rfl, hc1, hr1⟩, ⟨o2, c2, rfl, hc2, hr2⟩, rfl, ⟨by simp, by omega, hsL, hsR, hap, hlL, hlR, by simp⟩, Kept.refl _ _⟩
  case round =>
    clear hr1 hr2 hc1 hc2 hsL hsR hap hlL hlR hsp
    obtain ⟨d, xs, ys, n, rfl, hown, ⟨o1, c1, rfl, hc1, hr1⟩, ⟨o2, c2, rfl, hc2, hr2⟩, rfl, hm, hk⟩ := hrel
    have hlen := hm.len
    have hnb := hm.bound
    have hnb' : n ≤ 1000000000000 := by have := HPR.out; omega
    clear hnb
    have HM := Lib.hid hm; clear hm
    have hbel := hk.below hBw (fun k hk => by have : k = gs := hk; omega)
    cases xs with
    | nil =>
      have hd := HM.out.done1
      have HD := Lib.hid hd; clear hd
      have hlen' : d.length + ys.length = L.length + R.length := by simpa using hlen
      have hroom : d.length + ys.length ≤ N := by omega
      have HLEN := Lib.hid hlen'
      clear hlen hlen' hr1
      have hr1 : RowAt wr go o1 [] := fun j hj => by simp at hj
      go_wp2_with (first
        | (at_builtin; refine wpList_fitRow rfl (.tmp 52) (.tmp 53) 22 rfl B 3 i0 Try.underlying22 hi hz1 gs d.length N _ rfl hown go o1 0 _ [] rfl rfl hr1 (by omega) ?_; intro w2 hown2 hk2; simp only [Nat.add_zero, List.map_nil, List.append_nil] at hown2; have hr22 := hr2.kept hk2 hne)
        | (at_builtin; refine wpList_fitRow rfl (.tmp 55) (.tmp 56) 22 rfl B 3 i0 Try.underlying22 hi hz1 gs d.length N _ rfl hown2 go o2 ys.length _ (nats ys) rfl (nats_length _) hr22 (by omega) ?_; intro w3 hown3 hk3))
      go_ret2
      obtain ⟨e2, e3⟩ := HD.out
      have e1 := HLEN.out
      refine ⟨?_, ?_, (hk.trans hk2).trans hk3⟩
      · rw [e1, e3]; rfl
      · rw [← e1, ← e2]; simpa [ints, nats] using hown3
    | cons x xs =>
      cases ys with
      | nil =>
        have hd := HM.out.done2
        have HD := Lib.hid hd; clear hd
        have hlen' : d.length + (xs.length + 1) = L.length + R.length := by simpa using hlen
        have hroom : d.length + (xs.length + 1) ≤ N := by omega
        have HLEN := Lib.hid hlen'
        clear hlen hlen' hr2
        have hr2 : ∀ w', RowAt w' go o2 [] := fun w' j hj => by simp at hj
        go_wp2_with (first
          | (at_builtin; refine wpList_fitRow rfl (.tmp 52) (.tmp 53) 22 rfl B 3 i0 Try.underlying22 hi hz1 gs d.length N _ rfl hown go o1 (xs.length + 1) _ (nats (x :: xs)) rfl (nats_length _) hr1 (by omega) ?_; intro w2 hown2 hk2)
          | (at_builtin; refine wpList_fitRow rfl (.tmp 55) (.tmp 56) 22 rfl B 3 i0 Try.underlying22 hi hz1 gs (d.length + (xs.length + 1)) N _ rfl hown2 go o2 0 _ [] rfl rfl (hr2 _) (by omega) ?_; intro w3 hown3 hk3))
        go_ret2
        obtain ⟨e2, e3⟩ := HD.out
        have e1 := HLEN.out
        refine ⟨?_, ?_, (hk.trans hk2).trans hk3⟩
        · rw [← e1, e3]; simp
        · rw [← e1, ← e2]; simpa [ints, nats] using hown3
      | cons y ys =>
        have hx1 := hr1.head
        have hy1 := hr2.head
        have hlx := HM.out.lowL x (by simp)
        have hly := HM.out.lowR y (by simp)
        obtain ⟨b, off, ex, rfl, hb, hex, hcx⟩ := row_at (hl.below hbel) hlx
        have hcy := Row.at2 (hl.below hbel) hly
        obtain ⟨ey, hey⟩ : ∃ ey, ey = l.getD y 0 := ⟨_, rfl⟩
        rw [← hey] at hcy
        have hroom : d.length + 1 ≤ N := by simp at hlen; omega
        clear hlen
        have HEX := Lib.hid hex
        have HEY := Lib.hid hey
        clear hex hey
        simp only [List.length_cons] at hc1 hc2
        by_cases hle : ex ≤ ey
        · have hm2 := HM.out.first (by unfold el; rw [← HEX.out, ← HEY.out]; exact hle)
          have HM2 := Lib.hid hm2; clear hm2
          by_cases hc : c1 = 1
          · subst hc
            obtain rfl : xs = [] := List.eq_nil_of_length_eq_zero (by omega)
            go_wp2_with fail
            go_quiet (fail)
            have howq : (wr.drewN nq).ownsRow B 3 1 (.slice (some ⟨gs, 0, none⟩) d.length N) d.length (ints (nats d)) := hown
            go_wp2_with (at_builtin; refine wpList_fit1 rfl (.tmp 32) (.tmp 36) 22 rfl B 3 i0 Try.underlying22 hi hz1 gs d.length N _ rfl howq (.int .i64 (x : Int)) rfl rfl (by omega) ?_; intro w2 hown2 hk2)
            have hk3 := (hk.trans (kept_drewN wr nq _)).trans hk2
            exact ⟨⟨d ++ [x], [], y :: ys, n, by simp, own_nats hown2, ⟨_, _, rfl, by simp, fun j hj => by simp [nats] at hj⟩, ⟨o2, c2, rfl, by simp; omega, hr2.kept ((kept_drewN wr nq _).trans hk2) hne⟩, rfl, HM2.out, hk3⟩, by simp [slen]⟩
          · go_wp2_with fail
            go_quiet (fail)
            have howq : (wr.drewN nq).ownsRow B 3 1 (.slice (some ⟨gs, 0, none⟩) d.length N) d.length (ints (nats d)) := hown
            go_wp2_with (at_builtin; refine wpList_fit1 rfl (.tmp 32) (.tmp 36) 22 rfl B 3 i0 Try.underlying22 hi hz1 gs d.length N _ rfl howq (.int .i64 (x : Int)) rfl rfl (by omega) ?_; intro w2 hown2 hk2)
            have hk3 := (hk.trans (kept_drewN wr nq _)).trans hk2
            have hkq := (kept_drewN wr nq (· = gs)).trans hk2
            exact ⟨⟨d ++ [x], xs, y :: ys, n, by simp, own_nats hown2, ⟨o1 + 1, c1 - 1, by simp, by omega, RowAt.tail (hr1.kept hkq hne)⟩, ⟨o2, c2, rfl, by simp; omega, hr2.kept hkq hne⟩, rfl, HM2.out, hk3⟩, by simp [slen]⟩
        · have hm2 := HM.out.second (by unfold el; rw [← HEX.out, ← HEY.out]; omega)
          have HM2 := Lib.hid hm2; clear hm2
          have hxl : xs.length ≤ 1000000 := by have := HM.out.len; simp at this; omega
          by_cases hc : c2 = 1
          · subst hc
            obtain rfl : ys = [] := List.eq_nil_of_length_eq_zero (by omega)
            go_wp2_with fail
            go_quiet (fail)
            have howq : (wr.drewN nq).ownsRow B 3 1 (.slice (some ⟨gs, 0, none⟩) d.length N) d.length (ints (nats d)) := hown
            go_wp2_with (at_builtin; refine wpList_fit1 rfl (.tmp 40) (.tmp 44) 22 rfl B 3 i0 Try.underlying22 hi hz1 gs d.length N _ rfl howq (.int .i64 (y : Int)) rfl rfl (by omega) ?_; intro w2 hown2 hk2)
            have hk3 := (hk.trans (kept_drewN wr nq _)).trans hk2
            have hkq := (kept_drewN wr nq (· = gs)).trans hk2
            exact ⟨⟨d ++ [y], x :: xs, [], n + (xs.length + 1), by simp, own_nats hown2, ⟨o1, c1, rfl, by simp; omega, hr1.kept hkq hne⟩, ⟨_, _, rfl, by simp, fun j hj => by simp [nats] at hj⟩, by go_num, HM2.out, hk3⟩, by simp [slen]⟩
          · go_wp2_with fail
            go_quiet (fail)
            have howq : (wr.drewN nq).ownsRow B 3 1 (.slice (some ⟨gs, 0, none⟩) d.length N) d.length (ints (nats d)) := hown
            go_wp2_with (at_builtin; refine wpList_fit1 rfl (.tmp 40) (.tmp 44) 22 rfl B 3 i0 Try.underlying22 hi hz1 gs d.length N _ rfl howq (.int .i64 (y : Int)) rfl rfl (by omega) ?_; intro w2 hown2 hk2)
            have hk3 := (hk.trans (kept_drewN wr nq _)).trans hk2
            have hkq := (kept_drewN wr nq (· = gs)).trans hk2
            exact ⟨⟨d ++ [y], x :: xs, ys, n + (xs.length + 1), by simp, own_nats hown2, ⟨o1, c1, rfl, by simp; omega, hr1.kept hkq hne⟩, ⟨o2 + 1, c2 - 1, by simp, by omega, RowAt.tail (hr2.kept hkq hne)⟩, by go_num, HM2.out, hk3⟩, by simp [slen]⟩
end Go.Proofs.Ytdfalejldjbaiaa
