/-
  ranks.sortHalves: what it answers.
-/
import Derived.Test.YtdfalejldjbaiaaMerge
namespace Go.Proofs.Ytdfalejldjbaiaa
open Go.RowKit
set_option linter.unusedVariables false

def SPost (w : World) (B go gs N : Nat) (l : List Int) (pre seg post : List Nat) (e : Ending) (w' : World) : Prop :=
  ∃ s : List Nat, e = .returned (.int .i64 (inv l seg)) ∧ s.Perm seg ∧ Srt l s ∧ w'.heap[go]? = some (.cells (ints (nats pre ++ nats s ++ nats post)).toArray 3 (0, 0)) ∧
    w'.ownsRow B 3 1 (.slice (some ⟨gs, 0, none⟩) 0 N) 0 [] ∧ Kept (fun k => k = go ∨ k = gs) w w'

theorem srt_small {l : List Int} {s : List Nat} (h : s.length < 2) : Srt l s ∧ inv l s = 0 := by
  match s, h with
  | [], _ => exact ⟨List.Pairwise.nil, rfl⟩
  | [x], _ => exact ⟨List.pairwise_singleton _ _, rfl⟩
theorem copied {w : World} {go : Nat} {pre seg post s : List Nat} (h : w.heap[go]? = some (.cells (ints (nats pre ++ nats seg ++ nats post)).toArray 3 (0, 0))) (hl : s.length = seg.length) :
    (w.setRow go ((ints (nats pre ++ nats seg ++ nats post)).take pre.length ++ (ints (nats s) ++ (ints (nats pre ++ nats seg ++ nats post)).drop (pre.length + (ints (nats s)).length))).toArray).heap[go]? = some (.cells (ints (nats pre ++ nats s ++ nats post)).toArray 3 (0, 0)) := by
  rw [setRow_heap w go _ _ 3 _ h]
  congr 2
  have e1 : pre.length = (ints (nats pre)).length := by simp [ints, nats]
  have e2 : (ints (nats s)).length = (ints (nats seg)).length := by simp [ints, nats, hl]
  rw [e2]
  simp only [ints, List.map_append]
  rw [List.append_assoc]
  rw [show pre.length = (List.map (Value.int .i64) (nats pre)).length by simpa [ints] using e1]
  rw [List.take_left', List.drop_append]
  · simp
  · rfl

theorem wpList_copyRow {P : Program} {w : World} {ops : Array Oper} {rest : List Oper} {o : Oper} {a : Act} {Q : Exit → Act → World → Prop} (hgd : o.guard = none) (d s : Operand) (dT sT : TypeId)
    (ho : o.op = .call { callee := .builtin .copy, args := #[d, s], argTypes := #[dT, sT] }) (hu : P.underlying dT = some (.slice 3)) (hsz : (P.info? 3).map (·.size) = some 1)
    (g off n dCap gs sCap : Nat) (hd : a.eval d = .slice (some ⟨g, off, none⟩) n dCap) (hs : a.eval s = .slice (some ⟨gs, 0, none⟩) n sCap)
    (pre seg post M : List Nat) (hg : w.heap[g]? = some (.cells (ints (nats pre ++ nats seg ++ nats post)).toArray 3 (0, 0))) (ho' : pre.length = off) (hl : seg.length = n) (hM : M.length = n) (hr : RowAt w gs 0 (nats M))
    (h : ∀ w', w'.heap[g]? = some (.cells (ints (nats pre ++ nats M ++ nats post)).toArray 3 (0, 0)) → Kept (· = g) w w' → wpList P ops Q rest (a.put o.dst (goInt n)) w') : wpList P ops Q (o :: rest) a w := by
  subst ho'
  have hcl : (ints (nats M)).length = n := by simp [ints, nats, hM]
  refine wpList_copy_own hgd d s dT sT ho 3 hu hsz g pre.length n dCap ⟨gs, 0, none⟩ n sCap hd hs _ 3 hg (ints (nats M)) (by rw [hcl]; exact (Nat.min_self n).symm) hr.news (by simp [nats]; omega) (ints_oneCell _ _) ?_
  have hh := h _ (copied hg (by omega)) (kept_setRow w g _)
  rw [hcl] at hh ⊢
  exact hh

theorem Try.size3 : (Try.prog.info? 3).map (·.size) = some 1 := by kernel_rfl

set_option maxRecDepth 100000 in
set_option maxHeartbeats 4000000 in
theorem sort_any (B go gs N : Nat) (A : Option Addr) (cl : Nat) (l : List Int) (hne : ¬ go = gs) (hBo : B ≤ go) (hBs : B ≤ gs) (hN : N ≤ 1000000) (k : Nat) :
    ∀ (lo n c : Nat) (pre seg post : List Nat) (w : World), seg.length ≤ k → seg.length = n → pre.length = lo → n ≤ c → c ≤ 1000000 → n ≤ N → B ≤ w.heap.size → Row w B A l →
      w.heap[go]? = some (.cells (ints (nats pre ++ nats seg ++ nats post)).toArray 3 (0, 0)) → w.ownsRow B 3 1 (.slice (some ⟨gs, 0, none⟩) 0 N) 0 [] → seg.Pairwise (· < ·) → (∀ a ∈ seg, a < l.length) →
      Calls Try.prog 21 #[.slice (some ⟨go, lo, none⟩) n c, .slice (some ⟨gs, 0, none⟩) N N, .slice A l.length cl] w (SPost w B go gs N l pre seg post) := by
  induction k with
  | zero =>
    intro lo n c pre seg post w hk hn hlo hnc hc hnN hBw hl hgo hsp hasc hlow
    obtain rfl : seg = [] := List.eq_nil_of_length_eq_zero (by omega)
    obtain rfl : n = 0 := by simpa using hn.symm
    go_enter Try.func21, Try.ntmps21
    go_wp2_with fail
    go_ret
    exact ⟨[], by rw [(srt_small (l := l) (s := []) (by simp)).2]; rfl, List.Perm.refl _, (srt_small (by simp)).1, hgo, hsp, Kept.refl _ _⟩
  | succ k ih =>
    intro lo n c pre seg post w hk hn hlo hnc hc hnN hBw hl hgo hsp hasc hlow
    by_cases h2 : n < 2
    · have h3 := srt_small (l := l) (s := seg) (by omega)
      have h2' : (n : Int) < 2 := by omega
      go_enter Try.func21, Try.ntmps21
      go_wp2_with fail
      go_ret
      exact ⟨seg, by rw [h3.2]; rfl, List.Perm.refl _, h3.1, hgo, hsp, Kept.refl _ _⟩
    · obtain ⟨h, hh⟩ : ∃ h : Nat, h = n / 2 := ⟨_, rfl⟩
      have hq : (n : Int).tdiv 2 = (h : Int) := by rw [hh]; rfl
      have h2' : ¬ (n : Int) < 2 := by omega
      have hb1 : 1 ≤ h := by omega
      have hb2 : h + 1 ≤ n := by omega
      have HH := Lib.hid hh; clear hh
      obtain ⟨sl, sr, rfl, hsl, hsr⟩ : ∃ sl sr, seg = sl ++ sr ∧ sl.length = h ∧ sr.length = n - h := ⟨seg.take h, seg.drop h, by simp, by simp; omega, by simp; omega⟩
      obtain ⟨ha1, ha2, ha3⟩ := List.pairwise_append.1 hasc
      have hi1 := inv_le l sl
      have hi2 := inv_le l sr
      have hs1 : sl.length * sl.length ≤ 1000000 * 1000000 := Nat.mul_le_mul (by omega) (by omega)
      have hs2 : sr.length * sr.length ≤ 1000000 * 1000000 := Nat.mul_le_mul (by omega) (by omega)
      have hi1' : inv l sl ≤ 1000000000000 := by omega
      have hi2' : inv l sr ≤ 1000000000000 := by omega
      clear hi1 hi2 hs1 hs2
      have HN := Lib.hid hn; clear hn
      have HGO := Lib.hid hgo; clear hgo
      have HLO := Lib.hid hlo; clear hlo
      have HSL := Lib.hid hsl; clear hsl
      have HSR := Lib.hid hsr; clear hsr
      go_enter Try.func21, Try.ntmps21
      go_wp2_with fail
      go_quiet (fail)
      go_wp2_with fail
      have hgoq : (w.drewN nq).heap[go]? = some (.cells (ints (nats pre ++ nats sl ++ nats (sr ++ post))).toArray 3 (0, 0)) := by
        have := HGO.out
        simpa [nats] using this
      refine (ih lo h c pre sl (sr ++ post) (w.drewN nq) (by have := HSL.out; have := HN.out; simp at *; omega) HSL.out HLO.out (by omega) hc (by omega) hBw hl hgoq hsp ha1 (fun a ha => hlow a (by simp [ha]))).mono ?_
      rintro e w1 ⟨s1, rfl, hp1, hS1, hgo1, hsp1, hk1⟩
      clear hgoq
      have hbw1 : Below B w w1 := (Kept.trans (kept_drewN w nq _) hk1).below hBw (fun k hk => by rcases hk with rfl | rfl <;> assumption)
      have hsz1 := hbw1.size
      go_wp2_with fail
      have hgo1' : w1.heap[go]? = some (.cells (ints (nats (pre ++ s1) ++ nats sr ++ nats post)).toArray 3 (0, 0)) := by
        simpa [nats] using hgo1
      have hl1 : s1.length = h := by rw [hp1.length_eq]; exact HSL.out
      refine (ih (lo + h) (n - h) (c - h) (pre ++ s1) sr post w1 (by have := HSL.out; have := HN.out; simp at *; omega) HSR.out (by rw [List.length_append, HLO.out, hl1]) (by omega) (by omega) (by omega) (by omega) (hl.below hbw1) hgo1' hsp1 ha2 (fun a ha => hlow a (by simp [ha]))).mono ?_
      rintro e w2 ⟨s2, rfl, hp2, hS2, hgo2, hsp2, hk2⟩
      clear hgo1 hgo1' hsp1
      have hbw2 : Below B w w2 := hbw1.trans (hk2.below (by omega) (fun k hk => by rcases hk with rfl | rfl <;> assumption))
      have hsz2 := hbw2.size
      have hl2 : s2.length = n - h := by rw [hp2.length_eq]; exact HSR.out
      have HL1 := Lib.hid hl1; clear hl1
      have HL2 := Lib.hid hl2; clear hl2
      go_wp2_with fail
      have hgo2' : w2.heap[go]? = some (.cells (ints (nats pre ++ nats (s1 ++ s2) ++ nats post)).toArray 3 (0, 0)) := by
        simpa [nats] using hgo2
      have hleft : Half w2 go (.slice (some ⟨go, lo, none⟩) h c) s1 := by
        refine ⟨lo, c, by rw [HL1.out], by rw [HL1.out]; omega, rowAt_of (pre := nats pre) (post := nats s2 ++ nats post) (e := 3) ?_ (by rw [nats_length]; exact HLO.out)⟩
        simpa [nats] using hgo2
      have hright : Half w2 go (.slice (some ⟨go, lo + h, none⟩) (n - h) (c - h)) s2 := by
        refine ⟨lo + h, c - h, by rw [HL2.out], by rw [HL2.out]; omega, rowAt_of (pre := nats (pre ++ s1)) (post := nats post) (e := 3) hgo2 (by rw [nats_length, List.length_append, HLO.out, HL1.out])⟩
      have hcr := cross_le l s1 s2
      have hcr2 : s1.length * s2.length ≤ 1000000 * 1000000 := Nat.mul_le_mul (by rw [HL1.out]; omega) (by rw [HL2.out]; omega)
      have hcr' : cross l s1 s2 ≤ 1000000000000 := by omega
      clear hcr hcr2
      refine (merge_any w2 B gs go N A cl l _ _ s1 s2 hsp2 hne hBo hBs (by omega) (hl.below hbw2) hleft hright hS1 hS2 (fun a ha b hb => ha3 a (hp1.mem_iff.1 ha) b (hp2.mem_iff.1 hb)) (fun a ha => hlow a (by simp [hp1.mem_iff.1 ha])) (fun a ha => hlow a (by simp [hp2.mem_iff.1 ha])) (by rw [HL1.out, HL2.out]; omega) (by rw [HL1.out, HL2.out]; omega)).mono ?_
      rintro e w3 ⟨rfl, hown3, hk3⟩
      have hgo3 := hk3.objOf hgo2' hne
      have hlen3 : s1.length + s2.length = n := by rw [HL1.out, HL2.out]; omega
      rw [hlen3] at hown3 ⊢
      have HL3 := Lib.hid hlen3; clear hlen3 hgo2 hgo2' hleft hright hsp2
      obtain ⟨M, hM⟩ : ∃ M, M = s1.merge s2 (le l) := ⟨_, rfl⟩
      rw [← hM] at hown3
      have hMl : M.length = n := by rw [hM, (List.merge_perm_append (le l)).length_eq, List.length_append]; exact HL3.out
      have hMp : M.Perm (sl ++ sr) := by rw [hM]; exact (List.merge_perm_append (le l)).trans (hp1.append hp2)
      have hMs : Srt l M := by rw [hM]; exact hS1.merge hS2
      have hcross : cross l s1 s2 = cross l sl sr := (cross_left hp1 s2).trans (cross_right sl hp2)
      have hinv : inv l (sl ++ sr) = inv l sl + inv l sr + cross l s1 s2 := by rw [inv_append, hcross]
      clear hcross hM
      have HINV := Lib.hid hinv; clear hinv
      have hrow3 : RowAt w3 gs 0 (nats M) := by
        intro j hj
        rw [nats_length] at hj
        rw [Nat.zero_add, hown3.cellAt j (by omega)]
        simp [ints, nats, hj]
      have HML := Lib.hid hMl; clear hMl
      have HG3 := Lib.hid hgo3; clear hgo3
      go_wp2_with (with_reducible refine wpList_copyRow rfl (.tmp 43) (.tmp 44) 22 22 rfl Try.underlying22 Try.size3 go lo n c gs N rfl rfl pre (s1 ++ s2) post M HG3.out HLO.out (by rw [List.length_append]; exact HL3.out) HML.out hrow3 ?_; intro w4 hgo4 hk4; have HG4 := Lib.hid hgo4; clear hgo4)
      go_ret
      refine ⟨M, ret_int (by rw [HINV.out]; omega), hMp, hMs, HG4.out, hk4.own (own_room hown3) (fun e => hne e.symm), ?_⟩
      exact ((((kept_drewN w nq _).trans hk1).trans hk2).trans (hk3.mono (fun k hk => Or.inr hk))).trans (hk4.mono (fun k hk => Or.inl hk))
end Go.Proofs.Ytdfalejldjbaiaa
