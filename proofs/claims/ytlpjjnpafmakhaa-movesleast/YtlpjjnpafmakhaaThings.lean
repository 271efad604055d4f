/-
  things: the line-up read off the ring.
-/
import Derived.Test.YtlpjjnpafmakhaaLuOf
namespace Go.Proofs.Ytlpjjnpafmakhaa
open Go.RowKit
set_option linter.unusedVariables false

theorem links_next {N P : List Int} {a z : Nat} {s : List Nat} (h : Links N P a s z) {k : Nat} (hk : k < s.length) : el N s[k] = ((s.drop (k + 1)).headD z : Nat) := by
  induction s generalizing a k with
  | nil => simp at hk
  | cons x s ih =>
    cases k with
    | zero => have := links_first h.2.2; simpa using this
    | succ k => have := ih h.2.2 (k := k) (by simpa using hk); simpa using this
theorem head_le {n : Nat} {s : List Nat} (hs : Fine n s) (k : Nat) : (s.drop k).headD n ≤ n := by
  rcases h : s.drop k with _ | ⟨x, t⟩
  · simp
  · have : x ∈ s := List.mem_of_mem_drop (i := k) (by rw [h]; simp)
    exact Nat.le_of_lt (hs.low x this)
theorem head_at {n : Nat} {s : List Nat} {k : Nat} (hk : k < s.length) : (s.drop k).headD n = s[k] := by
  rw [List.drop_eq_getElem_cons hk]; rfl
theorem head_end {n : Nat} {s : List Nat} {k : Nat} (hk : s.length ≤ k) : (s.drop k).headD n = n := by
  rw [List.drop_eq_nil_of_le hk]; rfl
def lenV : Value → Nat
  | .slice _ n _ => n
  | _ => 0
def TRel (w : World) (n : Nat) (s : List Nat) (v i : Value) (wr : World) : Prop := ∃ k : Nat, k ≤ s.length ∧ i = .int .i64 ((s.drop k).headD n : Nat) ∧ OwnI wr w.heap.size v (nats (s.take k)) ∧ Below w.heap.size w wr

set_option maxRecDepth 100000 in
set_option maxHeartbeats 8000000 in
theorem things_any (base U bp bn n : Nat) (N P : List Int) (s : List Nat) (w : World) (h : LU w base U bp bn n N P) (hr : Ring n N P s) (hn : n ≤ 1000000) :
    Calls Try.prog 24 #[.pointer (some ⟨U, 0, none⟩)] w (Made w (nats s)) := by
  obtain ⟨i0, hi, hz0, hz1, hz2⟩ := info_parts Try.info3
  have hlen := hr.fine.len
  have c0 := h.c0
  have c2 := h.c2
  have ce := h.cellN (Nat.le_refl n)
  have e0 : el N n = ((s.drop 0).headD n : Nat) := by have := links_first hr.links; simpa using this
  rw [e0] at ce
  have hh0 := head_le hr.fine 0
  obtain ⟨t0, ht0⟩ : ∃ t0, t0 = (s.drop 0).headD n := ⟨_, rfl⟩
  rw [← ht0] at ce hh0
  have HT0 := Lib.hid ht0
  have H := Lib.hid h; have HR := Lib.hid hr
  clear h hr e0 ht0
  go_enter Try.func24, Try.ntmps24
  go_wp2_with fail
  go_quiet (fail)
  have HN := Lib.hid (bel_drewN (Below.refl w.heap.size w) nq)
  generalize w.drewN nq = w1 at HN ⊢
  clear c0 c2 ce
  go_wp2_with fail
  go_loopw [3, 4] (TRel w n s) (fun v _ _ => s.length - lenV v)
  case atStart => exact ⟨0, by omega, by rw [HT0.out], World.ownsRow_nil _ _ _ _, HN.out⟩
  case round =>
    obtain ⟨k, hk, rfl, hown, hbel⟩ := hrel
    have hsz := hbel.size
    have hLU := H.out.keep (S := fun _ => False) (kept_below hbel _) (fun h => h) (fun h => h) (fun h => h)
    have c0 := hLU.c0
    have c2 := hLU.c2
    have htl : (nats (s.take k)).length = k := by rw [nats_length, List.length_take]; omega
    obtain ⟨Ao, co, rfl, hrow, hco, hcm, hA0⟩ := row_own hown
    by_cases hlt : k < s.length
    · have e1 := head_at (n := n) hlt
      obtain ⟨t, ht⟩ : ∃ t, t = s[k] := ⟨_, rfl⟩
      have htn : t < n := by rw [ht]; exact HR.out.fine.low _ (List.getElem_mem _)
      have cn := hLU.cellN (show t ≤ n by omega)
      have e2 := links_next HR.out.links hlt
      rw [← ht] at e1 e2
      have HCN := Lib.hid (show some (Value.int .i64 (el N t)) = some (Value.int .i64 ((s.drop (k + 1)).headD n : Nat)) by rw [e2])
      rw [e2] at cn
      have hne : ((t : Int) != (n : Int)) = true := by simp; omega
      have hne2 : (t != n) = true := by simp; omega
      obtain ⟨t', ht'⟩ : ∃ t', t' = (s.drop (k + 1)).headD n := ⟨_, rfl⟩
      rw [← ht'] at cn HCN
      have HT' := Lib.hid ht'; have HT := Lib.hid ht; have HTL := Lib.hid htl; have HLU := Lib.hid hLU
      rw [e1]
      unfold OwnI at hown
      rw [htl] at hown ⊢
      clear e1 e2 ht ht' htl hrow hLU hA0
      go_wp2_with (at_builtin; refine wpList_app1 rfl _ _ 22 rfl w.heap.size 3 i0 (.int .i64 0) 8 Try.underlying22 hi hz0 hz1 hz2 rfl _ _ _ rfl hown (.int .i64 (t : Int)) rfl rfl (by omega) (by simp [maxLen]; omega) (by omega) ?_; intro v' w2 hown2 hbel2; have hlu2 := H.out.keep (S := fun _ => False) (kept_below (hbel.trans hbel2) _) (fun h => h) (fun h => h) (fun h => h); have c22 := hlu2.c2; have cn2 := (hlu2.cellN (show t ≤ n by omega)).trans (HCN.out))
      refine ⟨⟨k + 1, by omega, by rw [HT'.out], ?_, hbel.trans hbel2⟩, ?_⟩
      · rw [List.take_succ_eq_append_getElem hlt, ← HT.out, nats_snoc]
        exact own_next' HTL.out hown2
      · obtain ⟨A2, c2, rfl, _⟩ := row_own (own_next' HTL.out hown2)
        simp [lenV, HTL.out]
        omega
    · have e1 := head_end (n := n) (s := s) (k := k) (by omega)
      rw [e1]
      have hne : ((n : Int) != (n : Int)) = false := by simp
      have hne2 : (n != n) = false := by simp
      obtain rfl : k = s.length := by omega
      rw [List.take_of_length_le (Nat.le_refl _)] at hown htl ⊢
      have HO := Lib.hid hown; have HB := Lib.hid hbel
      clear e1 hrow hLU hA0 htl hown hbel
      go_wp2_with fail
      go_ret
      exact made_own HO.out HB.out
end Go.Proofs.Ytlpjjnpafmakhaa
