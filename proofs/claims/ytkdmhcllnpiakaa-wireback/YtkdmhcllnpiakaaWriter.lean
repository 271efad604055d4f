/-
  wire's Writer: what its functions do.
-/
import Derived.Test.YtkdmhcllnpiakaaFrame
import Derived.WalkSpells
import Derived.Deep.RegionHeld3
namespace Go.Proofs.Ytkdmhcllnpiakaa
open Go.RowKit
set_option linter.unusedVariables false

/-- A writer lies at block p, has written bs, and holds them in v. -/
def Wr (w : World) (p : Nat) (v : Value) (bs : List Int) : Prop :=
  w.cell? ⟨p, 0, none⟩ = some v ∧ w.frozen? ⟨p, 0, none⟩ = false ∧ OwnB w (p + 1) v bs

theorem own_slice {w : World} {base : Nat} {e : TypeId} {v : Value} {n : Nat} {xs : List Value} (h : w.ownsRow base e 1 v n xs) : ∃ A c, v = .slice A n c ∧ (A = none → c = 0) := by
  rcases h.2 with ⟨rfl, rfl⟩ | ⟨g, cap, cur, rfl, _⟩
  · exact ⟨none, 0, rfl, fun _ => rfl⟩
  · exact ⟨_, _, rfl, fun h => by cases h⟩

def NewPost (w : World) (e : Ending) (w' : World) : Prop := e = .returned (.pointer (some ⟨w.heap.size, 0, none⟩)) ∧ Wr w' w.heap.size (.slice none 0 0) [] ∧ Below w.heap.size w w' ∧ w'.heap.size = w.heap.size + 1

theorem new_any (w : World) : Calls Try.prog 7 #[] w (NewPost w) := by
  go_enter Try.func7, Try.ntmps7
  go_wp2
  go_ret
  refine ⟨rfl, ⟨?_, ?_, World.ownsRow_nil _ _ _ _⟩, (Below.refl _ _).alloc (Nat.le_refl _) _, by simp⟩
  · simp
  · simp

def WrPost (p : Nat) (v : Value) (bs : List Int) (w : World) (e : Ending) (w' : World) : Prop :=
  ∃ v', e = .returned (.tuple #[]) ∧ Wr w' p v' bs ∧ Kept (fun k => k = p ∨ v.ownBlock = some k) w w' ∧ Fresh w v v'

set_option maxHeartbeats 1000000 in
theorem add_any (p : Nat) (v : Value) (bs : List Int) (A : Option Addr) (c B : Nat) (ms : List Int) (w : World) (hw : Wr w p v bs) (hr : Row .u8 w B A ms) (hc0 : A = none → c = 0) (hl : bs.length + ms.length ≤ 140737488355328) :
    Calls Try.prog 22 #[.pointer (some ⟨p, 0, none⟩), .slice A ms.length c] w (WrPost p v (bs ++ ms) w) := by
  obtain ⟨i0, hi, hz0, hz1, hz2⟩ := info_parts Try.info5
  obtain ⟨hcell, hfr, hown⟩ := hw
  have hp := World.block_lt_of_cell? w _ hcell
  unfold OwnB at hown
  have hnp : ¬ v.ownBlock = some p := fun h => by have := (hown.lt _ h).1; omega
  have hp' : p + 1 ≤ w.heap.size := hp
  go_enter Try.func22, Try.ntmps22
  go_wp2_with (at_builtin; refine wpList_appRow rfl _ _ 26 rfl (p + 1) 5 i0 (.int .u8 0) Try.underlying26 hi hz0 hz1 hz2 rfl _ _ _ rfl hown .u8 B A c ms rfl hr hc0 hl hp' ?_; intro v' w1 hown1 hk1 hf1; obtain ⟨A', c', rfl, -⟩ := own_slice hown1; have hcell1 := hk1.cellOf hcell hnp; have hfr1 := (hk1.frozen hp hnp).trans hfr)
  go_end0
  refine ⟨_, rfl, ⟨?_, ?_, ?_⟩, ?_, hf1⟩
  · exact World.cell?_setCell_same _ _ _ hcell1
  · rw [World.frozen?_setCell]; exact hfr1
  · unfold OwnB
    have := ownsRow_setCell_below hown1 (a := ⟨p, 0, none⟩) (by simp) (.slice A' (bs.length + ms.length) c')
    simpa using this
  · refine (hk1.mono (fun k _ hk => .inr hk)).trans ((kept_setCell w1 ⟨p, 0, none⟩ _).mono (fun k _ hk => .inl hk))

theorem len_any (p : Nat) (v : Value) (bs : List Int) (w : World) (hw : Wr w p v bs) (hl : bs.length ≤ 140737488355328) :
    Calls Try.prog 13 #[.pointer (some ⟨p, 0, none⟩)] w fun e w' => e = .returned (.int .i64 bs.length) ∧ w = w' := by
  obtain ⟨hcell, hfr, hown⟩ := hw
  obtain ⟨A, c, rfl, -⟩ := own_slice hown
  go_enter Try.func13, Try.ntmps13
  go_wp2
  go_ret
  exact ⟨rfl, rfl⟩

def OwnPost (w : World) (bs : List Int) (e : Ending) (w' : World) : Prop := ∃ v, e = .returned v ∧ OwnB w' w.heap.size v bs ∧ Below w.heap.size w w'

set_option maxHeartbeats 1000000 in
theorem clone_any (A : Option Addr) (c B : Nat) (ms : List Int) (w : World) (hr : Row .u8 w B A ms) (hc0 : A = none → c = 0) (hl : ms.length ≤ 140737488355328) :
    Calls Try.prog 25 #[.slice A ms.length c] w (OwnPost w ms) := by
  obtain ⟨i0, hi, hz0, hz1, hz2⟩ := info_parts Try.info5
  cases A with
  | none =>
    have hms : ms = [] := by
      rcases Nat.eq_zero_or_pos ms.length with h0 | h0
      · exact List.eq_nil_of_length_eq_zero h0
      · obtain ⟨_, _, h, _⟩ := hr h0; cases h
    subst hms
    have hnil := @Lib.run_eql_slice_nil Try.prog
    go_enter Try.func25, Try.ntmps25
    go_wp2
    go_ret
    exact ⟨_, rfl, World.ownsRow_nil _ _ _ _, Below.refl _ _⟩
  | some ad =>
    have hr' : ∀ o, Row .u8 (w.alloc o) (w.heap.size) (some ad) ms := fun o => by
      intro h0
      obtain ⟨b, off, hA, hb, hc⟩ := hr h0
      have hlt := World.block_lt_of_cell? w _ (hc 0 h0)
      exact ⟨b, off, hA, hlt, fun j hj => (World.cell?_alloc_lt w o ⟨b, off + j, none⟩ hlt).trans (hc j hj)⟩
    have hm0 := World.ownsRow_made (base := w.heap.size) (e := 5) (size := 1) w #[] 0 (Nat.le_refl _) (by simp) rfl
    have hnil := @Lib.run_eql_slice_nil Try.prog
    go_enter Try.func25, Try.ntmps25
    go_wp2_with (at_builtin; refine wpList_appRow rfl _ _ 26 rfl w.heap.size 5 i0 (.int .u8 0) Try.underlying26 hi hz0 hz1 hz2 rfl _ _ _ rfl hm0 .u8 w.heap.size (some ad) c ms rfl (hr' _) hc0 (by omega) (by simp) ?_; intro v' w1 hown1 hk1 hf1)
    go_ret
    refine ⟨_, rfl, by simpa [OwnB] using hown1, ?_⟩
    exact ((Below.refl _ _).alloc (Nat.le_refl _) _).trans (hk1.below (by simp) (fun k hk => by have hk' : some w.heap.size = some k := hk; cases hk'; exact Nat.le_refl _))

theorem row_of_own {w : World} {base : Nat} {v : Value} {bs : List Int} (h : OwnB w base v bs) : ∃ A c, v = .slice A bs.length c ∧ (A = none → c = 0) ∧ Row .u8 w w.heap.size A bs := by
  obtain ⟨A, c, hv, hr, _, _⟩ := row_own h
  obtain ⟨A', c', hv', hn⟩ := own_slice h
  obtain ⟨rfl, -, rfl⟩ : A' = A ∧ bs.length = bs.length ∧ c' = c := by rw [hv] at hv'; simp at hv'; exact ⟨hv'.1.symm, rfl, hv'.2.symm⟩
  exact ⟨_, _, hv, hn, hr⟩

theorem bytes_any (p : Nat) (v : Value) (bs : List Int) (w : World) (hw : Wr w p v bs) (hl : bs.length ≤ 140737488355328) :
    Calls Try.prog 12 #[.pointer (some ⟨p, 0, none⟩)] w (OwnPost w bs) := by
  obtain ⟨hcell, hfr, hown⟩ := hw
  obtain ⟨A, c, rfl, hn, hr⟩ := row_of_own hown
  go_enter Try.func12, Try.ntmps12
  go_wp2_with fail
  refine (clone_any A c _ bs w hr hn hl).mono ?_
  rintro e w1 ⟨v, rfl, ho, hb⟩
  go_wp2
  go_ret
  exact ⟨_, rfl, ho, hb⟩


theorem Wr.below {w w' : World} {p : Nat} {v : Value} {bs : List Int} (h : Wr w p v bs) (hb : Below w.heap.size w w') : Wr w' p v bs := by
  obtain ⟨hc, hf, ho⟩ := h
  have hp := World.block_lt_of_cell? w _ hc
  exact ⟨(hb.cell hp).trans hc, (hb.frozen hp).trans hf, (kept_below hb (fun _ => False)).own ho (fun _ _ h => h)⟩
theorem WrPost.after {p : Nat} {v : Value} {bs : List Int} {w w1 w' : World} {e : Ending} (h : WrPost p v bs w1 e w') (hb : Below w.heap.size w w1) : WrPost p v bs w e w' := by
  obtain ⟨v', he, hw, hk, hf⟩ := h
  exact ⟨v', he, hw, (kept_below hb _).trans hk, hf.imp id (fun g k hk => Nat.le_trans hb.size (g k hk))⟩

set_option maxHeartbeats 1000000 in
theorem num_any (p : Nat) (v : Value) (bs : List Int) (A : Option Addr) (c : Nat) (ns : List Int) (w : World) (hw : Wr w p v bs) (hr : Row .u64 w w.heap.size A ns) (hns : Words ns) (hl : bs.length ≤ 100000000000) (hn : ns.length ≤ 1000000) :
    Calls Try.prog 10 #[.pointer (some ⟨p, 0, none⟩), .slice A ns.length c] w (WrPost p v (bs ++ encs ns) w) := by
  have hen := encs_length ns hns ns.length (Nat.le_refl _)
  have hsl := sizes_le ns hns ns.length (Nat.le_refl _)
  rw [List.take_length] at hen hsl
  have hel : (encs ns).length ≤ 10000000 := by omega
  clear hen hsl
  have HW := Lib.hid (show Wr w.drew p v bs from hw); clear hw
  have HR := Lib.hid (show Row .u64 w.drew w.heap.size A ns from hr); clear hr
  go_enter Try.func10, Try.ntmps10
  go_wp2_with fail
  refine wp_region_any (by kernel_rfl) ?_
  try (change wpAny _ _ _ _ _ _ _ (World.drew _))
  refine wpAny_take (i := 0) (oi := ⟨some 6, _, _, _, _, _⟩) (v := ?_) rfl (by kernel_rfl) (by kernel_rfl) (by kernel_rfl) (fun _ _ _ h => h) (Or.inl ⟨by rfl, ?_⟩) ?_
  rotate_left
  · (intro w; go_simp; try with_reducible rfl)
  try simp only [Act.put, List.setIfInBounds_toArray, List.set_cons_zero, List.set_cons_succ]
  refine wpAny_take (i := 1) (oi := ⟨some 7, _, _, _, _, _⟩) (v := ?_) rfl (by kernel_rfl) (by kernel_rfl) (by kernel_rfl) (fun _ _ _ h => h) (Or.inl ⟨by rfl, ?_⟩) ?_
  rotate_left
  · (intro w; go_simp; try with_reducible rfl)
  try simp only [Act.put, List.setIfInBounds_toArray, List.set_cons_zero, List.set_cons_succ]
  refine wpAny_take (i := 2) (oi := ⟨some 8, _, _, _, _, _⟩) (v := ?_) rfl (by kernel_rfl) (by kernel_rfl) (by kernel_rfl) (fun _ _ _ h => h) (Or.inl ⟨by rfl, ?_⟩) ?_
  rotate_left
  · (intro w; go_simp; try with_reducible rfl)
  try simp only [Act.put, List.setIfInBounds_toArray, List.set_cons_zero, List.set_cons_succ]
  refine wpAny_take (i := 3) (oi := ⟨some 9, _, _, _, _, _⟩) (v := ?_) rfl (by kernel_rfl) (by kernel_rfl) (by kernel_rfl) (fun _ _ _ h => h) (Or.inl ⟨by rfl, ?_⟩) ?_
  rotate_left
  · (intro w; go_simp; try with_reducible rfl)
  try simp only [Act.put, List.setIfInBounds_toArray, List.set_cons_zero, List.set_cons_succ]
  refine wpAny_ready (rs := [4]) (by kernel_rfl) (by simp) ?_
  refine AllReady.cons (o := ⟨some 10, _, _, _, _, _⟩) rfl (fun K hK => ?_) AllReady.nil
  go_simp
  refine (put_any A c ns w.heap.size w.drew (Nat.le_refl _) HR.out hns hn).mono ?_
  rintro e w1 ⟨v1, rfl, ho1, hb1⟩
  obtain ⟨A1, c1, rfl, hn1, hr1⟩ := row_of_own ho1
  refine hK _ _ ?_
  clear hK K
  try simp only [Act.put, List.setIfInBounds_toArray, List.set_cons_zero, List.set_cons_succ]
  refine wpAny_ready (rs := [5]) (by kernel_rfl) (by simp) ?_
  refine AllReady.cons (o := ⟨some 11, _, _, _, _, _⟩) rfl (fun K hK => ?_) AllReady.nil
  go_simp
  refine (add_any p v bs A1 c1 _ (encs ns) w1 (HW.out.below hb1) hr1 hn1 (by omega)).mono ?_
  rintro e w2 ⟨v2, rfl, h2⟩
  refine hK _ _ ?_
  clear hK K
  try simp only [Act.put, List.setIfInBounds_toArray, List.set_cons_zero, List.set_cons_succ]
  refine wpAny_done (by kernel_rfl) ?_ _
  go_wp2
  go_end0
  exact WrPost.after ⟨v2, rfl, h2⟩ ((Below.refl w.heap.size w).drew.trans hb1)
end Go.Proofs.Ytkdmhcllnpiakaa
