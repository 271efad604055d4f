/-
  tendrilref08.put, find: what they answer.
-/
import Derived.Test.YtlpjjnpafmakhaaLuOf
import Derived.Test.YtlpjjnpafmakhaaThings
namespace Go.Proofs.Ytlpjjnpafmakhaa
open Go.RowKit
set_option linter.unusedVariables false

/-- append(x, y...) -/
theorem wpList_appRow {P : Program} {w : World} {ops : Array Oper} {rest : List Oper} {o : Oper} {a : Act} {Q : Exit → Act → World → Prop} (hgd : o.guard = none) (s x : Operand) (t : TypeId)
    (ho : o.op = .call { callee := .builtin .append, args := #[s, x], argTypes := #[t, t] })
    (base : Nat) (i : TypeInfo) (ht : P.underlying t = some (.slice 3)) (hi : P.info? 3 = some i) (hz : i.zero = some (.int .i64 0))
    (hsize : i.size = 1) (hby : i.bytes = 8)
    (v : Value) (n : Nat) (xs : List Value) (hs : a.eval s = v) (hown : w.ownsRow base 3 1 v n xs)
    (A : Option Addr) (m c : Nat) (ms : List Int) (hx : a.eval x = .slice A m c) (hm : ms.length = m) (hr : Row w w.heap.size A ms) (hc0 : A = none → c = 0)
    (hbytes : (n + m) ≤ 10000000) (hbase : base ≤ w.heap.size)
    (h : ∀ v' w', w'.ownsRow base 3 1 v' (n + m) (xs ++ ints ms) → Below base w w' → wpList P ops Q rest (a.put o.dst v') w') : wpList P ops Q (o :: rest) a w := by
  subst hm
  cases A with
  | none =>
    have hms : ms = [] := by
      rcases Nat.eq_zero_or_pos ms.length with h0 | h0
      · exact List.eq_nil_of_length_eq_zero h0
      · obtain ⟨_, _, h, _⟩ := hr h0; cases h
    subst hms
    obtain rfl := hc0 rfl
    exact wpList_append_own_none hgd s x t ho base 3 i 1 ht hi v n xs hs hown hx (h v w (by simpa using hown) (Below.refl _ _))
  | some ad =>
    refine wpList_append_own w hgd s x t ho base 3 i (.int .i64 0) 1 8 ht hi hz hsize hby rfl (by omega) v n xs hs hown ad ms.length c (ints ms) hx (by simp) ?_ (ints_oneCell _ ms) (by simp [maxLen]; omega) (by omega) hbase ?_
    · intro j y hj
      have hjl : j < ms.length := by have := (List.getElem?_eq_some_iff.1 hj).1; simpa using this
      obtain ⟨b, off, hA, _, hc⟩ := hr (by omega)
      obtain rfl : ad = ⟨b, off, none⟩ := by simpa using hA
      rw [Addr.add_lit, hc j hjl]
      simp [ints, hjl] at hj
      simp [List.getD_eq_getElem?_getD, List.getElem?_eq_getElem hjl, hj]
    · intro v' w' hown' hgrow _
      exact h v' w' hown' ((Below.refl base w).grown hgrow hbase (fun k hk => (hown.lt k hk).1))
theorem row_take {w : World} {B : Nat} {A : Option Addr} {zs : List Int} (h : Row w B A zs) (t : Nat) : Row w B A (zs.take t) := by
  intro h0
  obtain ⟨b, off, hA, hb, hc⟩ := h (by simp at h0; omega)
  refine ⟨b, off, hA, hb, fun j hj => ?_⟩
  have hj2 : j < t := by simp at hj; omega
  rw [hc j (by simp at hj; omega)]
  simp [List.getD_eq_getElem?_getD, hj2]
theorem row_cut {w : World} {B b off : Nat} {zs : List Int} (h : Row w B (some ⟨b, off, none⟩) zs) (t : Nat) : Row w B (some ⟨b, off + t, none⟩) (zs.drop t) := by
  intro h0
  have hlt : t < zs.length := by simp at h0; omega
  obtain ⟨b', off', hA, hb, hcell⟩ := h (by omega)
  obtain ⟨rfl, rfl⟩ : b = b' ∧ off = off' := by simpa using hA
  refine ⟨b, off + t, rfl, hb, fun j hj => ?_⟩
  have := hcell (t + j) (by simp at hj; omega)
  rw [Nat.add_assoc, this]
  simp [List.getD_eq_getElem?_getD, List.getElem?_drop]
theorem row_none {w : World} {B : Nat} {zs : List Int} (h : Row w B none zs) : zs = [] := by
  rcases Nat.eq_zero_or_pos zs.length with h0 | h0
  · exact List.eq_nil_of_length_eq_zero h0
  · obtain ⟨_, _, h, _⟩ := h h0; cases h

/-- A slice of integers that the call made, in a block of its own. -/
def MadeV (w : World) (zs : List Int) (e : Ending) (w' : World) : Prop := ∃ v, e = .returned v ∧ OwnI w' w.heap.size v zs ∧ Below w.heap.size w w'
theorem own_is {w : World} {base : Nat} {v : Value} {zs : List Int} {n : Nat} {xs : List Value} (h : w.ownsRow base 3 1 v n xs) (hx : xs = ints zs) (hn : zs.length = n) : OwnI w base v zs := by subst hx; subst hn; exact h

set_option maxRecDepth 100000 in
set_option maxHeartbeats 4000000 in
theorem put_some (b off c : Nat) (zs : List Int) (at' : Nat) (x : Int) (w : World) (hr : Row w w.heap.size (some ⟨b, off, none⟩) zs) (hl : zs.length ≤ 1000000) (hat : at' ≤ zs.length) (hc : zs.length ≤ c) (hcm : c ≤ maxLen) :
    Calls Try.prog 36 #[.slice (some ⟨b, off, none⟩) zs.length c, .int .i64 at', .int .i64 x] w (MadeV w (zs.take at' ++ x :: zs.drop at')) := by
  obtain ⟨i0, hi, hz0, hz1, hz2⟩ := info_parts Try.info3
  unfold maxLen at hcm
  have ht : (zs.take at').length = at' := by simp; omega
  have hdl : (zs.drop at').length = zs.length - at' := by simp
  have HTL := Lib.hid ht; have HDL := Lib.hid hdl
  clear ht hdl
  have HR := Lib.hid hr; clear hr
  by_cases hca : c = at'
  · have hza : zs.length = at' := by omega
    have HD0 := Lib.hid (show zs.drop at' = [] from List.drop_eq_nil_of_le (by omega))
    clear hza
    subst hca
    go_enter Try.func36, Try.ntmps36
    go_wp2_with (at_builtin; first
      | (refine wpList_appRow rfl _ _ 22 rfl w.heap.size i0 Try.underlying22 hi hz0 hz1 hz2 _ (c + 1) _ rfl hown2 _ _ _ [] rfl rfl (Row.nil _ _ _) (fun h => by cases h) (by omega) hs2 ?_; intro v3 w3 hown3 hbel3)
      | (refine wpList_app1 rfl _ _ 22 rfl w.heap.size 3 i0 (.int .i64 0) 8 Try.underlying22 hi hz0 hz1 hz2 rfl _ _ _ rfl hown1 (.int .i64 x) rfl rfl (by omega) (by simp [maxLen]; omega) hs1 ?_; intro v2 w2 hown2 hbel2; have hs2 := Nat.le_trans hs1 hbel2.size; have hr2 := HR.out.below (hbel1.trans hbel2); rw [Nat.zero_add] at hown2)
      | (refine wpList_appRow rfl _ _ 22 rfl w.heap.size i0 Try.underlying22 hi hz0 hz1 hz2 _ 0 [] rfl (World.ownsRow_nil _ _ _ _) _ _ _ (zs.take c) rfl HTL.out (row_take HR.out c) (fun h => by cases h) (by omega) (Nat.le_refl _) ?_; intro v1 w1 hown1 hbel1; have hs1 := hbel1.size))
    go_ret
    refine ⟨_, rfl, own_is hown3 ?_ ?_, (hbel1.trans hbel2).trans hbel3⟩
    · rw [HD0.out]; simp [ints]
    · rw [List.length_append, List.length_cons, HTL.out, HD0.out]; simp
  · go_enter Try.func36, Try.ntmps36
    go_wp2_with (at_builtin; first
      | (refine wpList_appRow rfl _ _ 22 rfl w.heap.size i0 Try.underlying22 hi hz0 hz1 hz2 _ (at' + 1) _ rfl hown2 _ _ _ (zs.drop at') rfl HDL.out ((row_cut hr2 at').mono hs2) (fun h => by cases h) (by omega) hs2 ?_; intro v3 w3 hown3 hbel3)
      | (refine wpList_app1 rfl _ _ 22 rfl w.heap.size 3 i0 (.int .i64 0) 8 Try.underlying22 hi hz0 hz1 hz2 rfl _ _ _ rfl hown1 (.int .i64 x) rfl rfl (by omega) (by simp [maxLen]; omega) hs1 ?_; intro v2 w2 hown2 hbel2; have hs2 := Nat.le_trans hs1 hbel2.size; have hr2 := HR.out.below (hbel1.trans hbel2); rw [Nat.zero_add] at hown2)
      | (refine wpList_appRow rfl _ _ 22 rfl w.heap.size i0 Try.underlying22 hi hz0 hz1 hz2 _ 0 [] rfl (World.ownsRow_nil _ _ _ _) _ _ _ (zs.take at') rfl HTL.out (row_take HR.out at') (fun h => by cases h) (by omega) (Nat.le_refl _) ?_; intro v1 w1 hown1 hbel1; have hs1 := hbel1.size))
    go_ret
    refine ⟨_, rfl, own_is hown3 ?_ ?_, (hbel1.trans hbel2).trans hbel3⟩
    · simp [ints]
    · rw [List.length_append, List.length_cons, HTL.out, HDL.out]; omega

theorem put_nil (x : Int) (w : World) : Calls Try.prog 36 #[.slice none 0 0, .int .i64 0, .int .i64 x] w (MadeV w [x]) := by
  obtain ⟨i0, hi, hz0, hz1, hz2⟩ := info_parts Try.info3
  go_enter Try.func36, Try.ntmps36
  go_wp2_with (at_builtin; first
    | (refine wpList_append_own_none rfl _ _ 22 rfl w.heap.size 3 i0 1 Try.underlying22 hi _ 1 _ rfl hown2 rfl ?_)
    | (refine wpList_app1 rfl _ _ 22 rfl w.heap.size 3 i0 (.int .i64 0) 8 Try.underlying22 hi hz0 hz1 hz2 rfl _ 0 [] rfl (World.ownsRow_nil _ _ _ _) (.int .i64 x) rfl rfl (by omega) (by simp [maxLen]) (Nat.le_refl _) ?_; intro v2 w2 hown2 hbel2)
    | (refine wpList_append_own_none rfl _ _ 22 rfl w.heap.size 3 i0 1 Try.underlying22 hi _ 0 [] rfl (World.ownsRow_nil _ _ _ _) rfl ?_))
  go_ret
  exact ⟨_, rfl, own_is hown2 rfl rfl, hbel2⟩
end Go.Proofs.Ytlpjjnpafmakhaa
