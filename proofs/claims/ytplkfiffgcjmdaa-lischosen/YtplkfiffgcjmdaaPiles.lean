/-
  lis.Piles, tendrilplain.Has, tendrillaw06.count: what they answer.
-/
import Derived.Test.YtplkfiffgcjmdaaEnds
import Derived.Test.YtplkfiffgcjmdaaFrame
import Derived.Test.YtplkfiffgcjmdaaPMath
namespace Go.Proofs.Ytplkfiffgcjmdaa
open Go.RowKit
set_option linter.unusedVariables false

theorem has_any (A : Option Addr) (c : Nat) (zs : List Int) (x : Int) (B : Nat) (w : World) (hr : Row w B A zs) (hn : ¬ x ∈ zs) (hl : zs.length ≤ 1000000) :
    Calls Try.prog 17 #[.slice A zs.length c, .int .i64 x] w fun e w' => e = .returned (.bool false) ∧ w = w' := by
  go_enter Try.func17, Try.ntmps17
  go_wp2
  go_loop [8] (fun i => ∃ k : Nat, k ≤ zs.length ∧ i = .int .i64 k) (fun i => zs.length - (intOf i).toNat)
  case atStart => exact ⟨0, by omega, rfl⟩
  case round =>
    obtain ⟨k, hk, rfl⟩ := hrel
    by_cases hlt : k < zs.length
    · obtain ⟨b, off, y, rfl, hb, hy, hc⟩ := row_at hr hlt
      have hyx : (y == x) = false := by
        simp only [beq_eq_false_iff_ne, ne_eq]
        intro e
        apply hn
        rw [← e, hy, getD_lt hlt]
        exact List.getElem_mem _
      clear hy
      go_wp2_with fail
      exact ⟨⟨k + 1, by omega, by go_num⟩, by simp [intOf]; omega⟩
    · go_wp2
      go_ret
      exact ⟨rfl, rfl⟩
theorem count_any (A : Option Addr) (c : Nat) (l : List Int) (B : Nat) (w : World) (hr : Row w B A l) (hl : l.length ≤ 1000000) :
    Calls Try.prog 18 #[.slice A l.length c] w fun e w' => e = .returned (.int .i64 (cntTo l l.length)) ∧ w = w' := by
  go_enter Try.func18, Try.ntmps18
  go_wp2
  go_loop [3, 7] (fun n i => ∃ k : Nat, k ≤ l.length ∧ i = .int .i64 k ∧ n = .int .i64 (cntTo l k)) (fun _ i => l.length - (intOf i).toNat)
  case atStart => exact ⟨0, by omega, rfl, rfl⟩
  case round =>
    obtain ⟨k, hk, rfl, rfl⟩ := hrel
    have hcl := cnt_le l k
    by_cases hlt : k < l.length
    · obtain ⟨b, off, y, rfl, hb, hy, hc⟩ := row_at hr hlt
      have hst := cnt_succ l k
      unfold el at hst
      rw [← hy] at hst
      have HS := Lib.hid hst; clear hst hy
      generalize cntTo l k = q at hcl HS ⊢
      by_cases h0 : 0 ≤ y
      · go_wp2_with fail
        exact ⟨⟨k + 1, by omega, by go_num, by rw [HS.out, if_pos h0]; go_num⟩, by simp [intOf]; omega⟩
      · go_wp2_with fail
        exact ⟨⟨k + 1, by omega, by go_num, by rw [HS.out, if_neg h0]; rfl⟩, by simp [intOf]; omega⟩
    · obtain rfl : k = l.length := by omega
      go_wp2
      go_ret
      exact ⟨rfl, rfl⟩

/-! Rows in a row. -/
abbrev nilV : Value := .slice none 0 0
structure PW (w : World) (g m : Nat) (V : List Value) (L : Nat → List Int) : Prop where
  row : w.ownsRow g 22 1 (.slice (some ⟨g, 0, none⟩) m m) m V
  own : ∀ j, j < m → OwnI w (g + 1) (V.getD j nilV) (L j)
  apart : ∀ i j, i < m → j < m → i ≠ j → ∀ b, (V.getD i nilV).ownBlock = some b → (V.getD j nilV).ownBlock ≠ some b
def Fresh (w : World) (v v' : Value) : Prop := v'.ownBlock = v.ownBlock ∨ ∀ k, v'.ownBlock = some k → w.heap.size ≤ k
theorem Kept.ownI {S : Nat → Prop} {w w' : World} (h : Kept S w w') {base : Nat} {v : Value} {zs : List Int} (ho : OwnI w base v zs) (hs : ∀ k, v.ownBlock = some k → ¬ S k) : OwnI w' base v zs := by
  unfold OwnI at *
  refine ⟨ho.1, ?_⟩
  rcases ho.2 with hn | ⟨g, cap, cur, rfl, hg, hh, r⟩
  · exact .inl hn
  · exact .inr ⟨g, cap, cur, rfl, hg, h.objOf hh (hs g rfl), r⟩
theorem PW.len {w : World} {g m : Nat} {V : List Value} {L : Nat → List Int} (h : PW w g m V L) : V.length = m := by have := h.row.1; omega
theorem row_keep {w w' : World} {g m : Nat} {V : List Value} {S : Nat → Prop} (ho : w.ownsRow g 22 1 (.slice (some ⟨g, 0, none⟩) m m) m V) (hk : Kept S w w') (hs : ¬ S g) : w'.ownsRow g 22 1 (.slice (some ⟨g, 0, none⟩) m m) m V := hk.own ho hs
theorem getD_setV (V : List Value) (p j : Nat) (x : Value) (hp : p < V.length) : (V.set p x).getD j nilV = if p = j then x else V.getD j nilV := by
  rw [List.getD_eq_getElem?_getD, List.getElem?_set, List.getD_eq_getElem?_getD]
  by_cases h : p = j
  · subst h; simp [hp]
  · simp [h]
theorem PW.step {w w' : World} {g m p : Nat} {V : List Value} {L : Nat → List Int} {v' : Value} {zs : List Int} (h : PW w g m V L) (hp : p < m) (ho : OwnI w' (g + 1) v' zs) (hk : Kept (fun k => (V.getD p nilV).ownBlock = some k) w w') (hf : Fresh w (V.getD p nilV) v') :
    PW (w'.setCell ⟨g, p, none⟩ v') g m (V.set p v') (fun j => if p = j then zs else L j) := by
  have hV := h.len
  have hlt : ∀ j, j < m → ∀ b, (V.getD j nilV).ownBlock = some b → g + 1 ≤ b ∧ b < w.heap.size := fun j hj b hb => World.ownsRow.lt (h.own j hj) b hb
  have hng : ¬ (V.getD p nilV).ownBlock = some g := fun e => by have := (hlt p hp g e).1; omega
  have hrow := row_keep h.row hk hng
  refine ⟨(hrow.stored p v').1, fun j hj => ?_, fun i j hi hj hij b hb => ?_⟩
  · rw [getD_setV _ _ _ _ (by omega)]
    by_cases hpj : p = j
    · rw [if_pos hpj, if_pos hpj]
      exact ownsRow_setCell_below ho (a := ⟨g, p, none⟩) (by simp) _
    · rw [if_neg hpj, if_neg hpj]
      have := hk.ownI (h.own j hj) (fun b hb e => h.apart p j hp hj hpj b e hb)
      exact ownsRow_setCell_below this (a := ⟨g, p, none⟩) (by simp) _
  · rw [getD_setV _ _ _ _ (by omega)] at hb ⊢
    by_cases hpi : p = i
    · rw [if_pos hpi] at hb
      rw [if_neg (by omega)]
      intro e
      rcases hf with hf | hf
      · rw [hf] at hb
        exact h.apart p j hp hj (by omega) b hb e
      · have h1 := hf b hb
        have h2 := (hlt j hj b e).2
        omega
    · rw [if_neg hpi] at hb
      by_cases hpj : p = j
      · rw [if_pos hpj]
        intro e
        rcases hf with hf | hf
        · rw [hf] at e
          exact h.apart p i hp hi hpi b e hb
        · have h1 := hf b e
          have h2 := (hlt i hi b hb).2
          omega
      · rw [if_neg hpj]
        exact h.apart i j hi hj hij b hb
theorem PW.below {w w' : World} {g m : Nat} {V : List Value} {L : Nat → List Int} (h : PW w g m V L) (hb : Below w.heap.size w w') : PW w' g m V L :=
  ⟨row_keep h.row (kept_below hb (fun _ => False)) (fun h => h), fun j hj => (kept_below hb (fun _ => False)).ownI (h.own j hj) (fun _ _ h => h), h.apart⟩
theorem PW.congr {w : World} {g m : Nat} {V : List Value} {L L' : Nat → List Int} (h : PW w g m V L) (he : ∀ j, j < m → L j = L' j) : PW w g m V L' := ⟨h.row, fun j hj => he j hj ▸ h.own j hj, h.apart⟩
theorem PW.cell {w : World} {g m : Nat} {V : List Value} {L : Nat → List Int} (h : PW w g m V L) {j : Nat} (hj : j < m) : ∃ A c, V.getD j nilV = .slice A (L j).length c ∧ w.cell? ⟨g, j, none⟩ = some (.slice A (L j).length c) ∧ Row w w.heap.size A (L j) := by
  obtain ⟨A, c, hv, hr, -⟩ := row_own (h.own j hj)
  refine ⟨A, c, hv, ?_, hr⟩
  have hV := h.len
  rw [h.row.cellAt j (by omega), ← hv]
  simp [show j < V.length by omega]

theorem app_block {P : Program} {w : World} {base : Nat} {t ty e : TypeId} {i : TypeInfo} {z : Value} (ht : P.underlying t = some (.slice e)) (hi : P.info? e = some i) (hz : i.zero = some z) (hzs : z.cells.size = 1)
    {v : Value} {n : Nat} {xs : List Value} (hsize : i.size = 1) (hown : w.ownsRow base e 1 v n xs)
    {a : Addr} {m c : Nat} {news : List Value} (hm0 : 0 < m) (hl : news.length = m * 1) (hnews : ∀ j u, news[j]? = some u → w.cell? (a.add j) = some u) (h1 : ∀ u ∈ news, u.oneCell' = true)
    (h63 : n + m ≤ maxLen) (hbytes : (n + m) * i.bytes ≤ 140737488355328) {v' : Value} {w' : World}
    (hrun : (Builtin.append_ #[t, t] ty #[v, .slice (some a) m c]).run P w = .ok v' w') : Fresh w v v' := by
  have hsmall : n + m ≤ 9223372036854775807 := by simp only [maxLen] at h63; omega
  have hl' : news.length = m * i.size := by rw [hsize]; exact hl
  rcases hown.2 with ⟨rfl, rfl⟩ | ⟨g, cap, cur, rfl, hbg, hg, hnc, hcm, hcs, htake⟩
  · have hr := run_append_nil (P := P) w t ty e i z ht hi hz a m c news hl' hnews (by omega) (by omega) (by have hb := hbytes; simp only [Nat.zero_add] at hb; omega)
    rw [hrun] at hr
    cases hr
    exact .inr (fun k hk => by simp [Value.ownBlock] at hk; omega)
  · by_cases hroom : n + m ≤ cap
    · have hfit : n * i.size + news.length ≤ cur.size := by rw [hl', hcs, hsize]; omega
      have hr := run_append_room (P := P) w t ty e i ht hi g n cap cur hg a m c news hl' hnews h1 hroom hfit
      rw [hrun] at hr
      cases hr
      exact .inl rfl
    · have holds : ∀ j u, xs[j]? = some u → w.cell? ((⟨g, 0, none⟩ : Addr).add j) = some u := hown.cells (g := g) rfl
      have hr := run_append_grow (P := P) w t ty e i z ht hi hz ⟨g, 0, none⟩ n cap xs (by rw [hsize]; exact hown.1) holds a m c news hl' hnews (by omega) (by omega) (growslice_fits (by omega) hbytes)
      rw [hrun] at hr
      cases hr
      exact .inr (fun k hk => by simp [Value.ownBlock] at hk; omega)
/-- One element more: the row stays in its block, or lies in a new one. -/
theorem wpList_app1F {P : Program} {w : World} {ops : Array Oper} {rest : List Oper} {o : Oper} {a : Act} {Q : Exit → Act → World → Prop} (hgd : o.guard = none) (s x : Operand) (t : TypeId)
    (ho : o.op = .call { callee := .builtin .append, args := #[s, x], argTypes := #[t, t] })
    (base : Nat) (i : TypeInfo) (ht : P.underlying t = some (.slice 3)) (hi : P.info? 3 = some i) (hz : i.zero = some (.int .i64 0)) (hsize : i.size = 1) (hby : i.bytes = 8)
    (v : Value) (zs : List Int) (hs : a.eval s = v) (hown : OwnI w base v zs)
    (u : Int) (hx : a.eval x = .slice (some ⟨w.heap.size, 0, none⟩) 1 1) (hl : zs.length ≤ 1000000) (hbase : base ≤ w.heap.size)
    (h : ∀ v' w', OwnI w' base v' (zs ++ [u]) → Kept (fun k => v.ownBlock = some k) w w' → Fresh w v v' → wpList P ops Q rest (a.put o.dst v') w') : wpList P ops Q (o :: rest) a (w.alloc (.cells #[.int .i64 u] 3)) := by
  have hnews : ∀ j y, [Value.int .i64 u][j]? = some y → (w.alloc (.cells #[.int .i64 u] 3)).cell? ((⟨w.heap.size, 0, none⟩ : Addr).add j) = some y := by
    intro j y hj
    match j, hj with
    | 0, hj => simp at hj; subst hj; simp [Addr.add]
  have h1 : ∀ y ∈ [Value.int .i64 u], y.oneCell' = true := by intro y hy; simp at hy; subst hy; rfl
  have hown' : (w.alloc (.cells #[.int .i64 u] 3)).ownsRow base 3 1 v zs.length (ints zs) := World.ownsRow.alloc hown _
  have hb : base ≤ (w.alloc (.cells #[.int .i64 u] 3)).heap.size := by simp; omega
  obtain ⟨v', w', hrun, h2, h3, -⟩ := run_append_own (P := P) (w.alloc (.cells #[.int .i64 u] 3)) base t o.type 3 i (.int .i64 0) 1 8 ht hi hz hsize hby rfl (by omega) v zs.length (ints zs) hown' ⟨w.heap.size, 0, none⟩ 1 1 [.int .i64 u] rfl hnews h1 (by unfold maxLen; omega) (by omega) hb
  have hf := app_block ht hi hz rfl hsize hown' (by omega) rfl hnews h1 (by unfold maxLen; omega) (by rw [hby]; omega) hrun
  have hk1 : Kept (fun k => v.ownBlock = some k) (w.alloc (.cells #[.int .i64 u] 3)) w' := ⟨h3.os, h3.tape, h3.output, h3.size, fun k hk hks => h3.block k hk (fun e => hks e.symm)⟩
  have hk2 : Kept (fun k => v.ownBlock = some k) w w' := (kept_alloc w _ _).trans hk1
  have hf2 : Fresh w v v' := by
    rcases hf with hf | hf
    · exact .inl hf
    · exact .inr (fun k hk => by have := hf k hk; simp at this; omega)
  have ho2 : OwnI w' base v' (zs ++ [u]) := by unfold OwnI; simpa using h2
  refine wpList_plain hgd fun K hK => ?_
  unfold Oper.wp execOp
  simp only [ho, resolve, invoke, builtin, Sem.run_bind, Sem.run_pure, Result.andThen_ok, List.map_toArray, List.map_cons, List.map_nil, hs, hx, hrun]
  exact hK _ _ (h v' w' ho2 hk2 hf2)
end Go.Proofs.Ytplkfiffgcjmdaa
