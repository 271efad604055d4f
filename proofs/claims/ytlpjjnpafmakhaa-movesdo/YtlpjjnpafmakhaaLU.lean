/-
  The line-up in memory; insert, remove, isThing, stands.
-/
import Derived.Test.YtlpjjnpafmakhaaLong
import Derived.Test.YtlpjjnpafmakhaaRing
import Derived.RegionTactic
import Derived.BigRegion
namespace Go.Proofs.Ytlpjjnpafmakhaa
open Go.RowKit
set_option linter.unusedVariables false

structure LU (w : World) (base U bp bn n : Nat) (N P : List Int) : Prop where
  ne : ¬ bp = bn
  neP : ¬ U = bp
  neN : ¬ U = bn
  lo : base ≤ U
  loP : base ≤ bp
  loN : base ≤ bn
  lt : U < w.heap.size
  c0 : w.cell? ⟨U, 0, none⟩ = some (.int .i64 n)
  c1 : w.cell? ⟨U, 1, none⟩ = some (.slice (some ⟨bp, 0, none⟩) (n + 1) (n + 1))
  c2 : w.cell? ⟨U, 2, none⟩ = some (.slice (some ⟨bn, 0, none⟩) (n + 1) (n + 1))
  rp : w.ownsRow base 3 1 (.slice (some ⟨bp, 0, none⟩) (n + 1) (n + 1)) (n + 1) (ints P)
  rn : w.ownsRow base 3 1 (.slice (some ⟨bn, 0, none⟩) (n + 1) (n + 1)) (n + 1) (ints N)
def two (bp bn : Nat) (k : Nat) : Prop := k = bp ∨ k = bn
theorem LU.keep {w w' : World} {base U bp bn n : Nat} {N P : List Int} (h : LU w base U bp bn n N P) {S : Nat → Prop} (hk : Kept S w w') (h1 : ¬ S U) (h2 : ¬ S bp) (h3 : ¬ S bn) : LU w' base U bp bn n N P :=
  ⟨h.ne, h.neP, h.neN, h.lo, h.loP, h.loN, Nat.lt_of_lt_of_le h.lt hk.size, hk.cellOf h.c0 h1, hk.cellOf h.c1 h1, hk.cellOf h.c2 h1, hk.own h.rp h2, hk.own h.rn h3⟩
theorem kept_setCell (w : World) (b o : Nat) (v : Value) : Kept (· = b) w (w.setCell ⟨b, o, none⟩ v) :=
  ⟨rfl, rfl, rfl, by simp [World.setCell], fun k hk hs => Below.heap_setCell w ⟨b, o, none⟩ v k hs⟩
theorem LU.setP {w : World} {base U bp bn n : Nat} {N P : List Int} (h : LU w base U bp bn n N P) (j : Nat) (x : Int) : LU (w.setCell ⟨bp, j, none⟩ (.int .i64 x)) base U bp bn n N (P.set j x) := by
  have hk := kept_setCell w bp j (.int .i64 x)
  refine ⟨h.ne, h.neP, h.neN, h.lo, h.loP, h.loN, Nat.lt_of_lt_of_le h.lt hk.size, hk.cellOf h.c0 h.neP, hk.cellOf h.c1 h.neP, hk.cellOf h.c2 h.neP, ?_, hk.own h.rn (fun e => h.ne e.symm)⟩
  have := (h.rp.stored j (.int .i64 x)).1
  rw [ints_set] at this
  exact this
theorem LU.setN {w : World} {base U bp bn n : Nat} {N P : List Int} (h : LU w base U bp bn n N P) (j : Nat) (x : Int) : LU (w.setCell ⟨bn, j, none⟩ (.int .i64 x)) base U bp bn n (N.set j x) P := by
  have hk := kept_setCell w bn j (.int .i64 x)
  refine ⟨h.ne, h.neP, h.neN, h.lo, h.loP, h.loN, Nat.lt_of_lt_of_le h.lt hk.size, hk.cellOf h.c0 h.neN, hk.cellOf h.c1 h.neN, hk.cellOf h.c2 h.neN, hk.own h.rp h.ne, ?_⟩
  have := (h.rn.stored j (.int .i64 x)).1
  rw [ints_set] at this
  exact this
theorem LU.drew {w : World} {base U bp bn n : Nat} {N P : List Int} (h : LU w base U bp bn n N P) : LU w.drew base U bp bn n N P := h.keep (S := fun _ => False) (kept_drewN w 1 _) (fun h => h) (fun h => h) (fun h => h)
theorem LU.drewN {w : World} {base U bp bn n : Nat} {N P : List Int} (h : LU w base U bp bn n N P) (k : Nat) : LU (w.drewN k) base U bp bn n N P := h.keep (S := fun _ => False) (kept_drewN w k _) (fun h => h) (fun h => h) (fun h => h)
theorem LU.lenP {w : World} {base U bp bn n : Nat} {N P : List Int} (h : LU w base U bp bn n N P) : P.length = n + 1 := by have := h.rp.1; simpa using this
theorem LU.lenN {w : World} {base U bp bn n : Nat} {N P : List Int} (h : LU w base U bp bn n N P) : N.length = n + 1 := by have := h.rn.1; simpa using this
theorem LU.cellP {w : World} {base U bp bn n : Nat} {N P : List Int} (h : LU w base U bp bn n N P) {j : Nat} (hj : j ≤ n) : w.cell? ⟨bp, j, none⟩ = some (.int .i64 (el P j)) := by
  rw [h.rp.cellAt j (by omega)]
  have := h.lenP
  simp [el, List.getD_eq_getElem?_getD, List.getElem?_eq_getElem (show j < P.length by omega)]
theorem LU.cellN {w : World} {base U bp bn n : Nat} {N P : List Int} (h : LU w base U bp bn n N P) {j : Nat} (hj : j ≤ n) : w.cell? ⟨bn, j, none⟩ = some (.int .i64 (el N j)) := by
  rw [h.rn.cellAt j (by omega)]
  have := h.lenN
  simp [el, List.getD_eq_getElem?_getD, List.getElem?_eq_getElem (show j < N.length by omega)]
theorem LU.frP {w : World} {base U bp bn n : Nat} {N P : List Int} (h : LU w base U bp bn n N P) (j : Nat) : w.frozen? ⟨bp, j, none⟩ = false := h.rp.frozenAt j
theorem LU.frN {w : World} {base U bp bn n : Nat} {N P : List Int} (h : LU w base U bp bn n N P) (j : Nat) : w.frozen? ⟨bn, j, none⟩ = false := h.rn.frozenAt j

set_option maxHeartbeats 4000000 in
theorem isThing_any (base U bp bn n : Nat) (N P : List Int) (x : Int) (w : World) (h : LU w base U bp bn n N P) (hn : n ≤ 1000000) :
    Calls Try.prog 33 #[.pointer (some ⟨U, 0, none⟩), .int .i64 x] w fun e w' => e = .returned (.bool (decide (0 ≤ x) && decide (x < n))) ∧ w = w' := by
  have c0 := h.c0
  clear h
  by_cases h0 : 0 ≤ x
  · have hd : decide (0 ≤ x) = true := by simpa using h0
    go_enter Try.func33, Try.ntmps33
    go_wp2_with fail
    go_ret
    exact ⟨ret_bool (by simp [h0]), rfl⟩
  · have hd : decide (0 ≤ x) = false := by simpa using h0
    go_enter Try.func33, Try.ntmps33
    go_wp2_with fail
    go_ret
    exact ⟨ret_bool (by simp), rfl⟩
set_option maxHeartbeats 4000000 in
theorem stands_any (base U bp bn n : Nat) (N P : List Int) (x : Nat) (w : World) (h : LU w base U bp bn n N P) (hn : n ≤ 1000000) (hx : x ≤ n) :
    Calls Try.prog 34 #[.pointer (some ⟨U, 0, none⟩), .int .i64 x] w fun e w' => e = .returned (.bool (decide (el N x ≠ -1))) ∧ w = w' := by
  have c2 := h.c2
  have cx := h.cellN hx
  generalize el N x = y at cx ⊢
  clear h
  go_enter Try.func34, Try.ntmps34
  go_wp2_with fail
  go_ret
  refine ⟨ret_bool ?_, rfl⟩
  by_cases h1 : y = -1 <;> simp [h1]

set_option maxHeartbeats 4000000 in
theorem insert_any (base U bp bn n : Nat) (N P : List Int) (t b q : Nat) (w : World) (h : LU w base U bp bn n N P) (hn : n ≤ 1000000) (ht : t ≤ n) (hb : b ≤ n) (hq : q ≤ n) (hqe : el P b = q) :
    Calls Try.prog 32 #[.pointer (some ⟨U, 0, none⟩), .int .i64 t, .int .i64 b] w fun e w' => e = .returned (.tuple #[]) ∧ LU w' base U bp bn n ((N.set t b).set q t) ((P.set t q).set b t) ∧ Kept (two bp bn) w w' := by
  have c1 := h.c1
  have c2 := h.c2
  have cb := h.cellP hb
  rw [hqe] at cb
  have ctp := h.cellP ht
  have ctn := h.cellN ht
  have ftp := h.frP t
  have ftn := h.frN t
  have hne := h.ne
  have hneP := h.neP
  have hneN := h.neN
  have hne' : ¬ bn = bp := fun e => h.ne e.symm
  generalize el P t = xp at ctp
  generalize el N t = xn at ctn
  clear hqe
  have H := Lib.hid h; clear h
  go_enter Try.func32, Try.ntmps32
  go_wp2_with fail
  go_region
  have h1 : LU ((w.setCell ⟨bp, t, none⟩ (.int .i64 q)).setCell ⟨bn, t, none⟩ (.int .i64 b)).drew base U bp bn n (N.set t b) (P.set t q) := ((H.out.setP t q).setN t b).drew
  have k1 : Kept (two bp bn) w ((w.setCell ⟨bp, t, none⟩ (.int .i64 q)).setCell ⟨bn, t, none⟩ (.int .i64 b)).drew :=
    (((kept_setCell w _ _ _).mono (fun k hk => .inl hk)).trans ((kept_setCell _ _ _ _).mono (fun k hk => .inr hk))).trans (kept_drewN _ 1 _)
  generalize ((w.setCell ⟨bp, t, none⟩ (.int .i64 q)).setCell ⟨bn, t, none⟩ (.int .i64 b)).drew = w1 at h1 k1 ⊢
  clear c1 c2 cb ctp ctn ftp ftn H
  have c1 := h1.c1
  have c2 := h1.c2
  have cq := h1.cellN hq
  have cb := h1.cellP hb
  have fq := h1.frN q
  have fb := h1.frP b
  generalize el (N.set t b) q = xq at cq
  generalize el (P.set t q) b = xb at cb
  have H1 := Lib.hid h1; have K1 := Lib.hid k1; clear h1 k1
  go_wp2_with fail
  go_region
  have h2 := ((H1.out.setN q t).setP b t).drew
  have k2 := (((kept_setCell w1 bn q (.int .i64 t)).mono (T := two bp bn) (fun k hk => .inr hk)).trans ((kept_setCell _ bp b (.int .i64 t)).mono (fun k hk => .inl hk))).trans (kept_drewN _ 1 _)
  go_end0
  exact ⟨rfl, h2, K1.out.trans k2⟩

set_option maxHeartbeats 4000000 in
theorem remove_any (base U bp bn n : Nat) (N P : List Int) (t b q : Nat) (w : World) (h : LU w base U bp bn n N P) (hn : n ≤ 1000000) (ht : t ≤ n) (hb : b ≤ n) (hq : q ≤ n) (hqe : el P t = q) (hbe : el N t = b) :
    Calls Try.prog 35 #[.pointer (some ⟨U, 0, none⟩), .int .i64 t] w fun e w' => e = .returned (.tuple #[]) ∧ LU w' base U bp bn n ((N.set q b).set t (-1)) ((P.set b q).set t (-1)) ∧ Kept (two bp bn) w w' := by
  have c1 := h.c1
  have c2 := h.c2
  have ctp := h.cellP ht
  have ctn := h.cellN ht
  rw [hqe] at ctp
  rw [hbe] at ctn
  have hne := h.ne
  have hneP := h.neP
  have hneN := h.neN
  have hne' : ¬ bn = bp := fun e => h.ne e.symm
  clear hqe hbe
  have H := Lib.hid h; clear h
  go_enter Try.func35, Try.ntmps35
  go_wp2_with fail
  go_quiet (fail)
  have h0 := H.out.drewN nq
  have k0 := kept_drewN w nq (two bp bn)
  generalize w.drewN nq = w0 at h0 k0 ⊢
  clear c1 c2 ctp ctn H
  have c1 := h0.c1
  have c2 := h0.c2
  have cqn := h0.cellN hq
  have cbp := h0.cellP hb
  have fqn := h0.frN q
  have fbp := h0.frP b
  generalize el N q = xq at cqn
  generalize el P b = xb at cbp
  have H0 := Lib.hid h0; have K0 := Lib.hid k0; clear h0 k0
  go_wp2_with fail
  go_region
  have h1 := ((H0.out.setN q b).setP b q).drew
  have k1 := K0.out.trans ((((kept_setCell w0 bn q (.int .i64 b)).mono (T := two bp bn) (fun k hk => .inr hk)).trans ((kept_setCell _ bp b (.int .i64 q)).mono (fun k hk => .inl hk))).trans (kept_drewN _ 1 _))
  have e1 : ((w0.setCell ⟨bn, q, none⟩ (.int .i64 b)).setCell ⟨bp, b, none⟩ (.int .i64 q)).drewN 1 = ((w0.setCell ⟨bn, q, none⟩ (.int .i64 b)).setCell ⟨bp, b, none⟩ (.int .i64 q)).drew := rfl
  rw [e1] at k1
  clear e1
  generalize ((w0.setCell ⟨bn, q, none⟩ (.int .i64 b)).setCell ⟨bp, b, none⟩ (.int .i64 q)).drew = w1 at h1 k1 ⊢
  clear c1 c2 cqn cbp fqn fbp H0 K0
  have c1 := h1.c1
  have c2 := h1.c2
  have ctp := h1.cellP ht
  have ctn := h1.cellN ht
  have ftp := h1.frP t
  have ftn := h1.frN t
  generalize el (P.set b q) t = xp at ctp
  generalize el (N.set q b) t = xn at ctn
  have H1 := Lib.hid h1; have K1 := Lib.hid k1; clear h1 k1
  go_wp2_with fail
  go_region
  have h2 := ((H1.out.setP t (-1)).setN t (-1)).drew
  have k2 := (((kept_setCell w1 bp t (.int .i64 (-1))).mono (T := two bp bn) (fun k hk => .inl hk)).trans ((kept_setCell _ bn t (.int .i64 (-1))).mono (fun k hk => .inr hk))).trans (kept_drewN _ 1 _)
  go_end0
  exact ⟨rfl, h2, K1.out.trans k2⟩
end Go.Proofs.Ytlpjjnpafmakhaa
