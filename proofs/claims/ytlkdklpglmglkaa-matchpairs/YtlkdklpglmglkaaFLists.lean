/-
  flat.Lists.
-/
import Derived.Test.YtlkdklpglmglkaaFTree
import Derived.Test.YtlkdklpglmglkaaFLook
import Derived.Test.YtlkdklpglmglkaaFSpan
import Derived.Deep.DeepCutAuto
namespace Go.Proofs.Ytlkdklpglmglkaa
open Go.RowKit Go.Sort Go.Lib
set_option linter.unusedVariables false
set_option maxRecDepth 100000
/-! Rows of integers in a row. -/
structure PW (w : World) (g m : Nat) (V : List Value) (L : Nat → List Int) : Prop where
  row : w.ownsRow g 46 1 (.slice (some ⟨g, 0, none⟩) m m) m V
  own : ∀ j, j < m → I.OwnI w (g + 1) (V.getD j nilV) (L j)
  apart : ∀ i j, i < m → j < m → i ≠ j → ∀ b, (V.getD i nilV).ownBlock = some b → ¬ (V.getD j nilV).ownBlock = some b
theorem PW.len {w : World} {g m : Nat} {V : List Value} {L : Nat → List Int} (h : PW w g m V L) : V.length = m := by have := h.row.1; omega
theorem own_ne {g b m : Nat} (h : OwnB (.slice (some ⟨g, 0, none⟩) m m) b) : g = b := by simpa [OwnB, Value.ownBlock] using h
theorem PW.step {w w' : World} {g m p : Nat} {V : List Value} {L : Nat → List Int} {v' : Value} {zs : List Int} (h : PW w g m V L) (hp : p < m) (ho : I.OwnI w' (g + 1) v' zs) (hk : Kept (OwnB (V.getD p nilV)) w w') (hf : Fresh w (V.getD p nilV) v') :
    PW (w'.setCell ⟨g, p, none⟩ v') g m (V.set p v') (fun j => if p = j then zs else L j) := by
  have hV := h.len
  have hlt : ∀ j, j < m → ∀ b, (V.getD j nilV).ownBlock = some b → g + 1 ≤ b ∧ b < w.heap.size := fun j hj b hb => World.ownsRow.lt (h.own j hj) b hb
  have hrow := hk.own h.row (fun b hb e => by have := own_ne hb; have := (hlt p hp b e).1; omega)
  refine ⟨(hrow.stored p v').1, fun j hj => ?_, fun i j hi hj hij b hb => ?_⟩
  · rw [getD_setV _ _ _ _ (by omega)]
    by_cases hpj : p = j
    · rw [if_pos hpj, if_pos hpj]
      exact ownsRow_setCell_below ho (a := ⟨g, p, none⟩) (by simp) _
    · rw [if_neg hpj, if_neg hpj]
      have : I.OwnI w' (g + 1) (V.getD j nilV) (L j) := hk.own (h.own j hj) (fun b hb e => h.apart p j hp hj hpj b e hb)
      exact ownsRow_setCell_below this (a := ⟨g, p, none⟩) (by simp) _
  · rw [getD_setV _ _ _ _ (by omega)] at hb ⊢
    by_cases hpi : p = i
    · rw [if_pos hpi] at hb
      rw [if_neg (by omega)]
      intro e
      have h2 := (hlt j hj b e).2
      exact h.apart p j hp hj (by omega) b (hf b h2 hb) e
    · rw [if_neg hpi] at hb
      by_cases hpj : p = j
      · rw [if_pos hpj]
        intro e
        have h2 := (hlt i hi b hb).2
        exact h.apart p i hp hi hpi b (hf b h2 e) hb
      · rw [if_neg hpj]
        exact h.apart i j hi hj hij b hb
theorem PW.below {w w' : World} {g m : Nat} {V : List Value} {L : Nat → List Int} (h : PW w g m V L) (hb : Below w.heap.size w w') : PW w' g m V L :=
  ⟨(kept_below hb (fun _ => False)).own h.row (fun _ _ h => h), fun j hj => (kept_below hb (fun _ => False)).own (h.own j hj) (fun _ _ h => h), h.apart⟩
theorem PW.congr {w : World} {g m : Nat} {V : List Value} {L L' : Nat → List Int} (h : PW w g m V L) (he : ∀ j, j < m → L j = L' j) : PW w g m V L' := ⟨h.row, fun j hj => he j hj ▸ h.own j hj, h.apart⟩
theorem PW.cell {w : World} {g m : Nat} {V : List Value} {L : Nat → List Int} (h : PW w g m V L) {j : Nat} (hj : j < m) : ∃ A c, V.getD j nilV = .slice A (L j).length c ∧ w.cell? ⟨g, j, none⟩ = some (.slice A (L j).length c) ∧ I.Row w w.heap.size A (L j) ∧ (L j).length ≤ c := by
  obtain ⟨A, c, hv, hr, hc, -⟩ := I.row_own (h.own j hj)
  refine ⟨A, c, hv, ?_, hr, hc⟩
  have hV := h.len
  rw [h.row.cellAt j (by omega), ← hv]
  simp [show j < V.length by omega]
/-- The same, to be read: all of its memory below B. -/
def LL (w : World) (B : Nat) (A : Option Addr) (m : Nat) (L : Nat → List Int) : Prop := 0 < m → ∃ g, A = some ⟨g, 0, none⟩ ∧ g < B ∧ ∀ j, j < m → ∃ A' c', w.cell? ⟨g, j, none⟩ = some (.slice A' (L j).length c') ∧ I.Row w B A' (L j) ∧ (L j).length ≤ c'
theorem LL.below {w w' : World} {B : Nat} {A : Option Addr} {m : Nat} {L : Nat → List Int} (h : LL w B A m L) (hb : Below B w w') : LL w' B A m L := by
  intro h0
  obtain ⟨g, hA, hlt, hc⟩ := h h0
  refine ⟨g, hA, hlt, fun j hj => ?_⟩
  obtain ⟨A', c', h1, h2, h3⟩ := hc j hj
  exact ⟨A', c', (hb.cell (p := ⟨g, j, none⟩) hlt).trans h1, h2.below hb, h3⟩
theorem LL.mono {w : World} {B B' : Nat} {A : Option Addr} {m : Nat} {L : Nat → List Int} (h : LL w B A m L) (hb : B ≤ B') : LL w B' A m L := by
  intro h0
  obtain ⟨g, hA, hlt, hc⟩ := h h0
  refine ⟨g, hA, by omega, fun j hj => ?_⟩
  obtain ⟨A', c', h1, h2, h3⟩ := hc j hj
  exact ⟨A', c', h1, h2.mono hb, h3⟩
theorem LL.up {w w' : World} {A : Option Addr} {m : Nat} {L : Nat → List Int} (h : LL w w.heap.size A m L) (hb : Below w.heap.size w w') : LL w' w'.heap.size A m L := (h.below hb).mono hb.size
theorem LL.at {w : World} {B : Nat} {A : Option Addr} {m : Nat} {L : Nat → List Int} (h : LL w B A m L) {j : Nat} (hj : j < m) : ∃ g A' c', A = some ⟨g, 0, none⟩ ∧ g < B ∧ w.cell? ⟨g, j, none⟩ = some (.slice A' (L j).length c') ∧ I.Row w B A' (L j) ∧ (L j).length ≤ c' := by
  obtain ⟨g, hA, hlt, hc⟩ := h (by omega)
  obtain ⟨A', c', h1, h2, h3⟩ := hc j hj
  exact ⟨g, A', c', hA, hlt, h1, h2, h3⟩
theorem PW.read {w : World} {g m : Nat} {V : List Value} {L : Nat → List Int} (h : PW w g m V L) : LL w w.heap.size (some ⟨g, 0, none⟩) m L := fun h0 => ⟨g, rfl, (h.row.lt g rfl).2, fun j hj => by
  obtain ⟨A, c, -, h1, h2, h3⟩ := h.cell hj
  exact ⟨A, c, h1, h2, h3⟩⟩
theorem Try.info46 : (Try.prog.info? 46).map (fun i => (i.zero, i.size, i.bytes)) = some (some (.slice none 0 0), 1, 24) := by kernel_rfl
theorem pw_start {w : World} {g m : Nat} (h : w.ownsRow g 46 1 (.slice (some ⟨g, 0, none⟩) m m) m (List.replicate m nilV)) (L : Nat → List Int) (hL : ∀ j, L j = []) : PW w g m (List.replicate m nilV) L := by
  have hn : ∀ j, (List.replicate m nilV).getD j nilV = nilV := fun j => by
    rw [List.getD_eq_getElem?_getD, List.getElem?_replicate]; split <;> rfl
  refine ⟨h, fun j hj => ?_, fun i j hi hj hij b hb => ?_⟩
  · rw [hn, hL]; exact World.ownsRow_nil _ _ _ _
  · rw [hn] at hb; simp [Value.ownBlock] at hb
theorem int_app {rb : Nat} (w6 : World) (u : Int) (Av : Option Addr) (k cv : Nat) (zs : List Int) (hown : I.OwnI w6 rb (.slice Av k cv) zs) (hpl : zs.length = k) (hk : k ≤ 1000000) (hrb : rb ≤ w6.heap.size) :
    ∃ A7 c7 w7, (Builtin.append_ #[46, 46] 46 #[.slice Av k cv, .slice (some ⟨w6.heap.size, 0, none⟩) 1 1]).run Try.prog (w6.alloc (.cells #[.int .i64 u] 3)) = .ok (.slice A7 (k + 1) c7) w7 ∧
      I.OwnI w7 rb (.slice A7 (k + 1) c7) (zs ++ [u]) ∧ Kept (OwnB (.slice Av k cv)) w6 w7 ∧ Fresh w6 (.slice Av k cv) (.slice A7 (k + 1) c7) := by
  obtain ⟨i0, hi, hz0, hz1, hz2⟩ := info_parts I.Try.info3
  have hown' : (w6.alloc (.cells #[.int .i64 u] 3)).ownsRow rb 3 1 (.slice Av k cv) k (I.ints zs) := by
    have := World.ownsRow.alloc hown (.cells #[.int .i64 u] 3)
    rw [hpl] at this
    exact this
  obtain ⟨v7, w7, hrun, ho, hgr, _, hloc⟩ := run_append_own_at (P := Try.prog) (w6.alloc (.cells #[.int .i64 u] 3)) rb 46 46 3 i0 _ 1 8 Try.underlying46 hi hz0 hz1 hz2 rfl (by omega) (.slice Av k cv) k (I.ints zs) hown' ⟨w6.heap.size, 0, none⟩ 1 1 [.int .i64 u] (by simp) (arr_new _ _ _ _ rfl) (by intro y hy; simp at hy; subst hy; rfl) (by unfold maxLen; omega) (by omega) (by simp; omega)
  obtain ⟨A7, c7, rfl⟩ := row_form ho
  refine ⟨A7, c7, w7, hrun, ?_, (kept_alloc w6 _ _).trans ((kept_grown hgr).mono (fun b _ hb => hb.symm)), fun j hj hb => ?_⟩
  · unfold I.OwnI
    simpa [hpl] using ho
  · rcases hloc with hl | hl
    · rw [← hl]; exact hb
    · rw [hl] at hb
      simp at hb
      omega
/-- What Lists hands back. -/
def ListsPost (rs : List Rw) (w : World) (e : Ending) (w' : World) : Prop :=
  (errR rs ≠ 0 ∧ e = .returned (.slice none 0 0) ∧ Below w.heap.size w w') ∨
  (errR rs = 0 ∧ ∃ A, e = .returned (.slice A (rs.length + 1) (rs.length + 1)) ∧ LL w' w'.heap.size A (rs.length + 1) (fun j => nums (kidsH rs j)) ∧ Below w.heap.size w w')
set_option maxHeartbeats 8000000 in
theorem lists_any (A : Option Addr) (c : Nat) (rs : List Rw) (w : World) (H : RRow w w.heap.size A rs) (G : GoodRs rs) (hl : rs.length ≤ 1000) (hc : rs.length ≤ c) :
    Calls Try.prog 23 #[.slice A rs.length c] w (ListsPost rs w) := by
  have nf : ¬ (False : Prop) := fun h => h
  have HR := Lib.hid H
  have C := Lib.hid (fcheck_any A c rs w H G hl hc)
  obtain ⟨i0, hi, hz0, hz1, hz2⟩ := info_parts Try.info46
  have HBY := Lib.hid (show i0.bytes * (rs.length + 1) ≤ 281474976710656 by rw [hz2]; omega)
  clear H G hc
  go_enter Try.func23, Try.ntmps23
  go_wp2_with fail
  refine C.out.mono ?_
  rintro e w1 ⟨rfl, hb1⟩
  have HB1 := Lib.hid hb1; have HR1 := Lib.hid (HR.out.up hb1)
  clear hb1 C
  obtain ⟨er, her⟩ : ∃ e, e = errR rs := ⟨_, rfl⟩
  rw [← her]
  have HER := Lib.hid her
  clear her
  by_cases hz : er = 0
  · have hz' : (er != 0) = false := by simpa using hz
    have HZ := Lib.hid (show errR rs = 0 by rw [← HER.out]; exact hz)
    have HF := Lib.hid (errR_form (rs := rs) HZ.out)
    clear hz
    have hwl : IntKind.i64.wrap ((rs.length : Int) + 1) = (rs.length : Int) + 1 := by rw [IntKind.wrap_i64]; omega
    go_wp2_with (at_make; refine wpList_make_full _ rfl (.tmp 11) (.tmp 11) 44 rfl w1.heap.size 46 i0 (.slice none 0 0) 1 Try.underlying44 hi hz0 hz1 .i64 .i64 _ _ (rs.length + 1) rfl rfl rfl rfl HBY.out (by unfold maxLen; omega) (Nat.le_refl _) ?_; intro w2 hown2 hg2; rw [made_nils] at hown2; have HG2 := Lib.hid hg2; clear hg2; have HO2 := Lib.hid hown2; clear hown2)
    have hb2 : Below w1.heap.size w1 w2 := (Below.refl _ _).grown HG2.out (Nat.le_refl _) (fun k hk => by cases hk)
    obtain ⟨g, hgg⟩ : ∃ g, g = w1.heap.size := ⟨_, rfl⟩
    have HGG := Lib.hid hgg
    have HB2 := Lib.hid hb2
    rw [← hgg] at HO2 ⊢
    clear hgg hb2 HG2
    go_loopg [4, 5, 15] rs.length (fun q _ _ s15 wr => ∃ (k : Nat) (V : List Value), s15 = .int .i64 k ∧ k ≤ rs.length ∧ rs.length - k ≤ q ∧ RowKit.Hid (PW wr g (rs.length + 1) V (fun j => nums (kidsTo rs j k))) ∧ RowKit.Hid (Below g w1 wr))
    case atStart => exact ⟨0, _, rfl, by omega, by omega, Lib.hid (pw_start HO2.out _ (fun j => rfl)), Lib.hid (by rw [HGG.out]; exact HB2.out)⟩
    case round =>
      obtain ⟨k, V, rfl, hk, hq, HP, HB⟩ := hrel
      by_cases hlt : k < rs.length
      · have h1 : (k : Int) < (rs.length : Int) := by omega
        obtain ⟨b, off, r, x, hA, hb, hr, hcc, -⟩ := rrow_at (HR1.out.below (by rw [← HGG.out]; exact HB.out)) hlt
        obtain ⟨c0, c1, c2, c3, c4, c5⟩ := hcc
        have hr' : rwAt rs k = r := by rw [rwAt_eq hlt, hr]
        obtain ⟨v1, v2⟩ := okAt_up (HF.out k hlt)
        rw [hr'] at v1 v2
        obtain ⟨u, hu⟩ : ∃ u, u = r.up.toNat := ⟨_, rfl⟩
        have hru : r.up = (u : Int) := by omega
        have hul : u ≤ rs.length := by omega
        have hui : (u : Int) < (rs.length : Int) + 1 := by omega
        obtain ⟨w2', hw2'⟩ : ∃ w', w' = rboxW wr r x := ⟨_, rfl⟩
        have hbw : Below wr.heap.size wr w2' := by rw [hw2']; exact below_rbox _ _ _
        have hrc : RCells w2' wr.heap.size 0 r x := by rw [hw2']; exact rbox_cells _ _ _
        have hp2 := HP.out.below hbw
        obtain ⟨Au, cu, hVu, hcu, -, hlu⟩ := hp2.cell (show u < rs.length + 1 by omega)
        have hzl : (nums (kidsTo rs u k)).length = (kidsTo rs u k).length := by simp [nums]
        have hkl := kidsTo_len rs u k
        obtain ⟨n, hn⟩ : ∃ n, n = (kidsTo rs u k).length := ⟨_, rfl⟩
        rw [hzl, ← hn] at hVu hcu
        have hownu := hp2.own u (by omega)
        rw [hVu] at hownu
        have hgw : g < w2'.heap.size := (hp2.row.lt g rfl).2
        obtain ⟨A7, c7, w7, hrun, ho7, hk7, hf7⟩ := int_app w2'.drew ((k : Int) + 1) Au n cu (nums (kidsTo rs u k)) (show I.OwnI w2'.drew (g + 1) (.slice Au n cu) _ from (kept_below (below_drewN _ w2' 1) (fun _ => False)).own hownu (fun _ _ => nf)) (by rw [hzl, hn]) (by omega) (by show g + 1 ≤ w2'.heap.size; omega)
        have hng : ¬ OwnB (.slice Au n cu) g := fun h => by have := (World.ownsRow.lt hownu g h).1; omega
        have hnb : ¬ OwnB (.slice Au n cu) wr.heap.size := fun h => by
          have h1 := HP.out.own u (by omega)
          rw [hVu] at h1
          have := (World.ownsRow.lt h1 _ h).2
          omega
        have e1 : w7.cell? ⟨wr.heap.size, 0 + 1, none⟩ = some (.int .i64 r.up) := hk7.cellOf hrc.c1 hnb
        have d1 : w2'.cell? ⟨wr.heap.size, 1, none⟩ = some (.int .i64 (u : Int)) := by rw [← hru]; exact hrc.c1
        have d2 : (w2'.alloc (.cells #[.int .i64 ((k : Int) + 1)] 3)).cell? ⟨wr.heap.size, 1, none⟩ = some (.int .i64 (u : Int)) := cell_push d1
        have d3 : w7.cell? ⟨wr.heap.size, 1, none⟩ = some (.int .i64 (u : Int)) := by rw [← hru]; exact e1
        have f1 : w2'.cell? ⟨g, u, none⟩ = some (.slice Au n cu) := hcu
        have f2 : (w2'.alloc (.cells #[.int .i64 ((k : Int) + 1)] 3)).cell? ⟨g, u, none⟩ = some (.slice Au n cu) := cell_push hcu
        have f3 : w7.cell? ⟨g, u, none⟩ = some (.slice Au n cu) := hk7.cellOf (show w2'.drew.cell? ⟨g, u, none⟩ = _ from hcu) hng
        have z7 : w7.frozen? ⟨g, u, none⟩ = false := (hk7.frozen (a := ⟨g, u, none⟩) (show g < w2'.drew.heap.size from hgw) hng).trans (show w2'.drew.frozen? ⟨g, u, none⟩ = false from hp2.row.frozenAt u)
        have HNX := Lib.hid (show PW (w7.setCell ⟨g, u, none⟩ (.slice A7 (n + 1) c7)) g (rs.length + 1) (V.set u (.slice A7 (n + 1) c7)) (fun j => nums (kidsTo rs j (k + 1))) from by
          have hst := (hp2.below (below_drewN _ w2' 1)).step (p := u) (by omega) (v' := .slice A7 (n + 1) c7) (zs := nums (kidsTo rs u k) ++ [(k : Int) + 1]) ho7 (by rw [hVu]; exact hk7) (by rw [hVu]; exact hf7)
          refine hst.congr (fun j hj => ?_)
          rw [kidsTo, hr', hru]
          by_cases huj : u = j
          · subst huj
            rw [if_pos rfl, if_pos rfl]; simp [nums]
          · rw [if_neg huj, if_neg (by omega)])
        have HBX := Lib.hid (show Below g w1 (w7.setCell ⟨g, u, none⟩ (.slice A7 (n + 1) c7)) from by
          have hb0 : Below g w1 w2' := HB.out.trans (hbw.mono (by have := (HP.out.row.lt g rfl).2; omega))
          have hb3 : Below g w1 w2'.drew := hb0.trans (below_drewN _ w2' 1)
          have hb4 : Below g w1 w7 := hb3.trans (hk7.below (by show g ≤ w2'.heap.size; omega) (fun b hb => by have := (World.ownsRow.lt hownu b hb).1; omega))
          exact hb4.setCell (Nat.le_refl _) _)
        have HRUN := Lib.hid (show (Builtin.append_ #[46, 46] 46 #[.slice Au n cu, .slice (some ⟨w2'.heap.size, 0, none⟩) 1 1]).run Try.prog (w2'.alloc (.cells #[.int .i64 ((k : Int) + 1)] 3)).drew = .ok (.slice A7 (n + 1) c7) w7 from hrun); have HW2 := Lib.hid (show wr.alloc (.cells #[.int .i64 r.id, .int .i64 (u : Int), .string r.tag, .string r.key, .string r.text, .slice x.A r.as.length x.ca] 56) = w2' by rw [hw2', ← hru])
        have hwk : IntKind.i64.wrap ((k : Int) + 1) = (k : Int) + 1 := by rw [IntKind.wrap_i64]; omega
        have hunn : 0 ≤ (u : Int) := by omega
        rw [hru] at c1
        have HHU := Lib.hid hul
        clear hr hr' v1 v2 hu hp2 hVu hcu hlu hzl hkl hn hownu hgw hrun ho7 hk7 hf7 hng hnb e1 hbw hw2' hwl
        go_upto_region 7 with (fail)
        rw [HW2.out]
        clear c0 c1 c2 c3 c4 c5 hA hru
        go_region_law (refine step_append_run rfl (.tmp 27) (.tmp 30) 46 rfl (.slice Au n cu) (.slice (some ⟨w2'.heap.size, 0, none⟩) 1 1) (by simp [Act.eval]) (by simp [Act.eval]) HRUN.out ?_)
        all_goals
          clear d1 d2 d3 f1 f2 f3 z7 HRUN HW2 hrc
          generalize w7.setCell ⟨g, u, none⟩ (.slice A7 (n + 1) c7) = w8 at HNX HBX ⊢
          go_wp2_with fail
          go_roundg (rs.length - (k + 1))
          case measure => omega
          case rel => exact ⟨k + 1, V.set u (.slice A7 (n + 1) c7), by go_num, by omega, by omega, HNX, HBX⟩
      · have h1 : ¬ (k : Int) < (rs.length : Int) := by omega
        obtain rfl : k = rs.length := by omega
        go_wp2_with fail
        go_ret
        exact .inr ⟨HZ.out, some ⟨g, 0, none⟩, rfl, HP.out.read, HB1.out.trans (HB.out.mono (by rw [HGG.out]; exact HB1.out.size))⟩
  · have hz' : (er != 0) = true := by simpa using hz
    have HZ := Lib.hid hz
    clear hz
    go_wp2_with fail
    go_ret
    exact .inl ⟨by rw [← HER.out]; exact HZ.out, rfl, HB1.out⟩
end Go.Proofs.Ytlkdklpglmglkaa
