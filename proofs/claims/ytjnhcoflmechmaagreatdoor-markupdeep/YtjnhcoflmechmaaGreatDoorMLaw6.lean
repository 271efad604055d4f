/-
  The law MarkupDeep, walked.
-/
import Derived.Test.YtjnhcoflmechmaaGreatDoorMDeep
import Derived.Test.YtjnhcoflmechmaaGreatDoorMLaw5
import Derived.Lib.SmallJoins
namespace Go.Proofs.YtjnhcoflmechmaaGreatDoor.M
open Go.RowKit Go.Sort
set_option linter.unusedVariables false
set_option maxRecDepth 100000
theorem info5 : (Tryz.prog.info? 5).map (fun i => (i.zero, i.size, i.bytes)) = some (some (.int .u8 0), 1, 1) := by kernel_rfl
/-- append(x, y...) of a literal of m bytes. -/
theorem wpList_appM {P : Program} {w : World} {ops : Array Oper} {rest : List Oper} {o : Oper} {a : Act} {Q : Exit → Act → World → Prop} (hgd : o.guard = none) (s x : Operand) (t : TypeId)
    (ho : o.op = .call { callee := .builtin .append, args := #[s, x], argTypes := #[t, t] })
    (base : Nat) (e : TypeId) (i : TypeInfo) (z : Value) (ht : P.underlying t = some (.slice e)) (hi : P.info? e = some i) (hz : i.zero = some z)
    (hsize : i.size = 1) (hby : i.bytes = 1) (hzs : z.cells.size = 1)
    (v : Value) (n : Nat) (xs : List Value) (hs : a.eval s = v) (hown : w.ownsRow base e 1 v n xs)
    (C : Array Value) (m : Nat) (hC : C.size = m) (hm : m ≤ 100) (hone : ∀ u ∈ C.toList, u.oneCell' = true) (fr : Nat × Nat) (B : Nat) (hB : B = w.heap.size) (hx : a.eval x = .slice (some ⟨B, 0, none⟩) m m)
    (hbytes : (n + m) ≤ 10000000) (hbase : base ≤ w.heap.size)
    (h : ∀ v' w', w'.ownsRow base e 1 v' (n + m) (xs ++ C.toList) → Below base w w' → wpList P ops Q rest (a.put o.dst v') w') : wpList P ops Q (o :: rest) a (w.alloc (.cells C e fr)) := by
  subst hB
  refine wpList_append_own_at (w.alloc _) hgd s x t ho base e i z 1 1 ht hi hz hsize hby hzs (by omega) v n xs hs (hown.alloc _) ⟨w.heap.size, 0, none⟩ m m C.toList hx (by simp [hC]) (fun j u hj => ?_) hone (by simp [maxLen]; omega) (by omega) (by simp; omega) ?_
  · rw [Addr.add_lit, Nat.zero_add, World.cell?_alloc_mark w C e fr j]
    simpa using hj
  · intro v' w' hown' hgrow _ hloc
    exact h v' w' hown' (((Below.refl base w).alloc hbase _).grown hgrow (by simp; omega) (fun k hk => (hown.lt k hk).1))
def openC : Array Value := #[.int .u8 60, .int .u8 97, .int .u8 62]
theorem own_more {w : World} {base : Nat} {v : Value} {l m : Bytes} {n k : Nat} {xs : List Value} (h : w.ownsRow base 5 1 v (n + k) (Lib.byteCells l ++ xs)) (hn : n = l.length) (hk : k = m.length) (hx : xs = Lib.byteCells m) : w.ownsRow base 5 1 v (l ++ m).length (Lib.byteCells (l ++ m)) := by
  subst hn; subst hk; subst hx
  rw [Lib.byteCells_append, List.length_append]; exact h
/-- A row of bytes, grown beyond a base. -/
structure BRow (base : Nat) (l : Bytes) (w W : World) (A : Option Addr) (n c : Nat) : Prop where
  row : W.ownsRow base 5 1 (.slice A n c) n (Lib.byteCells l)
  len : n = l.length
  b : Below base w W
theorem BRow.more {base : Nat} {l m : Bytes} {w W W' : World} {A A' : Option Addr} {n c c' k : Nat} {xs : List Value} (h : BRow base l w W A n c) (hr : W'.ownsRow base 5 1 (.slice A' (n + k) c') (n + k) (Lib.byteCells l ++ xs)) (hk : k = m.length) (hx : xs = Lib.byteCells m) (hb : Below base W W') : BRow base (l ++ m) w W' A' (n + k) c' := by
  have hn := h.len
  refine ⟨?_, by rw [List.length_append, hn, hk], h.b.trans hb⟩
  rw [Lib.byteCells_append, ← hx]; exact hr
set_option maxHeartbeats 16000000 in
theorem law6_any (n : Int) (shut : Bool) (w : World) (hv : Vars w) : Calls Tryz.prog 6 #[.int .i64 n, .bool shut] w (TrueP w) := by
  obtain ⟨i0, hi, hz0, hz1, hz2⟩ := info_parts info5
  by_cases hlo : n < 1
  · have hd : decide (n < 1) = true := by simpa using hlo
    have CS := Lib.hid (same_any w hv)
    clear hv
    go_enter Tryz.func6, Tryz.ntmps6
    go_wp2_with fail
    refine CS.out.mono ?_
    rintro e w1 ⟨rfl, hb⟩
    have HF := Lib.hid hb
    clear hb
    go_wp2_with fail
    go_ret
    exact ⟨rfl, HF.out⟩
  · by_cases hhi : n > 3000
    · have hd : decide (n < 1) = false := by simpa using hlo
      have CS := Lib.hid (same_any w hv)
      clear hv
      go_enter Tryz.func6, Tryz.ntmps6
      go_wp2_with fail
      refine CS.out.mono ?_
      rintro e w1 ⟨rfl, hb⟩
      have HF := Lib.hid hb
      clear hb
      go_wp2_with fail
      go_ret
      exact ⟨rfl, HF.out⟩
    · obtain ⟨N, hN⟩ : ∃ N : Nat, n = (N : Int) := ⟨n.toNat, by omega⟩
      subst hN
      have hN1 : 1 ≤ N := by omega
      have hN3 : N ≤ 3000 := by omega
      have hlo1 : ¬ (N : Int) < 1 := by omega
      have hhi1 : ¬ (N : Int) > 3000 := by omega
      have HV := Lib.hid hv
      obtain ⟨base, hbase⟩ : ∃ base, base = w.heap.size := ⟨_, rfl⟩
      have HB0 := Lib.hid hbase
      have H0 := Lib.hid (show BRow base (rep 0 openA) w w none 0 0 from ⟨World.ownsRow_nil _ _ _ _, rfl, Below.refl _ _⟩)
      have HBE := Lib.hid (show ∀ (l : Bytes) (W : World) A m c, BRow base l w W A m c → base ≤ W.heap.size from fun l W A m c h => by have := h.b.size; have := HB0.out; omega)
      clear hv hlo hhi hbase
      go_enter Tryz.func6, Tryz.ntmps6
      go_wp2_with fail
      go_loopg [5, 17] N (fun m s5 s17 wr => ∃ (k : Nat) (A : Option Addr) (q c : Nat), s17 = .int .i64 k ∧ s5 = .slice A q c ∧ k ≤ N ∧ N - k ≤ m ∧ q ≤ 9000 ∧ RowKit.Hid (BRow base (rep k openA) w wr A q c))
      case atStart => exact ⟨0, none, 0, 0, rfl, rfl, by omega, by omega, by omega, H0⟩
      case round =>
        obtain ⟨k, A, q, c, rfl, rfl, hk, hm, hq, HR⟩ := hrel
        by_cases hlt : k < N
        · have h1 : (k : Int) < (N : Int) := by omega
          have hcv := Lib.run_convert_bytes_const (P := Tryz.prog) wr 41 5 #[.int .u8 60, .int .u8 97, .int .u8 62] 3 3 Tryz.underlying41 Tryz.underlying5
          have hcv' : (convert 41 41 (.slice (some ⟨wr.heap.size, 0, none⟩) 3 3)).run Tryz.prog (wr.alloc (.cells #[.int .u8 60, .int .u8 97, .int .u8 62] 5)) = .ok (.slice (some ⟨wr.heap.size, 0, none⟩) 3 3) (wr.alloc (.cells #[.int .u8 60, .int .u8 97, .int .u8 62] 5 (3, 4))) := hcv
          have hbs := HBE.out _ _ _ _ _ HR.out
          have hq3 : q = 3 * k := by have := HR.out.len; rw [rep_len] at this; simp [openA] at this; omega
          have HQ3 := Lib.hid hq3
          have hwk : IntKind.i64.wrap ((k : Int) + 1) = (k : Int) + 1 := by rw [IntKind.wrap_i64]; omega
          have HNX := Lib.hid (rep_end k openA)
          clear hcv hq3
          go_wp2_with (at_builtin; refine wpList_appM rfl _ _ 41 rfl base 5 i0 (.int .u8 0) Tryz.underlying41 hi hz0 hz1 hz2 rfl _ q _ rfl HR.out.row #[.int .u8 60, .int .u8 97, .int .u8 62] 3 rfl (by omega) (by decide) (3, 4) _ (by simp) rfl (by omega) hbs ?_; intro v5 w5 hown5 hb5; obtain ⟨A5, c5, h5⟩ := row_form hown5; subst h5)
          have HR5 := Lib.hid (show BRow base (rep (k + 1) openA) w w5 A5 (q + 3) c5 from by
            rw [show rep (k + 1) openA = rep k openA ++ openA from HNX.out.symm]
            exact HR.out.more hown5 rfl rfl hb5)
          clear hown5 hb5
          go_roundg (N - (k + 1))
          case measure => omega
          case rel => exact ⟨k + 1, A5, q + 3, c5, by go_num, rfl, by omega, by omega, by have := HQ3.out; omega, HR5⟩
        · have h1 : ¬ (k : Int) < (N : Int) := by omega
          have hkN : k = N := by omega
          have HRN := Lib.hid (show BRow base (rep N openA) w wr A q c from by rw [← hkN]; exact HR.out)
          clear hkN HR H0
          have hcv : (convert 41 41 (.slice (some ⟨wr.heap.size, 0, none⟩) 4 4)).run Tryz.prog (wr.alloc (.cells #[.int .u8 60, .int .u8 98, .int .u8 47, .int .u8 62] 5)) = .ok (.slice (some ⟨wr.heap.size, 0, none⟩) 4 4) (wr.alloc (.cells #[.int .u8 60, .int .u8 98, .int .u8 47, .int .u8 62] 5 (4, 5))) := Lib.run_convert_bytes_const (P := Tryz.prog) wr 41 5 #[.int .u8 60, .int .u8 98, .int .u8 47, .int .u8 62] 4 4 Tryz.underlying41 Tryz.underlying5
          have hbs := HBE.out _ _ _ _ _ HRN.out
          go_wp2_with (at_builtin; refine wpList_appM rfl _ _ 41 rfl base 5 i0 (.int .u8 0) Tryz.underlying41 hi hz0 hz1 hz2 rfl _ q _ rfl HRN.out.row #[.int .u8 60, .int .u8 98, .int .u8 47, .int .u8 62] 4 rfl (by omega) (by decide) (4, 5) _ (by simp) rfl (by omega) hbs ?_; intro v5 w5 hown5 hb5; obtain ⟨A5, c5, h5⟩ := row_form hown5; subst h5)
          obtain ⟨M, hM⟩ : ∃ M, M = rep N openA ++ leafB := ⟨_, rfl⟩
          obtain ⟨q5, hq5⟩ : ∃ q5, q5 = q + 4 := ⟨_, rfl⟩
          have HR5 := Lib.hid (show BRow base (M ++ rep 0 shutA) w w5 A5 q5 c5 from by
            rw [show M ++ rep 0 shutA = M from List.append_nil _, hM, hq5]
            exact HRN.out.more hown5 rfl rfl hb5)
          have hM5 : q5 ≤ 9004 := by omega
          have HM := Lib.hid hM
          have HQ5 := Lib.hid (show q5 = M.length by have := HR5.out.len; rw [this]; simp [rep])
          rw [← hq5]
          clear hown5 hb5 hcv hbs HRN hq5 hM
          go_loopg [5, 29] N (fun m s5 s29 wr => ∃ (k : Nat) (A : Option Addr) (q c : Nat), s29 = .int .i64 k ∧ s5 = .slice A q c ∧ k ≤ N ∧ N - k ≤ m ∧ q ≤ 30000 ∧ RowKit.Hid (BRow base (M ++ rep k shutA) w wr A q c))
          case atStart => exact ⟨0, A5, q5, c5, rfl, rfl, by omega, by omega, by omega, HR5⟩
          case round =>
            clear HR5
            obtain ⟨k, A, q, c, rfl, rfl, hk, hm, hq, HR⟩ := hrel
            by_cases hlt : k < N
            · have h1 : (k : Int) < (N : Int) := by omega
              have hcv : (convert 41 41 (.slice (some ⟨wr.heap.size, 0, none⟩) 4 4)).run Tryz.prog (wr.alloc (.cells #[.int .u8 60, .int .u8 47, .int .u8 97, .int .u8 62] 5)) = .ok (.slice (some ⟨wr.heap.size, 0, none⟩) 4 4) (wr.alloc (.cells #[.int .u8 60, .int .u8 47, .int .u8 97, .int .u8 62] 5 (4, 5))) := Lib.run_convert_bytes_const (P := Tryz.prog) wr 41 5 #[.int .u8 60, .int .u8 47, .int .u8 97, .int .u8 62] 4 4 Tryz.underlying41 Tryz.underlying5
              have hbs := HBE.out _ _ _ _ _ HR.out
              have hq4 : q = q5 + 4 * k := by have h2 := HR.out.len; have h3 := HQ5.out; rw [List.length_append, rep_len] at h2; simp [shutA] at h2; omega
              have HQ4 := Lib.hid hq4
              have hwk : IntKind.i64.wrap ((k : Int) + 1) = (k : Int) + 1 := by rw [IntKind.wrap_i64]; omega
              clear hq4
              go_wp2_with (at_builtin; refine wpList_appM rfl _ _ 41 rfl base 5 i0 (.int .u8 0) Tryz.underlying41 hi hz0 hz1 hz2 rfl _ q _ rfl HR.out.row #[.int .u8 60, .int .u8 47, .int .u8 97, .int .u8 62] 4 rfl (by omega) (by decide) (4, 5) _ (by simp) rfl (by omega) hbs ?_; intro v6 w6 hown6 hb6; obtain ⟨A6, c6, h6⟩ := row_form hown6; subst h6)
              have HR6 := Lib.hid (show BRow base (M ++ rep (k + 1) shutA) w w6 A6 (q + 4) c6 from by
                rw [show M ++ rep (k + 1) shutA = (M ++ rep k shutA) ++ shutA from by rw [List.append_assoc, rep_end k shutA]; rfl]
                exact HR.out.more hown6 rfl rfl hb6)
              clear hown6 hb6
              go_roundg (N - (k + 1))
              case measure => omega
              case rel => exact ⟨k + 1, A6, q + 4, c6, by go_num, rfl, by omega, by omega, by have := HQ4.out; omega, HR6⟩
            · have h1 : ¬ (k : Int) < (N : Int) := by omega
              have hkN : k = N := by omega
              obtain ⟨m, hm⟩ : ∃ m, N = m + 1 := ⟨N - 1, by omega⟩
              have HRN := Lib.hid (show BRow base (rep N openA ++ (leafB ++ rep N shutA)) w wr A q c from by
                have := HR.out
                rw [hkN, HM.out, List.append_assoc] at this
                exact this)
              have HMM := Lib.hid hm
              clear hkN HR HM HQ5
              cases shut with
              | true =>
                obtain ⟨T, hT⟩ : ∃ T : ByteArray, T = E.str (rep N openA ++ (leafB ++ rep N shutA)) := ⟨_, rfl⟩
                have hTd : T.data.toList = prT (deepT N) := by rw [hT, pr_deep]; rfl
                have hTs : T.size = q := by rw [HRN.out.len, hT]; exact (size_list _).symm
                have hrw := HRN.out.row
                have hcv : (convert 41 9 (.slice A q c)).run Tryz.prog wr = .ok (.string T) wr := by
                  have hl := HRN.out.len
                  rw [hl] at hrw ⊢
                  rw [hT]; exact E.conv_own hrw
                have hvr := HV.out.belowC (show Below w.heap.size w wr from by rw [← HB0.out]; exact HRN.out.b)
                have CP := Lib.hid (parse_any T wr (by omega) (by
                  show cntK T.data.toList ≤ 4096
                  rw [hTd]
                  have := cnt_deep N []
                  rw [List.append_nil] at this
                  have h0 : cntK [] = 0 := rfl
                  omega) (fun t l h => by
                  have h' : nodeP T.data.toList = .ok t l := h
                  rw [hTd, node_whole] at h'
                  cases h'; exact good_deep N) hvr)
                have HTD := Lib.hid hTd
                have HBR := Lib.hid (show Below w.heap.size w wr from by rw [← HB0.out]; exact HRN.out.b)
                clear hT hTd hTs hrw hvr HRN
                go_wp2_with fail
                refine CP.out.mono ?_
                rintro e w5 ⟨t, x, a, er, rfl, hti, hpm, hb5⟩
                obtain ⟨d1, d2⟩ := says_deep HTD.out hpm
                obtain ⟨w6, hw6⟩ : ∃ w6, w6 = boxW w5 t x := ⟨_, rfl⟩
                have hb6 : Below w5.heap.size w5 w6 := by rw [hw6]; exact below_box _ _ _
                have hbr5 := HBR.out.trans (hb5.mono HBR.out.size)
                have HB6 := Lib.hid (hbr5.trans (hb6.mono hbr5.size))
                have CS := Lib.hid (same_any w6 (HV.out.belowC HB6.out))
                have HW6 := Lib.hid hw6
                clear hti hpm hb5 hw6 hb6 hbr5 CP hcv
                by_cases h64 : N < 64
                · obtain ⟨rfl, rfl⟩ := d1 h64
                  have h64' : ¬ (N : Int) ≥ 64 := by omega
                  clear d1 d2
                  go_upto_region 16 with (fail)
                  rw [box_out HW6]
                  go_wp2_with fail
                  refine CS.out.mono ?_
                  rintro e w7 ⟨rfl, hb7⟩
                  have HF := Lib.hid (HB6.out.trans (hb7.mono HB6.out.size))
                  clear hb7 CS HB6
                  go_wp2_with fail
                  go_ret
                  exact ⟨rfl, HF.out⟩
                · obtain ⟨rfl, rfl⟩ := d2 (by omega)
                  have h64' : (N : Int) ≥ 64 := by omega
                  clear d1 d2
                  go_upto_region 16 with (fail)
                  rw [box_out HW6]
                  go_wp2_with fail
                  refine CS.out.mono ?_
                  rintro e w7 ⟨rfl, hb7⟩
                  have HF := Lib.hid (HB6.out.trans (hb7.mono HB6.out.size))
                  clear hb7 CS HB6
                  go_wp2_with fail
                  go_ret
                  exact ⟨rfl, HF.out⟩
              | false =>
                obtain ⟨L, hL⟩ : ∃ L : Bytes, L = openA ++ (prT (deepT m) ++ [60, 47, 97]) := ⟨_, rfl⟩
                have hall : rep N openA ++ (leafB ++ rep N shutA) = L ++ [62] := by rw [hm, cut_list, hL]
                obtain ⟨q0, hq0⟩ : ∃ q0, q = q0 + 1 := ⟨q - 1, by have := HRN.out.len; rw [hall, List.length_append] at this; simp at this; omega⟩
                subst hq0
                have hql : q0 = L.length := by have := HRN.out.len; rw [hall, List.length_append] at this; simp at this; omega
                have hrw0 := HRN.out.row
                rw [hall] at hrw0
                have hrw : wr.ownsRow base 5 1 (.slice A q0 c) q0 (Lib.byteCells L) := by
                  have := own_cut hrw0 (show q0 ≤ q0 + 1 by omega)
                  rw [Nat.mul_one, Lib.byteCells_append, List.take_append_of_le_length (by rw [Lib.byteCells_length]; omega), List.take_of_length_le (by rw [Lib.byteCells_length]; omega)] at this
                  exact this
                obtain ⟨T, hT⟩ : ∃ T : ByteArray, T = E.str L := ⟨_, rfl⟩
                have hTd : T.data.toList = L := by rw [hT]; rfl
                have hTs : T.size = q0 := by rw [hql, hT]; exact (size_list _).symm
                have hcv : (convert 41 9 (.slice A q0 c)).run Tryz.prog wr = .ok (.string T) wr := by
                  rw [hql] at hrw ⊢
                  rw [hT]; exact E.conv_own hrw
                obtain ⟨A', c', hv', hqc, hcm, hA0, hfull⟩ := own_parts hrw0 (by decide)
                simp only [Value.slice.injEq, true_and] at hv'
                obtain ⟨gO, hgA, _, _, _⟩ := hfull (by omega)
                have hAe : A = some ⟨gO, 0, none⟩ := hv'.1.trans hgA
                subst hAe
                have hqc' : q0 + 1 ≤ c := by rw [hv'.2]; exact hqc
                have hvr := HV.out.belowC (show Below w.heap.size w wr from by rw [← HB0.out]; exact HRN.out.b)
                have CP := Lib.hid (parse_any T wr (by omega) (by
                  show cntK T.data.toList ≤ 4096
                  rw [hTd, hL]
                  have h1 := cnt_deep m [60, 47, 97]
                  have h2 : cntK (openA ++ (prT (deepT m) ++ [60, 47, 97])) ≤ 1 + cntK (prT (deepT m) ++ [60, 47, 97]) := by
                    refine Nat.le_trans (cntK_cons_le 60 ([97, 62] ++ (prT (deepT m) ++ [60, 47, 97]))) ?_
                    rw [cntK_free [97, 62] _ (fun x hx => by simp at hx; rcases hx with rfl | rfl <;> decide)]
                    exact Nat.le_refl _
                  have h3 : cntK [60, 47, 97] = 0 := by decide
                  omega) (fun t l h => by
                  have h' : nodeP T.data.toList = .ok t l := h
                  rw [hTd, hL, node_cut] at h'
                  cases h') hvr)
                have HTD := Lib.hid (show T.data.toList = openA ++ (prT (deepT m) ++ [60, 47, 97]) from hTd.trans hL)
                have HBR := Lib.hid (show Below w.heap.size w wr from by rw [← HB0.out]; exact HRN.out.b)
                have HTS := Lib.hid hTs
                have hwq : IntKind.i64.wrap (q0 : Int) = (q0 : Int) := by rw [IntKind.wrap_i64]; omega
                have z0 : (0 : Int) ≤ (q0 : Int) := by omega
                have z1 : (q0 : Int) ≤ (c : Int) := by omega
                have htn : ((q0 : Int)).toNat = q0 := by omega
                have hqle : q0 ≤ 30000 := by omega
                clear hT hTd hTs hrw hrw0 hvr HRN hL hall hql hv' hqc hcm hA0 hfull hgA hqc'
                go_wp2_with fail
                refine CP.out.mono ?_
                rintro e w5 ⟨t, x, a, er, rfl, hti, hpm, hb5⟩
                obtain ⟨ha, rfl⟩ := says_cut HTD.out hpm
                rw [HTS.out] at ha
                subst ha
                obtain ⟨w6, hw6⟩ : ∃ w6, w6 = boxW w5 t x := ⟨_, rfl⟩
                have hb6 : Below w5.heap.size w5 w6 := by rw [hw6]; exact below_box _ _ _
                have hbr5 := HBR.out.trans (hb5.mono HBR.out.size)
                have HB6 := Lib.hid (hbr5.trans (hb6.mono hbr5.size))
                have CS := Lib.hid (same_any w6 (HV.out.belowC HB6.out))
                have HW6 := Lib.hid hw6
                clear hti hpm hb5 hw6 hb6 hbr5 CP hcv
                go_upto_region 16 with (fail)
                rw [box_out HW6]
                go_wp2_with fail
                refine CS.out.mono ?_
                rintro e w7 ⟨rfl, hb7⟩
                have HF := Lib.hid (HB6.out.trans (hb7.mono HB6.out.size))
                clear hb7 CS HB6
                go_wp2_with fail
                go_ret
                exact ⟨rfl, HF.out⟩
end Go.Proofs.YtjnhcoflmechmaaGreatDoor.M
