/-
  tendrilref14.Labels; tendrilplain.Labels; match.Labels.
-/
import Derived.Test.YtlkdklpglmglkaaMPairs
import Derived.BigQuiet
namespace Go.Proofs.Ytlkdklpglmglkaa
open Go.RowKit Go.Sort Go.Lib
open K (Lab LRow lrow_at)
set_option linter.unusedVariables false
set_option maxRecDepth 100000
theorem eqBa (a b : ByteArray) : (a.toList == b.toList) = decide (a = b) := by
  rw [Bool.eq_iff_iff, beq_iff_eq, decide_eq_true_eq]
  refine ⟨fun h => bext ?_, fun h => by rw [h]⟩
  rw [Lib.toList_data, Lib.toList_data] at h
  exact h
theorem eqLab (x y : Lab) : (x.tag.toList == y.tag.toList && (x.key.toList == y.key.toList && (x.n == y.n))) = decide (x = y) := by
  rw [eqBa, eqBa, Bool.eq_iff_iff]
  cases x; cases y
  simp
theorem eqL (x y : Lab) (w : World) : (Op.equalIn 10000 58 (.agg #[.string x.tag, .string x.key, .int .i64 x.n]) (.agg #[.string y.tag, .string y.key, .int .i64 y.n])).run Try.prog w = .ok (decide (x = y)) w := by
  rw [← eqLab, run_equalIn_struct w 9999 58 _ _ (by kernel_rfl) (by kernel_rfl)]
  have hf : ((Try.prog.fieldsOf 58).toList.map fun f => (f.type, f.offset, f.name == "_")) = [(9, 0, false), (9, 1, false), (3, 2, false)] := by kernel_rfl
  generalize (Try.prog.fieldsOf 58).toList = fs at hf
  rcases fs with _ | ⟨a, _ | ⟨b, _ | ⟨d, _ | ⟨c, r⟩⟩⟩⟩
  · simp at hf
  · simp at hf
  · simp at hf
  · simp at hf
    obtain ⟨⟨h1, h2, h3⟩, ⟨h4, h5, h6⟩, h7, h8, h9⟩ := hf
    have p1 : ∀ (u v : ByteArray) (g : Int) (w : World), Sem.run Try.prog (part 9 #[.string u, .string v, .int .i64 g] 0) w = .ok (.string u) w := fun u v g w => by kernel_rfl
    have p2 : ∀ (u v : ByteArray) (g : Int) (w : World), Sem.run Try.prog (part 9 #[.string u, .string v, .int .i64 g] 1) w = .ok (.string v) w := fun u v g w => by kernel_rfl
    have p3 : ∀ (u v : ByteArray) (g : Int) (w : World), Sem.run Try.prog (part 3 #[.string u, .string v, .int .i64 g] 2) w = .ok (.int .i64 g) w := fun u v g w => by kernel_rfl
    have e1 : ∀ (u v : ByteArray) (w : World), Sem.run Try.prog (Op.equalIn 9999 9 (.string u) (.string v)) w = .ok (u.toList == v.toList) w := fun u v w => run_equalIn_string w 9998 9 u v Try.underlying9
    have e2 : ∀ (u v : Int) (w : World), Sem.run Try.prog (Op.equalIn 9999 3 (.int .i64 u) (.int .i64 v)) w = .ok (u == v) w := fun u v w => run_equalIn_int w 9998 3 .i64 .i64 u v Try.underlying3
    simp only [Op.eqFields, h1, h2, h4, h5, h7, h8]
    simp [h3, h6, h9]
    rw [p1]; simp only [Result.andThen_ok]
    rw [p1]; simp only [Result.andThen_ok]
    rw [e1]; simp only [Result.andThen_ok]
    cases h7 : (x.tag.toList == y.tag.toList)
    · simp
    · simp only [Bool.true_eq_false, if_false]
      rw [p2]; simp only [Result.andThen_ok]
      rw [p2]; simp only [Result.andThen_ok]
      rw [e1]; simp only [Result.andThen_ok]
      cases h8 : (x.key.toList == y.key.toList)
      · simp
      · simp only [Bool.true_eq_false, if_false]
        rw [p3]; simp only [Result.andThen_ok]
        rw [p3]; simp only [Result.andThen_ok]
        rw [e2]; simp only [Result.andThen_ok]
        cases h9 : (x.n == y.n) <;> simp
  · simp at hf
theorem neqL (x y : Lab) (w : World) : (binOp .neq 58 (.agg #[.string x.tag, .string x.key, .int .i64 x.n]) (.agg #[.string y.tag, .string y.key, .int .i64 y.n])).run Try.prog w = .ok (.bool (!decide (x = y))) w := by
  rw [run_neq_struct, eqL]; rfl
theorem eqL2 (x y : Lab) (w : World) : (binOp .eql 58 (.agg #[.string x.tag, .string x.key, .int .i64 x.n]) (.agg #[.string y.tag, .string y.key, .int .i64 y.n])).run Try.prog w = .ok (.bool (decide (x = y))) w := by
  rw [run_eql_struct, eqL]; rfl
set_option maxHeartbeats 4000000 in
/-- tendrilplain.Labels of two like slices. -/
theorem plabels_any (A A' : Option Addr) (c c' : Nat) (ls : List Lab) (w : World) (ha : LRow w w.heap.size A ls) (hb : LRow w w.heap.size A' ls) (hl : ls.length ≤ 1000000) :
    Calls Try.prog 39 #[.slice A ls.length c, .slice A' ls.length c'] w fun e w' => e = .returned (.bool true) ∧ Below w.heap.size w w' := by
  have HA := Lib.hid ha; have HB := Lib.hid hb
  clear ha hb
  have hq : ((ls.length : Int) != (ls.length : Int)) = false := by simp
  go_enter Try.func39, Try.ntmps39
  go_wp2_with fail
  go_loopg [5, 13] ls.length (fun g _ s13 wr => ∃ k : Nat, s13 = .int .i64 k ∧ k ≤ ls.length ∧ ls.length - k ≤ g ∧ RowKit.Hid (Below w.heap.size w wr))
  case atStart => exact ⟨0, rfl, by omega, by omega, Lib.hid (Below.refl _ _)⟩
  case round =>
    obtain ⟨k, rfl, hk, hg, HW⟩ := hrel
    by_cases hlt : k < ls.length
    · have h1 : (k : Int) < (ls.length : Int) := by omega
      obtain ⟨b1, o1, L, hK1, hb1, hk1, p0, p1, p2⟩ := lrow_at (HA.out.up HW.out) hlt
      obtain ⟨b2, o2, M, hK2, hb2, hk2, q0, q1, q2⟩ := lrow_at (HB.out.up HW.out) hlt
      obtain rfl : L = M := by rw [hk1, hk2]
      have hne : ∀ W : World, (binOp .neq 58 (.agg #[.string L.tag, .string L.key, .int .i64 L.n]) (.agg #[.string L.tag, .string L.key, .int .i64 L.n])).run Try.prog W = .ok (.bool false) W := fun W => by rw [neqL]; simp
      clear hk1 hk2
      go_wp2_with fail
      go_quiet (fail)
      go_wp2_with fail
      try rw [← hK1]
      try rw [← hK2]
      go_roundg (ls.length - (k + 1))
      case measure => omega
      case rel => exact ⟨k + 1, by go_num, by omega, by omega, Lib.hid (HW.out.trans (below_drewN _ _ _))⟩
    · have h1 : ¬ (k : Int) < (ls.length : Int) := by omega
      go_wp2_with fail
      go_ret
      exact ⟨rfl, HW.out⟩
/-! The reference's labels. -/
def BoxL (W : World) (b : Nat) (x : Lab) : Prop := W.heap[b]? = some (.cells #[.string x.tag, .string x.key, .int .i64 x.n] 58 (0, 0))
theorem BoxL.lt {W : World} {b : Nat} {x : Lab} (h : BoxL W b x) : b < W.heap.size := (Array.getElem?_eq_some_iff.1 h).1
theorem BoxL.cells {W : World} {b : Nat} {x : Lab} (h : BoxL W b x) : W.cell? ⟨b, 0, none⟩ = some (.string x.tag) ∧ W.cell? ⟨b, 1, none⟩ = some (.string x.key) ∧ W.cell? ⟨b, 2, none⟩ = some (.int .i64 x.n) := by
  have e : ∀ j, W.cell? ⟨b, j, none⟩ = (#[.string x.tag, .string x.key, .int .i64 x.n] : Array Value)[j]? := fun j => cell_of_row _ _ _ _ _ (0, 0) h
  rw [e, e, e]; exact ⟨rfl, rfl, rfl⟩
theorem BoxL.frozen {W : World} {b : Nat} {x : Lab} (h : BoxL W b x) (j : Nat) : W.frozen? ⟨b, j, none⟩ = false := by
  simp [World.frozen?, show W.heap[b]? = _ from h]
theorem BoxL.num {W : World} {b : Nat} {y : Lab} (h : BoxL W b y) (m : Int) : BoxL (W.setCell ⟨b, 2, none⟩ (.int .i64 m)) b ⟨y.tag, y.key, m⟩ := by
  have hh : W.heap[b]? = _ := h
  unfold BoxL
  simp only [World.setCell, Array.getElem?_modify, if_true, hh, Option.map_some]
  rfl
def numR (l : List Rw) (i j : Nat) : Nat := if (rwAt l i).key = noB then cntR l (rwAt l i).up (rwAt l i).tag j else 0
theorem numR_le (l : List Rw) (i j : Nat) : numR l i j ≤ j := by
  unfold numR
  split
  · exact cntR_le _ _ _ _
  · omega
theorem numR_lab (l : List Rw) (i : Nat) : labR l i = ⟨(rwAt l i).tag, (rwAt l i).key, (numR l i (i + 1) : Int)⟩ := by
  unfold labR numR
  split <;> rfl
theorem numR_yes {l : List Rw} {i j : Nat} (h1 : (rwAt l i).key = noB) (h2 : (rwAt l j).up = (rwAt l i).up) (h3 : (rwAt l j).key = noB) (h4 : (rwAt l j).tag = (rwAt l i).tag) : numR l i (j + 1) = numR l i j + 1 := by
  unfold numR
  rw [if_pos h1, if_pos h1, cntR, if_pos ⟨h2, h3, h4⟩]
theorem numR_no {l : List Rw} {i j : Nat} (h : ¬ ((rwAt l i).key = noB ∧ (rwAt l j).up = (rwAt l i).up ∧ (rwAt l j).key = noB ∧ (rwAt l j).tag = (rwAt l i).tag)) : numR l i (j + 1) = numR l i j := by
  unfold numR
  by_cases h1 : (rwAt l i).key = noB
  · rw [if_pos h1, if_pos h1, cntR, if_neg (fun q => h ⟨h1, q⟩)]; rfl
  · rw [if_neg h1, if_neg h1]
def labsR (l : List Rw) (n : Nat) : List Lab := (List.range n).map (labR l)
theorem labsR_succ (l : List Rw) (n : Nat) : labsR l (n + 1) = labsR l n ++ [labR l n] := by simp [labsR, List.range_succ]
theorem labsR_length (l : List Rw) (n : Nat) : (labsR l n).length = n := by simp [labsR]
def MadeLs (w : World) (ls : List Lab) (e : Ending) (w' : World) : Prop := ∃ A c, e = .returned (.slice A ls.length c) ∧ LRow w' w'.heap.size A ls ∧ Below w.heap.size w w'
theorem Try.info58L : (Try.prog.info? 58).map (fun i => (i.zero, i.size, i.bytes)) = some (some (.agg #[.string ⟨#[]⟩, .string ⟨#[]⟩, .int .i64 0]), 3, 40) := by kernel_rfl
set_option maxHeartbeats 8000000 in
theorem rlabels_any (A : Option Addr) (c : Nat) (l : List Rw) (w : World) (H : RRow w w.heap.size A l) (hl : l.length ≤ 1000) : Calls Try.prog 40 #[.slice A l.length c] w (MadeLs w (labsR l l.length)) := by
  have nf : ¬ (False : Prop) := fun h => h
  obtain ⟨i0, hi0, hz0, hz1, hz2⟩ := info_parts Try.info58L
  have HR := Lib.hid H
  clear H
  go_enter Try.func40, Try.ntmps40
  go_wp2_with fail
  go_loopg [3, 4, 5, 6, 9] l.length (fun g s3 _ _ _ s9 wr => ∃ i : Nat, s9 = .int .i64 i ∧ i ≤ l.length ∧ l.length - i ≤ g ∧ RowKit.Hid (wr.ownsRow w.heap.size 58 3 s3 i (labs (labsR l i))) ∧ RowKit.Hid (Below w.heap.size w wr))
  case atStart => exact ⟨0, rfl, by omega, by omega, Lib.hid (World.ownsRow_nil _ _ _ _), Lib.hid (Below.refl _ _)⟩
  case round =>
    obtain ⟨i, rfl, hi, hgi, HO, HB⟩ := hrel
    by_cases hlt : i < l.length
    · have h1 : (i : Int) < (l.length : Int) := by omega
      obtain ⟨b, off, r, x, hA, hb, hr, hc, -⟩ := rrow_at (HR.out.up HB.out) hlt
      obtain ⟨c0, c1, c2, c3, c4, c5⟩ := hc
      have HRR := Lib.hid (show rwAt l i = r by rw [rwAt_eq hlt, hr])
      obtain ⟨Av, cv, hsv⟩ := row_form HO.out
      subst hsv
      clear hr
      go_upto_region 5 with (fail)
      go_region
      obtain ⟨wb, hwb⟩ : ∃ wb, wb = (wr.alloc (.cells #[.string r.tag, .string r.key, .int .i64 0] 58)).drew := ⟨_, rfl⟩
      rw [show (wr.alloc (.cells #[.string r.tag, .string r.key, .int .i64 0] 58)).drew = wb from hwb.symm]
      have hbb : Below wr.heap.size wr wb := by rw [hwb]; exact ((Below.refl _ wr).alloc (Nat.le_refl _) _).trans (below_drewN _ _ 1)
      have hxb : BoxL wb wr.heap.size ⟨r.tag, r.key, 0⟩ := by rw [hwb]; exact heap_alloc_new wr _
      obtain ⟨bx, hbx⟩ : ∃ bx, bx = wr.heap.size := ⟨_, rfl⟩
      rw [← hbx] at hxb ⊢
      have HXB := Lib.hid hxb
      have HRB := Lib.hid (show RRow wb bx A l by rw [hbx]; exact (HR.out.up HB.out).below hbb)
      have HOB := Lib.hid (show wb.ownsRow w.heap.size 58 3 (.slice Av i cv) i (labs (labsR l i)) from (kept_below hbb (fun _ => False)).own HO.out (fun _ _ => nf))
      have HWB := Lib.hid (show Below w.heap.size w wb from HB.out.trans (hbb.mono HB.out.size))
      have HWX := Lib.hid (show w.heap.size ≤ bx by rw [hbx]; exact HB.out.size)
      have HOX := Lib.hid (show ∀ b, OwnB (.slice Av i cv) b → b < bx by rw [hbx]; exact fun b hb => (HO.out.lt b hb).2)
      have hbbx : b < bx := by rw [hbx]; exact hb
      clear HO HB hb hbb hxb hwb hbx c0 c1 c2 c3 c4 c5
      go_wp2_with fail
      go_loopg [6] (i + 1) (fun g s6 wx => ∃ k : Nat, s6 = .int .i64 k ∧ k ≤ i + 1 ∧ i + 1 - k ≤ g ∧ RowKit.Hid (BoxL wx bx ⟨r.tag, r.key, (numR l i k : Int)⟩) ∧ RowKit.Hid (Below bx wb wx))
      case atStart => exact ⟨0, rfl, by omega, by omega, Lib.hid (by rw [show numR l i 0 = 0 by have := numR_le l i 0; omega]; exact HXB.out), Lib.hid (Below.refl _ _)⟩
      case round =>
        obtain ⟨k, rfl, hk, hgk, HXK, HBK⟩ := hrel
        obtain ⟨d0, d1, d2⟩ := HXK.out.cells
        have hnk := numR_le l i k
        by_cases hlk : k ≤ i
        · have h2 : (k : Int) ≤ (i : Int) := by omega
          obtain ⟨b2, off2, s, x2, r2, y2, hA2, hb2, hs, hr2, hcs, hcr, -, -⟩ := rrow_two (HRB.out.below HBK.out) (show k < l.length by omega) hlt
          rw [hA] at hA2
          obtain ⟨rfl, rfl⟩ : b = b2 ∧ off = off2 := by simpa using hA2
          obtain rfl : r2 = r := by rw [hr2, ← HRR.out, rwAt_eq hlt]
          obtain ⟨e0, e1, e2, e3, e4, e5⟩ := hcs
          obtain ⟨c0, c1, c2, c3, c4, c5⟩ := hcr
          have HSS := Lib.hid (show rwAt l k = s by rw [rwAt_eq (show k < l.length by omega), hs])
          have hkl : (k : Int) < (l.length : Int) := by omega
          clear hA2 hs hr2
          by_cases ha : r2.key = noB ∧ s.up = r2.up ∧ s.key = noB ∧ s.tag = r2.tag
          · obtain ⟨ha1, ha2, ha3, ha4⟩ := ha
            have e1' : r2.key.toList.isEmpty = true := isEmpty_noS.2 ha1
            have e2' : (s.up == r2.up) = true := by simpa using ha2
            have e3' : s.key.toList.isEmpty = true := isEmpty_noS.2 ha3
            have e4' : (s.tag.toList == r2.tag.toList) = true := by rw [ha4]; simp
            have HY := Lib.hid (numR_yes (l := l) (i := i) (j := k) (by rw [HRR.out]; exact ha1) (by rw [HSS.out, HRR.out]; exact ha2) (by rw [HSS.out]; exact ha3) (by rw [HSS.out, HRR.out]; exact ha4))
            obtain ⟨v, hv⟩ : ∃ v, v = numR l i k := ⟨_, rfl⟩
            rw [← hv] at d2 hnk HY
            have hwr : IntKind.i64.wrap ((v : Int) + 1) = (v : Int) + 1 := by rw [IntKind.wrap_i64]; omega
            have z2 := HXK.out.frozen 2
            clear ha1 ha2 ha3 ha4 hv
            go_wp2_with fail
            go_quiet (fail)
            go_wp2_with fail
            try rw [← hA]
            go_roundg (i + 1 - (k + 1))
            case measure => omega
            case rel => exact ⟨k + 1, by go_num, by omega, by omega, Lib.hid (by rw [HY.out]; exact BoxL.num (show BoxL (wr.drewN nq) bx _ from HXK.out) _), Lib.hid ((HBK.out.trans (below_drewN _ _ _)).setCell (p := ⟨bx, 2, none⟩) (Nat.le_refl _) _)⟩
          · have HY := Lib.hid (numR_no (l := l) (i := i) (j := k) (by rw [HSS.out, HRR.out]; exact ha))
            have hcase : r2.key.toList.isEmpty = false ∨ (r2.key.toList.isEmpty = true ∧ (s.up == r2.up) = false) ∨ (r2.key.toList.isEmpty = true ∧ (s.up == r2.up) = true ∧ s.key.toList.isEmpty = false) ∨ (r2.key.toList.isEmpty = true ∧ (s.up == r2.up) = true ∧ s.key.toList.isEmpty = true ∧ (s.tag.toList == r2.tag.toList) = false) := by
              by_cases a1 : r2.key = noB
              · by_cases a2 : s.up = r2.up
                · by_cases a3 : s.key = noB
                  · exact .inr (.inr (.inr ⟨isEmpty_noS.2 a1, by simpa using a2, isEmpty_noS.2 a3, by rw [eqBa]; exact decide_eq_false (fun a4 => ha ⟨a1, a2, a3, a4⟩)⟩))
                  · exact .inr (.inr (.inl ⟨isEmpty_noS.2 a1, by simpa using a2, Bool.eq_false_iff.2 (fun h => a3 (isEmpty_noS.1 h))⟩))
                · exact .inr (.inl ⟨isEmpty_noS.2 a1, by simpa using a2⟩)
              · exact .inl (Bool.eq_false_iff.2 (fun h => a1 (isEmpty_noS.1 h)))
            clear ha
            rcases hcase with e1' | ⟨e1', e2'⟩ | ⟨e1', e2', e3'⟩ | ⟨e1', e2', e3', e4'⟩
            all_goals
              go_wp2_with fail
              go_quiet (fail)
              go_wp2_with fail
              try rw [← hA]
              go_roundg (i + 1 - (k + 1))
              case measure => omega
              case rel => exact ⟨k + 1, by go_num, by omega, by omega, Lib.hid (by rw [HY.out]; exact HXK.out), Lib.hid (HBK.out.trans (below_drewN _ _ _))⟩
        · have h2 : ¬ (k : Int) ≤ (i : Int) := by omega
          obtain ⟨v, hv⟩ : ∃ v, v = numR l i k := ⟨_, rfl⟩
          have HLB := Lib.hid (show labR l i = ⟨r.tag, r.key, (v : Int)⟩ by rw [numR_lab, hv, HRR.out, show k = i + 1 by omega])
          rw [← hv] at d2
          have HO2 := Lib.hid (show wr.ownsRow w.heap.size 58 3 (.slice Av i cv) i (labs (labsR l i)) from (⟨HBK.out.os, HBK.out.tape, HBK.out.output, HBK.out.size, fun j hj hs => HBK.out.block j (by omega)⟩ : Kept (fun j => bx ≤ j) _ _).own HOB.out (fun b hb h => by have := HOX.out b hb; omega))
          have HB2 := Lib.hid (HWB.out.trans (HBK.out.mono HWX.out))
          have hbs := HB2.out.size
          clear hv
          go_wp2_with (at_builtin; refine wpList_appS rfl _ _ 52 rfl w.heap.size 58 i0 (.agg #[.string ⟨#[]⟩, .string ⟨#[]⟩, .int .i64 0]) 3 40 Try.underlying52 hi0 hz0 hz1 hz2 rfl (by omega) (by omega) _ i _ rfl HO2.out #[.string r.tag, .string r.key, .int .i64 (v : Int)] rfl (by intro y hy; simp at hy; rcases hy with rfl | rfl | rfl <;> rfl) _ rfl rfl (by omega) hbs ?_; intro v3 w3 ho3 hb3 hk3 hf3)
          have HO3 := Lib.hid (show w3.ownsRow w.heap.size 58 3 v3 (i + 1) (labs (labsR l (i + 1))) by rw [labsR_succ, labs_snoc, HLB.out]; exact ho3)
          have HB3 := Lib.hid (HB2.out.trans hb3)
          clear ho3 hb3 hk3 hf3
          go_wp2_with fail
          try rw [← hA]
          go_roundg (l.length - (i + 1))
          case measure => omega
          case rel => exact ⟨i + 1, by go_num, by omega, by omega, HO3, HB3⟩
    · have h1 : ¬ (i : Int) < (l.length : Int) := by omega
      obtain rfl : i = l.length := by omega
      go_wp2_with fail
      go_ret
      obtain ⟨A', c', he, hr, _⟩ := lrow_own (show wr.ownsRow w.heap.size 58 3 u3 (labsR l l.length).length (labs (labsR l l.length)) by rw [labsR_length]; exact HO.out)
      exact ⟨A', c', congrArg Ending.returned he, hr, HB.out⟩
end Go.Proofs.Ytlkdklpglmglkaa
