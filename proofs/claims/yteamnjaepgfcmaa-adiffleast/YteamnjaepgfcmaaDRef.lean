/-
  tendrilref10.Of.
-/
import Derived.Test.YteamnjaepgfcmaaDOf
import Derived.Test.YteamnjaepgfcmaaRNorm
import Derived.Test.YteamnjaepgfcmaaGet
namespace Go.Proofs.Yteamnjaepgfcmaa
open Go.RowKit Go.Sort Go.Lib
set_option linter.unusedVariables false
theorem getV_some {l : List At} {n v : ByteArray} (h : getL l n = some v) : GetV l n = .tuple #[.string v, .bool true] := by unfold GetV; rw [h]; rfl
theorem getV_none {l : List At} {n : ByteArray} (h : getL l n = none) : GetV l n = .tuple #[.string ⟨#[]⟩, .bool false] := by unfold GetV; rw [h]; rfl
theorem chs_take {a b al : List At} {k : Nat} (hk : k < al.length) : chs a b ((al.take (k + 1)).map Prod.fst) = chs a b ((al.take k).map Prod.fst) ++ (if wasC a al[k].1 = wasC b al[k].1 then [] else [wasC b al[k].1]) := by
  rw [List.take_add_one, List.getElem?_eq_getElem hk, List.map_append]
  exact chs_snoc _ _ _ _
theorem chs_le (a b : List At) : ∀ ns : List ByteArray, (chs a b ns).length ≤ ns.length
  | [] => by simp [chs]
  | n :: ns => by
    have ih := chs_le a b ns
    have e : chs a b (n :: ns) = (if wasC a n = wasC b n then [] else [wasC b n]) ++ chs a b ns := by simp [chs]
    rw [e, List.length_append, List.length_cons]
    split
    · simp; omega
    · simp; omega
theorem short_app {a b : List At} (ha : Short a) (hb : Short b) : Short (a ++ b) := fun x hx => (List.mem_append.1 hx).elim (ha x) (hb x)
set_option maxRecDepth 100000 in
set_option maxHeartbeats 4000000 in
theorem refOf_any (A A' : Option Addr) (c c' : Nat) (a b : List At) (w : World) (ha : TRow w w.heap.size A a) (hb : TRow w w.heap.size A' b) (la : a.length ≤ 4000) (lb : b.length ≤ 4000) (sa : Short a) (sb : Short b) :
    Calls Try.prog 28 #[.slice A a.length c, .slice A' b.length c'] w (MadeX w (diffD a b)) := by
  obtain ⟨i0, hi, hz0, hz1, hz2⟩ := info_parts Try.info56
  obtain ⟨i1, hj, hy0, hy1, hy2⟩ := info_parts Try.info47
  have C1 := Lib.hid (refNorm_any A c a w ha (by omega) sa)
  have HBR := Lib.hid hb
  have HSA := Lib.hid (norm_short sa); have HSB := Lib.hid (And.intro sb (norm_short sb))
  have hna := norm_len a; have hnb := norm_len b
  have HD := Lib.hid (show diffD a b = chs (normL a) (normL b) (namesL (normL a) (normL b)) from diff_chs _ _)
  clear ha hb sa sb
  go_enter Try.func28, Try.ntmps28
  go_wp2_with fail
  refine C1.out.mono ?_
  rintro e w1 ⟨X, cx, rfl, rx, -, -, nx, hb1⟩
  have HB1 := Lib.hid hb1
  have C2 := Lib.hid (refNorm_any A' c' b w1 (HBR.out.up hb1) (by omega) HSB.out.1)
  have HX1 := Lib.hid rx
  obtain ⟨x, hx⟩ : ∃ x, x = normL a := ⟨_, rfl⟩
  rw [← hx] at HX1 HSA HD hna ⊢
  clear hx rx hb1 C1 HBR
  go_wp2_with fail
  refine C2.out.mono ?_
  rintro e w2 ⟨Y, cy, rfl, ry, -, -, ny, hb2⟩
  have HB2 := Lib.hid (HB1.out.trans (hb2.mono HB1.out.size))
  have HX2 := Lib.hid (HX1.out.up hb2); have HY2 := Lib.hid ry
  have HSY := Lib.hid HSB.out.2
  obtain ⟨y, hy⟩ : ∃ y, y = normL b := ⟨_, rfl⟩
  rw [← hy] at HY2 HSY HD hnb ⊢
  clear hy ry hb2 C2 HX1 HB1 HSB
  go_wp2_with (first | (at_builtin; refine wpList_appT rfl _ _ 22 rfl w2.heap.size 56 i0 (.agg #[.string ⟨#[]⟩, .string ⟨#[]⟩]) Try.underlying22 hi hz0 hz1 hz2 rfl _ x.length (ats x) rfl hown3' Y y.length cy y rfl rfl HY3.out ny (by omega) hs3 ?_; intro v4 w4 hown4 hb4) | (at_builtin; refine wpList_appT rfl _ _ 22 rfl w2.heap.size 56 i0 (.agg #[.string ⟨#[]⟩, .string ⟨#[]⟩]) Try.underlying22 hi hz0 hz1 hz2 rfl _ 0 [] rfl (World.ownsRow_nil _ _ _ _) X x.length cx x rfl rfl HX2.out nx (by omega) (Nat.le_refl _) ?_; intro v3 w3 hown3 hb3; have hown3' := own_ats (zs := x) hown3 (by simp) (by simp); have HY3 := Lib.hid (HY2.out.up hb3); have hs3 := hb3.size))
  have hown5 := own_ats (zs := x ++ y) hown4 (ats_append x y).symm (by simp)
  obtain ⟨Z, cz, rfl, rz, kz, mz, nz⟩ := trow_own hown5
  have hb24 := hb3.trans hb4
  have HB4 := Lib.hid (HB2.out.trans (hb24.mono HB2.out.size))
  have HX4 := Lib.hid (HX2.out.up hb24); have HY4 := Lib.hid (HY2.out.up hb24)
  have hxy : (x ++ y).length ≤ 8000 := by simp; omega
  have C3 := Lib.hid (refNorm_any Z cz (x ++ y) w4 rz (by omega) (short_app HSA.out HSY.out))
  have hnz := norm_len (x ++ y)
  clear hown3 hown3' hown4 hown5 rz hb3 hb4 hb24 HX2 HY2 HY3 hs3
  go_wp2_with fail
  refine C3.out.mono ?_
  rintro e w5 ⟨Z5, c5, rfl, r5, -, -, -, hb5⟩
  have HB5 := Lib.hid (HB4.out.trans (hb5.mono HB4.out.size))
  have HX5 := Lib.hid (HX4.out.up hb5); have HY5 := Lib.hid (HY4.out.up hb5); have HZ5 := Lib.hid r5
  obtain ⟨al, hal⟩ : ∃ al, al = normL (x ++ y) := ⟨_, rfl⟩
  rw [← hal] at HZ5 hnz ⊢
  have HN := Lib.hid (show namesL x y = al.map Prod.fst by unfold namesL; rw [hal])
  have hall : al.length ≤ 8000 := by omega
  have hxl : x.length ≤ 1000000 := by omega
  have hyl : y.length ≤ 1000000 := by omega
  clear hal r5 hb5 C3 HX4 HY4 HB4 hnz hxy kz mz nz
  go_wp2_with fail
  go_loopg [6, 7, 8, 9, 10, 11, 12, 27] al.length (fun g s6 _ _ _ _ _ _ s27 wr => ∃ k : Nat, s27 = .int .i64 k ∧ k ≤ al.length ∧ al.length - k ≤ g ∧ Hid (wr.ownsRow w5.heap.size 47 3 s6 (chs x y ((al.take k).map Prod.fst)).length (cvs (chs x y ((al.take k).map Prod.fst)))) ∧ Hid (Below w5.heap.size w5 wr))
  case atStart => exact ⟨0, rfl, by omega, by omega, Lib.hid (World.ownsRow_nil _ _ _ _), Lib.hid (Below.refl _ _)⟩
  case round =>
    obtain ⟨k, rfl, hk, hg, HO, HB⟩ := hrel
    by_cases hlt : k < al.length
    · have h1 : (k : Int) < (al.length : Int) := by omega
      have h2 : ¬ (k : Int) < 0 := by omega
      obtain ⟨b0, off, p, rfl, hbb, hp, d1, d2⟩ := trow_at (HZ5.out.up HB.out) hlt
      have HT := Lib.hid (chs_take (a := x) (b := y) hlt)
      have hle := chs_le x y ((al.take k).map Prod.fst)
      have hle2 : ((al.take k).map Prod.fst).length ≤ 8000 := by simp; omega
      rw [← hp] at HT
      have HMEM := Lib.hid (show p.1 ∈ namesL x y by rw [HN.out, hp]; exact List.mem_map.2 ⟨_, List.getElem_mem hlt, rfl⟩)
      obtain ⟨o, ho⟩ : ∃ o, o = chs x y ((al.take k).map Prod.fst) := ⟨_, rfl⟩
      rw [← ho] at HT HO hle
      have hown := HO.out
      have hsz := HB.out.size
      have GX := Lib.hid (refGet_any X cx x p.1 wr (HX5.out.up HB.out) hxl)
      have GY := Lib.hid (refGet_any Y cy y p.1 wr (HY5.out.up HB.out) hyl)
      clear hp ho hbb d2
      cases hgy : getL y p.1 with
      | none =>
        obtain ⟨u, hgx⟩ : ∃ u, getL x p.1 = some u := by
          cases hgx : getL x p.1 with
          | some u => exact ⟨u, rfl⟩
          | none =>
            rcases mem_names.1 HMEM.out with ⟨z, hz, e⟩ | ⟨z, hz, e⟩
            · exact absurd e (getL_none.1 hgx z hz)
            · exact absurd e (getL_none.1 hgy z hz)
        have HW := Lib.hid (show (if wasC x p.1 = wasC y p.1 then [] else [wasC y p.1]) = [(p.1, noS, true)] by unfold wasC; rw [hgx, hgy]; simp [wasO])
        rw [HW.out] at HT
        rw [getV_some hgx] at GX
        rw [getV_none hgy] at GY
        clear hgx hgy HW
        go_wp2_with fail
        refine GX.out.mono ?_
        rintro e w6 ⟨rfl, rfl⟩
        go_wp2_with fail
        refine GY.out.mono ?_
        rintro e w6 ⟨rfl, rfl⟩
        go_wp2_with (at_builtin; refine wpList_app3 rfl _ _ 42 rfl w5.heap.size 47 i1 (.agg #[.string ⟨#[]⟩, .string ⟨#[]⟩, .bool false]) Try.underlying42 hj hy0 hy1 hy2 rfl _ o.length (cvs o) rfl hown (p.1, noS, true) wr.heap.size rfl rfl (by omega) hsz ?_; intro v7 w7 hown7 hb7)
        go_roundg (al.length - (k + 1))
        case measure => omega
        case rel =>
          refine ⟨k + 1, by go_num, by omega, by omega, ?_, Lib.hid (HB.out.trans hb7)⟩
          rw [HT.out]; exact Lib.hid (own_cvs hown7 (cvs_snoc _ _).symm (by simp))
      | some v =>
        rw [getV_some hgy] at GY
        cases hgx : getL x p.1 with
        | none =>
          have HW := Lib.hid (show (if wasC x p.1 = wasC y p.1 then [] else [wasC y p.1]) = [(p.1, v, false)] by unfold wasC; rw [hgx, hgy]; simp [wasO])
          rw [HW.out] at HT
          rw [getV_none hgx] at GX
          clear hgx hgy HW
          go_wp2_with fail
          refine GX.out.mono ?_
          rintro e w6 ⟨rfl, rfl⟩
          go_wp2_with fail
          refine GY.out.mono ?_
          rintro e w6 ⟨rfl, rfl⟩
          go_wp2_with (at_builtin; refine wpList_app3 rfl _ _ 42 rfl w5.heap.size 47 i1 (.agg #[.string ⟨#[]⟩, .string ⟨#[]⟩, .bool false]) Try.underlying42 hj hy0 hy1 hy2 rfl _ o.length (cvs o) rfl hown (p.1, v, false) wr.heap.size rfl rfl (by omega) hsz ?_; intro v7 w7 hown7 hb7)
          go_roundg (al.length - (k + 1))
          case measure => omega
          case rel =>
            refine ⟨k + 1, by go_num, by omega, by omega, ?_, Lib.hid (HB.out.trans hb7)⟩
            rw [HT.out]; exact Lib.hid (own_cvs hown7 (cvs_snoc _ _).symm (by simp))
        | some u =>
          rw [getV_some hgx] at GX
          by_cases huv : u = v
          · subst huv
            have HW := Lib.hid (show (if wasC x p.1 = wasC y p.1 then [] else [wasC y p.1]) = [] by unfold wasC; rw [hgx, hgy]; simp)
            rw [HW.out] at HT
            have hq : (u.toList == u.toList) = true := by rw [eqB]; exact decide_eq_true rfl
            clear hgx hgy HW
            go_wp2_with fail
            refine GX.out.mono ?_
            rintro e w6 ⟨rfl, rfl⟩
            go_wp2_with fail
            refine GY.out.mono ?_
            rintro e w6 ⟨rfl, rfl⟩
            go_wp2_with fail
            go_roundg (al.length - (k + 1))
            case measure => omega
            case rel =>
              refine ⟨k + 1, by go_num, by omega, by omega, ?_, HB⟩
              rw [HT.out, List.append_nil]; exact HO
          · have HW := Lib.hid (show (if wasC x p.1 = wasC y p.1 then [] else [wasC y p.1]) = [(p.1, v, false)] by unfold wasC; rw [hgx, hgy]; simp [wasO, huv])
            rw [HW.out] at HT
            have hq : (u.toList == v.toList) = false := by rw [eqB]; exact decide_eq_false huv
            clear hgx hgy HW huv
            go_wp2_with fail
            refine GX.out.mono ?_
            rintro e w6 ⟨rfl, rfl⟩
            go_wp2_with fail
            refine GY.out.mono ?_
            rintro e w6 ⟨rfl, rfl⟩
            go_wp2_with (at_builtin; refine wpList_app3 rfl _ _ 42 rfl w5.heap.size 47 i1 (.agg #[.string ⟨#[]⟩, .string ⟨#[]⟩, .bool false]) Try.underlying42 hj hy0 hy1 hy2 rfl _ o.length (cvs o) rfl hown (p.1, v, false) wr.heap.size rfl rfl (by omega) hsz ?_; intro v7 w7 hown7 hb7)
            go_roundg (al.length - (k + 1))
            case measure => omega
            case rel =>
              refine ⟨k + 1, by go_num, by omega, by omega, ?_, Lib.hid (HB.out.trans hb7)⟩
              rw [HT.out]; exact Lib.hid (own_cvs hown7 (cvs_snoc _ _).symm (by simp))
    · have h1 : ¬ (k : Int) < (al.length : Int) := by omega
      have e : al.take k = al := List.take_of_length_le (by omega)
      rw [e] at HO
      go_wp2_with fail
      go_ret
      rw [← HN.out, ← HD.out] at HO
      obtain ⟨A2, c2, rfl, q1, q2, q3⟩ := xrow_own HO.out
      exact ⟨A2, c2, rfl, q1, q2, q3, HB5.out.trans (HB.out.mono HB5.out.size)⟩
end Go.Proofs.Yteamnjaepgfcmaa
