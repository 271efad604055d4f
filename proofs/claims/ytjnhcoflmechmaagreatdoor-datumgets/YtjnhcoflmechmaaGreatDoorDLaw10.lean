/-
  The law DatumGets: its walk.
-/
import Derived.Test.YtjnhcoflmechmaaGreatDoorDLaw8
import Derived.Test.YtjnhcoflmechmaaGreatDoorDFew
import Derived.Deep.RegionHeld3
namespace Go.Proofs.YtjnhcoflmechmaaGreatDoor
open Go.RowKit Go.Sort
set_option linter.unusedVariables false
set_option maxRecDepth 100000
/-- The record in its box and what Get answered in its own. -/
structure LgS (w1 : World) (B X : Nat) (d r : Dt) (x y : NV) (W : World) : Prop where
  c : DatCells W B 0 d x
  r : DatCells W X 0 r y
  k : Below w1.heap.size w1 W
theorem LgS.step {w1 : World} {B X : Nat} {d r : Dt} {x y : NV} {W W' : World} (h : LgS w1 B X d r x y W) (hB : B < w1.heap.size) (hX : X < w1.heap.size) (hb : Below W.heap.size W W') : LgS w1 B X d r x y W' :=
  have hb' := hb.mono h.k.size
  ⟨h.c.below hb' hB, h.r.below hb' hX, h.k.trans hb'⟩
structure L10S (w1 : World) (B X : Nat) (d r kd : Dt) (x y z : NV) (g o : Nat) (W : World) : Prop where
  a : DatAt W B kd z
  s : LgS w1 B X d r x y W
  e : DatCells W g o kd z
  hB : B < w1.heap.size
  hX : X < w1.heap.size
  hg : g < w1.heap.size
theorem L10S.step {w1 : World} {B X : Nat} {d r kd : Dt} {x y z : NV} {g o : Nat} {W W' : World} (h : L10S w1 B X d r kd x y z g o W) (hb : Below W.heap.size W W') : L10S w1 B X d r kd x y z g o W' :=
  ⟨h.a.keepB (hb.mono (Nat.le_trans (Nat.le_of_lt h.hB) h.s.k.size)), h.s.step h.hB h.hX hb, h.e.below (hb.mono h.s.k.size) h.hg, h.hB, h.hX, h.hg⟩
theorem L10S.all {w1 : World} {B X : Nat} {d r kd : Dt} {x y z : NV} {g off i : Nat} {W : World} (hK : x.K = some ⟨g, off, none⟩) (h : L10S w1 B X d r kd x y z g (off + i * 5) W) : (W.cell? ⟨X, 0, none⟩ = some (.int .i64 r.kind) ∧ W.cell? ⟨X, 1, none⟩ = some (.int .i64 r.num) ∧ W.cell? ⟨X, 2, none⟩ = some (.string r.text) ∧ W.cell? ⟨X, 3, none⟩ = some (.slice y.A r.names.length y.ca) ∧ W.cell? ⟨X, 4, none⟩ = some (.slice y.K r.list.length y.ck) ∧ W.cell? ⟨B, 4, none⟩ = some (.slice (some ⟨g, off, none⟩) d.list.length x.ck) ∧ W.cell? ⟨g, off + i * 5, none⟩ = some (.int .i64 kd.kind) ∧ W.cell? ⟨g, off + i * 5 + 1, none⟩ = some (.int .i64 kd.num) ∧ W.cell? ⟨g, off + i * 5 + 2, none⟩ = some (.string kd.text) ∧ W.cell? ⟨g, off + i * 5 + 3, none⟩ = some (.slice z.A kd.names.length z.ca) ∧ W.cell? ⟨g, off + i * 5 + 4, none⟩ = some (.slice z.K kd.list.length z.ck) ∧ L10S w1 B X d r kd x y z g (off + i * 5) W) := by
  obtain ⟨c0, c1, c2, c3, c4⟩ := h.s.c
  obtain ⟨r0, r1, r2, r3, r4⟩ := h.s.r
  obtain ⟨e0, e1, e2, e3, e4⟩ := h.e
  rw [hK] at c4
  exact ⟨r0, r1, r2, r3, r4, c4, e0, e1, e2, e3, e4, h⟩
theorem keep10 {w1 : World} {B X : Nat} {d r kd : Dt} {x y z : NV} {g off i : Nat} {W W' : World} (hK : x.K = some ⟨g, off, none⟩) (hb : Below W.heap.size W W') (h : (W.cell? ⟨X, 0, none⟩ = some (.int .i64 r.kind) ∧ W.cell? ⟨X, 1, none⟩ = some (.int .i64 r.num) ∧ W.cell? ⟨X, 2, none⟩ = some (.string r.text) ∧ W.cell? ⟨X, 3, none⟩ = some (.slice y.A r.names.length y.ca) ∧ W.cell? ⟨X, 4, none⟩ = some (.slice y.K r.list.length y.ck) ∧ W.cell? ⟨B, 4, none⟩ = some (.slice (some ⟨g, off, none⟩) d.list.length x.ck) ∧ W.cell? ⟨g, off + i * 5, none⟩ = some (.int .i64 kd.kind) ∧ W.cell? ⟨g, off + i * 5 + 1, none⟩ = some (.int .i64 kd.num) ∧ W.cell? ⟨g, off + i * 5 + 2, none⟩ = some (.string kd.text) ∧ W.cell? ⟨g, off + i * 5 + 3, none⟩ = some (.slice z.A kd.names.length z.ca) ∧ W.cell? ⟨g, off + i * 5 + 4, none⟩ = some (.slice z.K kd.list.length z.ck) ∧ L10S w1 B X d r kd x y z g (off + i * 5) W)) : (W'.cell? ⟨X, 0, none⟩ = some (.int .i64 r.kind) ∧ W'.cell? ⟨X, 1, none⟩ = some (.int .i64 r.num) ∧ W'.cell? ⟨X, 2, none⟩ = some (.string r.text) ∧ W'.cell? ⟨X, 3, none⟩ = some (.slice y.A r.names.length y.ca) ∧ W'.cell? ⟨X, 4, none⟩ = some (.slice y.K r.list.length y.ck) ∧ W'.cell? ⟨B, 4, none⟩ = some (.slice (some ⟨g, off, none⟩) d.list.length x.ck) ∧ W'.cell? ⟨g, off + i * 5, none⟩ = some (.int .i64 kd.kind) ∧ W'.cell? ⟨g, off + i * 5 + 1, none⟩ = some (.int .i64 kd.num) ∧ W'.cell? ⟨g, off + i * 5 + 2, none⟩ = some (.string kd.text) ∧ W'.cell? ⟨g, off + i * 5 + 3, none⟩ = some (.slice z.A kd.names.length z.ca) ∧ W'.cell? ⟨g, off + i * 5 + 4, none⟩ = some (.slice z.K kd.list.length z.ck) ∧ L10S w1 B X d r kd x y z g (off + i * 5) W') := (h.2.2.2.2.2.2.2.2.2.2.2.step hb).all hK
theorem hd10 {w1 : World} {B X : Nat} {d r kd : Dt} {x y z : NV} {g o : Nat} {W : World} (h : RowKit.Hid (L10S w1 B X d r kd x y z g o W)) : L10S w1 B X d r kd x y z g o W.drew := h.out.step (below_drewN _ W 1)
theorem rising_uniq {ns : List ByteArray} (h : Rising ns) {i j : Nat} (hi : i < ns.length) (hj : j < ns.length) (e : ns[i] = ns[j]) : i = j := by
  rcases Nat.lt_trichotomy i j with g | g | g
  · have := h i j hi hj g; rw [e, cmpN_self] at this; omega
  · exact g
  · have := h j i hj hi g; rw [e, cmpN_self] at this; omega
theorem get_hit {d r : Dt} {t : ByteArray} {b : Bool} {i : Nat} (hi : i < d.names.length) (hil : i < d.list.length) (hr : RightP d) (h5 : d.kind = 5) (hit : d.names[i] = t) (h : (b = true ∧ RightP d ∧ d.kind = 5 ∧ ∃ i, ∃ h : i < d.names.length, ∃ h' : i < d.list.length, d.names[i] = t ∧ r = d.list[i]) ∨ (b = false ∧ r = zeroD ∧ ¬ HasN d t)) : b = true ∧ r = d.list[i] := by
  rcases h with ⟨hb, _, _, j, h1, h2, h3, h4⟩ | ⟨_, _, h⟩
  · have := rising_uniq (rising_of (wgh_own hr).2.2.2.2) h1 hi (h3.trans hit.symm)
    subst this
    exact ⟨hb, h4⟩
  · exact absurd ⟨hr, h5, _, List.getElem_mem hi, hit⟩ h
theorem get_miss {d r : Dt} {t : ByteArray} {b : Bool} (hn : ¬ HasN d t) (h : (b = true ∧ RightP d ∧ d.kind = 5 ∧ ∃ i, ∃ h : i < d.names.length, ∃ h' : i < d.list.length, d.names[i] = t ∧ r = d.list[i]) ∨ (b = false ∧ r = zeroD ∧ ¬ HasN d t)) : b = false ∧ r = zeroD := by
  rcases h with ⟨hb, h1, h2, j, h3, h4, h5, h6⟩ | ⟨h1, h2, _⟩
  · exact absurd ⟨h1, h2, _, List.getElem_mem h3, h5⟩ hn
  · exact ⟨h1, h2⟩
def LitG (v : Value) (W : World) (e : Ending) (w' : World) : Prop := e = .returned v ∧ Below W.heap.size W w'
set_option maxHeartbeats 16000000 in
theorem law10_any (d : Dt) (x : NV) (t : ByteArray) (w : World) (ht : DatAt w w.heap.size d x) (hf : FitD d) (hv : Vars w) : Calls Tryz.prog 10 #[datV d x, .string t] w (TrueP w) := by
  obtain ⟨w1, hw1⟩ : ∃ w1, w1 = boxD w d x := ⟨_, rfl⟩
  have hb1 : Below w.heap.size w w1 := by rw [hw1]; exact below_boxD _ _ _
  have hx1 : DatCells w1 w.heap.size 0 d x := by rw [hw1]; exact box_dat _ _ _
  have hB1 := hx1.block_lt
  have HA1 := Lib.hid (ht.up hb1); have HB1 := Lib.hid hb1; have HV1 := Lib.hid (hv.belowC hb1); have HX1 := Lib.hid hx1; have HT0 := Lib.hid ht
  have CF := Lib.hid (fewD_any d x 300 w1 (ht.up hb1) hf (by decide))
  have HW1 := Lib.hid hw1
  obtain ⟨p0, p1, p2, p3, p4⟩ := hx1
  clear hw1 hb1 ht hf hv
  go_enter Tryz.func10, Tryz.ntmps10
  go_upto_region 1 with (fail)
  rw [boxD_out HW1]
  clear HW1
  go_wp2_with fail
  refine CF.out.mono ?_
  rintro e w2 ⟨r, rfl, hr, hb2⟩
  have HR := Lib.hid hr
  have HX2 := Lib.hid (HX1.out.below hb2 hB1); have HA2 := Lib.hid (HA1.out.up hb2); have HV2 := Lib.hid (HV1.out.belowC hb2); have HB2 := Lib.hid (HB1.out.trans (hb2.mono HB1.out.size))
  have hs2 := hb2.size
  clear hr hb2 CF HX1 HA1 HV1 HB1 p0 p1 p2 p3 p4
  cases r with
  | false =>
    have CS := Lib.hid (same_any w2 HV2.out)
    go_wp2_with fail
    refine CS.out.mono ?_
    rintro e w99 hs
    have HF := Lib.hid (SameP.true HB2.out hs)
    obtain ⟨rfl, -⟩ := hs
    clear CS
    go_wp2_with fail
    go_ret
    exact HF.out
  | true =>
    have HG := Lib.hid ((HR.out rfl).1)
    clear HR
    by_cases hlong : 1000 < t.size
    · have h1 : decide ((1000 : Int) < (t.size : Int)) = true := by simp; omega
      have CS := Lib.hid (same_any w2 HV2.out)
      go_wp2_with fail
      refine CS.out.mono ?_
      rintro e w99 hs
      have HF := Lib.hid (SameP.true HB2.out hs)
      obtain ⟨rfl, -⟩ := hs
      clear CS
      go_wp2_with fail
      go_ret
      exact HF.out
    · have h1 : decide ((1000 : Int) < (t.size : Int)) = false := by simp; omega
      have CG := Lib.hid (get_any d x t w2 HA2.out HG.out)
      obtain ⟨p0, p1, p2, p3, p4⟩ := HX2.out
      clear hlong
      go_wp2_with fail
      refine CG.out.mono ?_
      rintro e w3 ⟨r, y, b, rfl, hdr, hgr, hb3, hcase⟩
      obtain ⟨w4, hw4⟩ : ∃ w4, w4 = boxD w3 r y := ⟨_, rfl⟩
      have hb34 : Below w3.heap.size w3 w4 := by rw [hw4]; exact below_boxD _ _ _
      have hx4 : DatCells w4 w3.heap.size 0 r y := by rw [hw4]; exact box_dat _ _ _
      have hX := hx4.block_lt
      have hb24 : Below w2.heap.size w2 w4 := hb3.trans (hb34.mono hb3.size)
      have hs3 := hb3.size
      have hB : w.heap.size < w4.heap.size := by omega
      have HS4 := Lib.hid (show LgS w4 w.heap.size w3.heap.size d r x y w4 from ⟨HX2.out.below hb24 (by omega), hx4, Below.refl _ _⟩)
      have HA4 := Lib.hid (HA2.out.up hb24); have HR4 := Lib.hid (hdr.up hb34); have HV4 := Lib.hid (HV2.out.belowC hb24); have HB4 := Lib.hid (HB2.out.trans (hb24.mono HB2.out.size))
      have HGR := Lib.hid hgr; have HCASE := Lib.hid hcase; have HW4 := Lib.hid hw4
      have HTA := Lib.hid (show ∀ W, Below w4.heap.size w4 W → DatAt W W.heap.size d x ∧ DatAt W W.heap.size r y ∧ Vars W ∧ Below w.heap.size w W from fun W h => ⟨HA4.out.up h, HR4.out.up h, HV4.out.belowC h, HB4.out.trans (h.mono HB4.out.size)⟩)
      have HTS := Lib.hid (show ∀ W, Below w4.heap.size w4 W → DatAt W w.heap.size d x from fun W h => HT0.out.keepB (HB4.out.trans (h.mono HB4.out.size)))
      have CSM := Lib.hid (show ∀ W, Below w4.heap.size w4 W → Calls Tryz.prog 20 #[] W (SameP W) from fun W h => same_any W (HTA.out W h).2.2.1)
      clear hdr hgr hb3 hcase hw4 hb34 hx4 hb24 CG HX2 HA2 HV2 HB2 HA4 HR4 HV4 HB4 HT0 p0 p1 p2 p3 p4
      go_upto_region 4 with (fail)
      rw [boxD_out HW4]
      clear HW4
      have CRR := Lib.hid (refRight_any d x w4 (HTA.out w4 (Below.refl _ _)).1 HG.out)
      obtain ⟨p0, p1, p2, p3, p4⟩ := HS4.out.c
      go_wp2_with fail
      refine CRR.out.mono ?_
      rintro e w5 ⟨rr, rfl, hrr, hb5⟩
      have HS5 := Lib.hid (HS4.out.step hB hX hb5)
      have HRR := Lib.hid hrr
      clear hrr hb5 CRR HS4 p0 p1 p2 p3 p4
      have CMISS := Lib.hid (show ¬ HasN d t → ∀ W, Below w4.heap.size w4 W → Calls Tryz.prog 26 #[datV r y, .agg #[.int .i64 0, .int .i64 0, .string ⟨#[]⟩, .slice none 0 0, .slice none 0 0]] W (LitG (.bool true) W) from fun hn W h => (same16_any r zeroD y ⟨none, 0, none, 0⟩ W (HTA.out W h).2.1 (dat_zero _ _ _ _ _) HGR.out good_zero).mono (fun e w' ⟨q, h1, h2, h3⟩ => ⟨by rw [h1, h2.2 (get_miss hn HCASE.out).2], h3⟩))
      cases rr with
      | false =>
        have hno : ¬ HasN d t := fun h => by have := HRR.out.2 h.1; cases this
        obtain ⟨rfl, -⟩ := get_miss hno HCASE.out
        have HNO := Lib.hid hno
        clear hno
        obtain ⟨q0, q1, q2, q3, q4⟩ := HS5.out.r
        go_wp2_with fail
        refine (CMISS.out HNO.out _ HS5.out.k).mono ?_
        rintro e w90 ⟨rfl, hb90⟩
        have HS90 := Lib.hid (HS5.out.step hB hX hb90)
        clear hb90 HS5 CMISS q0 q1 q2 q3 q4
        go_wp2_with fail
        refine (CSM.out _ HS90.out.k).mono ?_
        rintro e w99 hs
        have HF := Lib.hid (SameP.true (HTA.out _ HS90.out.k).2.2.2 hs)
        obtain ⟨rfl, -⟩ := hs
        clear CSM
        go_wp2_with fail
        go_ret
        exact HF.out
      | true =>
        by_cases h5 : d.kind = 5
        · have hk5 : (d.kind == 5) = true := by simpa using h5
          have hrt : RightP d := by first | exact HRR.out.1 rfl | exact HRR.out
          have HRT := Lib.hid hrt; have H5 := Lib.hid h5
          have HLN := Lib.hid ((wgh_own hrt).2.1.2.2.2.2.2.2.1 h5)
          obtain ⟨p0, p1, p2, p3, p4⟩ := HS5.out.c
          clear hrt h5 HRR
          go_wp2_with fail
          clear p0 p1 p2 p3 p4 hk5
          go_loopg [33] d.names.length (fun m s33 wr => ∃ i : Nat, s33 = .int .i64 i ∧ i ≤ d.names.length ∧ d.names.length - i ≤ m ∧ RowKit.Hid (LgS w4 w.heap.size w3.heap.size d r x y wr) ∧ RowKit.Hid (∀ j, (h : j < d.names.length) → j < i → d.names[j] ≠ t))
          case atStart => exact ⟨0, by go_num, by omega, by omega, HS5, Lib.hid (fun j _ h => by omega)⟩
          case round =>
            obtain ⟨i, rfl, hi, hm, HS, HNE⟩ := hrel
            clear HS5
            obtain ⟨p0, p1, p2, p3, p4⟩ := HS.out.c
            by_cases hlt : i < d.names.length
            · have hlti : (i : Int) < (d.names.length : Int) := by omega
              have hgl := HG.out.sizes.2.2.2.1
              have hwr : IntKind.i64.wrap ((i : Int) + 1) = (i : Int) + 1 := by rw [IntKind.wrap_i64]; omega
              have hi0 : (0 : Int) ≤ (i : Int) := by omega
              obtain ⟨g0, off0, p, hA, hg0, hp, hpc⟩ := srow_at ((HTS.out wr HS.out.k).names) hlt
              obtain ⟨q, hq⟩ : ∃ q, q = (p.toList == t.toList) := ⟨_, rfl⟩
              have hq2 : (p.toList == t.toList) = q := hq.symm
              have HQ := Lib.hid (show q = decide (p = t) by rw [hq, eqB])
              have HP := Lib.hid hp; have HA := Lib.hid hA
              rw [hA] at p3
              clear hp hq hA
              cases q with
              | true =>
                have hil : i < d.list.length := by have := HLN.out; omega
                have hpt : d.names[i] = t := by rw [← HP.out]; exact of_decide_eq_true HQ.out.symm
                obtain ⟨rfl, hri⟩ := get_hit hlt hil HRT.out H5.out hpt HCASE.out
                obtain ⟨g, off, kd, z, hK, hg, hkd, hzc, hza⟩ := (HTS.out wr HS.out.k).kid hil
                have HRI := Lib.hid (show r = kd by rw [hri, hkd])
                have HGK := Lib.hid (HG.out.kid hil hkd)
                have HSL := Lib.hid (show L10S w4 w.heap.size w3.heap.size d r kd x y z g (off + i * 5) wr from ⟨hza, HS.out, hzc, hB, hX, by omega⟩)
                have CSK := Lib.hid (show ∀ W, L10S w4 w.heap.size w3.heap.size d r kd x y z g (off + i * 5) W → Calls Tryz.prog 26 #[datV r y, datV kd z] W (LitG (.bool true) W) from fun W h => (same16_any r kd y z W (HTA.out W h.s.k).2.1 (h.a.mono (by have := h.s.k.size; omega)) HGR.out HGK.out).mono (fun e w' ⟨q, h1, h2, h3⟩ => ⟨by rw [h1, h2.2 HRI.out], h3⟩))
                have CS2 := Lib.hid (show ∀ W, L10S w4 w.heap.size w3.heap.size d r kd x y z g (off + i * 5) W → Calls Tryz.prog 20 #[] W (LitG (.bool true) W) from fun W h => CSM.out W h.s.k)
                have HKK := Lib.hid hK
                have hili : (i : Int) < (d.list.length : Int) := by omega
                have HBR := Lib.hid HS.out.k
                clear hpt hri hkd hzc hza hK CMISS
                go_wp2_with fail
                clear p0 p1 p2 p3 p4 hpc
                obtain ⟨r0, r1, r2, r3, r4, c4, e0, e1, e2, e3, e4, -⟩ := HSL.out.all HKK.out
                go_region_held3 (fun W => W.cell? ⟨w3.heap.size, 0, none⟩ = some (.int .i64 r.kind) ∧ W.cell? ⟨w3.heap.size, 1, none⟩ = some (.int .i64 r.num) ∧ W.cell? ⟨w3.heap.size, 2, none⟩ = some (.string r.text) ∧ W.cell? ⟨w3.heap.size, 3, none⟩ = some (.slice y.A r.names.length y.ca) ∧ W.cell? ⟨w3.heap.size, 4, none⟩ = some (.slice y.K r.list.length y.ck) ∧ W.cell? ⟨w.heap.size, 4, none⟩ = some (.slice (some ⟨g, off, none⟩) d.list.length x.ck) ∧ W.cell? ⟨g, off + i * 5, none⟩ = some (.int .i64 kd.kind) ∧ W.cell? ⟨g, off + i * 5 + 1, none⟩ = some (.int .i64 kd.num) ∧ W.cell? ⟨g, off + i * 5 + 2, none⟩ = some (.string kd.text) ∧ W.cell? ⟨g, off + i * 5 + 3, none⟩ = some (.slice z.A kd.names.length z.ca) ∧ W.cell? ⟨g, off + i * 5 + 4, none⟩ = some (.slice z.K kd.list.length z.ck) ∧ L10S w4 w.heap.size w3.heap.size d r kd x y z g (off + i * 5) W)
                  (first | assumption | exact (hd10 HSL).all HKK.out)
                  ((first
                    | (go_at_call 26; refine (CSK.out _ (And.right (And.right (And.right (And.right (And.right (And.right (And.right (And.right (And.right (And.right (And.right (by assumption : _ ∧ _ ∧ _ ∧ _ ∧ _ ∧ _ ∧ _ ∧ _ ∧ _ ∧ _ ∧ _ ∧ L10S w4 w.heap.size w3.heap.size d r kd x y z g (off + i * 5) _))))))))))))).mono ?_; rintro e w7 ⟨rfl, hb7⟩; have hfin := keep10 HKK.out hb7 (by assumption))
                    | (go_at_call 20; refine (CS2.out _ (And.right (And.right (And.right (And.right (And.right (And.right (And.right (And.right (And.right (And.right (And.right (by assumption : _ ∧ _ ∧ _ ∧ _ ∧ _ ∧ _ ∧ _ ∧ _ ∧ _ ∧ _ ∧ _ ∧ L10S w4 w.heap.size w3.heap.size d r kd x y z g (off + i * 5) _))))))))))))).mono ?_; rintro e w7 ⟨rfl, hb7⟩; have hfin := keep10 HKK.out hb7 (by assumption))))
                have HF := Lib.hid (show TrueP w (.returned (.bool true)) w7 from ⟨rfl, (HTA.out _ hfin.2.2.2.2.2.2.2.2.2.2.2.s.k).2.2.2⟩)
                clear hfin r0 r1 r2 r3 r4 c4 e0 e1 e2 e3 e4
                go_wp2_with fail
                go_ret
                exact HF.out
              | false =>
                have HNX := Lib.hid (show ∀ j, (h : j < d.names.length) → j < i + 1 → d.names[j] ≠ t from fun j h hj => by
                  rcases Nat.lt_or_ge j i with g | g
                  · exact HNE.out j h g
                  · have e : j = i := by omega
                    subst e
                    rw [← HP.out]; exact of_decide_eq_false HQ.out.symm)
                go_wp2_with fail
                try rw [← HA.out]
                go_roundg (d.names.length - (i + 1))
                case measure => omega
                case rel => exact ⟨i + 1, by go_num, by omega, Nat.le_refl _, HS, HNX⟩
            · have hlti : ¬ (i : Int) < (d.names.length : Int) := by omega
              have hno : ¬ HasN d t := fun h => by
                obtain ⟨n, hn, hnt⟩ := h.2.2
                obtain ⟨j, hj, rfl⟩ := List.mem_iff_getElem.1 hn
                exact HNE.out j hj (by omega) hnt
              obtain ⟨rfl, -⟩ := get_miss hno HCASE.out
              have HNO := Lib.hid hno
              clear hno p0 p1 p2 p3 p4
              obtain ⟨q0, q1, q2, q3, q4⟩ := HS.out.r
              go_wp2_with fail
              refine (CMISS.out HNO.out _ HS.out.k).mono ?_
              rintro e w90 ⟨rfl, hb90⟩
              have HS90 := Lib.hid (HS.out.step hB hX hb90)
              clear hb90 HS CMISS q0 q1 q2 q3 q4
              go_wp2_with fail
              refine (CSM.out _ HS90.out.k).mono ?_
              rintro e w99 hs
              have HF := Lib.hid (SameP.true (HTA.out _ HS90.out.k).2.2.2 hs)
              obtain ⟨rfl, -⟩ := hs
              clear CSM
              go_wp2_with fail
              go_ret
              exact HF.out
        · have hk5 : (d.kind == 5) = false := by simpa using h5
          have hno : ¬ HasN d t := fun h => h5 h.2.1
          obtain ⟨rfl, -⟩ := get_miss hno HCASE.out
          have HNO := Lib.hid hno
          obtain ⟨p0, p1, p2, p3, p4⟩ := HS5.out.c
          clear hno h5
          obtain ⟨q0, q1, q2, q3, q4⟩ := HS5.out.r
          go_wp2_with fail
          refine (CMISS.out HNO.out _ HS5.out.k).mono ?_
          rintro e w90 ⟨rfl, hb90⟩
          have HS90 := Lib.hid (HS5.out.step hB hX hb90)
          clear hb90 HS5 CMISS q0 q1 q2 q3 q4
          go_wp2_with fail
          refine (CSM.out _ HS90.out.k).mono ?_
          rintro e w99 hs
          have HF := Lib.hid (SameP.true (HTA.out _ HS90.out.k).2.2.2 hs)
          obtain ⟨rfl, -⟩ := hs
          clear CSM
          go_wp2_with fail
          go_ret
          exact HF.out
end Go.Proofs.YtjnhcoflmechmaaGreatDoor
