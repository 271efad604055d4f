/-
  The reference parser's values.
-/
import Derived.Test.YtjnhcoflmechmaaGreatDoorDRef5
import Derived.Test.YtjnhcoflmechmaaGreatDoorDValue
import Derived.Test.YtjnhcoflmechmaaGreatDoorCWholeWalk
namespace Go.Proofs.YtjnhcoflmechmaaGreatDoor
open Go.RowKit Go.Sort
set_option linter.unusedVariables false
set_option maxRecDepth 100000
theorem runB_list (p : UInt8 → Bool) (l : Bytes) : (runB p (strB l)).data.toList = l.takeWhile p := by unfold runB; rw [strB_data, strB_data]
theorem runB_pos {p : UInt8 → Bool} {c : UInt8} {r : Bytes} (h : p c = true) : 1 ≤ (runB p (strB (c :: r))).size := by
  rw [← size_list, runB_list]; simp [h]
theorem rval_low {s : ByteArray} {a o : Nat} {c : UInt8} {r : Bytes} (h : restL s a = c :: r) (hc : lowC c = true) : valP o (restL s a) = match constD (runB lowC (strB (restL s a))).data.toList with | some d => .ok d (restL s (a + (runB lowC (strB (restL s a))).size)) | none => .bad (s.size - a) 2 := by
  have hr := drop_takeW lowC s a
  have hlen := restL_len s a
  rw [← runB_list, size_list] at hr
  rw [← hr, runB_list]
  rw [h] at hlen ⊢
  rw [valP_low o hc, ← hlen]
  rcases constD ((c :: r).takeWhile lowC) with _ | d <;> rfl
theorem rval_num {s : ByteArray} {a o : Nat} {c : UInt8} {r : Bytes} (h : restL s a = c :: r) (h0 : lowC c = false) (hc : numC c = true) : valP o (restL s a) = if (C.whN (runB numC (strB (restL s a))).data.toList).2 then .ok (.mk 2 (C.whN (runB numC (strB (restL s a))).data.toList).1 noB [] []) (restL s (a + (runB numC (strB (restL s a))).size)) else .bad (s.size - a) 2 := by
  have hr := drop_takeW numC s a
  have hlen := restL_len s a
  rw [← runB_list, size_list] at hr
  rw [← hr, runB_list]
  rw [h] at hlen ⊢
  rw [valP_num o h0 hc, ← hlen]
  rfl
theorem rval_pass {P : Nat} {s : ByteArray} {o st : Nat} {R : Rd Dt} {d : Dt} {x : NV} {w wm w5 : World} (hwm : w.heap.size < wm.heap.size) (hP : P < w.heap.size) (hkm : Kept (· = P) w wm) (hdi : DatIn w5 (fun b => wm.heap.size ≤ b) d x) (hdd : ∀ d' l, R = .ok d' l → d = d') (hrs : RSt w5 P s o st R) (hk5 : Kept (· = P) wm w5) :
    RValC P s o st R w (.returned (datV d x)) (put5 w5 w.heap.size (.int .i64 d.kind) (.int .i64 d.num) (.string d.text) (.slice x.A d.names.length x.ca) (.slice x.K d.list.length x.ck)) :=
  ⟨d, x, rfl, (hdi.kept (kept_put5 w5 w.heap.size (.int .i64 d.kind) (.int .i64 d.num) (.string d.text) (.slice x.A d.names.length x.ca) (.slice x.K d.list.length x.ck)) (fun b hb _ e => by have e' : b = w.heap.size := e; have hb' : wm.heap.size ≤ b := hb; omega)).mono (fun b hb _ => by have hb' : wm.heap.size ≤ b := hb; omega), hdd, hrs.kept (kept_put5 _ _ _ _ _ _ _) (by omega), kept_boxP (Nat.le_refl _) (hkm.trans hk5) (kept_put5 _ _ _ _ _ _ _)⟩
set_option maxHeartbeats 4000000 in
theorem rpiece_bad (P : Nat) (s : ByteArray) (a o q st : Nat) (er : Int) (w : World) (h : R5 w P s a o er q) (h0 : er ≠ 0) : Calls Tryz.prog 51 #[.pointer (some ⟨P, 0, none⟩)] w fun e w' => e = .returned (datV zeroD ⟨none, 0, none, 0⟩) ∧ R5 w' P s a o er q ∧ Kept (· = P) w w' := by
  obtain ⟨w1, hw1⟩ : ∃ w1, w1 = zeroW w := ⟨_, rfl⟩
  have hk1 : Kept (fun _ => False) w w1 := by rw [hw1]; exact kept_alloc _ _ _
  have hz1 : B5 w1 w.heap.size 46 (.int .i64 0) (.int .i64 0) (.string ⟨#[]⟩) (.slice none 0 0) (.slice none 0 0) := by rw [hw1]; exact B5.new _ _ _ _ _ _ _ _ rfl
  have hp1 := h.kept hk1 (fun h => h)
  have hPw : P < w.heap.size := h.lt
  have CF := Lib.hid (rfail_old P s a o q a 2 er w1 hp1 h0)
  have HP := Lib.hid (hp1.kept (kept_put5 w1 w.heap.size (.int .i64 0) (.int .i64 0) (.string ⟨#[]⟩) (.slice none 0 0) (.slice none 0 0)) (show ¬ P = w.heap.size by omega))
  have HK := Lib.hid (kept_boxP (Nat.le_refl _) (hk1.mono (T := (· = P)) (fun _ _ h => absurd h (fun h => h))) (kept_put5 w1 w.heap.size (.int .i64 0) (.int .i64 0) (.string ⟨#[]⟩) (.slice none 0 0) (.slice none 0 0)))
  have HZ := Lib.hid (hz1.put (.int .i64 0) (.int .i64 0) (.string ⟨#[]⟩) (.slice none 0 0) (.slice none 0 0))
  obtain ⟨z0, z1, z2, z3, z4⟩ := hz1.cells
  have y0 := hz1.frozen 0; have y1 := hz1.frozen 1; have y2 := hz1.frozen 2; have y3 := hz1.frozen 3; have y4 := hz1.frozen 4
  obtain ⟨a0, a1, a2, a3, a4⟩ := hp1.cells
  have hne : (er != 0) = true := by simpa using h0
  have HW1 := Lib.hid hw1
  clear hw1 hk1 hz1 hp1 h h0
  go_enter Tryz.func51, Tryz.ntmps51
  go_upto_region 1 with (fail)
  rw [zeroW_out HW1]
  go_wp2_with fail
  refine CF.out.mono ?_
  rintro e w2 ⟨rfl, rfl⟩
  go_wp2_with fail
  refine bodyPost_ret (res51 rfl _ _ w.heap.size _ _ _ _ _ rfl HZ.out) rfl ?_
  exact ⟨rfl, HP.out, HK.out⟩
set_option maxHeartbeats 16000000 in
theorem rpiece_step (P : Nat) (s : ByteArray) (a o st : Nat) (w : World) (h : R5 w P s a o 0 st) (ha : a ≤ s.size) (hs : s.size ≤ 100000) (ho : o ≤ 16) (ih : o < 16 → a < s.size → RPc P s (o + 1) st (s.size - (a + 1))) :
    Calls Tryz.prog 51 #[.pointer (some ⟨P, 0, none⟩)] w (RValC P s o st (valP o (restL s a)) w) := by
  obtain ⟨w1, hw1⟩ : ∃ w1, w1 = zeroW w := ⟨_, rfl⟩
  have hk1 : Kept (fun _ => False) w w1 := by rw [hw1]; exact kept_alloc _ _ _
  have hz1 : B5 w1 w.heap.size 46 (.int .i64 0) (.int .i64 0) (.string ⟨#[]⟩) (.slice none 0 0) (.slice none 0 0) := by rw [hw1]; exact B5.new _ _ _ _ _ _ _ _ rfl
  have hp1 := h.kept hk1 (fun h => h)
  have hPw : P < w.heap.size := h.lt
  have hw1s : w.heap.size < w1.heap.size := hz1.lt
  have HK1 := Lib.hid (show Kept (· = P) w w1 from hk1.mono (fun _ _ h => absurd h (fun h => h)))
  have HW1 := Lib.hid hw1; have HZ1 := Lib.hid hz1; have HP1 := Lib.hid hp1
  have hlen := restL_len s a
  obtain ⟨R, hR⟩ : ∃ R, R = valP o (restL s a) := ⟨_, rfl⟩
  rw [← hR]
  have HIH := Lib.hid ih
  obtain ⟨a0, a1, a2, a3, a4⟩ := hp1.cells
  clear hw1 hk1 hz1 hp1 h ih
  by_cases hend : a = s.size
  · have HR := Lib.hid (show R = .bad (s.size - a) 2 by rw [hR, restL_nil (by omega), valP]; congr 1; omega)
    have hge : decide ((s.size : Int) ≤ (a : Int)) = true := by simp; omega
    have hge2 : (s.size : Int) ≤ (a : Int) := by omega
    clear hR hlen hend
    go_enter Tryz.func51, Tryz.ntmps51
    go_upto_region 1 with (fail)
    rw [zeroW_out HW1]
    have CF := Lib.hid (rfail_new P s (a) o st a 2 w1 HP1.out)
    go_wp2_with fail
    refine CF.out.mono ?_
    rintro e w8 ⟨rfl, hp8, hk8⟩
    have hz8 := HZ1.out.kept hk8 (show ¬ w.heap.size = P by omega)
    have HF := Lib.hid (rval_small (P := P) (s := s) (o := o) (st := st) (R := R) (k := 0) (m := 0) (t := ⟨#[]⟩) (w := w) (fun d' l h => by rw [HR.out] at h; cases h) (by rw [HR.out]; exact rst_bad (p := a) rfl ha (.inl rfl) (by omega) hp8) hPw (HK1.out.trans hk8))
    have HZ8 := Lib.hid (hz8.put (.int .i64 0) (.int .i64 0) (.string ⟨#[]⟩) (.slice none 0 0) (.slice none 0 0))
    obtain ⟨z0, z1, z2, z3, z4⟩ := hz8.cells
    have y0 := hz8.frozen 0; have y1 := hz8.frozen 1; have y2 := hz8.frozen 2; have y3 := hz8.frozen 3; have y4 := hz8.frozen 4
    clear hz8 hp8 hk8 CF
    go_wp2_with fail
    refine bodyPost_ret (res51 rfl _ _ w.heap.size _ _ _ _ _ rfl HZ8.out) rfl ?_
    exact HF.out
  · have hlt : a < s.size := by omega
    have hge : decide ((s.size : Int) ≤ (a : Int)) = false := by simp; omega
    have hge2 : ¬ (s.size : Int) ≤ (a : Int) := by omega
    have hai : (a : Int) < (s.size : Int) := by omega
    have ha0 : (0 : Int) ≤ (a : Int) := by omega
    obtain ⟨c, hx⟩ : ∃ c, s[a] = c := ⟨_, rfl⟩
    have hcons := restL_cons hlt
    rw [hx] at hcons
    obtain ⟨r1, hr1⟩ : ∃ r1, r1 = lowC c := ⟨_, rfl⟩
    obtain ⟨r2, hr2⟩ : ∃ r2, r2 = numC c := ⟨_, rfl⟩
    have CL := (show Calls Tryz.prog 83 #[.int .u8 (c.toNat : Int), .int .i64 0] w1 (fun e w' => e = .returned (.bool (lowC c)) ∧ w1 = w') from (rin_low c w1).mono (fun e w' h => ⟨h.1, h.2.symm⟩))
    have CN := (show Calls Tryz.prog 83 #[.int .u8 (c.toNat : Int), .int .i64 1] w1 (fun e w' => e = .returned (.bool (numC c)) ∧ w1 = w') from (rin_num c w1).mono (fun e w' h => ⟨h.1, h.2.symm⟩))
    rw [← hr1] at CL
    rw [← hr2] at CN
    have CL := Lib.hid CL; have CN := Lib.hid CN
    have HR := Lib.hid hR; have HC := Lib.hid hcons; have HR1 := Lib.hid hr1; have HR2 := Lib.hid hr2
    clear hR hlen hcons hr1 hr2 hend
    go_enter Tryz.func51, Tryz.ntmps51
    go_upto_region 1 with (fail)
    rw [zeroW_out HW1]
    go_wp2_with fail
    refine CL.out.mono ?_
    rintro e w1' ⟨rfl, rfl⟩
    cases r1 with
    | true =>
      have hv := HR.out.trans (rval_low (o := o) HC.out HR1.out.symm)
      have hT1 := runB_len lowC (restL s a)
      rw [restL_len] at hT1
      have CR := rrun_any 0 lowC rin_low P s a o st 0 w1 HP1.out ha (by omega)
      generalize runB lowC (strB (restL s a)) = T at hv hT1 CR
      have HV := Lib.hid hv; have HCR := Lib.hid CR
      have eT : T.toList = T.data.toList := Lib.toList_data T
      have HET := Lib.hid eT
      clear hv CR CL CN HR eT
      go_wp2_with fail
      refine HCR.out.mono ?_
      rintro e w2 ⟨rfl, hp2, hk2⟩
      have HZ2 := Lib.hid (HZ1.out.kept hk2 (show ¬ w.heap.size = P by omega))
      have HK2 := Lib.hid (HK1.out.trans hk2); have HP2 := Lib.hid hp2
      clear hp2 hk2 HCR HZ1 HP1 HK1 a0 a1 a2 a3 a4
      by_cases h1 : T.data.toList = [121, 101, 115]
      · have g1 : (T.toList == [121, 101, 115]) = true := by rw [HET.out, h1]; rfl
        have HR := Lib.hid (show R = .ok (.mk 1 1 noB [] []) (restL s (a + T.size)) by rw [HV.out, h1]; rfl)
        clear h1
        have HF := Lib.hid (rval_small (P := P) (s := s) (o := o) (st := st) (R := R) (k := 1) (m := 1) (t := ⟨#[]⟩) (w := w) (W := w2) (fun d' l h => by rw [HR.out] at h; cases h; rfl) (by rw [HR.out]; exact rst_ok _ (by omega) HP2.out) hPw HK2.out)
        have HZ8 := Lib.hid (HZ2.out.put (.int .i64 1) (.int .i64 1) (.string ⟨#[]⟩) (.slice none 0 0) (.slice none 0 0))
        obtain ⟨z0, z1, z2, z3, z4⟩ := HZ2.out.cells
        have y0 := HZ2.out.frozen 0; have y1 := HZ2.out.frozen 1; have y2 := HZ2.out.frozen 2; have y3 := HZ2.out.frozen 3; have y4 := HZ2.out.frozen 4
        clear HV HR
        go_wp2_with fail
        refine bodyPost_ret (res51 rfl _ _ w.heap.size _ _ _ _ _ rfl HZ8.out) rfl ?_
        exact HF.out
      · have g1 : (T.toList == [121, 101, 115]) = false := by rw [HET.out]; exact beq_eq_false_iff_ne.2 h1
        by_cases h2 : T.data.toList = [110, 111]
        · have g2 : (T.toList == [110, 111]) = true := by rw [HET.out, h2]; rfl
          have HR := Lib.hid (show R = .ok (.mk 1 0 noB [] []) (restL s (a + T.size)) by rw [HV.out, h2]; rfl)
          clear h1 h2
          have HF := Lib.hid (rval_small (P := P) (s := s) (o := o) (st := st) (R := R) (k := 1) (m := 0) (t := ⟨#[]⟩) (w := w) (W := w2) (fun d' l h => by rw [HR.out] at h; cases h; rfl) (by rw [HR.out]; exact rst_ok _ (by omega) HP2.out) hPw HK2.out)
          have HZ8 := Lib.hid (HZ2.out.put (.int .i64 1) (.int .i64 0) (.string ⟨#[]⟩) (.slice none 0 0) (.slice none 0 0))
          obtain ⟨z0, z1, z2, z3, z4⟩ := HZ2.out.cells
          have y0 := HZ2.out.frozen 0; have y1 := HZ2.out.frozen 1; have y2 := HZ2.out.frozen 2; have y3 := HZ2.out.frozen 3; have y4 := HZ2.out.frozen 4
          clear HV HR
          go_wp2_with fail
          refine bodyPost_ret (res51 rfl _ _ w.heap.size _ _ _ _ _ rfl HZ8.out) rfl ?_
          exact HF.out
        · have g2 : (T.toList == [110, 111]) = false := by rw [HET.out]; exact beq_eq_false_iff_ne.2 h2
          by_cases h3 : T.data.toList = [110, 111, 110, 101]
          · have g3 : (T.toList != [110, 111, 110, 101]) = false := by rw [HET.out, h3]; rfl
            have g4 : (T.toList == [110, 111, 110, 101]) = true := by rw [HET.out, h3]; rfl
            have HR := Lib.hid (show R = .ok (.mk 0 0 noB [] []) (restL s (a + T.size)) by rw [HV.out, h3]; rfl)
            clear h1 h2 h3
            have HF := Lib.hid (rval_small (P := P) (s := s) (o := o) (st := st) (R := R) (k := 0) (m := 0) (t := ⟨#[]⟩) (w := w) (W := w2) (fun d' l h => by rw [HR.out] at h; cases h; rfl) (by rw [HR.out]; exact rst_ok _ (by omega) HP2.out) hPw HK2.out)
            have HZ8 := Lib.hid (HZ2.out.put (.int .i64 0) (.int .i64 0) (.string ⟨#[]⟩) (.slice none 0 0) (.slice none 0 0))
            obtain ⟨z0, z1, z2, z3, z4⟩ := HZ2.out.cells
            have y0 := HZ2.out.frozen 0; have y1 := HZ2.out.frozen 1; have y2 := HZ2.out.frozen 2; have y3 := HZ2.out.frozen 3; have y4 := HZ2.out.frozen 4
            clear HV HR
            go_wp2_with fail
            refine bodyPost_ret (res51 rfl _ _ w.heap.size _ _ _ _ _ rfl HZ8.out) rfl ?_
            exact HF.out
          · have g4 : (T.toList == [110, 111, 110, 101]) = false := by rw [HET.out]; exact beq_eq_false_iff_ne.2 h3
            have g3 : (T.toList != [110, 111, 110, 101]) = true := by rw [HET.out]; exact bne_iff_ne.2 h3
            have HR := Lib.hid (show R = .bad (s.size - a) 2 by rw [HV.out]; unfold constD; rw [if_neg h3, if_neg h2, if_neg h1])
            clear h1 h2 h3
            have CF := Lib.hid (rfail_new P s (a + T.size) o st a 2 w2 HP2.out)
            go_wp2_with fail
            refine CF.out.mono ?_
            rintro e w8 ⟨rfl, hp8, hk8⟩
            have hz8 := HZ2.out.kept hk8 (show ¬ w.heap.size = P by omega)
            have HF := Lib.hid (rval_small (P := P) (s := s) (o := o) (st := st) (R := R) (k := 0) (m := 0) (t := ⟨#[]⟩) (w := w) (fun d' l h => by rw [HR.out] at h; cases h) (by rw [HR.out]; exact rst_bad (p := a) rfl ha (.inl rfl) (by omega) hp8) hPw (HK2.out.trans hk8))
            have HZ8 := Lib.hid (hz8.put (.int .i64 0) (.int .i64 0) (.string ⟨#[]⟩) (.slice none 0 0) (.slice none 0 0))
            obtain ⟨z0, z1, z2, z3, z4⟩ := hz8.cells
            have y0 := hz8.frozen 0; have y1 := hz8.frozen 1; have y2 := hz8.frozen 2; have y3 := hz8.frozen 3; have y4 := hz8.frozen 4
            clear hz8 hp8 hk8 CF
            go_wp2_with fail
            refine bodyPost_ret (res51 rfl _ _ w.heap.size _ _ _ _ _ rfl HZ8.out) rfl ?_
            exact HF.out
    | false =>
      go_wp2_with fail
      refine CN.out.mono ?_
      rintro e w1' ⟨rfl, rfl⟩
      cases r2 with
      | true =>
        have hv := HR.out.trans (rval_num (o := o) HC.out HR1.out.symm HR2.out.symm)
        have hT1 := runB_len numC (restL s a)
        rw [restL_len] at hT1
        have CR := rrun_any 1 numC rin_num P s a o st 0 w1 HP1.out ha (by omega)
        generalize runB numC (strB (restL s a)) = T at hv hT1 CR
        obtain ⟨n2, hn2⟩ : ∃ n2, n2 = (C.whN T.data.toList).1 := ⟨_, rfl⟩
        obtain ⟨r, hr⟩ : ∃ r, r = (C.whN T.data.toList).2 := ⟨_, rfl⟩
        rw [← hn2, ← hr] at hv
        have CW := Lib.hid (show ∀ W, Calls Tryz.prog 85 #[.string T] W (fun e w' => e = .returned (.tuple #[.int .i64 n2, .bool r]) ∧ Below W.heap.size W w') from fun W => by
          have := C.refWhole_any T W (by omega)
          unfold C.WholePost at this
          rw [← hn2, ← hr] at this
          exact this)
        have HV := Lib.hid hv; have HCR := Lib.hid CR
        clear hv CR CL CN HR hn2 hr
        go_wp2_with fail
        refine HCR.out.mono ?_
        rintro e w2 ⟨rfl, hp2, hk2⟩
        have HZ2 := Lib.hid (HZ1.out.kept hk2 (show ¬ w.heap.size = P by omega))
        have HK2 := Lib.hid (HK1.out.trans hk2); have HP2 := Lib.hid hp2
        clear hp2 hk2 HCR HZ1 HP1 HK1 a0 a1 a2 a3 a4
        go_wp2_with fail
        refine (CW.out _).mono ?_
        rintro e w3 ⟨rfl, hb3⟩
        have HZ3 := Lib.hid (HZ2.out.below hb3 HZ2.out.lt)
        have HP3 := Lib.hid (HP2.out.below hb3 HP2.out.lt)
        have HK3 := Lib.hid (HK2.out.trans (kept_below hb3 _))
        clear hb3 HZ2 HP2 HK2 CW
        cases r with
        | true =>
          have HR := Lib.hid (show R = .ok (.mk 2 n2 noB [] []) (restL s (a + T.size)) by rw [HV.out]; rfl)
          have HF := Lib.hid (rval_small (P := P) (s := s) (o := o) (st := st) (R := R) (k := 2) (m := n2) (t := ⟨#[]⟩) (w := w) (W := w3) (fun d' l h => by rw [HR.out] at h; cases h; rfl) (by rw [HR.out]; exact rst_ok _ (by omega) HP3.out) hPw HK3.out)
          have HZ8 := Lib.hid (HZ3.out.put (.int .i64 2) (.int .i64 n2) (.string ⟨#[]⟩) (.slice none 0 0) (.slice none 0 0))
          obtain ⟨z0, z1, z2, z3, z4⟩ := HZ3.out.cells
          have y0 := HZ3.out.frozen 0; have y1 := HZ3.out.frozen 1; have y2 := HZ3.out.frozen 2; have y3 := HZ3.out.frozen 3; have y4 := HZ3.out.frozen 4
          clear HV HR
          go_wp2_with fail
          refine bodyPost_ret (res51 rfl _ _ w.heap.size _ _ _ _ _ rfl HZ8.out) rfl ?_
          exact HF.out
        | false =>
          have HR := Lib.hid (show R = .bad (s.size - a) 2 by rw [HV.out]; rfl)
          have CF := Lib.hid (rfail_new P s (a + T.size) o st a 2 w3 HP3.out)
          go_wp2_with fail
          refine CF.out.mono ?_
          rintro e w8 ⟨rfl, hp8, hk8⟩
          have hz8 := HZ3.out.kept hk8 (show ¬ w.heap.size = P by omega)
          have HF := Lib.hid (rval_small (P := P) (s := s) (o := o) (st := st) (R := R) (k := 2) (m := n2) (t := ⟨#[]⟩) (w := w) (fun d' l h => by rw [HR.out] at h; cases h) (by rw [HR.out]; exact rst_bad (p := a) rfl ha (.inl rfl) (by omega) hp8) hPw (HK3.out.trans hk8))
          have HZ8 := Lib.hid (hz8.put (.int .i64 2) (.int .i64 n2) (.string ⟨#[]⟩) (.slice none 0 0) (.slice none 0 0))
          obtain ⟨z0, z1, z2, z3, z4⟩ := hz8.cells
          have y0 := hz8.frozen 0; have y1 := hz8.frozen 1; have y2 := hz8.frozen 2; have y3 := hz8.frozen 3; have y4 := hz8.frozen 4
          clear hz8 hp8 hk8 CF
          go_wp2_with fail
          refine bodyPost_ret (res51 rfl _ _ w.heap.size _ _ _ _ _ rfl HZ8.out) rfl ?_
          exact HF.out
      | false =>
        obtain ⟨w2, hw2⟩ : ∃ w2, w2 = w1.setCell ⟨P, 1, none⟩ (.int .i64 ((a : Int) + 1)) := ⟨_, rfl⟩
        have hk2 : Kept (· = P) w1 w2 := by rw [hw2]; exact kept_setCell w1 ⟨P, 1, none⟩ _
        have hp2 : R5 w2 P s (a + 1) o 0 st := by unfold R5; rw [show ((a + 1 : Nat) : Int) = (a : Int) + 1 by omega, hw2]; exact HP1.out.set1 _
        have hwr : IntKind.i64.wrap ((a : Int) + 1) = (a : Int) + 1 := by rw [IntKind.wrap_i64]; omega
        have f1 := HP1.out.frozen 1
        have HZ2 := Lib.hid (HZ1.out.kept hk2 (show ¬ w.heap.size = P by omega))
        have HK2 := Lib.hid (HK1.out.trans hk2); have HP2 := Lib.hid hp2; have HW2 := Lib.hid hw2.symm
        have hw2s : w.heap.size < w2.heap.size := by have := hk2.size; omega
        clear hw2 hk2 hp2 CL CN
        rcases way (restL s a) with h | ⟨c', r, h, h1⟩ | ⟨c', r, h, h1, h2⟩ | ⟨r, h⟩ | ⟨k5, r, h⟩ | ⟨c', r, h, h1, h2, h3, h4, h5⟩
        · rw [HC.out] at h; cases h
        · rw [HC.out] at h; cases h; rw [← HR1.out] at h1; cases h1
        · rw [HC.out] at h; cases h; rw [← HR2.out] at h2; cases h2
        · have hc : c = 34 := by rw [HC.out] at h; cases h; rfl
          subst hc
          have HRR := Lib.hid (show R = textP (restL s (a + 1)) by rw [HR.out, HC.out, valP_quote])
          have CT := Lib.hid (rtext_any P s (a + 1) o st w2 HP2.out (by omega) hs)
          rw [← HRR.out] at CT
          clear h HR HC HR1 HR2 HRR HIH
          go_upto_region 21 with (fail)
          rw [HW2.out]
          clear a0 a1 a2 a3 a4 f1 HZ1 HP1 HK1 HW2
          go_wp2_with fail
          refine CT.out.mono ?_
          rintro e w5 ⟨d, x, rfl, hdi, hdd, hrs, hk5⟩
          have hz5 := HZ2.out.kept hk5 (show ¬ w.heap.size = P by omega)
          have HF := Lib.hid (rval_pass (w := w) hw2s hPw HK2.out hdi hdd hrs hk5)
          have HZ := Lib.hid (hz5.put (.int .i64 d.kind) (.int .i64 d.num) (.string d.text) (.slice x.A d.names.length x.ca) (.slice x.K d.list.length x.ck))
          obtain ⟨z0, z1, z2, z3, z4⟩ := hz5.cells
          have y0 := hz5.frozen 0; have y1 := hz5.frozen 1; have y2 := hz5.frozen 2; have y3 := hz5.frozen 3; have y4 := hz5.frozen 4
          clear hz5 hk5 hrs hdd hdi CT
          go_wp2_with fail
          refine bodyPost_ret (res51 rfl _ _ w.heap.size _ _ _ _ _ rfl HZ.out) rfl ?_
          exact HF.out
        · have hc : c = openC k5 := by rw [HC.out] at h; cases h; rfl
          have HRR := Lib.hid (show R = grpP k5 o (restL s (a + 1)) by rw [HR.out, HC.out, hc, valP_group])
          clear h HR HC HR1 HR2
          obtain ⟨b0, b1, b2, b3, b4⟩ := HP2.out.cells
          by_cases h16 : o = 16
          · have he : ((o : Int) == 16) = true := by simp; omega
            have HR := Lib.hid (show R = .bad (s.size - a) 11 by rw [HRR.out]; unfold grpP; rw [if_pos h16, restL_len]; congr 1; omega)
            have CF := Lib.hid (rfail_new P s (a + 1) o st a 11 w2 HP2.out)
            clear HRR HIH h16
            cases k5
            all_goals
              subst hc
              go_upto_region 21 with (fail)
              rw [HW2.out]
              go_wp2_with fail
              refine CF.out.mono ?_
              rintro e w8 ⟨rfl, hp8, hk8⟩
              have hz8 := HZ2.out.kept hk8 (show ¬ w.heap.size = P by omega)
              have HF := Lib.hid (rval_small (P := P) (s := s) (o := o) (st := st) (R := R) (k := 0) (m := 0) (t := ⟨#[]⟩) (w := w) (fun d' l h => by rw [HR.out] at h; cases h) (by rw [HR.out]; exact rst_bad (p := a) rfl ha (.inr rfl) (by omega) hp8) hPw (HK2.out.trans hk8))
              have HZ8 := Lib.hid (hz8.put (.int .i64 0) (.int .i64 0) (.string ⟨#[]⟩) (.slice none 0 0) (.slice none 0 0))
              obtain ⟨z0, z1, z2, z3, z4⟩ := hz8.cells
              have y0 := hz8.frozen 0; have y1 := hz8.frozen 1; have y2 := hz8.frozen 2; have y3 := hz8.frozen 3; have y4 := hz8.frozen 4
              clear hz8 hp8 hk8 CF
              go_wp2_with fail
              refine bodyPost_ret (res51 rfl _ _ w.heap.size _ _ _ _ _ rfl HZ8.out) rfl ?_
              exact HF.out
          · have he : ((o : Int) == 16) = false := by rw [beq_eq_false_iff_ne]; omega
            have CT := Lib.hid (rall_any k5 P s (a + 1) o st w2 HP2.out (by omega) hs (by omega) (HIH.out (by omega) hlt))
            rw [← HRR.out] at CT
            clear HRR HIH h16
            cases k5
            all_goals
              subst hc
              go_upto_region 21 with (fail)
              rw [HW2.out]
              clear a0 a1 a2 a3 a4 f1 HZ1 HP1 HK1 HW2
              go_wp2_with fail
              refine CT.out.mono ?_
              rintro e w5 ⟨d, x, rfl, hdi, hdd, hrs, hk5⟩
              have hz5 := HZ2.out.kept hk5 (show ¬ w.heap.size = P by omega)
              have HF := Lib.hid (rval_pass (w := w) hw2s hPw HK2.out hdi hdd hrs hk5)
              have HZ := Lib.hid (hz5.put (.int .i64 d.kind) (.int .i64 d.num) (.string d.text) (.slice x.A d.names.length x.ca) (.slice x.K d.list.length x.ck))
              obtain ⟨z0, z1, z2, z3, z4⟩ := hz5.cells
              have y0 := hz5.frozen 0; have y1 := hz5.frozen 1; have y2 := hz5.frozen 2; have y3 := hz5.frozen 3; have y4 := hz5.frozen 4
              clear hz5 hk5 hrs hdd hdi CT
              go_wp2_with fail
              refine bodyPost_ret (res51 rfl _ _ w.heap.size _ _ _ _ _ rfl HZ.out) rfl ?_
              exact HF.out
        · have hcc : c = c' := by rw [HC.out] at h; cases h; rfl
          subst hcc
          have HRR := Lib.hid (show R = .bad (s.size - a) 2 by rw [HR.out, HC.out, valP_other o h1 h2 h3 h4 h5]; congr 1; have := restL_len s a; rw [HC.out] at this; simpa using this)
          have c34 : ((c.toNat : Int) == 34) = false := beq_eq_false_iff_ne.2 (u8_ne h3)
          have c91 : ((c.toNat : Int) != 91) = true := bne_iff_ne.2 (u8_ne h4)
          have c123 : ((c.toNat : Int) != 123) = true := bne_iff_ne.2 (u8_ne h5)
          have HR := HRR
          have CF := Lib.hid (rfail_new P s (a + 1) o st a 2 w2 HP2.out)
          clear h h1 h2 h3 h4 h5 HC HR1 HR2 HIH HRR
          go_upto_region 21 with (fail)
          rw [HW2.out]
          clear a0 a1 a2 a3 a4 f1 HZ1 HP1 HK1 HW2
          go_wp2_with fail
          refine CF.out.mono ?_
          rintro e w8 ⟨rfl, hp8, hk8⟩
          have hz8 := HZ2.out.kept hk8 (show ¬ w.heap.size = P by omega)
          have HF := Lib.hid (rval_small (P := P) (s := s) (o := o) (st := st) (R := R) (k := 0) (m := 0) (t := ⟨#[]⟩) (w := w) (fun d' l h => by rw [HR.out] at h; cases h) (by rw [HR.out]; exact rst_bad (p := a) rfl ha (.inl rfl) (by omega) hp8) hPw (HK2.out.trans hk8))
          have HZ8 := Lib.hid (hz8.put (.int .i64 0) (.int .i64 0) (.string ⟨#[]⟩) (.slice none 0 0) (.slice none 0 0))
          obtain ⟨z0, z1, z2, z3, z4⟩ := hz8.cells
          have y0 := hz8.frozen 0; have y1 := hz8.frozen 1; have y2 := hz8.frozen 2; have y3 := hz8.frozen 3; have y4 := hz8.frozen 4
          clear hz8 hp8 hk8 CF
          go_wp2_with fail
          refine bodyPost_ret (res51 rfl _ _ w.heap.size _ _ _ _ _ rfl HZ8.out) rfl ?_
          exact HF.out
theorem rpc_all (P : Nat) (s : ByteArray) (st : Nat) (hs : s.size ≤ 100000) : ∀ nb o, o ≤ 16 → RPc P s o st nb := by
  intro nb
  induction nb with
  | zero =>
    intro o ho S W hS hl
    cases S with
    | bad n er =>
      obtain ⟨h1, h2, a', h3, h4⟩ := hS
      refine (rpiece_bad P s a' o _ st er W h4 (by omega)).mono ?_
      rintro e w' ⟨rfl, hp, hk⟩
      exact ⟨zeroD, _, rfl, din_zero _ _ _ _ _, (fun d' l h => by cases h), ⟨h1, h2, a', h3, hp⟩, hk⟩
    | ok u l =>
      obtain ⟨h1, h2, h3⟩ := hS
      have hl0 := hl u l rfl
      have := rpiece_step P s (s.size - l.length) o st W h3 (by omega) hs ho (fun _ h => by omega)
      rw [h2] at this
      exact this
  | succ nb ih =>
    intro o ho S W hS hl
    cases S with
    | bad n er =>
      obtain ⟨h1, h2, a', h3, h4⟩ := hS
      refine (rpiece_bad P s a' o _ st er W h4 (by omega)).mono ?_
      rintro e w' ⟨rfl, hp, hk⟩
      exact ⟨zeroD, _, rfl, din_zero _ _ _ _ _, (fun d' l h => by cases h), ⟨h1, h2, a', h3, hp⟩, hk⟩
    | ok u l =>
      obtain ⟨h1, h2, h3⟩ := hS
      have hl0 := hl u l rfl
      have := rpiece_step P s (s.size - l.length) o st W h3 (by omega) hs ho (fun ho' h S' W' hS' hl' => ih (o + 1) (by omega) S' W' hS' (fun x l' h => by have := hl' x l' h; omega))
      rw [h2] at this
      exact this
end Go.Proofs.YtjnhcoflmechmaaGreatDoor
