/-
  tendrilref16.Parse: what it answers.
-/
import Derived.Test.YtjnhcoflmechmaaGreatDoorDRef6
import Derived.Test.YtjnhcoflmechmaaGreatDoorDParW
import Derived.Test.YtjnhcoflmechmaaGreatDoorDWeigh
namespace Go.Proofs.YtjnhcoflmechmaaGreatDoor
open Go.RowKit Go.Sort
set_option linter.unusedVariables false
set_option maxRecDepth 100000
set_option maxHeartbeats 8000000 in
theorem refParse_any (s : ByteArray) (w : World) (hs : s.size ≤ 100000) (hg : ∀ d l, valP 0 (restL s 0) = .ok d l → GoodD d) : Calls Tryz.prog 27 #[.string s] w (ParC s w) := by
  obtain ⟨w1, hw1⟩ : ∃ w1, w1 = zeroW w := ⟨_, rfl⟩
  have hb1 : Below w.heap.size w w1 := by rw [hw1]; exact (Below.refl _ _).alloc (Nat.le_refl _) _
  have hz1 : B5 w1 w.heap.size 46 (.int .i64 0) (.int .i64 0) (.string ⟨#[]⟩) (.slice none 0 0) (.slice none 0 0) := by rw [hw1]; exact B5.new _ _ _ _ _ _ _ _ rfl
  have hs1 : w1.heap.size = w.heap.size + 1 := by rw [hw1]; simp
  obtain ⟨P, hP⟩ : ∃ P, P = w.heap.size + 1 := ⟨_, rfl⟩
  obtain ⟨w2, hw2⟩ : ∃ w2, w2 = w1.alloc (.cells #[.string s, .int .i64 0, .int .i64 0, .int .i64 0, .int .i64 0] 97) := ⟨_, rfl⟩
  have hk2 : Kept (fun _ => False) w1 w2 := by rw [hw2]; exact kept_alloc _ _ _
  have hb2 : Below w.heap.size w w2 := by rw [hw2]; exact hb1.alloc (by omega) _
  have hp2 : R5 w2 P s 0 0 0 0 := by rw [hw2]; exact B5.new _ _ _ _ _ _ _ _ (by omega)
  have hz2 := hz1.kept hk2 (fun h => h)
  have CV0 := rpc_all P s 0 hs s.size 0 (by omega) (.ok () (restL s 0)) w2 (rst_ok () (by omega) hp2) (fun x l h => by cases h; rw [restL_len]; omega)
  rw [show (Rd.ok () (restL s 0)).then (valP 0) = valP 0 (restL s 0) from rfl] at CV0
  obtain ⟨R, hR⟩ : ∃ R, R = valP 0 (restL s 0) := ⟨_, rfl⟩
  rw [← hR] at CV0
  have CV := Lib.hid CV0; have HR := Lib.hid hR; have HZ2 := Lib.hid hz2; have HB2 := Lib.hid hb2; have HG := Lib.hid hg
  have HW1 := Lib.hid hw1; have HW2 := Lib.hid hw2.symm
  have hs2 : w2.heap.size = P + 1 := by rw [hw2]; simp; omega
  clear hw1 hb1 hz1 hw2 hk2 hb2 hp2 hz2 CV0 hR hg
  subst hP
  go_enter Tryz.func27, Tryz.ntmps27
  go_upto_region 1 with (fail)
  rw [zeroW_out HW1]
  go_upto_region 2 with (fail)
  rw [HW2.out]
  clear hs1 HW1 HW2
  go_wp2_with fail
  refine CV.out.mono ?_
  rintro e w3 ⟨d', x, rfl, hdi, hdd, hrs, hk3⟩
  clear CV
  have hs3 := hk3.size
  have hz3 := HZ2.out.kept hk3 (show ¬ w.heap.size = w.heap.size + 1 by omega)
  have hb3 : Below w.heap.size w w3 := HB2.out.trans (hk3.below (by omega) (fun k hk => by have h' : k = w.heap.size + 1 := hk; omega))
  obtain ⟨w4, hw4⟩ : ∃ w4, w4 = boxD w3 d' x := ⟨_, rfl⟩
  have hk4 : Kept (fun _ => False) w3 w4 := by rw [hw4]; exact kept_alloc _ _ _
  have hz4 := hz3.kept hk4 (fun h => h)
  have hrs4 := hrs.kept hk4 (fun h => h)
  have hb4 : Below w.heap.size w w4 := by rw [hw4]; exact hb3.alloc (by omega) _
  have hx4 : DatCells w4 w3.heap.size 0 d' x := by rw [hw4]; exact box_dat _ _ _
  have hd4 : DatAt w4 w4.heap.size d' x := (hdi.kept hk4 (fun _ _ _ h => h)).at
  have hX : w3.heap.size < w4.heap.size := hx4.block_lt
  have HDI4 := Lib.hid (hdi.kept hk4 (fun _ _ _ h => h)); have HW4 := Lib.hid hw4; have HD4 := Lib.hid hd4; have HX4 := Lib.hid hx4; have HZ4 := Lib.hid hz4; have HB4 := Lib.hid hb4; have HDD := Lib.hid hdd
  clear hw4 hk4 hz4 hb4 hx4 hd4 hz3 hb3 hrs hk3 hdi hdd HZ2 HB2
  go_upto_region 3 with (fail)
  rw [boxD_out HW4]
  clear HW4
  rcases R with ⟨d, l⟩ | ⟨n, er⟩
  · obtain rfl := HDD.out d l rfl
    obtain ⟨hl, hl2, hp4⟩ := hrs4
    obtain ⟨A, hA⟩ : ∃ A, A = s.size - l.length := ⟨_, rfl⟩
    rw [← hA] at hp4
    have HP4 := Lib.hid hp4
    obtain ⟨p0, p1, p2, p3, p4⟩ := hp4.cells
    clear hp4 hl2
    by_cases hl0 : l = []
    · have HSA := Lib.hid hl0
      have hlen : l.length = 0 := by rw [hl0]; rfl
      have hA1 : decide ((A : Int) < (s.size : Int)) = false := by simp; omega
      have hA2 : ¬ (A : Int) < (s.size : Int) := by omega
      have CR := Lib.hid (refRight_any d' x w4 HD4.out (HG.out d' l HR.out.symm))
      obtain ⟨x0, x1, x2, x3, x4⟩ := HX4.out
      clear hl0 hlen hA
      go_wp2_with fail
      refine CR.out.mono ?_
      rintro e w5 ⟨r, rfl, hr, hb5⟩
      have hx5 := HX4.out.below hb5 hX
      have HHR := Lib.hid hr
      have hz5 := HZ4.out.below hb5 HZ4.out.lt
      have hb05 := HB4.out.trans (hb5.mono HB4.out.size)
      clear x0 x1 x2 x3 x4 CR hr p0 p1 p2 p3 p4
      cases r with
      | true =>
        obtain ⟨x0, x1, x2, x3, x4⟩ := hx5
        obtain ⟨W, hW⟩ : ∃ W, W = put5 w5 w.heap.size (.int .i64 d'.kind) (.int .i64 d'.num) (.string d'.text) (.slice x.A d'.names.length x.ca) (.slice x.K d'.list.length x.ck) := ⟨_, rfl⟩
        have hZF := hz5.put (.int .i64 d'.kind) (.int .i64 d'.num) (.string d'.text) (.slice x.A d'.names.length x.ca) (.slice x.K d'.list.length x.ck)
        have hbW := below_put5 hb05 (Nat.le_refl _) (.int .i64 d'.kind) (.int .i64 d'.num) (.string d'.text) (.slice x.A d'.names.length x.ca) (.slice x.K d'.list.length x.ck)
        have hdW := (HDI4.out.kept (kept_below hb5 (fun _ => False)) (fun _ _ _ h => h)).kept (kept_put5 w5 w.heap.size (.int .i64 d'.kind) (.int .i64 d'.num) (.string d'.text) (.slice x.A d'.names.length x.ca) (.slice x.K d'.list.length x.ck)) (fun b hb _ e => by have e' : b = w.heap.size := e; have hb' : w2.heap.size ≤ b := hb; omega)
        rw [← hW] at hZF hbW hdW
        have HF := Lib.hid (show ParC s w (.returned (.tuple #[datV d' x, .int .i64 0, .int .i64 0])) W from ⟨d', x, 0, 0, rfl, .good d' (by rw [← HR.out, HSA.out]) (HHR.out.1 rfl), hdW.at, HG.out d' l HR.out.symm, hbW⟩)
        have HZF := Lib.hid hZF; have HWW := Lib.hid hW.symm
        obtain ⟨z0, z1, z2, z3, z4⟩ := hz5.cells
        have y0 := hz5.frozen 0; have y1 := hz5.frozen 1; have y2 := hz5.frozen 2; have y3 := hz5.frozen 3; have y4 := hz5.frozen 4
        clear hz5 hW hZF hbW hb05 hb5 hdW HDI4
        go_wp2_with fail
        rw [show ((((w5.setCell ⟨w.heap.size, 0, none⟩ (.int .i64 d'.kind)).setCell ⟨w.heap.size, 1, none⟩ (.int .i64 d'.num)).setCell ⟨w.heap.size, 2, none⟩ (.string d'.text)).setCell ⟨w.heap.size, 3, none⟩ (.slice x.A d'.names.length x.ca)).setCell ⟨w.heap.size, 4, none⟩ (.slice x.K d'.list.length x.ck) = W from HWW.out]
        refine bodyPost_ret (res53 rfl _ _ w.heap.size _ _ _ _ _ _ _ rfl rfl rfl HZF.out) rfl ?_
        exact HF.out
      | false =>
        have hzF := hz5
        have HZF := Lib.hid (hzF.put (.int .i64 0) (.int .i64 0) (.string ⟨#[]⟩) (.slice none 0 0) (.slice none 0 0))
        have HF := Lib.hid (par_zero (s := s) (a := 0) (er := 24) (.wrong d' (by rw [← HR.out, HSA.out]) (fun h => by have := HHR.out.2 h; cases this)) (below_put5 hb05 (Nat.le_refl _) (.int .i64 0) (.int .i64 0) (.string ⟨#[]⟩) (.slice none 0 0) (.slice none 0 0)))
        obtain ⟨z0, z1, z2, z3, z4⟩ := hzF.cells
        have y0 := hzF.frozen 0; have y1 := hzF.frozen 1; have y2 := hzF.frozen 2; have y3 := hzF.frozen 3; have y4 := hzF.frozen 4
        clear hzF
        go_wp2_with fail
        refine bodyPost_ret (res53 rfl _ _ w.heap.size _ _ _ _ _ _ _ rfl rfl rfl HZF.out) rfl ?_
        exact HF.out
    · obtain ⟨c, r, hcr⟩ : ∃ c r, l = c :: r := by cases l with | nil => exact absurd rfl hl0 | cons c r => exact ⟨c, r, rfl⟩
      have hlen : 0 < l.length := by rw [hcr]; simp
      have hA1 : decide ((A : Int) < (s.size : Int)) = true := by simp; omega
      have hA2 : (A : Int) < (s.size : Int) := by omega
      have CF := Lib.hid (rfail_new (w.heap.size + 1) s A 0 0 A 2 w4 HP4.out)
      have HSY := Lib.hid (show ParSays s zeroD A 2 by rw [hA, hcr]; exact .more d' c r (by rw [← HR.out, hcr]))
      clear hcr hl0 hA
      go_wp2_with fail
      refine CF.out.mono ?_
      rintro e w5 ⟨rfl, hp5, hk5⟩
      have hz5 := HZ4.out.kept hk5 (show ¬ w.heap.size = w.heap.size + 1 by omega)
      have hb5 : Below w.heap.size w w5 := HB4.out.trans (hk5.below (by omega) (fun k hk => by have h' : k = w.heap.size + 1 := hk; omega))
      clear p0 p1 p2 p3 p4 CF
      obtain ⟨p0, p1, p2, p3, p4⟩ := hp5.cells
      clear hp5 hk5
      have hzF := hz5
      have HZF := Lib.hid (show B5 (put5 _ w.heap.size (.int .i64 0) (.int .i64 0) (.string ⟨#[]⟩) (.slice none 0 0) (.slice none 0 0)).drew w.heap.size 46 (.int .i64 0) (.int .i64 0) (.string ⟨#[]⟩) (.slice none 0 0) (.slice none 0 0) from hzF.put (.int .i64 0) (.int .i64 0) (.string ⟨#[]⟩) (.slice none 0 0) (.slice none 0 0))
      have HF := Lib.hid (par_zero HSY.out (Below.drew (below_put5 hb5 (Nat.le_refl _) (.int .i64 0) (.int .i64 0) (.string ⟨#[]⟩) (.slice none 0 0) (.slice none 0 0))))
      obtain ⟨z0, z1, z2, z3, z4⟩ := hzF.cells
      have y0 := hzF.frozen 0; have y1 := hzF.frozen 1; have y2 := hzF.frozen 2; have y3 := hzF.frozen 3; have y4 := hzF.frozen 4
      clear hzF
      go_wp2_with fail
      go_region
      go_wp2_with fail
      refine bodyPost_ret (res53 rfl _ _ w.heap.size _ _ _ _ _ _ _ rfl rfl rfl HZF.out) rfl ?_
      exact HF.out
  · obtain ⟨hn, her, a', ha', hp4⟩ := hrs4
    have HSY := Lib.hid (ParSays.bad n er HR.out.symm)
    obtain ⟨A, hA⟩ : ∃ A, A = s.size - n := ⟨_, rfl⟩
    rw [← hA] at hp4 HSY
    have CF := Lib.hid (rfail_old (w.heap.size + 1) s a' 0 A a' 2 er w4 hp4 (by omega))
    obtain ⟨p0, p1, p2, p3, p4⟩ := hp4.cells
    have hne : (er != 0) = true := by rcases her with rfl | rfl <;> rfl
    clear hp4 hA her HR
    by_cases hlt : a' < s.size
    · have hA1 : decide ((a' : Int) < (s.size : Int)) = true := by simp; omega
      have hA2 : (a' : Int) < (s.size : Int) := by omega
      go_wp2_with fail
      refine CF.out.mono ?_
      rintro e w5 ⟨rfl, rfl⟩
      have hzF := HZ4.out
      have HZF := Lib.hid (show B5 (put5 _ w.heap.size (.int .i64 0) (.int .i64 0) (.string ⟨#[]⟩) (.slice none 0 0) (.slice none 0 0)).drew w.heap.size 46 (.int .i64 0) (.int .i64 0) (.string ⟨#[]⟩) (.slice none 0 0) (.slice none 0 0) from hzF.put (.int .i64 0) (.int .i64 0) (.string ⟨#[]⟩) (.slice none 0 0) (.slice none 0 0))
      have HF := Lib.hid (par_zero HSY.out (Below.drew (below_put5 HB4.out (Nat.le_refl _) (.int .i64 0) (.int .i64 0) (.string ⟨#[]⟩) (.slice none 0 0) (.slice none 0 0))))
      obtain ⟨z0, z1, z2, z3, z4⟩ := hzF.cells
      have y0 := hzF.frozen 0; have y1 := hzF.frozen 1; have y2 := hzF.frozen 2; have y3 := hzF.frozen 3; have y4 := hzF.frozen 4
      clear hzF
      go_wp2_with fail
      go_region
      go_wp2_with fail
      refine bodyPost_ret (res53 rfl _ _ w.heap.size _ _ _ _ _ _ _ rfl rfl rfl HZF.out) rfl ?_
      exact HF.out
    · have hA1 : decide ((a' : Int) < (s.size : Int)) = false := by simp; omega
      have hA2 : ¬ (a' : Int) < (s.size : Int) := by omega
      have hzF := HZ4.out
      have HZF := Lib.hid (show B5 (put5 _ w.heap.size (.int .i64 0) (.int .i64 0) (.string ⟨#[]⟩) (.slice none 0 0) (.slice none 0 0)).drew w.heap.size 46 (.int .i64 0) (.int .i64 0) (.string ⟨#[]⟩) (.slice none 0 0) (.slice none 0 0) from hzF.put (.int .i64 0) (.int .i64 0) (.string ⟨#[]⟩) (.slice none 0 0) (.slice none 0 0))
      have HF := Lib.hid (par_zero HSY.out (Below.drew (below_put5 HB4.out (Nat.le_refl _) (.int .i64 0) (.int .i64 0) (.string ⟨#[]⟩) (.slice none 0 0) (.slice none 0 0))))
      obtain ⟨z0, z1, z2, z3, z4⟩ := hzF.cells
      have y0 := hzF.frozen 0; have y1 := hzF.frozen 1; have y2 := hzF.frozen 2; have y3 := hzF.frozen 3; have y4 := hzF.frozen 4
      clear hzF
      go_wp2_with fail
      go_region
      go_wp2_with fail
      refine bodyPost_ret (res53 rfl _ _ w.heap.size _ _ _ _ _ _ _ rfl rfl rfl HZF.out) rfl ?_
      exact HF.out
end Go.Proofs.YtjnhcoflmechmaaGreatDoor
