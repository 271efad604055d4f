/-
  label.Kept: the walk.
-/
import Derived.Test.YtlebcebihieiiaaDoorLKept
namespace Go.Proofs.YtlebcebihieiiaaDoor
open Go.RowKit Go.Sort Go.Maps
set_option linter.unusedVariables false
theorem run_makeMapN (W : World) (x : Int) : (Instr.makeMap 59 (some (.int .i64 x))).run Tryd.prog W = .ok (.map (some W.heap.size)) (W.alloc (.map #[] 0)) := by
  simp [Instr.makeMap, asInt, asIntOf, Result.andThen]
def putI (a b : List Lab) (i : Nat) : List Int := (b.take i).map (findL a) ++ List.replicate (b.length - i) 0
theorem putI_length {a b : List Lab} {i : Nat} (h : i ≤ b.length) : (putI a b i).length = b.length := by
  unfold putI
  rw [List.length_append, List.length_map, List.length_take, List.length_replicate]; omega
theorem putI_set {a b : List Lab} {i : Nat} (h : i < b.length) : (putI a b i).set i (findL a b[i]) = putI a b (i + 1) := by
  unfold putI
  have hl : ((b.take i).map (findL a)).length = i := by rw [List.length_map, List.length_take]; omega
  rw [List.set_append_right i _ (by omega), hl, Nat.sub_self, show b.length - i = (b.length - (i + 1)) + 1 by omega, List.replicate_succ, List.set_cons_zero, List.take_add_one, List.getElem?_eq_getElem h, Option.toList_some, List.map_append, List.map_cons, List.map_nil, List.append_assoc]
  rfl
theorem putI_full (a b : List Lab) : putI a b b.length = keptL a b := by unfold putI keptL; rw [Nat.sub_self, List.take_length]; simp
theorem ints_set (l : List Int) (i : Nat) (x : Int) : (I.ints l).set i (.int .i64 x) = I.ints (l.set i x) := List.map_set.symm
set_option maxRecDepth 100000 in
set_option maxHeartbeats 8000000 in
theorem kept_any (A A' : Option Addr) (c c' : Nat) (a b : List Lab) (w : World) (hr : LRow w w.heap.size A a) (hr' : LRow w w.heap.size A' b) (hl : a.length ≤ 1000) (hl' : b.length ≤ 1000) (ha : ∀ L ∈ a, KWf L) (hb : ∀ L ∈ b, KWf L) :
    Calls Tryd.prog 16 #[.slice A a.length c, .slice A' b.length c'] w (I.Made w (keptL a b)) := by
  obtain ⟨i0, hi0, hz0, hz1, hz2⟩ := info_parts I.Tryd.info3
  have hmm := run_makeMapN
  have HR := Lib.hid hr; have HR' := Lib.hid hr'; have HKA := Lib.hid ha; have HKB := Lib.hid hb
  obtain ⟨n, hn⟩ : ∃ n, n = a.length := ⟨_, rfl⟩
  obtain ⟨m, hm⟩ : ∃ m, m = b.length := ⟨_, rfl⟩
  have HN := Lib.hid hn; have HM := Lib.hid hm
  have HBY := Lib.hid (show i0.bytes * m ≤ 281474976710656 by rw [hz2]; omega)
  rw [← hn] at hl ⊢
  rw [← hm] at hl' ⊢
  clear hr hr' ha hb hn hm
  have HF0 := Lib.hid (fst_made w)
  have HB0 := Lib.hid (show Below w.heap.size w (w.alloc (.map #[] 0)) from (Below.refl _ _).alloc (Nat.le_refl _) _)
  go_enter Tryd.func16, Tryd.ntmps16
  go_wp2_with fail
  go_loopg [20] n (fun g s20 wr => ∃ i : Nat, s20 = .int .i64 i ∧ i ≤ n ∧ n - i ≤ g ∧ RowKit.Hid (Fst wr w.heap.size i (firstF a i)) ∧ RowKit.Hid (Below w.heap.size w wr))
  case atStart => exact ⟨0, rfl, by omega, by omega, Lib.hid (HF0.out.more (Nat.le_refl _) (fun u => by simp [firstF])), HB0⟩
  case round =>
    clear HF0 HB0
    obtain ⟨i, rfl, hi, hgi, HF, HB⟩ := hrel
    by_cases hlt : i < n
    · have h1 : (i : Int) < (n : Int) := by omega
      have hil : i < a.length := by rw [← HN.out]; exact hlt
      obtain ⟨g, off, L, hA, hb, hL, c0, c1, c2⟩ := lrow_at (HR.out.up HB.out) hil
      have HLE := Lib.hid hL
      have HKL := Lib.hid (show KWf L by rw [hL]; exact HKA.out _ (List.getElem_mem _))
      obtain ⟨wb, hwb⟩ : ∃ wb, wb = lboxW wr L := ⟨_, rfl⟩
      have hbb : Below wr.heap.size wr wb := by rw [hwb]; exact below_lbox wr L
      have HFB := Lib.hid (HF.out.keep (kept_below hbb (fun _ => False)) (fun h => h))
      have HBB := Lib.hid (HB.out.trans (hbb.mono HB.out.size))
      have HWB := Lib.hid hwb
      have hltF := HF.out.lt
      clear hL hbb
      by_cases hin : L ∈ a.take i
      · have hlk := HFB.out.look_yes HKL.out (show firstF a i L = some (a.idxOf L) by unfold firstF; rw [if_pos hin])
        have HIN := Lib.hid hin
        rw [hwb] at hlk
        clear hin hwb
        go_wp2_with fail
        rw [show lboxW wr L = wb from HWB.out.symm]
        try rw [← hA]
        go_roundg (n - (i + 1))
        case measure => omega
        case rel => exact ⟨i + 1, by go_num, by omega, by omega, Lib.hid (HFB.out.more (Nat.le_succ _) (fun u => firstF_old hil (by rw [← HLE.out]; exact HIN.out) u)), HBB⟩
      · have hlk := HFB.out.look_no HKL.out (show firstF a i L = none by unfold firstF; rw [if_neg hin])
        obtain ⟨w5, hst, hf5, hk5⟩ := HFB.out.store HKL.out i (by omega) (by omega)
        have HF5 := Lib.hid (hf5.more (Nat.le_refl _) (fun u => (by rw [HLE.out]; exact firstF_new hil (by rw [← HLE.out]; exact hin) u : (if u = L then some i else firstF a i u) = firstF a (i + 1) u)))
        have HB5 := Lib.hid (HBB.out.trans (hk5.below HBB.out.size (fun k hk => by rw [show k = w.heap.size from hk]; exact Nat.le_refl _)))
        rw [hwb] at hlk hst
        clear hin hwb hf5 hk5
        go_wp2_with fail
        try rw [← hA]
        go_roundg (n - (i + 1))
        case measure => omega
        case rel => exact ⟨i + 1, by go_num, by omega, by omega, HF5, HB5⟩
    · have h1 : ¬ (i : Int) < (n : Int) := by omega
      have HFA := Lib.hid (show Fst wr w.heap.size n (firstF a n) from (show i = n by omega) ▸ HF.out)
      clear HF hgi hi
      go_wp2_with (at_make; refine wpList_make_full _ rfl (.tmp 38) (.tmp 38) 41 rfl wr.heap.size 3 i0 (.int .i64 0) 1 Tryd.underlying41 hi0 hz0 hz1 .i64 .i64 _ _ m rfl rfl rfl rfl HBY.out (by unfold maxLen; omega) (Nat.le_refl _) ?_; intro w1 hown1 hg1; rw [I.made_ints] at hown1; have HOW1 := Lib.hid hown1; have HG1 := Lib.hid hg1; clear hown1 hg1)
      have hb1 : Below wr.heap.size wr w1 := (Below.refl _ _).grown HG1.out (Nat.le_refl _) (fun k hk => by cases hk)
      have HB1 := Lib.hid (HB.out.trans (hb1.mono HB.out.size))
      have HF1 := Lib.hid (HFA.out.keep (kept_below hb1 (fun _ => False)) (fun h => h))
      have hFl := HFA.out.lt
      obtain ⟨bo, hbo⟩ : ∃ bo, bo = wr.heap.size := ⟨_, rfl⟩
      rw [← hbo] at HOW1 hFl
      have hwbo : w.heap.size ≤ bo := by omega
      rw [← hbo]
      clear hb1 HG1 HFA HB hbo
      go_loopg [42] m (fun g s42 wx => ∃ i : Nat, s42 = .int .i64 i ∧ i ≤ m ∧ m - i ≤ g ∧ RowKit.Hid (wx.ownsRow bo 3 1 (.slice (some ⟨bo, 0, none⟩) m m) m (I.ints (putI a b i))) ∧ RowKit.Hid (Fst wx w.heap.size n (firstF a n)) ∧ RowKit.Hid (Below w.heap.size w wx))
      case atStart => exact ⟨0, rfl, by omega, by omega, Lib.hid (by have := HOW1.out; unfold putI; rw [← HM.out]; exact this), HF1, HB1⟩
      case round =>
        clear HOW1 HF1 HB1
        obtain ⟨k, rfl, hk, hgk, HOW, HF, HB⟩ := hrel
        by_cases hlt : k < m
        · have h2 : (k : Int) < (m : Int) := by omega
          have hkl : k < b.length := by rw [← HM.out]; exact hlt
          obtain ⟨g, off, L, hA, hb, hL, c0, c1, c2⟩ := lrow_at (HR'.out.up HB.out) hkl
          have HLE := Lib.hid hL
          have HKL := Lib.hid (show KWf L by rw [hL]; exact HKB.out _ (List.getElem_mem _))
          obtain ⟨wb, hwb⟩ : ∃ wb, wb = lboxW wr L := ⟨_, rfl⟩
          have hbb : Below wr.heap.size wr wb := by rw [hwb]; exact below_lbox wr L
          have HFB := Lib.hid (HF.out.keep (kept_below hbb (fun _ => False)) (fun h => h))
          have HBB := Lib.hid (HB.out.trans (hbb.mono HB.out.size))
          have HOB := Lib.hid (show wb.ownsRow bo 3 1 (.slice (some ⟨bo, 0, none⟩) m m) m (I.ints (putI a b k)) by rw [hwb]; exact HOW.out.alloc _)
          have HWB := Lib.hid hwb
          have hpl : k < (I.ints (putI a b k)).length := by rw [List.length_map, putI_length (by omega)]; exact hkl
          have p0 : wb.cell? ⟨bo, k, none⟩ = some (I.ints (putI a b k))[k] := (HOB.out.cellAt k (by omega)).trans (List.getElem?_eq_getElem hpl)
          have z0 := HOB.out.frozenAt k
          have HST := Lib.hid (fun v => (HOB.out.stored k v).1)
          have HSE := Lib.hid (putI_set (a := a) hkl)
          rw [← hL] at HSE
          generalize (I.ints (putI a b k))[k] = old at p0
          rw [hwb] at p0 z0
          clear hL hbb
          by_cases hin : L ∈ a
          · have hlk := HFB.out.look_yes HKL.out (show firstF a n L = some (a.idxOf L) by rw [HN.out, firstF_all, if_pos hin])
            have HFI := Lib.hid (show findL a L = (a.idxOf L : Int) by unfold findL; rw [if_pos hin])
            rw [hwb] at hlk
            obtain ⟨q, hq⟩ : ∃ q, q = a.idxOf L := ⟨_, rfl⟩
            rw [← hq] at hlk HFI
            clear hin hwb hq
            go_wp2_with fail
            try rw [show lboxW wr L = wb from HWB.out.symm]
            try rw [← hA]
            go_roundg (m - (k + 1))
            case measure => omega
            case rel => exact ⟨k + 1, by go_num, by omega, by omega, Lib.hid (by rw [← HSE.out, ← ints_set, HFI.out]; exact HST.out _), Lib.hid (HFB.out.keep (kept_setCell _ _ _) (fun h => by simp at h; omega)), Lib.hid (HBB.out.setCell (p := ⟨bo, k, none⟩) hwbo _)⟩
          · have hlk := HFB.out.look_no HKL.out (show firstF a n L = none by rw [HN.out, firstF_all, if_neg hin])
            have HFI := Lib.hid (show findL a L = -1 by unfold findL; rw [if_neg hin])
            rw [hwb] at hlk
            clear hin hwb
            go_wp2_with fail
            try rw [show lboxW wr L = wb from HWB.out.symm]
            try rw [← hA]
            go_roundg (m - (k + 1))
            case measure => omega
            case rel => exact ⟨k + 1, by go_num, by omega, by omega, Lib.hid (by rw [← HSE.out, ← ints_set, HFI.out]; exact HST.out _), Lib.hid (HFB.out.keep (kept_setCell _ _ _) (fun h => by simp at h; omega)), Lib.hid (HBB.out.setCell (p := ⟨bo, k, none⟩) hwbo _)⟩
        · have h2 : ¬ (k : Int) < (m : Int) := by omega
          have HFN := Lib.hid (show I.OwnI wr bo (.slice (some ⟨bo, 0, none⟩) m m) (keptL a b) by
            have := HOW.out
            have e : k = b.length := by have := HM.out; omega
            rw [e, putI_full] at this
            unfold I.OwnI
            rw [show (keptL a b).length = m by unfold keptL; rw [List.length_map, ← HM.out]]
            exact this)
          go_wp2_with fail
          go_ret
          exact I.made_own HFN.out HB.out
end Go.Proofs.YtlebcebihieiiaaDoor
