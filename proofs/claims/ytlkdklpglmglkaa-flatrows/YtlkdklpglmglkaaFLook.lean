/-
  tendrilref13.Above, Depth, Formed, and flat.inPlace. | tendrilref13.Formed and Kids. | tendrilref13.Kids: its row is new.
-/
import Derived.Test.YtlkdklpglmglkaaFRow
import Derived.Test.YtlkdklpglmglkaaFInts
namespace Go.Proofs.Ytlkdklpglmglkaa
open Go.RowKit Go.Sort Go.Lib
set_option linter.unusedVariables false
set_option maxRecDepth 100000
theorem chain_len (l : List Rw) : ∀ x, (chain l x).length ≤ x := by
  intro x
  induction x using Nat.strongRecOn with
  | _ x ih =>
    rw [chain]
    split
    · rename_i h
      have := ih _ h.2
      simp only [List.length_cons]; omega
    · simp
def BoolPost (P : Prop) (w : World) (e : Ending) (w' : World) : Prop := ∃ b, e = .returned (.bool b) ∧ (b = true ↔ P) ∧ w = w'
def InC (l : List Rw) (x : Nat) (h : Int) : Prop := 1 ≤ h ∧ h.toNat ∈ chain l x
theorem InC.zero {l : List Rw} {h : Int} : ¬ InC l 0 h := by rintro ⟨_, h2⟩; rw [chain_zero] at h2; simp at h2
theorem InC.self {l : List Rw} {y : Nat} (hok : okAt l y) : InC l (y + 1) ((y + 1 : Nat) : Int) := ⟨by omega, by rw [chain_succ hok]; simp⟩
theorem InC.step {l : List Rw} {y : Nat} {h : Int} (hok : okAt l y) (hne : ¬ ((y + 1 : Nat) : Int) = h) : InC l (y + 1) h ↔ InC l (rwAt l y).up.toNat h := by
  unfold InC
  rw [chain_succ hok]
  constructor
  · rintro ⟨h1, h2⟩
    refine ⟨h1, ?_⟩
    rcases List.mem_cons.1 h2 with h3 | h3
    · omega
    · exact h3
  · rintro ⟨h1, h2⟩
    exact ⟨h1, List.mem_cons_of_mem _ h2⟩
set_option maxHeartbeats 2000000 in
theorem above_any (A : Option Addr) (c : Nat) (rs : List Rw) (n : Nat) (h : Int) (w : World) (H : RRow w w.heap.size A rs) (hf : FormTo rs n) (hn : n ≤ rs.length) (hl : rs.length ≤ 5000) :
    Calls Try.prog 56 #[.slice A rs.length c, .int .i64 n, .int .i64 h] w (BoolPost (InC rs n h) w) := by
  have HR := Lib.hid H; have HF := Lib.hid hf
  clear H hf
  go_enter Try.func56, Try.ntmps56
  go_wp2_with fail
  go_loopg [7] n (fun g s7 wr => ∃ x : Nat, s7 = .int .i64 x ∧ x ≤ n ∧ x ≤ g ∧ RowKit.Hid (InC rs n h ↔ InC rs x h) ∧ RowKit.Hid (w = wr))
  case atStart => exact ⟨n, rfl, by omega, by omega, Lib.hid Iff.rfl, Lib.hid rfl⟩
  case round =>
    obtain ⟨x, rfl, hx, hg, HI, HW⟩ := hrel
    by_cases h0 : 0 < x
    · have h1 : (x : Int) > 0 := by omega
      obtain ⟨y, hy⟩ : ∃ y, y = x - 1 := ⟨_, rfl⟩
      have hyx : x = y + 1 := by omega
      have hok := HF.out y (by omega)
      have HOK := Lib.hid hok
      by_cases he : (x : Int) = h
      · have he' : ((x : Int) == h) = true := by simpa using he
        have HE := Lib.hid (show InC rs n h from HI.out.2 (by rw [← he, hyx]; exact InC.self hok))
        clear hok he hy hyx
        go_wp2_with fail
        go_ret
        exact ⟨true, rfl, ⟨fun _ => HE.out, fun _ => rfl⟩, HW.out⟩
      · have he' : ((x : Int) == h) = false := by simpa using he
        have HE := Lib.hid (show ¬ ((y + 1 : Nat) : Int) = h by rw [← hyx]; exact he)
        obtain ⟨b, off, r, z, hA, hb, hr, hc, hat⟩ := rrow_at (show RRow wr wr.heap.size A rs by rw [← HW.out]; exact HR.out) (show y < rs.length by omega)
        obtain ⟨c0, c1, c2, c3, c4, c5⟩ := hc
        have hw : IntKind.i64.wrap ((x : Int) - 1) = (y : Int) := by rw [IntKind.wrap_i64]; omega
        have hr' : rwAt rs y = r := by rw [rwAt_eq (by omega), hr]
        obtain ⟨u1, u2⟩ := okAt_up hok
        rw [hr'] at u1 u2
        have HRR := Lib.hid hr'
        have hyl : y < rs.length := by omega
        have HYX := Lib.hid hyx
        clear hok he hr hr' hat hy hyx
        go_wp2_with fail
        try rw [← hA]
        go_roundg r.up.toNat
        case measure => have := HYX.out; omega
        case rel => exact ⟨r.up.toNat, by rw [Int.toNat_of_nonneg u1], by have := HYX.out; omega, by omega, Lib.hid (HI.out.trans (by rw [HYX.out, InC.step HOK.out HE.out, HRR.out])), HW⟩
    · obtain rfl : x = 0 := by omega
      have h1 : ¬ ((0 : Nat) : Int) > 0 := by omega
      go_wp2_with fail
      go_ret
      exact ⟨false, rfl, ⟨(fun h => by cases h), fun h => absurd (HI.out.1 h) InC.zero⟩, HW.out⟩
set_option maxHeartbeats 2000000 in
theorem depth_any (A : Option Addr) (c : Nat) (rs : List Rw) (n : Nat) (w : World) (H : RRow w w.heap.size A rs) (hf : FormTo rs n) (hn : n ≤ rs.length) (hl : rs.length ≤ 5000) :
    Calls Try.prog 51 #[.slice A rs.length c, .int .i64 n] w fun e w' => e = .returned (.int .i64 (chain rs n).length) ∧ w = w' := by
  have HR := Lib.hid H; have HF := Lib.hid hf
  clear H hf
  obtain ⟨tot, htot⟩ : ∃ t, t = (chain rs n).length := ⟨_, rfl⟩
  have htl : tot ≤ 5000 := by rw [htot]; have := chain_len rs n; omega
  rw [← htot]
  go_enter Try.func51, Try.ntmps51
  go_wp2_with fail
  go_loopg [1, 5] n (fun g s1 s5 wr => ∃ x d : Nat, s1 = .int .i64 x ∧ s5 = .int .i64 d ∧ x ≤ n ∧ x ≤ g ∧ d ≤ tot ∧ RowKit.Hid (d + (chain rs x).length = tot) ∧ RowKit.Hid (w = wr))
  case atStart => exact ⟨n, 0, rfl, rfl, by omega, by omega, by omega, Lib.hid (by rw [htot]; omega), Lib.hid rfl⟩
  case round =>
    obtain ⟨x, d, rfl, rfl, hx, hg, hd, HI, HW⟩ := hrel
    by_cases h0 : 0 < x
    · have h1 : (x : Int) > 0 := by omega
      obtain ⟨y, hy⟩ : ∃ y, y = x - 1 := ⟨_, rfl⟩
      have hyx : x = y + 1 := by omega
      have hok := HF.out y (by omega)
      obtain ⟨b, off, r, z, hA, hb, hr, hc, hat⟩ := rrow_at (show RRow wr wr.heap.size A rs by rw [← HW.out]; exact HR.out) (show y < rs.length by omega)
      obtain ⟨c0, c1, c2, c3, c4, c5⟩ := hc
      have hw : IntKind.i64.wrap ((x : Int) - 1) = (y : Int) := by rw [IntKind.wrap_i64]; omega
      have hw2 : IntKind.i64.wrap ((d : Int) + 1) = (d : Int) + 1 := by rw [IntKind.wrap_i64]; omega
      have hr' : rwAt rs y = r := by rw [rwAt_eq (by omega), hr]
      obtain ⟨u1, u2⟩ := okAt_up hok
      rw [hr'] at u1 u2
      have HN := Lib.hid (show d + 1 + (chain rs r.up.toNat).length = tot by
        have := HI.out
        rw [hyx, chain_succ hok, hr', List.length_cons] at this
        omega)
      have hyl : y < rs.length := by omega
      have HYX := Lib.hid hyx
      clear hok hr hr' hat hy hyx
      go_wp2_with fail
      try rw [← hA]
      go_roundg r.up.toNat
      case measure => have := HYX.out; omega
      case rel => exact ⟨r.up.toNat, d + 1, by rw [Int.toNat_of_nonneg u1], by go_num, by have := HYX.out; omega, by omega, by have := HN.out; omega, HN, HW⟩
    · obtain rfl : x = 0 := by omega
      have h1 : ¬ ((0 : Nat) : Int) > 0 := by omega
      have hdt : d = tot := by have := HI.out; rw [chain_zero] at this; simpa using this
      go_wp2_with fail
      go_ret
      exact ⟨ret_int (by first | rfl | rw [hdt]), HW.out⟩
set_option maxHeartbeats 2000000 in
theorem inPlace_any (A : Option Addr) (c : Nat) (rs : List Rw) (n : Nat) (w : World) (H : RRow w w.heap.size A rs) (hf : FormTo rs n) (hn : n < rs.length) (hl : rs.length ≤ 5000) :
    Calls Try.prog 62 #[.slice A rs.length c, .int .i64 n] w (BoolPost (okAt rs n) w) := by
  have HR := Lib.hid H; have HF := Lib.hid hf
  obtain ⟨b, off, r, z, hA, hb, hr, hc, hat⟩ := rrow_at H hn
  subst hA
  obtain ⟨c0, c1, c2, c3, c4, c5⟩ := hc
  have HRR := Lib.hid (show rwAt rs n = r by rw [rwAt_eq hn, hr])
  clear H hf hr hat
  by_cases hn0 : n = 0
  · have hn0' : ((n : Int) == 0) = true := by simpa using hn0
    have HN0 := Lib.hid hn0
    have HO := Lib.hid (show okAt rs n ↔ r.up = 0 by unfold okAt; rw [if_pos hn0, HRR.out])
    clear hn0
    go_enter Try.func62, Try.ntmps62
    go_wp2_with fail
    go_ret
    exact ⟨_, rfl, by rw [HO.out]; simp, rfl⟩
  · have hn0' : ((n : Int) == 0) = false := by simpa using hn0
    have HO := Lib.hid (show okAt rs n ↔ InC rs n r.up by unfold okAt InC; rw [if_neg hn0, HRR.out])
    clear hn0
    go_enter Try.func62, Try.ntmps62
    go_wp2_with fail
    go_loopg [6] n (fun g s6 wr => ∃ x : Nat, s6 = .int .i64 x ∧ x ≤ n ∧ x ≤ g ∧ RowKit.Hid (∀ y : Nat, y ∈ chain rs n ∧ (y : Int) ≤ r.up ↔ y ∈ chain rs x ∧ (y : Int) ≤ r.up) ∧ RowKit.Hid (w = wr))
    case atStart => exact ⟨n, rfl, by omega, by omega, Lib.hid (fun _ => Iff.rfl), Lib.hid rfl⟩
    case round =>
      obtain ⟨x, rfl, hx, hg, HI, HW⟩ := hrel
      by_cases h0 : 0 < x
      · have h1 : (x : Int) > 0 := by omega
        have h1' : decide ((x : Int) > 0) = true := decide_eq_true h1
        obtain ⟨y, hy⟩ : ∃ y, y = x - 1 := ⟨_, rfl⟩
        have hyx : x = y + 1 := by omega
        have hok := HF.out y (by omega)
        by_cases hgt : (x : Int) > r.up
        · have hgt' : decide ((x : Int) > r.up) = true := decide_eq_true hgt
          obtain ⟨b2, off2, r2, z2, hA2, hb2, hr2, hc2, hat2⟩ := rrow_at (show RRow wr wr.heap.size (some ⟨b, off, none⟩) rs by rw [← HW.out]; exact HR.out) (show y < rs.length by omega)
          obtain ⟨rfl, rfl⟩ : b = b2 ∧ off = off2 := by simpa using hA2
          obtain ⟨d0, d1, d2, d3, d4, d5⟩ := hc2
          have hw : IntKind.i64.wrap ((x : Int) - 1) = (y : Int) := by rw [IntKind.wrap_i64]; omega
          have hr' : rwAt rs y = r2 := by rw [rwAt_eq (by omega), hr2]
          obtain ⟨u1, u2⟩ := okAt_up hok
          rw [hr'] at u1 u2
          have HN := Lib.hid (show ∀ q : Nat, q ∈ chain rs n ∧ (q : Int) ≤ r.up ↔ q ∈ chain rs r2.up.toNat ∧ (q : Int) ≤ r.up from fun q => (HI.out q).trans (by
            rw [hyx, chain_succ hok, hr']
            constructor
            · rintro ⟨q1, q2⟩
              refine ⟨?_, q2⟩
              rcases List.mem_cons.1 q1 with q3 | q3
              · omega
              · exact q3
            · rintro ⟨q1, q2⟩
              exact ⟨List.mem_cons_of_mem _ q1, q2⟩))
          have hyl : y < rs.length := by omega
          have HYX := Lib.hid hyx
          clear hok hr2 hr' hat2 hy hyx
          go_wp2_with fail
          go_roundg r2.up.toNat
          case measure => have := HYX.out; omega
          case rel => exact ⟨r2.up.toNat, by rw [Int.toNat_of_nonneg u1], by have := HYX.out; omega, by omega, HN, HW⟩
        · have hgt' : decide ((x : Int) > r.up) = false := decide_eq_false hgt
          have HFin := Lib.hid (show InC rs n r.up ↔ (x : Int) = r.up by
            constructor
            · rintro ⟨q1, q2⟩
              have := ((HI.out r.up.toNat).1 ⟨q2, by omega⟩).1
              have := (chain_le rs _ _ this).2
              omega
            · intro q
              have := ((HI.out x).2 ⟨chain_self HF.out (by omega) hx, by omega⟩).1
              exact ⟨by omega, by rw [← q]; simpa using this⟩)
          clear hok hy hyx
          by_cases heq : (x : Int) = r.up
          · have heq' : ((x : Int) == r.up) = true := by simpa using heq
            have HE := Lib.hid heq
            clear heq
            go_wp2_with fail
            go_ret
            exact ⟨true, ret_bool (by simp), by rw [HO.out, HFin.out]; exact ⟨fun _ => HE.out, fun _ => rfl⟩, HW.out⟩
          · have heq' : ((x : Int) == r.up) = false := by simpa using heq
            have HE := Lib.hid heq
            clear heq
            go_wp2_with fail
            go_ret
            exact ⟨false, ret_bool (by simp), by rw [HO.out, HFin.out]; exact ⟨(fun h => by cases h), fun h => absurd h HE.out⟩, HW.out⟩
      · obtain rfl : x = 0 := by omega
        have h1 : ¬ ((0 : Nat) : Int) > 0 := by omega
        have h1' : decide (((0 : Nat) : Int) > 0) = false := decide_eq_false h1
        have HFin := Lib.hid (show ¬ InC rs n r.up by
          rintro ⟨q1, q2⟩
          have := ((HI.out r.up.toNat).1 ⟨q2, by omega⟩).1
          rw [chain_zero] at this
          simp at this)
        go_wp2_with fail
        go_ret
        exact ⟨false, ret_bool (by simp), by rw [HO.out]; exact ⟨(fun h => by cases h), fun h => absurd h HFin.out⟩, HW.out⟩
end Go.Proofs.Ytlkdklpglmglkaa

namespace Go.Proofs.Ytlkdklpglmglkaa
open Go.RowKit Go.Sort Go.Lib
set_option linter.unusedVariables false
set_option maxRecDepth 100000
set_option maxHeartbeats 4000000 in
theorem formed_any (A : Option Addr) (c : Nat) (rs : List Rw) (w : World) (H : RRow w w.heap.size A rs) (hl : rs.length ≤ 5000) :
    Calls Try.prog 50 #[.slice A rs.length c] w (BoolPost (FormTo rs rs.length) w) := by
  have HR := Lib.hid H
  clear H
  go_enter Try.func50, Try.ntmps50
  go_wp2_with fail
  go_loopg [3, 6] rs.length (fun g _ s6 wr => ∃ k : Nat, s6 = .int .i64 k ∧ k ≤ rs.length ∧ rs.length - k ≤ g ∧ RowKit.Hid (FormTo rs k) ∧ RowKit.Hid (w = wr))
  case atStart => exact ⟨0, rfl, by omega, by omega, Lib.hid (fun i hi => by omega), Lib.hid rfl⟩
  case round =>
    obtain ⟨k, rfl, hk, hg, HF, HW⟩ := hrel
    by_cases hlt : k < rs.length
    · have h1 : (k : Int) < (rs.length : Int) := by omega
      have hrow : RRow wr wr.heap.size A rs := by rw [← HW.out]; exact HR.out
      obtain ⟨b, off, r, z, hA, hb, hr, hc, hat⟩ := rrow_at hrow hlt
      obtain ⟨c0, c1, c2, c3, c4, c5⟩ := hc
      have HRR := Lib.hid (show rwAt rs k = r by rw [rwAt_eq hlt, hr])
      have CA := Lib.hid (above_any A c rs k r.up wr hrow HF.out hk hl)
      have HBAD := Lib.hid (show ¬ okAt rs k → BoolPost (FormTo rs rs.length) w (.returned (.bool false)) wr from fun h => ⟨false, rfl, ⟨(fun h => by cases h), fun hf => absurd (hf k hlt) h⟩, HW.out⟩)
      clear hr hat hrow
      by_cases hk0 : k = 0
      · have hk0' : ((k : Int) == 0) = true := by simpa using hk0
        have HK0 := Lib.hid hk0
        have hkq : ¬ (k : Int) > 0 := by omega
        have hkp : decide ((k : Int) > 0) = false := decide_eq_false hkq
        clear hk0
        have HO := Lib.hid (show okAt rs k ↔ r.up = 0 by unfold okAt; rw [if_pos HK0.out, HRR.out])
        by_cases hu : r.up = 0
        · have hu' : (r.up != 0) = false := by simpa using hu
          have HOK := Lib.hid (HO.out.2 hu)
          clear hu
          go_wp2_with fail
          try rw [← hA]
          go_roundg (rs.length - (k + 1))
          case measure => omega
          case rel => exact ⟨k + 1, by go_num, by omega, by omega, Lib.hid (HF.out.step HOK.out), HW⟩
        · have hu' : (r.up != 0) = true := by simpa using hu
          have HOK := Lib.hid (show ¬ okAt rs k from fun h => hu (HO.out.1 h))
          clear hu
          go_wp2_with fail
          go_ret
          exact HBAD.out HOK.out
      · have hk0' : ((k : Int) == 0) = false := by simpa using hk0
        have hkq : (k : Int) > 0 := by omega
        have hkp : decide ((k : Int) > 0) = true := decide_eq_true hkq
        have HO := Lib.hid (show okAt rs k ↔ InC rs k r.up by unfold okAt InC; rw [if_neg hk0, HRR.out])
        clear hk0
        by_cases hu : r.up < 1
        · have hu' : decide (r.up < 1) = true := decide_eq_true hu
          have HOK := Lib.hid (show ¬ okAt rs k from fun h => by have := (HO.out.1 h).1; omega)
          go_wp2_with fail
          go_ret
          exact HBAD.out HOK.out
        · have hu' : decide (r.up < 1) = false := decide_eq_false hu
          rw [hA] at CA
          go_wp2_with fail
          refine CA.out.mono ?_
          rintro e w2 ⟨q, rfl, hq, rfl⟩
          cases q with
          | true =>
            have HOK := Lib.hid (HO.out.2 (hq.1 rfl))
            clear hq
            go_wp2_with fail
            try rw [← hA]
            go_roundg (rs.length - (k + 1))
            case measure => omega
            case rel => exact ⟨k + 1, by go_num, by omega, by omega, Lib.hid (HF.out.step HOK.out), HW⟩
          | false =>
            have HOK := Lib.hid (show ¬ okAt rs k from fun h => by have := hq.2 (HO.out.1 h); cases this)
            clear hq
            go_wp2_with fail
            go_ret
            exact HBAD.out HOK.out
    · have h1 : ¬ (k : Int) < (rs.length : Int) := by omega
      obtain rfl : k = rs.length := by omega
      go_wp2_with fail
      go_ret
      exact ⟨true, rfl, ⟨fun _ => HF.out, fun _ => rfl⟩, HW.out⟩
def nums (l : List Nat) : List Int := l.map (fun (x : Nat) => (x : Int))
set_option maxHeartbeats 4000000 in
theorem kids_any (A : Option Addr) (c : Nat) (rs : List Rw) (h : Int) (w : World) (H : RRow w w.heap.size A rs) (hl : rs.length ≤ 5000) :
    Calls Try.prog 27 #[.slice A rs.length c, .int .i64 h] w (I.Made w (nums (kidsH rs h))) := by
  have HR := Lib.hid H
  clear H
  obtain ⟨i0, hi, hz0, hz1, hz2⟩ := info_parts I.Try.info3
  go_enter Try.func27, Try.ntmps27
  go_wp2_with fail
  go_loopg [5, 6, 9] rs.length (fun g s5 _ s9 wr => ∃ (k : Nat) (zs : List Int), s9 = .int .i64 k ∧ k ≤ rs.length ∧ rs.length - k ≤ g ∧ zs.length ≤ k ∧ RowKit.Hid (zs = nums (kidsTo rs h k)) ∧ RowKit.Hid (wr.ownsRow w.heap.size 3 1 s5 zs.length (I.ints zs)) ∧ RowKit.Hid (Below w.heap.size w wr))
  case atStart => exact ⟨0, [], rfl, by omega, by omega, by simp, Lib.hid rfl, Lib.hid (World.ownsRow_nil _ _ _ _), Lib.hid (Below.refl _ _)⟩
  case round =>
    obtain ⟨k, zs, rfl, hk, hg, hzl, HZ, HO, HB⟩ := hrel
    by_cases hlt : k < rs.length
    · have h1 : (k : Int) < (rs.length : Int) := by omega
      obtain ⟨b, off, r, z, hA, hb, hr, hc, hat⟩ := rrow_at (HR.out.up HB.out) hlt
      obtain ⟨c0, c1, c2, c3, c4, c5⟩ := hc
      have HRR := Lib.hid (show rwAt rs k = r by rw [rwAt_eq hlt, hr])
      have hbs := HB.out.size
      clear hr hat
      by_cases hu : r.up = h
      · have hu' : (r.up == h) = true := by simpa using hu
        have HU := Lib.hid hu
        have hw : IntKind.i64.wrap ((k : Int) + 1) = (k : Int) + 1 := by rw [IntKind.wrap_i64]; omega
        clear hu
        go_wp2_with (at_builtin; refine I.wpList_app1 rfl _ _ 46 rfl w.heap.size 3 i0 (.int .i64 0) 8 Try.underlying46 hi hz0 hz1 hz2 rfl _ zs.length (I.ints zs) rfl HO.out (.int .i64 ((k : Int) + 1)) rfl rfl (by omega) (by unfold maxLen; omega) hbs ?_; intro v2 w2 hown2 hb2)
        have HZ2 := Lib.hid (show zs ++ [(k : Int) + 1] = nums (kidsTo rs h (k + 1)) by rw [kidsTo, HRR.out, if_pos HU.out, HZ.out]; simp [nums])
        have HO2 := Lib.hid (show w2.ownsRow w.heap.size 3 1 v2 (zs ++ [(k : Int) + 1]).length (I.ints (zs ++ [(k : Int) + 1])) by simpa [I.ints] using hown2)
        have HB2 := Lib.hid (HB.out.trans hb2)
        clear hown2 hb2
        go_wp2_with fail
        try rw [← hA]
        go_roundg (rs.length - (k + 1))
        case measure => omega
        case rel => exact ⟨k + 1, zs ++ [(k : Int) + 1], by go_num, by omega, by omega, by simp; omega, HZ2, HO2, HB2⟩
      · have hu' : (r.up == h) = false := by simpa using hu
        have HU := Lib.hid hu
        clear hu
        have HZ2 := Lib.hid (show zs = nums (kidsTo rs h (k + 1)) by rw [kidsTo, HRR.out, if_neg HU.out, HZ.out])
        go_wp2_with fail
        try rw [← hA]
        go_roundg (rs.length - (k + 1))
        case measure => omega
        case rel => exact ⟨k + 1, zs, by go_num, by omega, by omega, by omega, HZ2, HO, HB⟩
    · have h1 : ¬ (k : Int) < (rs.length : Int) := by omega
      obtain rfl : k = rs.length := by omega
      go_wp2_with fail
      go_ret
      have hz : zs = nums (kidsH rs h) := HZ.out
      rw [← hz]
      exact I.made_own HO.out HB.out
end Go.Proofs.Ytlkdklpglmglkaa

namespace Go.Proofs.Ytlkdklpglmglkaa
open Go.RowKit Go.Sort Go.Lib
set_option linter.unusedVariables false
set_option maxRecDepth 100000
/-- What a call answers that makes a new slice of integers. -/
def MadeO (w : World) (zs : List Int) (e : Ending) (w' : World) : Prop := ∃ v, e = .returned v ∧ I.OwnI w' w.heap.size v zs ∧ Below w.heap.size w w'
theorem MadeO.made {w w' : World} {zs : List Int} {e : Ending} (h : MadeO w zs e w') : I.Made w zs e w' := by
  obtain ⟨v, rfl, ho, hb⟩ := h
  exact I.made_own ho hb
theorem owni_form {w : World} {base : Nat} {v : Value} {zs : List Int} (h : I.OwnI w base v zs) : ∃ A c, v = .slice A zs.length c ∧ zs.length ≤ c := by
  obtain ⟨A, c, rfl, _, h2, _, _⟩ := I.row_own h
  exact ⟨A, c, rfl, h2⟩
theorem owni_at {w : World} {base : Nat} {A : Option Addr} {n c : Nat} {zs : List Int} (h : I.OwnI w base (.slice A n c) zs) {j : Nat} (hj : j < zs.length) : ∃ b off z, A = some ⟨b, off, none⟩ ∧ z = zs.getD j 0 ∧ w.cell? ⟨b, off + j, none⟩ = some (.int .i64 z) := by
  obtain ⟨A', c', he, h1, _, _, _⟩ := I.row_own h
  simp at he
  obtain ⟨rfl, rfl, rfl⟩ := he
  obtain ⟨b, off, z, hA, _, hz, hc⟩ := I.row_at h1 hj
  exact ⟨b, off, z, hA, hz, hc⟩
set_option maxHeartbeats 4000000 in
theorem kids_own (A : Option Addr) (c : Nat) (rs : List Rw) (h : Int) (w : World) (H : RRow w w.heap.size A rs) (hl : rs.length ≤ 5000) :
    Calls Try.prog 27 #[.slice A rs.length c, .int .i64 h] w (MadeO w (nums (kidsH rs h))) := by
  have HR := Lib.hid H
  clear H
  obtain ⟨i0, hi, hz0, hz1, hz2⟩ := info_parts I.Try.info3
  go_enter Try.func27, Try.ntmps27
  go_wp2_with fail
  go_loopg [5, 6, 9] rs.length (fun g s5 _ s9 wr => ∃ (k : Nat) (zs : List Int), s9 = .int .i64 k ∧ k ≤ rs.length ∧ rs.length - k ≤ g ∧ zs.length ≤ k ∧ RowKit.Hid (zs = nums (kidsTo rs h k)) ∧ RowKit.Hid (wr.ownsRow w.heap.size 3 1 s5 zs.length (I.ints zs)) ∧ RowKit.Hid (Below w.heap.size w wr))
  case atStart => exact ⟨0, [], rfl, by omega, by omega, by simp, Lib.hid rfl, Lib.hid (World.ownsRow_nil _ _ _ _), Lib.hid (Below.refl _ _)⟩
  case round =>
    obtain ⟨k, zs, rfl, hk, hg, hzl, HZ, HO, HB⟩ := hrel
    by_cases hlt : k < rs.length
    · have h1 : (k : Int) < (rs.length : Int) := by omega
      obtain ⟨b, off, r, z, hA, hb, hr, hc, hat⟩ := rrow_at (HR.out.up HB.out) hlt
      obtain ⟨c0, c1, c2, c3, c4, c5⟩ := hc
      have HRR := Lib.hid (show rwAt rs k = r by rw [rwAt_eq hlt, hr])
      have hbs := HB.out.size
      clear hr hat
      by_cases hu : r.up = h
      · have hu' : (r.up == h) = true := by simpa using hu
        have HU := Lib.hid hu
        have hw : IntKind.i64.wrap ((k : Int) + 1) = (k : Int) + 1 := by rw [IntKind.wrap_i64]; omega
        clear hu
        go_wp2_with (at_builtin; refine I.wpList_app1 rfl _ _ 46 rfl w.heap.size 3 i0 (.int .i64 0) 8 Try.underlying46 hi hz0 hz1 hz2 rfl _ zs.length (I.ints zs) rfl HO.out (.int .i64 ((k : Int) + 1)) rfl rfl (by omega) (by unfold maxLen; omega) hbs ?_; intro v2 w2 hown2 hb2)
        have HZ2 := Lib.hid (show zs ++ [(k : Int) + 1] = nums (kidsTo rs h (k + 1)) by rw [kidsTo, HRR.out, if_pos HU.out, HZ.out]; simp [nums])
        have HO2 := Lib.hid (show w2.ownsRow w.heap.size 3 1 v2 (zs ++ [(k : Int) + 1]).length (I.ints (zs ++ [(k : Int) + 1])) by simpa [I.ints] using hown2)
        have HB2 := Lib.hid (HB.out.trans hb2)
        clear hown2 hb2
        go_wp2_with fail
        try rw [← hA]
        go_roundg (rs.length - (k + 1))
        case measure => omega
        case rel => exact ⟨k + 1, zs ++ [(k : Int) + 1], by go_num, by omega, by omega, by simp; omega, HZ2, HO2, HB2⟩
      · have hu' : (r.up == h) = false := by simpa using hu
        have HU := Lib.hid hu
        clear hu
        have HZ2 := Lib.hid (show zs = nums (kidsTo rs h (k + 1)) by rw [kidsTo, HRR.out, if_neg HU.out, HZ.out])
        go_wp2_with fail
        try rw [← hA]
        go_roundg (rs.length - (k + 1))
        case measure => omega
        case rel => exact ⟨k + 1, zs, by go_num, by omega, by omega, by omega, HZ2, HO, HB⟩
    · have h1 : ¬ (k : Int) < (rs.length : Int) := by omega
      obtain rfl : k = rs.length := by omega
      go_wp2_with fail
      go_ret
      have hz : zs = nums (kidsH rs h) := HZ.out
      rw [← hz]
      exact ⟨_, rfl, HO.out, HB.out⟩
end Go.Proofs.Ytlkdklpglmglkaa
