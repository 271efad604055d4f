/-
  tendrilref13.Kids: its row is new.
-/
import Derived.Test.YtlkdklpglmglkaaFForm
namespace Go.Proofs.Ytlkdklpglmglkaa
open Go.RowKit Go.Sort Go.Lib
set_option linter.unusedVariables false
set_option maxRecDepth 100000
/-- What a call answers that makes a new slice of integers. -/
def MadeO (w : World) (zs : List Int) (e : Ending) (w' : World) : Prop := ∃ v, e = .returned v ∧ I.OwnI w' w.heap.size v zs ∧ Below w.heap.size w w'
theorem MadeO.made {w w' : World} {zs : List Int} {e : Ending} (h : MadeO w zs e w') : I.Made w zs e w' := by
  obtain ⟨v, rfl, ho, hb⟩ := h
  exact I.made_own ho hb
theorem owni_form {w : World} {base : Nat} {v : Value} {zs : List Int} (h : I.OwnI w base v zs) : ∃ A c, v = .slice A zs.length c ∧ zs.length ≤ c := by
  obtain ⟨A, c, rfl, _, h2, _, _⟩ := I.row_own h
  exact ⟨A, c, rfl, h2⟩
theorem owni_at {w : World} {base : Nat} {A : Option Addr} {n c : Nat} {zs : List Int} (h : I.OwnI w base (.slice A n c) zs) {j : Nat} (hj : j < zs.length) : ∃ b off z, A = some ⟨b, off, none⟩ ∧ z = zs.getD j 0 ∧ w.cell? ⟨b, off + j, none⟩ = some (.int .i64 z) := by
  obtain ⟨A', c', he, h1, _, _, _⟩ := I.row_own h
  simp at he
  obtain ⟨rfl, rfl, rfl⟩ := he
  obtain ⟨b, off, z, hA, _, hz, hc⟩ := I.row_at h1 hj
  exact ⟨b, off, z, hA, hz, hc⟩
set_option maxHeartbeats 4000000 in
theorem kids_own (A : Option Addr) (c : Nat) (rs : List Rw) (h : Int) (w : World) (H : RRow w w.heap.size A rs) (hl : rs.length ≤ 5000) :
    Calls Try.prog 27 #[.slice A rs.length c, .int .i64 h] w (MadeO w (nums (kidsH rs h))) := by
  have HR := Lib.hid H
  clear H
  obtain ⟨i0, hi, hz0, hz1, hz2⟩ := info_parts I.Try.info3
  go_enter Try.func27, Try.ntmps27
  go_wp2_with fail
  go_loopg [5, 6, 9] rs.length (fun g s5 _ s9 wr => ∃ (k : Nat) (zs : List Int), s9 = .int .i64 k ∧ k ≤ rs.length ∧ rs.length - k ≤ g ∧ zs.length ≤ k ∧ RowKit.Hid (zs = nums (kidsTo rs h k)) ∧ RowKit.Hid (wr.ownsRow w.heap.size 3 1 s5 zs.length (I.ints zs)) ∧ RowKit.Hid (Below w.heap.size w wr))
  case atStart => exact ⟨0, [], rfl, by omega, by omega, by simp, Lib.hid rfl, Lib.hid (World.ownsRow_nil _ _ _ _), Lib.hid (Below.refl _ _)⟩
  case round =>
    obtain ⟨k, zs, rfl, hk, hg, hzl, HZ, HO, HB⟩ := hrel
    by_cases hlt : k < rs.length
    · have h1 : (k : Int) < (rs.length : Int) := by omega
      obtain ⟨b, off, r, z, hA, hb, hr, hc, hat⟩ := rrow_at (HR.out.up HB.out) hlt
      obtain ⟨c0, c1, c2, c3, c4, c5⟩ := hc
      have HRR := Lib.hid (show rwAt rs k = r by rw [rwAt_eq hlt, hr])
      have hbs := HB.out.size
      clear hr hat
      by_cases hu : r.up = h
      · have hu' : (r.up == h) = true := by simpa using hu
        have HU := Lib.hid hu
        have hw : IntKind.i64.wrap ((k : Int) + 1) = (k : Int) + 1 := by rw [IntKind.wrap_i64]; omega
        clear hu
        go_wp2_with (at_builtin; refine I.wpList_app1 rfl _ _ 46 rfl w.heap.size 3 i0 (.int .i64 0) 8 Try.underlying46 hi hz0 hz1 hz2 rfl _ zs.length (I.ints zs) rfl HO.out (.int .i64 ((k : Int) + 1)) rfl rfl (by omega) (by unfold maxLen; omega) hbs ?_; intro v2 w2 hown2 hb2)
        have HZ2 := Lib.hid (show zs ++ [(k : Int) + 1] = nums (kidsTo rs h (k + 1)) by rw [kidsTo, HRR.out, if_pos HU.out, HZ.out]; simp [nums])
        have HO2 := Lib.hid (show w2.ownsRow w.heap.size 3 1 v2 (zs ++ [(k : Int) + 1]).length (I.ints (zs ++ [(k : Int) + 1])) by simpa [I.ints] using hown2)
        have HB2 := Lib.hid (HB.out.trans hb2)
        clear hown2 hb2
        go_wp2_with fail
        try rw [← hA]
        go_roundg (rs.length - (k + 1))
        case measure => omega
        case rel => exact ⟨k + 1, zs ++ [(k : Int) + 1], by go_num, by omega, by omega, by simp; omega, HZ2, HO2, HB2⟩
      · have hu' : (r.up == h) = false := by simpa using hu
        have HU := Lib.hid hu
        clear hu
        have HZ2 := Lib.hid (show zs = nums (kidsTo rs h (k + 1)) by rw [kidsTo, HRR.out, if_neg HU.out, HZ.out])
        go_wp2_with fail
        try rw [← hA]
        go_roundg (rs.length - (k + 1))
        case measure => omega
        case rel => exact ⟨k + 1, zs, by go_num, by omega, by omega, by omega, HZ2, HO, HB⟩
    · have h1 : ¬ (k : Int) < (rs.length : Int) := by omega
      obtain rfl : k = rs.length := by omega
      go_wp2_with fail
      go_ret
      have hz : zs = nums (kidsH rs h) := HZ.out
      rw [← hz]
      exact ⟨_, rfl, HO.out, HB.out⟩
end Go.Proofs.Ytlkdklpglmglkaa
