/-
  The reference's Kept.
-/
import Derived.Test.YtlebcebihieiiaaDoorLKeptW
namespace Go.Proofs.YtlebcebihieiiaaDoor
open Go.RowKit Go.Sort Go.Maps
set_option linter.unusedVariables false
theorem I.own_keep {w w' : World} {base n : Nat} {v : Value} {xs : List Value} (h : w.ownsRow base 3 1 v n xs) (hb : Below w.heap.size w w') : w'.ownsRow base 3 1 v n xs := by
  refine ⟨h.1, ?_⟩
  rcases h.2 with h2 | ⟨g, cap, cur, hv, hbb, hg, rest⟩
  · exact .inl h2
  · exact .inr ⟨g, cap, cur, hv, hbb, ((kept_below hb (fun _ => False)).block g (Array.getElem?_eq_some_iff.1 hg).1 (fun h => h)).trans hg, rest⟩
theorem keptL_take {a b : List Lab} {i : Nat} (h : i < b.length) : I.ints (keptL a (b.take i)) ++ [.int .i64 (findL a b[i])] = I.ints (keptL a (b.take (i + 1))) := by
  unfold keptL
  rw [List.take_add_one, List.getElem?_eq_getElem h, Option.toList_some, List.map_append, List.map_cons, List.map_nil]
  simp
set_option maxRecDepth 100000 in
set_option maxHeartbeats 4000000 in
theorem refKept_any (A A' : Option Addr) (c c' : Nat) (a b : List Lab) (w : World) (hr : LRow w w.heap.size A a) (hr' : LRow w w.heap.size A' b) (hl : a.length ≤ 1000) (hl' : b.length ≤ 1000) :
    Calls Tryd.prog 18 #[.slice A a.length c, .slice A' b.length c'] w (I.Made w (keptL a b)) := by
  obtain ⟨i0, hi0, hz0, hz1, hz2⟩ := info_parts I.Tryd.info3
  have HR := Lib.hid hr; have HR' := Lib.hid hr'
  obtain ⟨m, hm⟩ : ∃ m, m = b.length := ⟨_, rfl⟩
  have HM := Lib.hid hm
  rw [← hm] at hl' ⊢
  clear hr hr' hm
  go_enter Tryd.func18, Tryd.ntmps18
  go_wp2_with fail
  go_loopg [5, 9] m (fun g s5 s9 wr => ∃ i : Nat, s9 = .int .i64 i ∧ i ≤ m ∧ m - i ≤ g ∧ RowKit.Hid (wr.ownsRow w.heap.size 3 1 s5 i (I.ints (keptL a (b.take i)))) ∧ RowKit.Hid (Below w.heap.size w wr))
  case atStart => exact ⟨0, rfl, by omega, by omega, Lib.hid ⟨rfl, .inl ⟨rfl, rfl⟩⟩, Lib.hid (Below.refl _ _)⟩
  case round =>
    obtain ⟨i, rfl, hi, hgi, HO, HB⟩ := hrel
    by_cases hlt : i < m
    · have h1 : (i : Int) < (m : Int) := by omega
      have hil : i < b.length := by rw [← HM.out]; exact hlt
      obtain ⟨g, off, L, hA, hb, hL, c0, c1, c2⟩ := lrow_at (HR'.out.up HB.out) hil
      have HLE := Lib.hid hL
      have HC := Lib.hid (find_any A c a L wr (HR.out.up HB.out) (by omega))
      clear hL
      go_wp2_with fail
      refine HC.out.mono ?_
      rintro e w2 ⟨rfl, hb2⟩
      have HO2 := Lib.hid (I.own_keep HO.out hb2)
      have HB2 := Lib.hid (HB.out.trans (hb2.mono HB.out.size))
      obtain ⟨x, hx⟩ : ∃ x, x = findL a L := ⟨_, rfl⟩
      have HX := Lib.hid hx
      rw [← hx]
      clear hb2 hx HC
      go_wp2_with (refine I.wpList_app1 rfl _ _ 41 rfl w.heap.size 3 i0 (.int .i64 0) 8 Tryd.underlying41 hi0 hz0 hz1 hz2 rfl _ i _ rfl HO2.out (.int .i64 x) rfl rfl (by omega) (by unfold maxLen; omega) HB2.out.size ?_; intro v3 w3 ho3 hb3; have HO3 := Lib.hid ho3; have HB3 := Lib.hid hb3; clear ho3 hb3)
      try rw [← hA]
      go_roundg (m - (i + 1))
      case measure => omega
      case rel => exact ⟨i + 1, by go_num, by omega, by omega, Lib.hid (by have := HO3.out; rw [HX.out, HLE.out, keptL_take hil] at this; exact this), Lib.hid (HB2.out.trans HB3.out)⟩
    · have h1 : ¬ (i : Int) < (m : Int) := by omega
      have HFN := Lib.hid (show I.OwnI wr w.heap.size u5 (keptL a b) by
        have := HO.out
        have e : i = b.length := by have := HM.out; omega
        rw [e, List.take_length] at this
        unfold I.OwnI
        rw [show (keptL a b).length = b.length by unfold keptL; rw [List.length_map]]
        exact this)
      go_wp2_with fail
      go_ret
      exact I.made_own HFN.out HB.out
end Go.Proofs.YtlebcebihieiiaaDoor
