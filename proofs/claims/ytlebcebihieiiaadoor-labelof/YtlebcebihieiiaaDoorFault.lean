/-
  What is wrong with a node alone: placeFault, nodeFault, and the reference's Alone.
-/
import Derived.Test.YtlebcebihieiiaaDoorTree
namespace Go.Proofs.YtlebcebihieiiaaDoor
open Go.RowKit Go.Sort
set_option linter.unusedVariables false
abbrev nodeV (t : Tr) (x : NV) : Value := .agg #[.string t.tag, .string t.key, .string t.text, .slice x.A t.as.length x.ca, .slice x.K t.kids.length x.ck]
abbrev boxW (w : World) (t : Tr) (x : NV) : World := w.alloc (.cells #[.string t.tag, .string t.key, .string t.text, .slice x.A t.as.length x.ca, .slice x.K t.kids.length x.ck] 25)
theorem box_out {w w1 : World} {t : Tr} {x : NV} (h : RowKit.Hid (w1 = boxW w t x)) : w.alloc (.cells #[.string t.tag, .string t.key, .string t.text, .slice x.A t.as.length x.ca, .slice x.K t.kids.length x.ck] 25) = w1 := h.out.symm
theorem below_box (w : World) (t : Tr) (x : NV) : Below w.heap.size w (boxW w t x) := (Below.refl _ _).alloc (Nat.le_refl _) _
def placeF (n d : Nat) : Int := if n = 4096 then 12 else if 64 < d then 11 else 0
theorem alone_tag {t : Tr} (h : wfB tagB t.tag = false) : aloneT t = 7 := by simp [aloneT, h]
theorem alone_long {t : Tr} (h : wfB tagB t.tag = true) (h2 : 65536 < t.key.size ∨ 65536 < t.text.size) : aloneT t = 3 := by simp [aloneT, h, h2]
theorem alone_att {t : Tr} (h : wfB tagB t.tag = true) (h2 : t.key.size ≤ 65536) (h3 : t.text.size ≤ 65536) : aloneT t = attE t.as := by
  have : ¬ (65536 < t.key.size ∨ 65536 < t.text.size) := by omega
  simp [aloneT, h, this]
set_option maxHeartbeats 2000000 in
theorem alone_any (t : Tr) (x : NV) (w : World) (h : TRow w w.heap.size x.A t.as) (hg : GoodT t) :
    Calls Tryd.prog 35 #[nodeV t x] w fun e w' => e = .returned (.int .i64 (aloneT t)) ∧ Below w.heap.size w w' := by
  obtain ⟨s1, s2, s3, s4, s5, s6⟩ := hg.sizes
  obtain ⟨w1, hw1⟩ : ∃ w1, w1 = boxW w t x := ⟨_, rfl⟩
  have hb1 : Below w.heap.size w w1 := by rw [hw1]; exact below_box w t x
  have hbox : KidCells w1 w.heap.size 0 t x := by rw [hw1]; exact box_node w t x
  obtain ⟨c0, c1, c2, c3, c4⟩ := hbox
  have HW := Lib.hid hw1; have HB1 := Lib.hid hb1
  have HT := Lib.hid (h.up hb1)
  have CT := Lib.hid (named_any t.tag false w1 s1)
  rw [show innerB false = tagB from rfl] at CT
  have HS5 := Lib.hid s5
  clear hw1 hb1 h hg s1 s5
  cases htag : wfB tagB t.tag with
  | false =>
    rw [htag] at CT
    have HA := Lib.hid (alone_tag htag)
    clear htag
    go_enter Tryd.func35, Tryd.ntmps35
    go_wp2_with fail
    rw [box_out HW]
    refine CT.out.mono ?_
    rintro e w2 ⟨rfl, rfl⟩
    go_wp2_with fail
    go_ret
    exact ⟨ret_int HA.out.symm, HB1.out⟩
  | true =>
    rw [htag] at CT
    have HTG := Lib.hid htag
    clear htag
    by_cases hk : t.key.size ≤ 65536
    · by_cases hx : t.text.size ≤ 65536
      · have HAT := Lib.hid (alone_att HTG.out hk hx)
        have CA := Lib.hid (refCheck_any x.A x.ca t.as w1 HT.out s4 HS5.out)
        have hk' : ¬ (t.key.size : Int) > 65536 := by omega
        have hx' : ¬ (t.text.size : Int) > 65536 := by omega
        go_enter Tryd.func35, Tryd.ntmps35
        go_wp2_with fail
        rw [box_out HW]
        refine CT.out.mono ?_
        rintro e w2 ⟨rfl, rfl⟩
        go_wp2_with fail
        refine CA.out.mono ?_
        rintro e w4 ⟨a, f, rfl, hcp, hb4⟩
        have HF := Lib.hid (attE_of hcp)
        have HB4 := Lib.hid (HB1.out.trans (hb4.mono HB1.out.size))
        clear hcp hb4 CA HT c0 c1 c2 c3 c4 CT
        go_wp2_with fail
        go_ret
        exact ⟨ret_int (by rw [HAT.out, ← HF.out]), HB4.out⟩
      · have HA := Lib.hid (alone_long HTG.out (.inr (by omega)))
        have hk' : ¬ (t.key.size : Int) > 65536 := by omega
        have hx' : (t.text.size : Int) > 65536 := by omega
        go_enter Tryd.func35, Tryd.ntmps35
        go_wp2_with fail
        rw [box_out HW]
        refine CT.out.mono ?_
        rintro e w2 ⟨rfl, rfl⟩
        go_wp2_with fail
        go_ret
        exact ⟨ret_int HA.out.symm, HB1.out⟩
    · have HA := Lib.hid (alone_long HTG.out (.inl (by omega)))
      have hk' : (t.key.size : Int) > 65536 := by omega
      go_enter Tryd.func35, Tryd.ntmps35
      go_wp2_with fail
      rw [box_out HW]
      refine CT.out.mono ?_
      rintro e w2 ⟨rfl, rfl⟩
      go_wp2_with fail
      go_ret
      exact ⟨ret_int HA.out.symm, HB1.out⟩
end Go.Proofs.YtlebcebihieiiaaDoor
