/-
  What is wrong with a node alone: placeFault, nodeFault, and the reference's Alone.
-/
import Derived.Test.YtlkdklpglmglkaaTree
namespace Go.Proofs.Ytlkdklpglmglkaa
open Go.RowKit Go.Sort
set_option linter.unusedVariables false
set_option maxRecDepth 100000
abbrev nodeV (t : Tr) (x : NV) : Value := .agg #[.string t.tag, .string t.key, .string t.text, .slice x.A t.as.length x.ca, .slice x.K t.kids.length x.ck]
abbrev boxW (w : World) (t : Tr) (x : NV) : World := w.alloc (.cells #[.string t.tag, .string t.key, .string t.text, .slice x.A t.as.length x.ca, .slice x.K t.kids.length x.ck] 25)
theorem box_out {w w1 : World} {t : Tr} {x : NV} (h : RowKit.Hid (w1 = boxW w t x)) : w.alloc (.cells #[.string t.tag, .string t.key, .string t.text, .slice x.A t.as.length x.ca, .slice x.K t.kids.length x.ck] 25) = w1 := h.out.symm
theorem below_box (w : World) (t : Tr) (x : NV) : Below w.heap.size w (boxW w t x) := (Below.refl _ _).alloc (Nat.le_refl _) _
def placeF (n d : Nat) : Int := if n = 4096 then 12 else if 64 < d then 11 else 0
theorem placeFault_any (n d : Nat) (w : World) : Calls Try.prog 73 #[.int .i64 n, .int .i64 d] w fun e w' => e = .returned (.int .i64 (placeF n d)) ∧ w = w' := by
  by_cases h1 : n = 4096
  · have h1' : ((n : Int) == 4096) = true := by rw [h1]; rfl
    have HR := Lib.hid (show placeF n d = 12 by simp [placeF, h1])
    clear h1
    go_enter Try.func73, Try.ntmps73
    go_wp2_with fail
    go_ret
    exact ⟨ret_int HR.out.symm, rfl⟩
  · have h1' : ((n : Int) == 4096) = false := by rw [beq_eq_false_iff_ne]; omega
    by_cases h2 : 64 < d
    · have HR := Lib.hid (show placeF n d = 11 by simp [placeF, h1, h2])
      have h2' : (d : Int) > 64 := by omega
      clear h1
      go_enter Try.func73, Try.ntmps73
      go_wp2_with fail
      go_ret
      exact ⟨ret_int HR.out.symm, rfl⟩
    · have HR := Lib.hid (show placeF n d = 0 by simp [placeF, h1, h2])
      have h2' : ¬ (d : Int) > 64 := by omega
      clear h1
      go_enter Try.func73, Try.ntmps73
      go_wp2_with fail
      go_ret
      exact ⟨ret_int HR.out.symm, rfl⟩
/-- The fault of a node by itself and among its siblings. -/
def NodeP (t : Tr) (S : ByteArray → Prop) (f : Int) : Prop := (aloneT t ≠ 0 ∧ f = aloneT t) ∨ (aloneT t = 0 ∧ S t.key ∧ f = 10) ∨ (aloneT t = 0 ∧ ¬ S t.key ∧ f = 0)
theorem alone_tag {t : Tr} (h : wfB tagB t.tag = false) : aloneT t = 7 := by simp [aloneT, h]
theorem alone_long {t : Tr} (h : wfB tagB t.tag = true) (h2 : 65536 < t.key.size ∨ 65536 < t.text.size) : aloneT t = 3 := by simp [aloneT, h, h2]
theorem alone_att {t : Tr} (h : wfB tagB t.tag = true) (h2 : t.key.size ≤ 65536) (h3 : t.text.size ≤ 65536) : aloneT t = attE t.as := by
  have : ¬ (65536 < t.key.size ∨ 65536 < t.text.size) := by omega
  simp [aloneT, h, this]
set_option maxHeartbeats 2000000 in
theorem nodeFault_any (t : Tr) (x : NV) (w : World) (bm n : Nat) (S : ByteArray → Prop) (h : TRow w w.heap.size x.A t.as) (hg : GoodT t) (hm : KSet w bm n S) :
    Calls Try.prog 74 #[nodeV t x, .map (some bm)] w fun e w' => ∃ f, e = .returned (.int .i64 f) ∧ NodeP t S f ∧ Below w.heap.size w w' := by
  obtain ⟨s1, s2, s3, s4, s5, s6⟩ := hg.sizes
  obtain ⟨w1, hw1⟩ : ∃ w1, w1 = boxW w t x := ⟨_, rfl⟩
  have hb1 : Below w.heap.size w w1 := by rw [hw1]; exact below_box w t x
  have hbox : KidCells w1 w.heap.size 0 t x := by rw [hw1]; exact box_node w t x
  obtain ⟨c0, c1, c2, c3, c4⟩ := hbox
  have HW := Lib.hid hw1; have HB1 := Lib.hid hb1
  have HT := Lib.hid (h.up hb1)
  have HM := Lib.hid (hm.keep (kept_below hb1 (fun _ => False)) (fun h => h))
  have CT := Lib.hid (tag_any t.tag w1 s1)
  have HS5 := Lib.hid s5
  clear hw1 hb1 h hm hg s1 s5
  cases htag : wfB tagB t.tag with
  | false =>
    rw [htag] at CT
    have HA := Lib.hid (alone_tag htag)
    clear htag
    go_enter Try.func74, Try.ntmps74
    go_wp2_with fail
    rw [box_out HW]
    refine CT.out.mono ?_
    rintro e w2 ⟨rfl, rfl⟩
    go_wp2_with fail
    go_ret
    exact ⟨7, rfl, .inl ⟨by rw [HA.out]; decide, HA.out.symm⟩, HB1.out⟩
  | true =>
    rw [htag] at CT
    have HTG := Lib.hid htag
    clear htag
    go_enter Try.func74, Try.ntmps74
    go_wp2_with fail
    rw [box_out HW]
    refine CT.out.mono ?_
    rintro e w2 ⟨rfl, rfl⟩
    go_wp2_with fail
    refine (fits_any t.key _).mono ?_
    rintro e w3 ⟨rfl, rfl⟩
    by_cases hk : t.key.size ≤ 65536
    · rw [decide_eq_true hk]
      go_wp2_with fail
      refine (fits_any t.text _).mono ?_
      rintro e w3 ⟨rfl, rfl⟩
      by_cases hx : t.text.size ≤ 65536
      · rw [decide_eq_true hx]
        have HAT := Lib.hid (alone_att HTG.out hk hx)
        have CA := Lib.hid (check_any x.A x.ca t.as w1 HT.out s4 HS5.out)
        go_wp2_with fail
        refine CA.out.mono ?_
        rintro e w4 ⟨a, f, rfl, hcp, hb4⟩
        have HF := Lib.hid (attE_of hcp)
        have HB4 := Lib.hid (HB1.out.trans (hb4.mono HB1.out.size))
        have hlt : w.heap.size < w1.heap.size := World.block_lt_of_cell? w1 _ c0
        have d1 : w4.cell? ⟨w.heap.size, 0 + 1, none⟩ = some (.string t.key) := (hb4.cell (p := ⟨w.heap.size, 0 + 1, none⟩) hlt).trans c1
        have HM4 := Lib.hid (HM.out.keep (kept_below hb4 (fun _ => False)) (fun h => h))
        clear hcp hb4 CA HM HT c0 c1 c2 c3 c4 CT
        by_cases hz : f = 0
        · subst hz
          obtain ⟨r, hr, hlook⟩ := HM4.out.look t.key (by unfold maxLen; omega)
          have HR := Lib.hid hr
          clear hr
          cases r with
          | true =>
            have HQ := Lib.hid (HR.out.1 rfl)
            clear HR
            go_wp2_with fail
            go_ret
            exact ⟨10, rfl, .inr (.inl ⟨by rw [HAT.out, ← HF.out], HQ.out, rfl⟩), HB4.out.trans (((Below.refl _ _).alloc (Nat.le_refl _) _).mono HB4.out.size)⟩
          | false =>
            have HQ := Lib.hid (show ¬ S t.key from fun h => by have := HR.out.2 h; cases this)
            clear HR
            go_wp2_with fail
            go_ret
            exact ⟨0, rfl, .inr (.inr ⟨by rw [HAT.out, ← HF.out], HQ.out, rfl⟩), HB4.out.trans (((Below.refl _ _).alloc (Nat.le_refl _) _).mono HB4.out.size)⟩
        · have hz' : (f != 0) = true := by simpa using hz
          have HZ := Lib.hid hz
          clear hz
          go_wp2_with fail
          go_ret
          exact ⟨f, rfl, .inl ⟨by rw [HAT.out, ← HF.out]; exact HZ.out, by rw [HAT.out, ← HF.out]⟩, HB4.out⟩
      · rw [decide_eq_false hx]
        have HA := Lib.hid (alone_long HTG.out (.inr (by omega)))
        go_wp2_with fail
        go_ret
        exact ⟨3, rfl, .inl ⟨by rw [HA.out]; decide, HA.out.symm⟩, HB1.out⟩
    · rw [decide_eq_false hk]
      have HA := Lib.hid (alone_long HTG.out (.inl (by omega)))
      go_wp2_with fail
      go_ret
      exact ⟨3, rfl, .inl ⟨by rw [HA.out]; decide, HA.out.symm⟩, HB1.out⟩
set_option maxHeartbeats 2000000 in
theorem alone_any (t : Tr) (x : NV) (w : World) (h : TRow w w.heap.size x.A t.as) (hg : GoodT t) :
    Calls Try.prog 52 #[nodeV t x] w fun e w' => e = .returned (.int .i64 (aloneT t)) ∧ Below w.heap.size w w' := by
  obtain ⟨s1, s2, s3, s4, s5, s6⟩ := hg.sizes
  obtain ⟨w1, hw1⟩ : ∃ w1, w1 = boxW w t x := ⟨_, rfl⟩
  have hb1 : Below w.heap.size w w1 := by rw [hw1]; exact below_box w t x
  have hbox : KidCells w1 w.heap.size 0 t x := by rw [hw1]; exact box_node w t x
  obtain ⟨c0, c1, c2, c3, c4⟩ := hbox
  have HW := Lib.hid hw1; have HB1 := Lib.hid hb1
  have HT := Lib.hid (h.up hb1)
  have CT := Lib.hid (named_any t.tag false w1 s1)
  rw [show innerB false = tagB from rfl] at CT
  have HS5 := Lib.hid s5
  clear hw1 hb1 h hg s1 s5
  cases htag : wfB tagB t.tag with
  | false =>
    rw [htag] at CT
    have HA := Lib.hid (alone_tag htag)
    clear htag
    go_enter Try.func52, Try.ntmps52
    go_wp2_with fail
    rw [box_out HW]
    refine CT.out.mono ?_
    rintro e w2 ⟨rfl, rfl⟩
    go_wp2_with fail
    go_ret
    exact ⟨ret_int HA.out.symm, HB1.out⟩
  | true =>
    rw [htag] at CT
    have HTG := Lib.hid htag
    clear htag
    by_cases hk : t.key.size ≤ 65536
    · by_cases hx : t.text.size ≤ 65536
      · have HAT := Lib.hid (alone_att HTG.out hk hx)
        have CA := Lib.hid (refCheck_any x.A x.ca t.as w1 HT.out s4 HS5.out)
        have hk' : ¬ (t.key.size : Int) > 65536 := by omega
        have hx' : ¬ (t.text.size : Int) > 65536 := by omega
        go_enter Try.func52, Try.ntmps52
        go_wp2_with fail
        rw [box_out HW]
        refine CT.out.mono ?_
        rintro e w2 ⟨rfl, rfl⟩
        go_wp2_with fail
        refine CA.out.mono ?_
        rintro e w4 ⟨a, f, rfl, hcp, hb4⟩
        have HF := Lib.hid (attE_of hcp)
        have HB4 := Lib.hid (HB1.out.trans (hb4.mono HB1.out.size))
        clear hcp hb4 CA HT c0 c1 c2 c3 c4 CT
        go_wp2_with fail
        go_ret
        exact ⟨ret_int (by rw [HAT.out, ← HF.out]), HB4.out⟩
      · have HA := Lib.hid (alone_long HTG.out (.inr (by omega)))
        have hk' : ¬ (t.key.size : Int) > 65536 := by omega
        have hx' : (t.text.size : Int) > 65536 := by omega
        go_enter Try.func52, Try.ntmps52
        go_wp2_with fail
        rw [box_out HW]
        refine CT.out.mono ?_
        rintro e w2 ⟨rfl, rfl⟩
        go_wp2_with fail
        go_ret
        exact ⟨ret_int HA.out.symm, HB1.out⟩
    · have HA := Lib.hid (alone_long HTG.out (.inl (by omega)))
      have hk' : (t.key.size : Int) > 65536 := by omega
      go_enter Try.func52, Try.ntmps52
      go_wp2_with fail
      rw [box_out HW]
      refine CT.out.mono ?_
      rintro e w2 ⟨rfl, rfl⟩
      go_wp2_with fail
      go_ret
      exact ⟨ret_int HA.out.symm, HB1.out⟩
end Go.Proofs.Ytlkdklpglmglkaa
