/-
  escape.Unescape: what it answers.
-/
import Derived.Test.YtlebcebihieiiaaDoorEEscape
import Derived.Test.YtlebcebihieiiaaDoorENamed
import Derived.Deep.RegionHeld3
namespace Go.Proofs.YtlebcebihieiiaaDoor.E
open Go.RowKit
set_option linter.unusedVariables false

theorem is_below {B b : Nat} {bs : List Value} {w w' : World} (h : Lib.IsBuilder 83 5 B b bs w) (hb : Below w.heap.size w w') : Lib.IsBuilder 83 5 B b bs w' := h.imp (fun h => at_below h hb) (fun h => at_below h hb)

def URel (s : ByteArray) (w : World) (F : Nat) (i : Value) (wr : World) : Prop :=
  ∃ (p f : Nat) (acc : List UInt8), p ≤ s.size ∧ i = .int .i64 p ∧ s.size ≤ f + p ∧ un f (s.data.toList.drop p) p acc = unesc s.data.toList ∧ acc.length ≤ p ∧
    Lib.IsBuilder 83 5 w.heap.size w.heap.size (Lib.byteCells acc) wr ∧ wr.heap[F]? = some (.cells #[.string s] 9 (0, 0)) ∧ Below w.heap.size w wr
def UPost (w : World) (l : List UInt8) (e : Ending) (w' : World) : Prop := e = .returned (.tuple #[.string (str (unesc l).1), .int .i64 ((unesc l).2.1 : Int), .int .i64 (unesc l).2.2]) ∧ Below w.heap.size w w'
theorem uPost_mk {w w' : World} {l x : List UInt8} {p : Nat} {n e : Int} {y : ByteArray} (h : unesc l = (x, p, e)) (hy : y = str x) (hn : n = p) (hb : Below w.heap.size w w') : UPost w l (.returned (.tuple #[.string y, .int .i64 n, .int .i64 e])) w' := by
  unfold UPost; rw [h]; subst hy hn; exact ⟨rfl, hb⟩
theorem drop_cons (s : ByteArray) (p : Nat) (hp : p < s.size) {c : UInt8} (hc : s[p] = c) : s.data.toList.drop p = c :: s.data.toList.drop (p + 1) := by
  have hp' : p < s.data.toList.length := by simpa using hp
  rw [List.drop_eq_getElem_cons hp']
  have : s.data.toList[p] = c := by rw [← hc]; simp; rfl
  rw [this]

set_option maxRecDepth 100000 in
set_option maxHeartbeats 4000000 in
theorem unescape_any (s : ByteArray) (w : World) (hs : s.size ≤ 900000) (hv : Vars w) : Calls Tryd.prog 42 #[.string s] w (UPost w s.data.toList) := by
  have h4 := hv.2.2.2
  have hsl : s.data.toList.length = s.size := by simp
  have HSL := Lib.hid hsl; clear hsl
  go_enter Tryd.func42, Tryd.ntmps42
  go_wp2_with fail
  obtain ⟨w1, hw1⟩ : ∃ w1, w1 = w.alloc (.cells #[.pointer none, .slice none 0 0] 83) := ⟨_, rfl⟩
  rw [← hw1]
  have his1 : Lib.IsBuilder 83 5 w.heap.size w.heap.size [] w1 := by rw [hw1]; exact Lib.fresh_isBuilder 83 5 w
  have hb1 : Below w.heap.size w w1 := by rw [hw1]; exact (Below.refl _ _).alloc (Nat.le_refl _) _
  have hs1 : w.heap.size < w1.heap.size := by rw [hw1]; simp
  clear hw1
  refine (formsOf_any s w1).mono ?_
  rintro e w4 ⟨rfl, hw4⟩
  have hF4 : w4.heap[w1.heap.size]? = some (.cells #[.string s] 9 (0, 0)) := by rw [← hw4]; exact heap_alloc_new w1 _
  have hb4 : Below w1.heap.size w1 w4 := by rw [← hw4]; exact (Below.refl _ _).alloc (Nat.le_refl _) _
  have hFb : w1.heap.size ≠ w.heap.size := by omega
  have his4 := is_below his1 hb4
  have hb14 := hb1.trans (hb4.mono hb1.size)
  clear hw4 his1 hb4 hs1
  go_wp2
  go_loopw [7] (URel s w w1.heap.size) (fun i _ => s.size - (intOf i).toNat)
  case atStart => exact ⟨0, s.size, [], by omega, rfl, by omega, by rw [unesc, HSL.out]; rfl, by simp, by simpa [Lib.byteCells] using his4, hF4, hb14⟩
  case round =>
    obtain ⟨p, f, acc, hp, rfl, hf, hun, hacc, his, hF, hbel⟩ := hrel
    clear his4 hF4 hb14
    have HUN := Lib.hid hun; clear hun
    have hbl := Lib.byteCells_length acc
    have hbl' : (Lib.byteCells acc).length ≤ 900000 := by omega
    clear hbl
    by_cases hlt : p < s.size
    · obtain ⟨c, hc⟩ : ∃ c, s[p] = c := ⟨_, rfl⟩
      have hdc := drop_cons s p hlt hc
      have HD := Lib.hid hdc; clear hdc
      have hcl := c.toNat_lt
      obtain ⟨f', rfl⟩ : ∃ g, f = g + 1 := ⟨f - 1, by omega⟩
      have hne : s.data.toList.drop p ≠ [] := by rw [HD.out]; simp
      have HNE := Lib.hid hne; clear hne
      have hdl : (s.data.toList.drop p).length = s.size - p := by rw [List.length_drop, HSL.out]
      have HDL := Lib.hid hdl; clear hdl
      have HIS := Lib.hid his; clear his
      by_cases hamp : c = 38
      · subst hamp
        obtain ⟨t, ht⟩ : ∃ t, t = s.extract p s.size := ⟨_, rfl⟩
        have htl : t.data.toList = s.data.toList.drop p := by
          rw [ht, Lib.extract_data, List.take_of_length_le (by rw [HDL.out]; omega)]
        have hts : t.size ≤ 900000 := by rw [Lib.size_eq, htl, HDL.out]; omega
        have cr := readForm_any t wr hts (hv.below h4 hbel)
        rw [htl, HD.out] at cr
        have CR := Lib.hid cr
        have HT := Lib.hid ht
        clear cr ht htl hts
        have ho := oneO_amp (r := s.data.toList.drop (p + 1))
        by_cases h0 : (rf (38 :: s.data.toList.drop (p + 1))).2 = 0
        · rw [if_pos h0, ← HD.out] at ho
          have hfin := (un_none HNE.out (by rw [HDL.out]; omega) ho).symm.trans HUN.out
          have HFIN := Lib.hid hfin
          have CR2 : Calls Tryd.prog 61 #[.string t] wr fun e w' => ∃ x : Int, e = .returned (.tuple #[.int .u8 x, .int .i64 0]) ∧ Below wr.heap.size wr w' := by
            refine CR.out.mono ?_
            rintro e w' ⟨rfl, hb⟩
            rw [h0]
            exact ⟨_, rfl, hb⟩
          have C2 := Lib.hid CR2
          clear ho h0 hfin CR CR2
          go_wp2_with fail
          rw [← HT.out]
          refine C2.out.mono ?_
          rintro e w5 ⟨x, rfl, hb5⟩
          go_wp2
          go_ret3
          exact uPost_mk HFIN.out.symm rfl rfl (hbel.trans (hb5.mono hbel.size))
        · rw [if_neg h0] at ho
          obtain ⟨hl1, hl2⟩ := rf_len h0
          obtain ⟨d, hd⟩ : ∃ d, d = (rf (38 :: s.data.toList.drop (p + 1))).1 := ⟨_, rfl⟩
          obtain ⟨n, hn⟩ : ∃ n, n = (rf (38 :: s.data.toList.drop (p + 1))).2 := ⟨_, rfl⟩
          rw [← hd] at ho hl1 hl2
          rw [← hn] at hl1 h0
          have ho' : oneO (s.data.toList.drop p) = some d := by rw [HD.out]; exact ho
          have hst := (un_some (f := f') (p := p) (acc := acc) HNE.out ho').symm.trans HUN.out
          rw [← hl1, List.drop_drop] at hst
          have hnl : p + n ≤ s.size := by
            have := hl2.length_le
            rw [← HD.out, HDL.out] at this
            omega
          have CR2 : Calls Tryd.prog 61 #[.string t] wr fun e w' => e = .returned (.tuple #[.int .u8 (d.toNat : Int), .int .i64 (n : Int)]) ∧ Below wr.heap.size wr w' := by
            refine CR.out.mono ?_
            rintro e w' ⟨rfl, hb⟩
            rw [← hd, ← hn]
            exact ⟨rfl, hb⟩
          have C2 := Lib.hid CR2
          have HST := Lib.hid hst
          have hn0 : ((n : Int) == 0) = false := by simp; omega
          have hn1 : (n == 0) = false := by simp; omega
          have hdl := d.toNat_lt
          have hnp : 1 ≤ n := by omega
          clear ho ho' h0 CR CR2 hl1 hl2 hd hn hst
          go_wp2_with fail
          rw [← HT.out]
          refine C2.out.mono ?_
          rintro e w5 ⟨rfl, hb5⟩
          go_wp2_with fail
          refine (writeByte_any w.heap.size w.heap.size _ (d.toNat : Int) w5 (is_below HIS.out hb5) (by omega) (Nat.le_trans hbel.size hb5.size)).mono ?_
          rintro e w6 ⟨rfl, hat6, hb6, hst6⟩
          go_wp2
          refine ⟨⟨p + n, f', acc ++ [d], by omega, by go_num, by omega, HST.out, by simp; omega, .inr (by rw [Lib.byteCells_append]; exact hat6), hst6 _ _ _ _ hFb (by decide) (heap_below hF hb5), (hbel.trans (hb5.mono hbel.size)).trans hb6⟩, by simp [intOf]; omega⟩
      · have hc38 : ((c.toNat : Int) == 38) = false := by have := nat_ne hamp; simp at this ⊢; omega
        have ho := oneO_plain (r := s.data.toList.drop (p + 1)) hamp
        rw [← HD.out] at ho
        have hdrw : Below w.heap.size w wr.drew := hbel.drew
        have CF := Lib.hid (form_any s p w1.heap.size c wr.drew hlt hc (by omega) (by show wr.cell? _ = _; rw [Lib.cell_of_heap hF]; rfl) (hv.below h4 hdrw))
        have HO := Lib.hid (one_list s p hlt)
        clear hamp
        have hadd : IntKind.i64.wrap ((p : Int) + 1) = (p : Int) + 1 := IntWalk.i64_in _ (by omega)
        have htn : ((p : Int) + 1).toNat = p + 1 := by omega
        have a1 : (0 : Int) ≤ (p : Int) + 1 := by omega
        have a2 : (p : Int) + 1 ≤ (s.size : Int) := by omega
        have a3 : (p : Int) ≤ (p : Int) + 1 := by omega
        go_wp2_with fail
        refine wp_region_any (by kernel_rfl) ?_
        try (change wpAny _ _ _ _ _ _ _ (World.drew _))
        refine wpAny_take (i := 0) (oi := ⟨some 28, _, _, _, _, _⟩) (v := ?_) rfl (by kernel_rfl) (by kernel_rfl) (by kernel_rfl) (fun _ _ _ h => h) (Or.inl ⟨by rfl, ?_⟩) ?_
        rotate_left
        · (intro w; go_simp; try with_reducible rfl)
        try simp only [Act.put, List.setIfInBounds_toArray, List.set_cons_zero, List.set_cons_succ]
        refine wpAny_take (i := 1) (oi := ⟨some 29, _, _, _, _, _⟩) (v := ?_) rfl (by kernel_rfl) (by kernel_rfl) (by kernel_rfl) (fun _ _ _ h => h) (Or.inl ⟨by rfl, ?_⟩) ?_
        rotate_left
        · (intro w; go_simp; try with_reducible rfl)
        try simp only [Act.put, List.setIfInBounds_toArray, List.set_cons_zero, List.set_cons_succ]
        refine wpAny_take (i := 3) (oi := ⟨some 31, _, _, _, _, _⟩) (v := ?_) rfl (by kernel_rfl) (by kernel_rfl) (by kernel_rfl) (fun _ _ _ h => h) (Or.inl ⟨by rfl, ?_⟩) ?_
        rotate_left
        · (intro w; go_simp; try with_reducible rfl)
        try simp only [Act.put, List.setIfInBounds_toArray, List.set_cons_zero, List.set_cons_succ]
        refine wpAny_take (i := 4) (oi := ⟨some 32, _, _, _, _, _⟩) (v := ?_) rfl (by kernel_rfl) (by kernel_rfl) (by kernel_rfl) (fun _ _ _ h => h) (Or.inl ⟨by rfl, ?_⟩) ?_
        rotate_left
        · (intro w; go_simp; try with_reducible rfl)
        try simp only [Act.put, List.setIfInBounds_toArray, List.set_cons_zero, List.set_cons_succ]
        refine wpAny_take (i := 5) (oi := ⟨some 33, _, _, _, _, _⟩) (v := ?_) rfl (by kernel_rfl) (by kernel_rfl) (by kernel_rfl) (fun _ _ _ h => h) (Or.inl ⟨by rfl, ?_⟩) ?_
        rotate_left
        · (intro w; go_simp; try with_reducible rfl)
        try simp only [Act.put, List.setIfInBounds_toArray, List.set_cons_zero, List.set_cons_succ]
        refine wpAny_take (i := 6) (oi := ⟨some 34, _, _, _, _, _⟩) (v := ?_) rfl (by kernel_rfl) (by kernel_rfl) (by kernel_rfl) (fun _ _ _ h => h) (Or.inl ⟨by rfl, ?_⟩) ?_
        rotate_left
        · (intro w; go_simp; try with_reducible rfl)
        try simp only [Act.put, List.setIfInBounds_toArray, List.set_cons_zero, List.set_cons_succ]
        refine wpAny_take (i := 7) (oi := ⟨some 35, _, _, _, _, _⟩) (v := ?_) rfl (by kernel_rfl) (by kernel_rfl) (by kernel_rfl) (fun _ _ _ h => h) (Or.inl ⟨by rfl, ?_⟩) ?_
        rotate_left
        · (intro w; go_simp; try with_reducible rfl)
        try simp only [Act.put, List.setIfInBounds_toArray, List.set_cons_zero, List.set_cons_succ]
        refine wpAny_ready (rs := [2]) (by kernel_rfl) (by simp) ?_
        refine AllReady.cons (o := ⟨some 30, _, _, _, _, _⟩) rfl (fun K hK => ?_) AllReady.nil
        go_simp
        refine CF.out.mono ?_
        rintro e w5 ⟨rfl, hb5⟩
        refine hK _ _ ?_
        clear hK K
        try simp only [Act.put, List.setIfInBounds_toArray, List.set_cons_zero, List.set_cons_succ]
        refine wpAny_take (i := 8) (oi := ⟨some 36, _, _, _, _, _⟩) (v := ?_) rfl (by kernel_rfl) (by kernel_rfl) (by kernel_rfl) (fun _ _ _ h => h) (Or.inl ⟨by rfl, ?_⟩) ?_
        rotate_left
        · (intro w; go_simp; try with_reducible rfl)
        try simp only [Act.put, List.setIfInBounds_toArray, List.set_cons_zero, List.set_cons_succ]
        refine wpAny_done (by kernel_rfl) ?_ _
        have hb05 : Below wr.heap.size wr w5 := ((Below.refl wr.heap.size wr).drew).trans hb5
        clear hadd htn a1 a2 a3 hb5 hdrw CF
        by_cases hfc : form c = [c]
        · rw [if_pos hfc] at ho
          have hst := (un_some (f := f') (p := p) (acc := acc) HNE.out ho).symm.trans HUN.out
          rw [hfc, List.drop_drop] at hst
          have HST := Lib.hid hst
          have heq : ((str (form c)).toList == (s.extract p (p + 1)).toList) = true := by
            rw [Lib.toList_data, Lib.toList_data, str_data, HO.out, hc, hfc]; simp
          rw [heq]
          clear ho hst hc hfc heq
          go_wp2_with fail
          refine (writeByte_any w.heap.size w.heap.size _ (c.toNat : Int) w5 (is_below HIS.out hb05) (by omega) (Nat.le_trans hbel.size hb05.size)).mono ?_
          rintro e w6 ⟨rfl, hat6, hb6, hst6⟩
          go_wp2
          refine ⟨⟨p + 1, f', acc ++ [c], by omega, by go_num, by omega, HST.out, by simp; omega, .inr (by rw [Lib.byteCells_append]; exact hat6), hst6 _ _ _ _ hFb (by decide) (heap_below hF hb05), (hbel.trans (hb05.mono hbel.size)).trans hb6⟩, by simp [intOf]; omega⟩
        · rw [if_neg hfc] at ho
          have hfin := (un_none HNE.out (by rw [HDL.out]; omega) ho).symm.trans HUN.out
          have HFIN := Lib.hid hfin
          have heq : ((str (form c)).toList == (s.extract p (p + 1)).toList) = false := by
            rw [Lib.toList_data, Lib.toList_data, str_data, HO.out, hc]; simpa using hfc
          rw [heq]
          clear ho hfin hc hfc heq
          go_wp2_with fail
          go_ret3
          exact uPost_mk HFIN.out.symm rfl rfl (hbel.trans (hb05.mono hbel.size))
    · obtain rfl : p = s.size := by omega
      have hd0 : s.data.toList.drop s.size = [] := List.drop_eq_nil_of_le (by rw [HSL.out]; omega)
      have hfin : unesc s.data.toList = (acc, 0, 0) := by rw [← HUN.out, hd0, un_nil]
      have HFIN := Lib.hid hfin
      clear hd0 hfin
      go_wp2_with fail
      refine (Tryd.Builder_String_any w.heap.size w.heap.size acc wr his hbel.size).mono ?_
      rintro e w7 ⟨rfl, hb7⟩
      go_wp2
      go_ret3
      exact uPost_mk HFIN.out rfl rfl (hbel.trans hb7)
end Go.Proofs.YtlebcebihieiiaaDoor.E
