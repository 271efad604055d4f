/-
  tendrilref03.Unescape: what it answers.
-/
import Derived.Test.YtlebcebihieiiaaDoorERef
import Derived.Test.YtlebcebihieiiaaDoorEUnescape
namespace Go.Proofs.YtlebcebihieiiaaDoor.E
open Go.RowKit
set_option linter.unusedVariables false

def RURel (s : ByteArray) (w : World) (o i : Value) (wr : World) : Prop :=
  ∃ (p f : Nat) (acc : List UInt8), p ≤ s.size ∧ i = .int .i64 p ∧ s.size ≤ f + p ∧ un f (s.data.toList.drop p) p acc = unesc s.data.toList ∧ acc.length ≤ p ∧
    wr.ownsRow w.heap.size 5 1 o acc.length (Lib.byteCells acc) ∧ Below w.heap.size w wr

theorem conv_own {w : World} {base : Nat} {v : Value} {acc : List UInt8} (h : w.ownsRow base 5 1 v acc.length (Lib.byteCells acc)) : (convert 81 9 v).run Tryd.prog w = .ok (.string (str acc)) w := by
  have h' := h
  rcases h.2 with ⟨rfl, h0⟩ | ⟨g, cap, cur, rfl, _⟩
  · have : acc = [] := List.eq_nil_of_length_eq_zero h0
    subst this
    exact run_convert_bytes_nil w 81 5 Tryd.underlying81 Tryd.underlying5 0 0 9 Tryd.underlying9
  · refine run_convert_bytes_back (P := Tryd.prog) w 81 9 5 ⟨g, 0, none⟩ cap acc Tryd.underlying81 Tryd.underlying5 Tryd.underlying9 (fun j hj => ?_)
    refine h'.cells (g := g) rfl j _ ?_
    simp [Lib.byteCells, List.getElem?_eq_getElem hj]

set_option maxRecDepth 900000 in
set_option maxRecDepth 100000 in
set_option maxHeartbeats 4000000 in
theorem refUnescape_any (s : ByteArray) (w : World) (hs : s.size ≤ 900000) : Calls Tryd.prog 31 #[.string s] w (UPost w s.data.toList) := by
  obtain ⟨i0, hi, hz0, hz1, hz2⟩ := info_parts info5
  have hsl : s.data.toList.length = s.size := by simp
  have HSL := Lib.hid hsl; clear hsl
  go_enter Tryd.func31, Tryd.ntmps31
  go_wp2
  go_loopw [5, 6] (RURel s w) (fun _ i _ => s.size - (intOf i).toNat)
  case atStart => exact ⟨0, s.size, [], by omega, rfl, by omega, by rw [unesc, HSL.out]; rfl, by simp, World.ownsRow_nil _ _ _ _, Below.refl _ _⟩
  case round =>
    obtain ⟨p, f, acc, hp, rfl, hf, hun, hacc, hown, hbel⟩ := hrel
    have HUN := Lib.hid hun; clear hun
    have hsz := hbel.size
    by_cases hlt : p < s.size
    · obtain ⟨f', rfl⟩ : ∃ g, f = g + 1 := ⟨f - 1, by omega⟩
      have hdl : (s.data.toList.drop p).length = s.size - p := by rw [List.length_drop, HSL.out]
      have hne : s.data.toList.drop p ≠ [] := fun h => by rw [h] at hdl; simp at hdl; omega
      have HNE := Lib.hid hne
      have HDL := Lib.hid hdl
      clear hne hdl
      obtain ⟨t, ht⟩ : ∃ t, t = s.extract p s.size := ⟨_, rfl⟩
      have htl : t.data.toList = s.data.toList.drop p := by
        rw [ht, Lib.extract_data, List.take_of_length_le (by rw [HDL.out]; omega)]
      have co := one_any t wr
      rw [htl] at co
      have HT := Lib.hid ht
      clear ht htl
      cases ho : oneO (s.data.toList.drop p) with
      | none =>
        rw [oneI_none ho] at co
        have CO := Lib.hid co
        have hfin := (un_none HNE.out (by rw [HDL.out]; omega) ho).symm.trans HUN.out
        have HFIN := Lib.hid hfin
        clear co ho hfin
        go_wp2_with fail
        rw [← HT.out]
        refine CO.out.mono ?_
        rintro e w1 ⟨rfl, hb1⟩
        go_wp2
        go_ret3
        exact uPost_mk HFIN.out.symm rfl rfl (hbel.trans (hb1.mono hbel.size))
      | some d =>
        rw [oneI_some ho] at co
        have CO := Lib.hid co
        have hst := (un_some (f := f') (p := p) (acc := acc) HNE.out ho).symm.trans HUN.out
        rw [List.drop_drop] at hst
        have hnl : p + (form d).length ≤ s.size := by
          have := (oneO_of ho).length_le
          rw [HDL.out] at this
          omega
        have HST := Lib.hid hst
        have hdn := d.toNat_lt
        have hfp := form_pos d
        have HSS := Lib.hid (str_size (form d))
        have hfs : (str (form d)).size ≤ 6 := by rw [HSS.out]; exact hfp.2
        clear co ho hst
        go_wp2_with fail
        rw [← HT.out]
        refine CO.out.mono ?_
        rintro e w1 ⟨rfl, hb1⟩
        have hown1 : w1.ownsRow w.heap.size 5 1 u5 acc.length (Lib.byteCells acc) := by
          refine ⟨hown.1, ?_⟩
          rcases hown.2 with hn | ⟨g, cap, cur, rfl, hg, hh, r⟩
          · exact .inl hn
          · exact .inr ⟨g, cap, cur, rfl, hg, heap_below hh hb1, r⟩
        have hbel1 := hbel.trans (hb1.mono hbel.size)
        have hs1 := hbel1.size
        go_wp2_with (at_builtin; refine wpList_append_own _ rfl _ _ 81 rfl w.heap.size 5 i0 (.int .u8 0) 1 1 Tryd.underlying81 hi hz0 hz1 hz2 rfl (by decide) _ _ _ rfl (hown1.alloc _) ⟨w1.heap.size, 0, none⟩ 1 1 [.int .u8 (d.toNat : Int)] rfl rfl ?c1 ?c2 ?c3 ?c4 ?c5 ?_)
        case c1 =>
          intro j u hj
          match j, hj with
          | 0, hj => simp at hj; subst hj; simp [Addr.add]
        case c2 => intro u hu; simp at hu; subst hu; rfl
        case c3 => unfold maxLen; omega
        case c4 => omega
        case c5 => simp; omega
        intro v2 w2 hown2 hgrow _
        have hbel2 : Below w.heap.size w w2 := (hbel1.alloc hs1 _).grown hgrow (by simp; omega) (fun k hk => (hown1.lt k hk).1)
        go_wp2_with fail
        refine (refForm_any d w2).mono ?_
        rintro e w3 ⟨rfl, hb3⟩
        go_wp2
        refine ⟨⟨p + (form d).length, f', acc ++ [d], by omega, by rw [HSS.out]; go_num, by omega, HST.out, by simp; omega, ?_, hbel2.trans (hb3.mono hbel2.size)⟩, by rw [HSS.out]; simp [intOf]; omega⟩
        have hown3 : w3.ownsRow w.heap.size 5 1 v2 (acc.length + 1) (Lib.byteCells acc ++ [.int .u8 (d.toNat : Int)]) := by
          refine ⟨hown2.1, ?_⟩
          rcases hown2.2 with hn | ⟨g, cap, cur, rfl, hg, hh, r⟩
          · exact .inl hn
          · exact .inr ⟨g, cap, cur, rfl, hg, heap_below hh hb3, r⟩
        simpa [Lib.byteCells_append, Lib.byteCells] using hown3
    · obtain rfl : p = s.size := by omega
      have hd0 : s.data.toList.drop s.size = [] := List.drop_eq_nil_of_le (by rw [HSL.out]; omega)
      have hfin : unesc s.data.toList = (acc, 0, 0) := by rw [← HUN.out, hd0, un_nil]
      have HFIN := Lib.hid hfin
      have hcv := conv_own hown
      clear hd0 hfin
      go_wp2
      go_ret3
      exact uPost_mk HFIN.out rfl rfl hbel
end Go.Proofs.YtlebcebihieiiaaDoor.E
