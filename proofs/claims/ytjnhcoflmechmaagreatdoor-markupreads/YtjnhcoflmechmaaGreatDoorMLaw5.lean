/-
  The law MarkupOnly, walked.
-/
import Derived.Test.YtjnhcoflmechmaaGreatDoorMSame
namespace Go.Proofs.YtjnhcoflmechmaaGreatDoor.M
open Go.RowKit Go.Sort
set_option linter.unusedVariables false
set_option maxRecDepth 100000
def TrueP (w : World) (e : Ending) (w' : World) : Prop := e = .returned (.bool true) ∧ Below w.heap.size w w'
theorem only_bad {s : ByteArray} {t : Tr} {a er : Int} (h : ParseM s t a er) (h0 : er ≠ 0) : t = zeroT ∧ 0 ≤ a := by
  unfold ParseM at h
  cases hw : wholeP s.data.toList with
  | bad n e => rw [hw] at h; exact ⟨h.1, by rw [h.2.1]; omega⟩
  | ok r l =>
    rw [hw] at h
    obtain ⟨f, g, hf, h⟩ := h
    rcases h with ⟨hg, rfl, rfl, rfl⟩ | ⟨hg, rfl, rfl, rfl⟩
    · exact absurd rfl h0
    · refine ⟨rfl, ?_⟩
      rcases hf with ⟨i, _, e, _⟩ | ⟨e, _⟩
      · omega
      · omega
theorem only_ok {s : ByteArray} {t : Tr} {a : Int} (h : ParseM s t a 0) (hs : s.size ≤ 1000000) : okT t ∧ strB (prT t) = s ∧ GoodT t ∧ a = 0 ∧ prT t = s.data.toList := by
  unfold ParseM at h
  cases hw : wholeP s.data.toList with
  | bad n e => rw [hw] at h; exact absurd h.2.2 (by decide)
  | ok r l =>
    rw [hw] at h
    obtain ⟨f, g, hf, h⟩ := h
    obtain ⟨_, h1, h2, _⟩ := whole_ok hw
    rcases h with ⟨hg, rfl, rfl, h3⟩ | ⟨hg, rfl, rfl, h3⟩
    · subst hg
      exact ⟨first_ok hf, by rw [← h2, strB_eq], good_node h1 (by rw [size_list]; exact hs), rfl, h2.symm⟩
    · exact absurd h3.symm hg
theorem SameP.true {w W w' : World} {e : Ending} (hb : Below w.heap.size w W) (h : SameP W e w') : TrueP w e w' := ⟨h.1, hb.trans (h.2.mono hb.size)⟩
theorem print_ok {s : ByteArray} {t : Tr} {e : Ending} (hok : okT t) (hs : strB (prT t) = s) (h : ∃ f g : Int, FirstF aloneT (itemsL t) f g ∧ ((g = 0 ∧ e = .returned (.tuple #[.string (strB (prT t)), .int .i64 0])) ∨ (g ≠ 0 ∧ e = .returned (.tuple #[.string ⟨#[]⟩, .int .i64 g])))) : e = .returned (.tuple #[.string s, .int .i64 0]) := by
  obtain ⟨f, g, hf, h⟩ := h
  have h2 := seen_first aloneT t
  rw [show (seenL aloneT t).2 = 0 from hok] at h2
  obtain ⟨_, rfl⟩ := firstF_unique hf h2
  rcases h with ⟨_, h⟩ | ⟨h, _⟩
  · rw [h, hs]
  · exact absurd rfl h
set_option maxHeartbeats 8000000 in
theorem law5_any (s : ByteArray) (w : World) (hv : Vars w) : Calls Tryz.prog 5 #[.string s] w (TrueP w) := by
  by_cases hbig : 3000 < s.size
  · have hb2 : (3000 : Int) < (s.size : Int) := by omega
    have CS := Lib.hid (same_any w hv)
    clear hv hbig
    go_enter Tryz.func5, Tryz.ntmps5
    go_wp2_with fail
    refine CS.out.mono ?_
    rintro e w1 ⟨rfl, hb⟩
    have HF := Lib.hid hb
    clear hb
    go_wp2_with fail
    go_ret
    exact ⟨rfl, HF.out⟩
  · have hs : s.size ≤ 3000 := by omega
    have hb2 : ¬ (3000 : Int) < (s.size : Int) := by omega
    have C1 := Lib.hid (parse_any s w (by omega) (Nat.le_trans (cntK_le _) (by rw [restL_len]; omega)) (fun t l h => good_node h (by rw [restL_len]; omega)) hv)
    have HV := Lib.hid hv
    clear hv hbig
    go_enter Tryz.func5, Tryz.ntmps5
    go_wp2_with fail
    refine C1.out.mono ?_
    rintro e w1 ⟨t, x, a, er, rfl, hti, hpm, hb1⟩
    obtain ⟨w2, hw2⟩ : ∃ w2, w2 = boxW w1 t x := ⟨_, rfl⟩
    have hb12 : Below w1.heap.size w1 w2 := by rw [hw2]; exact below_box _ _ _
    have hx2 : KidCells w2 w1.heap.size 0 t x := by rw [hw2]; exact box_node _ _ _
    have HB2 := Lib.hid (hb1.trans (hb12.mono hb1.size))
    have HW2 := Lib.hid hw2; have HA2 := Lib.hid (hti.at.up hb12); have HPM := Lib.hid hpm
    obtain ⟨p0, p1, p2, p3, p4⟩ := hx2
    clear hti hpm hb1 hw2 hb12 C1
    go_upto_region 4 with (fail)
    rw [box_out HW2]
    clear HW2
    by_cases h0 : er = 0
    · subst h0
      obtain ⟨hok, hst, hgd, rfl, hprs⟩ := only_ok HPM.out (by omega)
      have C2 := Lib.hid (print_any t x w2 HA2.out hgd (fun _ => by rw [hprs, size_list]; omega) (HV.out.belowC HB2.out))
      have HOK := Lib.hid hok; have HST := Lib.hid hst
      clear hok hst hgd hprs HPM HA2
      go_wp2_with fail
      refine C2.out.mono ?_
      rintro e w3 ⟨hp, hb3⟩
      obtain rfl := print_ok HOK.out HST.out hp
      have HB3 := Lib.hid (HB2.out.trans (hb3.mono HB2.out.size))
      have CS := Lib.hid (same_any w3 (HV.out.belowC HB3.out))
      clear hp hb3 C2 HB2 p0 p1 p2 p3 p4
      go_wp2_with fail
      refine CS.out.mono ?_
      rintro e w7 ⟨rfl, hb7⟩
      have HF := Lib.hid (HB3.out.trans (hb7.mono HB3.out.size))
      clear hb7 CS HB3
      go_wp2_with fail
      go_ret
      exact ⟨rfl, HF.out⟩
    · have hne : (er != 0) = true := by simpa using h0
      obtain ⟨rfl, ha⟩ := only_bad HPM.out h0
      have hgz : GoodT zeroT := .mk (Nat.zero_le _) (by decide) (by decide) (by decide) (fun x hx => by cases hx) (by decide) (fun k hk => by cases hk)
      have C2 := Lib.hid (show Calls Tryz.prog 17 #[.agg #[.string ⟨#[]⟩, .string ⟨#[]⟩, .string ⟨#[]⟩, .slice x.A 0 x.ca, .slice x.K 0 x.ck], .agg #[.string ⟨#[]⟩, .string ⟨#[]⟩, .string ⟨#[]⟩, .slice none 0 0, .slice none 0 0]] w2 (EqPost zeroT zeroT w2) from nodes_any zeroT zeroT x ⟨none, 0, none, 0⟩ w2 HA2.out (tin_zero w2 (fun _ => True)).at hgz hgz)
      have p0 : w2.cell? ⟨w1.heap.size, 0, none⟩ = some (.string ⟨#[]⟩) := p0
      have p1 : w2.cell? ⟨w1.heap.size, 1, none⟩ = some (.string ⟨#[]⟩) := p1
      have p2 : w2.cell? ⟨w1.heap.size, 2, none⟩ = some (.string ⟨#[]⟩) := p2
      have p3 : w2.cell? ⟨w1.heap.size, 3, none⟩ = some (.slice x.A 0 x.ca) := p3
      have p4 : w2.cell? ⟨w1.heap.size, 4, none⟩ = some (.slice x.K 0 x.ck) := p4
      have hda : decide (a ≥ 0) = true := by simpa using ha
      have hda2 : decide (0 ≤ a) = true := by simpa using ha
      clear h0 HPM HA2 hgz
      go_wp2_with fail
      refine C2.out.mono ?_
      rintro e w3 ⟨b, rfl, hr, hb3⟩
      obtain rfl : b = true := hr.2 rfl
      have HB3 := Lib.hid (HB2.out.trans (hb3.mono HB2.out.size))
      have CS := Lib.hid (same_any w3 (HV.out.belowC HB3.out))
      clear hr hb3 C2 HB2 p0 p1 p2 p3 p4
      go_wp2_with fail
      refine CS.out.mono ?_
      rintro e w7 ⟨rfl, hb7⟩
      have HF := Lib.hid (HB3.out.trans (hb7.mono HB3.out.size))
      clear hb7 CS HB3
      go_wp2_with fail
      go_ret
      exact ⟨rfl, HF.out⟩
end Go.Proofs.YtjnhcoflmechmaaGreatDoor.M
