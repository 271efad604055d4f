/-
  markup's parser: its keys, ends of nodes.
-/
import Derived.Test.YtjnhcoflmechmaaGreatDoorMEsc
namespace Go.Proofs.YtjnhcoflmechmaaGreatDoor.M
open Go.RowKit Go.Sort
set_option linter.unusedVariables false
set_option maxRecDepth 100000
def key1P (l : Bytes) : Rd ByteArray := bnd (txtP l) fun k l2 => if k = noB then .bad l.length 2 else bnd (preP [34] l2) fun _ l3 => .ok k l3
theorem keyP_1 (l : Bytes) : keyP l = match preP [32, 35, 61, 34] l with | .bad _ _ => .ok noB l | .ok _ l1 => key1P l1 := rfl
theorem MStep.bad {α : Type} {P : Nat} {s : ByteArray} {b n : Nat} {er : Int} {val : α → Value} {w w' : World} {e : Ending} (h : MStep P s b val (.bad n er) w e w') : e = PanE (s.size - n) ∧ n ≤ s.size ∧ Kept (· = P) w w' := ⟨h.1.1, h.1.2, h.2⟩
/-- A step's answer at an index. -/
theorem MStep.ok {α : Type} {P : Nat} {s : ByteArray} {b : Nat} {val : α → Value} {x : α} {l : Bytes} {w w' : World} {e : Ending} (h : MStep P s b val (.ok x l) w e w') : ∃ a, a ≤ s.size ∧ l = restL s a ∧ e = .returned (val x) ∧ P3 w' P s a b ∧ Kept (· = P) w w' :=
  ⟨s.size - l.length, by omega, h.1.2.2.1.symm, h.1.1, h.1.2.2.2, h.2⟩
set_option maxHeartbeats 4000000 in
theorem mkey_any (P : Nat) (s : ByteArray) (a b : Nat) (w : World) (h : P3 w P s a b) (ha : a ≤ s.size) (hs : s.size ≤ 1000000000) (hv : Vars w) : Calls Tryz.prog 134 #[.pointer (some ⟨P, 0, none⟩)] w (MStep P s b Value.string (key1P (restL s a)) w) := by
  have CE := mescaped_any P s a b w h ha hs hv
  obtain ⟨R, hR⟩ : ∃ R, R = key1P (restL s a) := ⟨_, rfl⟩
  rw [← hR]
  obtain ⟨T, hT⟩ : ∃ T, T = txtP (restL s a) := ⟨_, rfl⟩
  rw [← hT] at CE
  have HR := Lib.hid (show R = bnd T fun k l2 => if k = noB then .bad (restL s a).length 2 else bnd (preP [34] l2) fun _ l3 => .ok k l3 from by rw [hR, hT]; rfl)
  have HC := Lib.hid CE; have HT := Lib.hid hT
  clear CE hR hT h hv
  go_enter Tryz.func134, Tryz.ntmps134
  go_wp2_with fail
  refine HC.out.mono ?_
  rintro e w1 hst
  cases T with
  | bad n er =>
    obtain ⟨rfl, hn, hk⟩ := hst.bad
    have HF := Lib.hid (show MStep P s b Value.string R w (PanE (s.size - n)) w1 from mbad (HR.out.trans rfl) hn rfl hk)
    clear hst hk HC
    exact ⟨rfl, HF.out⟩
  | ok k l =>
    obtain ⟨a1, ha1, rfl, rfl, hp1, hk1⟩ := hst.ok
    have hrest := txtP_ok HT.out.symm
    clear hst HC
    by_cases hk0 : k = noB
    · have haa : a1 = a := by
        rw [hk0] at hrest
        have h1 := congrArg List.length hrest
        rw [List.length_append, restL_len, restL_len] at h1
        have h2 : (E.escL noB.data.toList).length = 0 := rfl
        omega
      subst haa
      have HF := Lib.hid (show MStep P s b Value.string R w (PanE a1) w1 from mbad (by rw [HR.out]; exact if_pos hk0) (by rw [restL_len]; omega) (by rw [restL_len]; omega) hk1)
      have CX := Lib.hid (mfail_any P s a1 b w1 hp1)
      have hkl : k.toList = [] := by rw [hk0, Lib.toList_data]; rfl
      clear hp1 hk1 hrest hk0
      go_wp2_with fail
      refine CX.out.mono ?_
      rintro e w2 ⟨rfl, rfl⟩
      exact ⟨rfl, HF.out⟩
    · have hkl : (k.toList == []) = false := by
        rw [Lib.toList_data, beq_eq_false_iff_ne]
        intro e
        apply hk0
        rw [← strB_eq k, e]; rfl
      have hkl2 : ¬ k.toList = [] := by simpa using hkl
      have CN := Lib.hid (mneed_any P s ⟨#[34]⟩ a1 b w1 hp1 ha1 hs)
      have HK1 := Lib.hid hk1
      obtain ⟨Q, hQ⟩ : ∃ Q, Q = preP [34] (restL s a1) := ⟨_, rfl⟩
      rw [show preP (⟨#[34]⟩ : ByteArray).data.toList (restL s a1) = Q from hQ.symm] at CN
      have HR2 := Lib.hid (show R = bnd Q fun _ l3 => .ok k l3 by rw [HR.out, hQ]; exact if_neg hk0)
      clear hp1 hk1 hrest hQ hk0
      go_wp2_with fail
      refine CN.out.mono ?_
      rintro e w2 hst
      cases Q with
      | bad n er =>
        obtain ⟨rfl, hn, hk⟩ := hst.bad
        have HF := Lib.hid (show MStep P s b Value.string R w (PanE (s.size - n)) w2 from mbad (HR2.out.trans rfl) hn rfl (HK1.out.trans hk))
        clear hst hk CN
        exact ⟨rfl, HF.out⟩
      | ok u l =>
        obtain ⟨a2, ha2, rfl, rfl, hp2, hk2⟩ := hst.ok
        have HF := Lib.hid (show MStep P s b Value.string R w (.returned (.string k)) w2 from mok (HR2.out.trans rfl) ha2 hp2 (HK1.out.trans hk2))
        clear hst hp2 hk2 CN
        go_wp2_with fail
        go_ret
        exact HF.out
/-- The end of a node. -/
def end1P (tag : ByteArray) (l : Bytes) : Rd Unit := bnd (preP [60, 47] l) fun _ l1 => bnd (preP tag.data.toList l1) fun _ l2 => preP [62] l2
theorem endP_1 (t : Tr) (l : Bytes) : endP t l = bnd (end1P t.tag l) fun _ l' => .ok t l' := by
  unfold endP end1P
  cases preP [60, 47] l with
  | bad n e => rfl
  | ok u l1 =>
    simp only [bnd]
    cases preP t.tag.data.toList l1 with
    | bad n e => rfl
    | ok u l2 => rfl
set_option maxHeartbeats 4000000 in
theorem mend_any (P : Nat) (s tag : ByteArray) (a b : Nat) (w : World) (h : P3 w P s a b) (ha : a ≤ s.size) (hs : s.size ≤ 1000000000) : Calls Tryz.prog 107 #[.pointer (some ⟨P, 0, none⟩), .string tag] w (MStep P s b unitV (end1P tag (restL s a)) w) := by
  have C1 := mneed_any P s ⟨#[60, 47]⟩ a b w h ha hs
  obtain ⟨R, hR⟩ : ∃ R, R = end1P tag (restL s a) := ⟨_, rfl⟩
  rw [← hR]
  obtain ⟨Q, hQ⟩ : ∃ Q, Q = preP [60, 47] (restL s a) := ⟨_, rfl⟩
  rw [show preP (⟨#[60, 47]⟩ : ByteArray).data.toList (restL s a) = Q from hQ.symm] at C1
  have HR := Lib.hid (show R = bnd Q fun _ l1 => bnd (preP tag.data.toList l1) fun _ l2 => preP [62] l2 by rw [hR, hQ]; rfl)
  have HC := Lib.hid C1
  clear C1 hR hQ h
  go_enter Tryz.func107, Tryz.ntmps107
  go_wp2_with fail
  refine HC.out.mono ?_
  rintro e w1 hst
  cases Q with
  | bad n er =>
    obtain ⟨rfl, hn, hk⟩ := hst.bad
    have HF := Lib.hid (show MStep P s b unitV R w (PanE (s.size - n)) w1 from mbad (HR.out.trans rfl) hn rfl hk)
    exact ⟨rfl, HF.out⟩
  | ok u l =>
    obtain ⟨a1, ha1, rfl, rfl, hp1, hk1⟩ := hst.ok
    have C2 := mneed_any P s tag a1 b w1 hp1 ha1 hs
    obtain ⟨Q, hQ⟩ : ∃ Q, Q = preP tag.data.toList (restL s a1) := ⟨_, rfl⟩
    rw [← hQ] at C2
    have HR2 := Lib.hid (show R = bnd Q fun _ l2 => preP [62] l2 by rw [HR.out, hQ]; rfl)
    have HC2 := Lib.hid C2; have HK1 := Lib.hid hk1
    clear C2 hQ hp1 hk1 hst HC HR
    go_wp2_with fail
    refine HC2.out.mono ?_
    rintro e w2 hst
    cases Q with
    | bad n er =>
      obtain ⟨rfl, hn, hk⟩ := hst.bad
      have HF := Lib.hid (show MStep P s b unitV R w (PanE (s.size - n)) w2 from mbad (HR2.out.trans rfl) hn rfl (HK1.out.trans hk))
      exact ⟨rfl, HF.out⟩
    | ok u l =>
      obtain ⟨a2, ha2, rfl, rfl, hp2, hk2⟩ := hst.ok
      have C3 := mneed_any P s ⟨#[62]⟩ a2 b w2 hp2 ha2 hs
      obtain ⟨Q, hQ⟩ : ∃ Q, Q = preP [62] (restL s a2) := ⟨_, rfl⟩
      rw [show preP (⟨#[62]⟩ : ByteArray).data.toList (restL s a2) = Q from hQ.symm] at C3
      have HR3 := Lib.hid (show R = Q by rw [HR2.out, hQ]; rfl)
      have HC3 := Lib.hid C3; have HK2 := Lib.hid (HK1.out.trans hk2)
      clear C3 hQ hp2 hk2 hst HC2 HR2
      go_wp2_with fail
      refine HC3.out.mono ?_
      rintro e w3 hst
      cases Q with
      | bad n er =>
        obtain ⟨rfl, hn, hk⟩ := hst.bad
        have HF := Lib.hid (show MStep P s b unitV R w (PanE (s.size - n)) w3 from mbad HR3.out hn rfl (HK2.out.trans hk))
        exact ⟨rfl, HF.out⟩
      | ok u l =>
        obtain ⟨a3, ha3, rfl, rfl, hp3, hk3⟩ := hst.ok
        have HF := Lib.hid (show MStep P s b unitV R w (.returned (.tuple #[])) w3 from mok (x := ()) HR3.out ha3 hp3 (HK2.out.trans hk3))
        clear hst hp3 hk3 HC3
        go_wp2_with fail
        go_end0
        exact HF.out
end Go.Proofs.YtjnhcoflmechmaaGreatDoor.M
