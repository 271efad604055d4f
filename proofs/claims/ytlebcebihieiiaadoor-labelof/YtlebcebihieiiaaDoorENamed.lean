/-
  escape.named and escape.readForm: what they answer.
-/
import Derived.Test.YtlebcebihieiiaaDoorEBase
import Derived.Laws.BytesArg
import Derived.Lib.IndexLaws
namespace Go.Proofs.YtlebcebihieiiaaDoor.E
open Go.RowKit
set_option linter.unusedVariables false

def BytePost (w : World) (c : UInt8) (e : Ending) (w' : World) : Prop := e = .returned (.int .u8 (c.toNat : Int)) ∧ Below w.heap.size w w'
theorem bytePost_mk {w w' : World} {c d : UInt8} {n : Int} (h : d = c) (hn : n = c.toNat) (hb : Below w.heap.size w w') : BytePost w d (.returned (.int .u8 n)) w' := by subst h hn; exact ⟨rfl, hb⟩
theorem eq_true {s : ByteArray} {l : List UInt8} (h : s.data.toList = l) : (s.toList == l) = true := by rw [Lib.toList_data, h]; simp
theorem eq_false {s : ByteArray} {l : List UInt8} (h : s.data.toList ≠ l) : (s.toList == l) = false := by rw [Lib.toList_data]; simpa using h
theorem parseM_le (M : Nat) : ∀ (l : List UInt8) (acc u : Nat), acc ≤ M → Lib.parseUintM M acc l = .ok u → u ≤ M
  | [], acc, u, ha, h => by simp [Lib.parseUintM] at h; omega
  | c :: r, acc, u, ha, h => by
    unfold Lib.parseUintM at h
    split at h
    · split at h
      · cases h
      · split at h
        · cases h
        · exact parseM_le M r _ u (by omega) h
    · cases h
theorem parse8_lt {l : List UInt8} {u : Nat} (h : Lib.parseUintB 8 l = .ok u) : u < 256 := by
  unfold Lib.parseUintB at h
  split at h
  · cases h
  · have := parseM_le (2 ^ 8 - 1) l 0 u (by omega) h
    omega

set_option maxRecDepth 100000 in
set_option maxHeartbeats 1000000 in
theorem named_any (s : ByteArray) (w : World) (hs : s.size ≤ 900000) (hv : Vars w) : Calls Tryd.prog 71 #[.string s] w (BytePost w (nm s.data.toList)) := by
  by_cases h1 : s.data.toList = [38, 97, 109, 112, 59]
  · have e : nm s.data.toList = 38 := by unfold nm; rw [if_pos h1]
    have g1 := eq_true h1
    have E := Lib.hid e; clear e h1
    go_enter Tryd.func71, Tryd.ntmps71
    go_wp2
    go_ret
    exact bytePost_mk E.out rfl (Below.refl _ _)
  by_cases h2 : s.data.toList = [38, 108, 116, 59]
  · have e : nm s.data.toList = 60 := by unfold nm; rw [if_neg h1, if_pos h2]
    have g1 := eq_false h1
    have g2 := eq_true h2
    have E := Lib.hid e; clear e h1 h2
    go_enter Tryd.func71, Tryd.ntmps71
    go_wp2
    go_ret
    exact bytePost_mk E.out rfl (Below.refl _ _)
  by_cases h3 : s.data.toList = [38, 103, 116, 59]
  · have e : nm s.data.toList = 62 := by unfold nm; rw [if_neg h1, if_neg h2, if_pos h3]
    have g1 := eq_false h1
    have g2 := eq_false h2
    have g3 := eq_true h3
    have E := Lib.hid e; clear e h1 h2 h3
    go_enter Tryd.func71, Tryd.ntmps71
    go_wp2
    go_ret
    exact bytePost_mk E.out rfl (Below.refl _ _)
  by_cases h4 : s.data.toList = [38, 113, 117, 111, 116, 59]
  · have e : nm s.data.toList = 34 := by unfold nm; rw [if_neg h1, if_neg h2, if_neg h3, if_pos h4]
    have g1 := eq_false h1
    have g2 := eq_false h2
    have g3 := eq_false h3
    have g4 := eq_true h4
    have E := Lib.hid e; clear e h1 h2 h3 h4
    go_enter Tryd.func71, Tryd.ntmps71
    go_wp2
    go_ret
    exact bytePost_mk E.out rfl (Below.refl _ _)
  have e : nm s.data.toList = pu (Lib.trimSuffix (Lib.trimPrefix s.data.toList [38, 35]) [59]) := by
    unfold nm; rw [if_neg h1, if_neg h2, if_neg h3, if_neg h4]
  have g1 := eq_false h1
  have g2 := eq_false h2
  have g3 := eq_false h3
  have g4 := eq_false h4
  have c1 := Tryd.strings_TrimPrefix s { data := #[38, 35] } w
  have hl1 : (Lib.trimPrefix s.data.toList [38, 35]).length ≤ 900000 := by
    have : s.data.toList.length = s.size := by simp
    unfold Lib.trimPrefix
    split
    · rw [List.length_drop]; omega
    · omega
  obtain ⟨t, ht⟩ : ∃ t : ByteArray, t = ⟨(Lib.trimPrefix s.data.toList [38, 35]).toArray⟩ := ⟨_, rfl⟩
  have htl : t.data.toList = Lib.trimPrefix s.data.toList [38, 35] := by rw [ht]
  have hts : t.size ≤ 900000 := by rw [Lib.size_eq, htl]; exact hl1
  have c2 := Tryd.strings_TrimSuffix t { data := #[59] } w (by omega)
  have hl2 : (Lib.trimSuffix t.data.toList [59]).length ≤ 900000 := by
    unfold Lib.trimSuffix
    split
    · rw [List.length_take]; rw [htl]; omega
    · rw [htl]; exact hl1
  obtain ⟨d, hd⟩ : ∃ d : ByteArray, d = ⟨(Lib.trimSuffix t.data.toList [59]).toArray⟩ := ⟨_, rfl⟩
  have hdl : d.data.toList = Lib.trimSuffix t.data.toList [59] := by rw [hd]
  have hds : d.size ≤ 900000 := by rw [Lib.size_eq, hdl]; exact hl2
  rw [← htl, ← hdl] at e
  have C1 : Calls Tryd.prog 79 #[.string s, .string { data := #[38, 35] }] w fun e w' => e = .returned (.string t) ∧ w = w' := by rw [ht]; exact c1.mono (fun e w' h => ⟨h.1, h.2.symm⟩)
  have C2 : Calls Tryd.prog 78 #[.string t, .string { data := #[59] }] w fun e w' => e = .returned (.string d) ∧ w = w' := by rw [hd]; exact c2.mono (fun e w' h => ⟨h.1, h.2.symm⟩)
  have D1 := Lib.hid C1
  have D2 := Lib.hid C2
  have E := Lib.hid e
  clear e C1 C2 c1 c2 ht hd htl hdl hl1 hl2 h1 h2 h3 h4
  obtain ⟨-, ⟨t2, p2, hv2⟩, ⟨t3, p3, hv3⟩, -⟩ := hv
  rcases hq : Lib.parseUintB 8 d.data.toList with u | _ | _
  · have hu := parse8_lt hq
    have hp := pu_ok hq
    have C3 := Lib.hid (Tryd.strconv_ParseUint_10_at8_ok d (by omega) u hq w)
    have HP := Lib.hid (E.out.trans hp); clear hq hp
    go_enter Tryd.func71, Tryd.ntmps71
    go_wp2_with (first
      | (go_at_call 79; refine D1.out.mono ?_; rintro e w' ⟨rfl, rfl⟩)
      | (go_at_call 78; refine D2.out.mono ?_; rintro e w' ⟨rfl, rfl⟩))
    refine C3.out.mono ?_
    rintro e w1 ⟨rfl, hw1⟩
    have hb : Below w.heap.size w w1 := by
      rcases hw1 with rfl | rfl
      · exact Below.refl _ _
      · exact Lib.bytesWorld_below w 5 d
    clear hw1
    go_wp2
    go_ret
    exact bytePost_mk HP.out (by simp; omega) hb
  · have hp := pu_bad (l := d.data.toList) (fun u h => by rw [hq] at h; cases h)
    have C3 := Lib.hid (Any.strconv_ParseUint_10_at8_syntax Tryd.laysPu14 d (by omega) hq (.iface t2 p2) w hv2 (Or.inr ⟨_, _, rfl⟩))
    have HP := Lib.hid (E.out.trans hp); clear hq hp
    go_enter Tryd.func71, Tryd.ntmps71
    go_wp2_with (first
      | (go_at_call 79; refine D1.out.mono ?_; rintro e w' ⟨rfl, rfl⟩)
      | (go_at_call 78; refine D2.out.mono ?_; rintro e w' ⟨rfl, rfl⟩))
    refine C3.out.mono ?_
    rintro e w1 ⟨N, rfl, hN, hN2, hb⟩
    go_wp2
    go_ret
    exact bytePost_mk HP.out rfl hb
  · have hp := pu_bad (l := d.data.toList) (fun u h => by rw [hq] at h; cases h)
    have C3 := Lib.hid (Any.strconv_ParseUint_10_at8_range Tryd.laysPu14 d (by omega) hq (.iface t3 p3) w hv3 (Or.inr ⟨_, _, rfl⟩))
    have HP := Lib.hid (E.out.trans hp); clear hq hp
    go_enter Tryd.func71, Tryd.ntmps71
    go_wp2_with (first
      | (go_at_call 79; refine D1.out.mono ?_; rintro e w' ⟨rfl, rfl⟩)
      | (go_at_call 78; refine D2.out.mono ?_; rintro e w' ⟨rfl, rfl⟩))
    refine C3.out.mono ?_
    rintro e w1 ⟨N, rfl, hN, hN2, hb⟩
    go_wp2
    go_ret
    exact bytePost_mk HP.out rfl hb

def RfPost (w : World) (l : List UInt8) (e : Ending) (w' : World) : Prop := e = .returned (.tuple #[.int .u8 ((rf l).1.toNat : Int), .int .i64 ((rf l).2 : Int)]) ∧ Below w.heap.size w w'
theorem rfPost_mk {w w' : World} {l : List UInt8} {c : UInt8} {n : Nat} {x y : Int} (h : rf l = (c, n)) (hx : x = c.toNat) (hy : y = n) (hb : Below w.heap.size w w') : RfPost w l (.returned (.tuple #[.int .u8 x, .int .i64 y])) w' := by
  unfold RfPost; rw [h]; subst hx hy; exact ⟨rfl, hb⟩
theorem conv_one (c : UInt8) (w : World) : (convert 81 9 (.slice (some ⟨w.heap.size, 0, none⟩) 1 1)).run Tryd.prog (w.alloc (.cells #[.int .u8 (c.toNat : Int)] 5)) = .ok (.string (str [c])) (w.alloc (.cells #[.int .u8 (c.toNat : Int)] 5)) := by
  have h := run_convert_bytes_arg (P := Tryd.prog) (w.alloc (.cells #[.int .u8 (c.toNat : Int)] 5)) 81 5 Tryd.underlying81 Tryd.underlying5 w.heap.size 0 1 1 [(c.toNat : Int)] rfl (fun i hi => by
    have : i = 0 := by omega
    subst this
    simp) 9 Tryd.underlying9
  rw [h]
  simp [strOfNums, str]
theorem ext_toList {a b : ByteArray} (h : a.data.toList = b.data.toList) : a = b := by
  cases a; cases b
  simpa using h

set_option maxRecDepth 100000 in
set_option maxHeartbeats 1000000 in
theorem readForm_any (s : ByteArray) (w : World) (hs : s.size ≤ 900000) (hv : Vars w) : Calls Tryd.prog 61 #[.string s] w (RfPost w s.data.toList) := by
  have h4 := hv.2.2.2
  have hsl : s.data.toList.length = s.size := by simp
  obtain ⟨m, hm⟩ : ∃ m, m = min s.size 6 := ⟨_, rfl⟩
  obtain ⟨x, hx⟩ : ∃ x : Int, x = Lib.indexByte (s.data.toList.take m) 59 := ⟨_, rfl⟩
  have hxge : -1 ≤ x := by rw [hx]; exact Lib.indexByte_ge _ _
  have ci : Calls Tryd.prog 56 #[.string (s.extract 0 (min (s.size : Int) 6).toNat), .int .u8 59] w fun e w' => e = .returned (.int .i64 x) ∧ w = w' := by
    rw [show (min (s.size : Int) 6).toNat = m by omega]
    refine (Tryd.strings_IndexByte (s.extract 0 m) 59 w).mono (fun e w' h => ⟨h.1.trans ?_, h.2.symm⟩)
    rw [hx, Lib.extract_data]; rfl
  have hrf : rf s.data.toList = if x < 0 then (0, 0) else if form (nm (s.data.toList.take (x.toNat + 1))) = s.data.toList.take (x.toNat + 1) then (nm (s.data.toList.take (x.toNat + 1)), (s.data.toList.take (x.toNat + 1)).length) else (0, 0) := by
    unfold rf; rw [hsl, ← hm, ← hx]
  have CI := Lib.hid ci
  have HRF := Lib.hid hrf
  have hxlt : ∀ o : Nat, x = o → o < s.size := by
    intro o ho
    have h1 := (Lib.indexByte_some (hx.symm.trans ho)).1
    have h2 := (List.getElem?_eq_some_iff.1 h1).1
    rw [List.length_take] at h2
    omega
  have HLT := Lib.hid hxlt
  have HSL := Lib.hid hsl
  clear hm hx ci hrf hxlt hsl
  by_cases hneg : x < 0
  · have e : rf s.data.toList = (0, 0) := by rw [HRF.out, if_pos hneg]
    have E := Lib.hid e; clear e
    go_enter Tryd.func61, Tryd.ntmps61
    go_wp2_with (go_at_call 56; refine CI.out.mono ?_; rintro e w' ⟨rfl, rfl⟩)
    go_ret2
    exact rfPost_mk E.out rfl rfl (Below.refl _ _)
  · obtain ⟨o, rfl⟩ := Int.eq_ofNat_of_zero_le (show 0 ≤ x by omega)
    have ho := HLT.out o rfl
    obtain ⟨t, ht⟩ : ∃ t, t = s.extract 0 (o + 1) := ⟨_, rfl⟩
    have htl : t.data.toList = s.data.toList.take (o + 1) := by rw [ht, Lib.extract_data]; simp
    have hts : t.size = o + 1 := by rw [Lib.size_eq, htl, List.length_take, HSL.out]; omega
    obtain ⟨c, hc⟩ : ∃ c, c = nm t.data.toList := ⟨_, rfl⟩
    have cn := named_any t w (by omega) hv
    rw [← hc] at cn
    have CN := Lib.hid cn
    have HT := Lib.hid ht
    have e : rf s.data.toList = if form c = t.data.toList then (c, t.size) else (0, 0) := by
      rw [HRF.out, if_neg hneg, Int.toNat_natCast, ← htl, ← hc, ← Lib.size_eq]
    have E := Lib.hid e
    have HTS := Lib.hid hts
    clear e cn ht htl hc hts
    have hcl := c.toNat_lt
    go_enter Tryd.func61, Tryd.ntmps61
    go_wp2_with (go_at_call 56; refine CI.out.mono ?_; rintro e w' ⟨rfl, rfl⟩)
    rw [← HT.out]
    refine CN.out.mono ?_
    rintro e w1 ⟨rfl, hb1⟩
    have hcv := conv_one c w1
    go_wp2_with fail
    obtain ⟨w2, hw2⟩ : ∃ w2, w2 = w1.alloc (.cells #[.int .u8 (c.toNat : Int)] 5) := ⟨_, rfl⟩
    rw [← hw2]
    have hb2 : Below w1.heap.size w1 w2 := by rw [hw2]; exact (Below.refl _ _).alloc (Nat.le_refl _) _
    clear hw2 hcv
    have hb02 := hb1.trans (hb2.mono hb1.size)
    refine (formsOf_any (str [c]) w2).mono ?_
    rintro e w3 ⟨rfl, hw3⟩
    have hF : w3.cell? ⟨w2.heap.size, 0, none⟩ = some (.string (str [c])) := by rw [← hw3]; simp
    have hb3 : Below w2.heap.size w2 w3 := by rw [← hw3]; exact (Below.refl _ _).alloc (Nat.le_refl _) _
    clear hw3
    have hb03 := hb02.trans (hb3.mono hb02.size)
    have CF := Lib.hid (form_any (str [c]) 0 w2.heap.size c w3 (by rw [str_size]; simp) rfl (by rw [str_size]; simp) hF (hv.below h4 hb03))
    clear hF hb3 hb2
    go_wp2_with fail
    refine CF.out.mono ?_
    rintro e w4 ⟨rfl, hb4⟩
    have hb04 := hb03.trans (hb4.mono hb03.size)
    by_cases hq : form c = t.data.toList
    · have e1 : rf s.data.toList = (c, t.size) := by rw [E.out, if_pos hq]
      have hq' : str (form c) = t := ext_toList (by rw [str_data, hq])
      rw [hq']
      clear hq hq'
      go_wp2
      go_ret2
      exact rfPost_mk e1 rfl rfl hb04
    · have e1 : rf s.data.toList = (0, 0) := by rw [E.out, if_neg hq]
      have hq1 : ((str (form c)).toList == t.toList) = false := by rw [Lib.toList_data, Lib.toList_data, str_data]; simpa using hq
      have hq2 : ((str (form c)).toList != t.toList) = true := by rw [Lib.toList_data, Lib.toList_data, str_data]; simpa using hq
      clear hq
      have E1 := Lib.hid e1; clear e1
      go_wp2
      go_ret2
      exact rfPost_mk E1.out rfl rfl hb04
end Go.Proofs.YtlebcebihieiiaaDoor.E
