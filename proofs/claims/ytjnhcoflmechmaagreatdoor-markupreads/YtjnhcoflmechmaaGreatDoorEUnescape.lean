/-
  escape.named and escape.readForm: what they answer. | escape.Unescape: what it answers.
-/
import Derived.Test.YtjnhcoflmechmaaGreatDoorEEscape
import Derived.Laws.BytesArg
import Derived.Lib.IndexLaws
import Derived.Deep.RegionHeld3
namespace Go.Proofs.YtjnhcoflmechmaaGreatDoor.E
open Go.RowKit
set_option linter.unusedVariables false

def BytePost (w : World) (c : UInt8) (e : Ending) (w' : World) : Prop := e = .returned (.int .u8 (c.toNat : Int)) ∧ Below w.heap.size w w'
theorem bytePost_mk {w w' : World} {c d : UInt8} {n : Int} (h : d = c) (hn : n = c.toNat) (hb : Below w.heap.size w w') : BytePost w d (.returned (.int .u8 n)) w' := by subst h hn; exact ⟨rfl, hb⟩
theorem eq_true {s : ByteArray} {l : List UInt8} (h : s.data.toList = l) : (s.toList == l) = true := by rw [Lib.toList_data, h]; simp
theorem eq_false {s : ByteArray} {l : List UInt8} (h : s.data.toList ≠ l) : (s.toList == l) = false := by rw [Lib.toList_data]; simpa using h
theorem parseM_le (M : Nat) : ∀ (l : List UInt8) (acc u : Nat), acc ≤ M → Lib.parseUintM M acc l = .ok u → u ≤ M
  | [], acc, u, ha, h => by simp [Lib.parseUintM] at h; omega
  | c :: r, acc, u, ha, h => by
    unfold Lib.parseUintM at h
    split at h
    · split at h
      · cases h
      · split at h
        · cases h
        · exact parseM_le M r _ u (by omega) h
    · cases h
theorem parse8_lt {l : List UInt8} {u : Nat} (h : Lib.parseUintB 8 l = .ok u) : u < 256 := by
  unfold Lib.parseUintB at h
  split at h
  · cases h
  · have := parseM_le (2 ^ 8 - 1) l 0 u (by omega) h
    omega

set_option maxRecDepth 100000 in
set_option maxHeartbeats 1000000 in
theorem named_any (s : ByteArray) (w : World) (hs : s.size ≤ 1000000000) (hv : Vars w) : Calls Tryz.prog 173 #[.string s] w (BytePost w (nm s.data.toList)) := by
  by_cases h1 : s.data.toList = [38, 97, 109, 112, 59]
  · have e : nm s.data.toList = 38 := by unfold nm; rw [if_pos h1]
    have g1 := eq_true h1
    have E := Lib.hid e; clear e h1
    go_enter Tryz.func173, Tryz.ntmps173
    go_wp2
    go_ret
    exact bytePost_mk E.out rfl (Below.refl _ _)
  by_cases h2 : s.data.toList = [38, 108, 116, 59]
  · have e : nm s.data.toList = 60 := by unfold nm; rw [if_neg h1, if_pos h2]
    have g1 := eq_false h1
    have g2 := eq_true h2
    have E := Lib.hid e; clear e h1 h2
    go_enter Tryz.func173, Tryz.ntmps173
    go_wp2
    go_ret
    exact bytePost_mk E.out rfl (Below.refl _ _)
  by_cases h3 : s.data.toList = [38, 103, 116, 59]
  · have e : nm s.data.toList = 62 := by unfold nm; rw [if_neg h1, if_neg h2, if_pos h3]
    have g1 := eq_false h1
    have g2 := eq_false h2
    have g3 := eq_true h3
    have E := Lib.hid e; clear e h1 h2 h3
    go_enter Tryz.func173, Tryz.ntmps173
    go_wp2
    go_ret
    exact bytePost_mk E.out rfl (Below.refl _ _)
  by_cases h4 : s.data.toList = [38, 113, 117, 111, 116, 59]
  · have e : nm s.data.toList = 34 := by unfold nm; rw [if_neg h1, if_neg h2, if_neg h3, if_pos h4]
    have g1 := eq_false h1
    have g2 := eq_false h2
    have g3 := eq_false h3
    have g4 := eq_true h4
    have E := Lib.hid e; clear e h1 h2 h3 h4
    go_enter Tryz.func173, Tryz.ntmps173
    go_wp2
    go_ret
    exact bytePost_mk E.out rfl (Below.refl _ _)
  have e : nm s.data.toList = pu (Lib.trimSuffix (Lib.trimPrefix s.data.toList [38, 35]) [59]) := by
    unfold nm; rw [if_neg h1, if_neg h2, if_neg h3, if_neg h4]
  have g1 := eq_false h1
  have g2 := eq_false h2
  have g3 := eq_false h3
  have g4 := eq_false h4
  have c1 := Tryz.strings_TrimPrefix s { data := #[38, 35] } w
  have hl1 : (Lib.trimPrefix s.data.toList [38, 35]).length ≤ 1000000000 := by
    have : s.data.toList.length = s.size := by simp
    unfold Lib.trimPrefix
    split
    · rw [List.length_drop]; omega
    · omega
  obtain ⟨t, ht⟩ : ∃ t : ByteArray, t = ⟨(Lib.trimPrefix s.data.toList [38, 35]).toArray⟩ := ⟨_, rfl⟩
  have htl : t.data.toList = Lib.trimPrefix s.data.toList [38, 35] := by rw [ht]
  have hts : t.size ≤ 1000000000 := by rw [Lib.size_eq, htl]; exact hl1
  have c2 := Tryz.strings_TrimSuffix t { data := #[59] } w (by omega)
  have hl2 : (Lib.trimSuffix t.data.toList [59]).length ≤ 1000000000 := by
    unfold Lib.trimSuffix
    split
    · rw [List.length_take]; rw [htl]; omega
    · rw [htl]; exact hl1
  obtain ⟨d, hd⟩ : ∃ d : ByteArray, d = ⟨(Lib.trimSuffix t.data.toList [59]).toArray⟩ := ⟨_, rfl⟩
  have hdl : d.data.toList = Lib.trimSuffix t.data.toList [59] := by rw [hd]
  have hds : d.size ≤ 1000000000 := by rw [Lib.size_eq, hdl]; exact hl2
  rw [← htl, ← hdl] at e
  have C1 : Calls Tryz.prog 191 #[.string s, .string { data := #[38, 35] }] w fun e w' => e = .returned (.string t) ∧ w = w' := by rw [ht]; exact c1.mono (fun e w' h => ⟨h.1, h.2.symm⟩)
  have C2 : Calls Tryz.prog 190 #[.string t, .string { data := #[59] }] w fun e w' => e = .returned (.string d) ∧ w = w' := by rw [hd]; exact c2.mono (fun e w' h => ⟨h.1, h.2.symm⟩)
  have D1 := Lib.hid C1
  have D2 := Lib.hid C2
  have E := Lib.hid e
  clear e C1 C2 c1 c2 ht hd htl hdl hl1 hl2 h1 h2 h3 h4
  obtain ⟨-, ⟨t2, p2, hv2⟩, ⟨t3, p3, hv3⟩, -⟩ := hv
  rcases hq : Lib.parseUintB 8 d.data.toList with u | _ | _
  · have hu := parse8_lt hq
    have hp := pu_ok hq
    have C3 := Lib.hid (Tryz.strconv_ParseUint_10_at8_ok d (by omega) u hq w)
    have HP := Lib.hid (E.out.trans hp); clear hq hp
    go_enter Tryz.func173, Tryz.ntmps173
    go_wp2_with (first
      | (go_at_call 191; refine D1.out.mono ?_; rintro e w' ⟨rfl, rfl⟩)
      | (go_at_call 190; refine D2.out.mono ?_; rintro e w' ⟨rfl, rfl⟩))
    refine C3.out.mono ?_
    rintro e w1 ⟨rfl, hw1⟩
    have hb : Below w.heap.size w w1 := by
      rcases hw1 with rfl | rfl
      · exact Below.refl _ _
      · exact Lib.bytesWorld_below w 5 d
    clear hw1
    go_wp2
    go_ret
    exact bytePost_mk HP.out (by simp; omega) hb
  · have hp := pu_bad (l := d.data.toList) (fun u h => by rw [hq] at h; cases h)
    have C3 := Lib.hid (Any.strconv_ParseUint_10_at8_syntax Tryz.laysPu14 d (by omega) hq (.iface t2 p2) w hv2 (Or.inr ⟨_, _, rfl⟩))
    have HP := Lib.hid (E.out.trans hp); clear hq hp
    go_enter Tryz.func173, Tryz.ntmps173
    go_wp2_with (first
      | (go_at_call 191; refine D1.out.mono ?_; rintro e w' ⟨rfl, rfl⟩)
      | (go_at_call 190; refine D2.out.mono ?_; rintro e w' ⟨rfl, rfl⟩))
    refine C3.out.mono ?_
    rintro e w1 ⟨N, rfl, hN, hN2, hb⟩
    go_wp2
    go_ret
    exact bytePost_mk HP.out rfl hb
  · have hp := pu_bad (l := d.data.toList) (fun u h => by rw [hq] at h; cases h)
    have C3 := Lib.hid (Any.strconv_ParseUint_10_at8_range Tryz.laysPu14 d (by omega) hq (.iface t3 p3) w hv3 (Or.inr ⟨_, _, rfl⟩))
    have HP := Lib.hid (E.out.trans hp); clear hq hp
    go_enter Tryz.func173, Tryz.ntmps173
    go_wp2_with (first
      | (go_at_call 191; refine D1.out.mono ?_; rintro e w' ⟨rfl, rfl⟩)
      | (go_at_call 190; refine D2.out.mono ?_; rintro e w' ⟨rfl, rfl⟩))
    refine C3.out.mono ?_
    rintro e w1 ⟨N, rfl, hN, hN2, hb⟩
    go_wp2
    go_ret
    exact bytePost_mk HP.out rfl hb

def RfPost (w : World) (l : List UInt8) (e : Ending) (w' : World) : Prop := e = .returned (.tuple #[.int .u8 ((rf l).1.toNat : Int), .int .i64 ((rf l).2 : Int)]) ∧ Below w.heap.size w w'
theorem rfPost_mk {w w' : World} {l : List UInt8} {c : UInt8} {n : Nat} {x y : Int} (h : rf l = (c, n)) (hx : x = c.toNat) (hy : y = n) (hb : Below w.heap.size w w') : RfPost w l (.returned (.tuple #[.int .u8 x, .int .i64 y])) w' := by
  unfold RfPost; rw [h]; subst hx hy; exact ⟨rfl, hb⟩
theorem conv_one (c : UInt8) (w : World) : (convert 41 9 (.slice (some ⟨w.heap.size, 0, none⟩) 1 1)).run Tryz.prog (w.alloc (.cells #[.int .u8 (c.toNat : Int)] 5)) = .ok (.string (str [c])) (w.alloc (.cells #[.int .u8 (c.toNat : Int)] 5)) := by
  have h := run_convert_bytes_arg (P := Tryz.prog) (w.alloc (.cells #[.int .u8 (c.toNat : Int)] 5)) 41 5 Tryz.underlying41 Tryz.underlying5 w.heap.size 0 1 1 [(c.toNat : Int)] rfl (fun i hi => by
    have : i = 0 := by omega
    subst this
    simp) 9 Tryz.underlying9
  rw [h]
  simp [strOfNums, str]
theorem ext_toList {a b : ByteArray} (h : a.data.toList = b.data.toList) : a = b := by
  cases a; cases b
  simpa using h

set_option maxRecDepth 100000 in
set_option maxHeartbeats 1000000 in
theorem readForm_any (s : ByteArray) (w : World) (hs : s.size ≤ 1000000000) (hv : Vars w) : Calls Tryz.prog 149 #[.string s] w (RfPost w s.data.toList) := by
  have h4 := hv.2.2.2
  have hsl : s.data.toList.length = s.size := by simp
  obtain ⟨m, hm⟩ : ∃ m, m = min s.size 6 := ⟨_, rfl⟩
  obtain ⟨x, hx⟩ : ∃ x : Int, x = Lib.indexByte (s.data.toList.take m) 59 := ⟨_, rfl⟩
  have hxge : -1 ≤ x := by rw [hx]; exact Lib.indexByte_ge _ _
  have ci : Calls Tryz.prog 172 #[.string (s.extract 0 (min (s.size : Int) 6).toNat), .int .u8 59] w fun e w' => e = .returned (.int .i64 x) ∧ w = w' := by
    rw [show (min (s.size : Int) 6).toNat = m by omega]
    refine (Tryz.strings_IndexByte (s.extract 0 m) 59 w).mono (fun e w' h => ⟨h.1.trans ?_, h.2.symm⟩)
    rw [hx, Lib.extract_data]; rfl
  have hrf : rf s.data.toList = if x < 0 then (0, 0) else if form (nm (s.data.toList.take (x.toNat + 1))) = s.data.toList.take (x.toNat + 1) then (nm (s.data.toList.take (x.toNat + 1)), (s.data.toList.take (x.toNat + 1)).length) else (0, 0) := by
    unfold rf; rw [hsl, ← hm, ← hx]
  have CI := Lib.hid ci
  have HRF := Lib.hid hrf
  have hxlt : ∀ o : Nat, x = o → o < s.size := by
    intro o ho
    have h1 := (Lib.indexByte_some (hx.symm.trans ho)).1
    have h2 := (List.getElem?_eq_some_iff.1 h1).1
    rw [List.length_take] at h2
    omega
  have HLT := Lib.hid hxlt
  have HSL := Lib.hid hsl
  clear hm hx ci hrf hxlt hsl
  by_cases hneg : x < 0
  · have e : rf s.data.toList = (0, 0) := by rw [HRF.out, if_pos hneg]
    have E := Lib.hid e; clear e
    go_enter Tryz.func149, Tryz.ntmps149
    go_wp2_with (go_at_call 172; refine CI.out.mono ?_; rintro e w' ⟨rfl, rfl⟩)
    go_ret2
    exact rfPost_mk E.out rfl rfl (Below.refl _ _)
  · obtain ⟨o, rfl⟩ := Int.eq_ofNat_of_zero_le (show 0 ≤ x by omega)
    have ho := HLT.out o rfl
    obtain ⟨t, ht⟩ : ∃ t, t = s.extract 0 (o + 1) := ⟨_, rfl⟩
    have htl : t.data.toList = s.data.toList.take (o + 1) := by rw [ht, Lib.extract_data]; simp
    have hts : t.size = o + 1 := by rw [Lib.size_eq, htl, List.length_take, HSL.out]; omega
    obtain ⟨c, hc⟩ : ∃ c, c = nm t.data.toList := ⟨_, rfl⟩
    have cn := named_any t w (by omega) hv
    rw [← hc] at cn
    have CN := Lib.hid cn
    have HT := Lib.hid ht
    have e : rf s.data.toList = if form c = t.data.toList then (c, t.size) else (0, 0) := by
      rw [HRF.out, if_neg hneg, Int.toNat_natCast, ← htl, ← hc, ← Lib.size_eq]
    have E := Lib.hid e
    have HTS := Lib.hid hts
    clear e cn ht htl hc hts
    have hcl := c.toNat_lt
    go_enter Tryz.func149, Tryz.ntmps149
    go_wp2_with (go_at_call 172; refine CI.out.mono ?_; rintro e w' ⟨rfl, rfl⟩)
    rw [← HT.out]
    refine CN.out.mono ?_
    rintro e w1 ⟨rfl, hb1⟩
    have hcv := conv_one c w1
    go_wp2_with fail
    obtain ⟨w2, hw2⟩ : ∃ w2, w2 = w1.alloc (.cells #[.int .u8 (c.toNat : Int)] 5) := ⟨_, rfl⟩
    rw [← hw2]
    have hb2 : Below w1.heap.size w1 w2 := by rw [hw2]; exact (Below.refl _ _).alloc (Nat.le_refl _) _
    clear hw2 hcv
    have hb02 := hb1.trans (hb2.mono hb1.size)
    refine (formsOf_any (str [c]) w2).mono ?_
    rintro e w3 ⟨rfl, hw3⟩
    have hF : w3.cell? ⟨w2.heap.size, 0, none⟩ = some (.string (str [c])) := by rw [← hw3]; simp
    have hb3 : Below w2.heap.size w2 w3 := by rw [← hw3]; exact (Below.refl _ _).alloc (Nat.le_refl _) _
    clear hw3
    have hb03 := hb02.trans (hb3.mono hb02.size)
    have CF := Lib.hid (form_any (str [c]) 0 w2.heap.size c w3 (by rw [str_size]; simp) rfl (by rw [str_size]; simp) hF (hv.below h4 hb03))
    clear hF hb3 hb2
    go_wp2_with fail
    refine CF.out.mono ?_
    rintro e w4 ⟨rfl, hb4⟩
    have hb04 := hb03.trans (hb4.mono hb03.size)
    by_cases hq : form c = t.data.toList
    · have e1 : rf s.data.toList = (c, t.size) := by rw [E.out, if_pos hq]
      have hq' : str (form c) = t := ext_toList (by rw [str_data, hq])
      rw [hq']
      clear hq hq'
      go_wp2
      go_ret2
      exact rfPost_mk e1 rfl rfl hb04
    · have e1 : rf s.data.toList = (0, 0) := by rw [E.out, if_neg hq]
      have hq1 : ((str (form c)).toList == t.toList) = false := by rw [Lib.toList_data, Lib.toList_data, str_data]; simpa using hq
      have hq2 : ((str (form c)).toList != t.toList) = true := by rw [Lib.toList_data, Lib.toList_data, str_data]; simpa using hq
      clear hq
      have E1 := Lib.hid e1; clear e1
      go_wp2
      go_ret2
      exact rfPost_mk E1.out rfl rfl hb04
end Go.Proofs.YtjnhcoflmechmaaGreatDoor.E

namespace Go.Proofs.YtjnhcoflmechmaaGreatDoor.E
open Go.RowKit
set_option linter.unusedVariables false

theorem is_below {B b : Nat} {bs : List Value} {w w' : World} (h : Lib.IsBuilder 68 5 B b bs w) (hb : Below w.heap.size w w') : Lib.IsBuilder 68 5 B b bs w' := h.imp (fun h => at_below h hb) (fun h => at_below h hb)

def URel (s : ByteArray) (w : World) (F : Nat) (i : Value) (wr : World) : Prop :=
  ∃ (p f : Nat) (acc : List UInt8), p ≤ s.size ∧ i = .int .i64 p ∧ s.size ≤ f + p ∧ un f (s.data.toList.drop p) p acc = unesc s.data.toList ∧ acc.length ≤ p ∧
    Lib.IsBuilder 68 5 w.heap.size w.heap.size (Lib.byteCells acc) wr ∧ wr.heap[F]? = some (.cells #[.string s] 9 (0, 0)) ∧ Below w.heap.size w wr
def UPost (w : World) (l : List UInt8) (e : Ending) (w' : World) : Prop := e = .returned (.tuple #[.string (str (unesc l).1), .int .i64 ((unesc l).2.1 : Int), .int .i64 (unesc l).2.2]) ∧ Below w.heap.size w w'
theorem uPost_mk {w w' : World} {l x : List UInt8} {p : Nat} {n e : Int} {y : ByteArray} (h : unesc l = (x, p, e)) (hy : y = str x) (hn : n = p) (hb : Below w.heap.size w w') : UPost w l (.returned (.tuple #[.string y, .int .i64 n, .int .i64 e])) w' := by
  unfold UPost; rw [h]; subst hy hn; exact ⟨rfl, hb⟩
theorem drop_cons (s : ByteArray) (p : Nat) (hp : p < s.size) {c : UInt8} (hc : s[p] = c) : s.data.toList.drop p = c :: s.data.toList.drop (p + 1) := by
  have hp' : p < s.data.toList.length := by simpa using hp
  rw [List.drop_eq_getElem_cons hp']
  have : s.data.toList[p] = c := by rw [← hc]; simp; rfl
  rw [this]

set_option maxRecDepth 100000 in
set_option maxHeartbeats 4000000 in
theorem unescape_any (s : ByteArray) (w : World) (hs : s.size ≤ 1000000000) (hv : Vars w) : Calls Tryz.prog 119 #[.string s] w (UPost w s.data.toList) := by
  have h4 := hv.2.2.2
  have hsl : s.data.toList.length = s.size := by simp
  have HSL := Lib.hid hsl; clear hsl
  go_enter Tryz.func119, Tryz.ntmps119
  go_wp2_with fail
  obtain ⟨w1, hw1⟩ : ∃ w1, w1 = w.alloc (.cells #[.pointer none, .slice none 0 0] 68) := ⟨_, rfl⟩
  rw [← hw1]
  have his1 : Lib.IsBuilder 68 5 w.heap.size w.heap.size [] w1 := by rw [hw1]; exact Lib.fresh_isBuilder 68 5 w
  have hb1 : Below w.heap.size w w1 := by rw [hw1]; exact (Below.refl _ _).alloc (Nat.le_refl _) _
  have hs1 : w.heap.size < w1.heap.size := by rw [hw1]; simp
  clear hw1
  refine (formsOf_any s w1).mono ?_
  rintro e w4 ⟨rfl, hw4⟩
  have hF4 : w4.heap[w1.heap.size]? = some (.cells #[.string s] 9 (0, 0)) := by rw [← hw4]; exact heap_alloc_new w1 _
  have hb4 : Below w1.heap.size w1 w4 := by rw [← hw4]; exact (Below.refl _ _).alloc (Nat.le_refl _) _
  have hFb : w1.heap.size ≠ w.heap.size := by omega
  have his4 := is_below his1 hb4
  have hb14 := hb1.trans (hb4.mono hb1.size)
  clear hw4 his1 hb4 hs1
  go_wp2
  go_loopw [7] (URel s w w1.heap.size) (fun i _ => s.size - (intOf i).toNat)
  case atStart => exact ⟨0, s.size, [], by omega, rfl, by omega, by rw [unesc, HSL.out]; rfl, by simp, by simpa [Lib.byteCells] using his4, hF4, hb14⟩
  case round =>
    obtain ⟨p, f, acc, hp, rfl, hf, hun, hacc, his, hF, hbel⟩ := hrel
    clear his4 hF4 hb14
    have HUN := Lib.hid hun; clear hun
    have hbl := Lib.byteCells_length acc
    have hbl' : (Lib.byteCells acc).length ≤ 1000000000 := by omega
    clear hbl
    by_cases hlt : p < s.size
    · obtain ⟨c, hc⟩ : ∃ c, s[p] = c := ⟨_, rfl⟩
      have hdc := drop_cons s p hlt hc
      have HD := Lib.hid hdc; clear hdc
      have hcl := c.toNat_lt
      obtain ⟨f', rfl⟩ : ∃ g, f = g + 1 := ⟨f - 1, by omega⟩
      have hne : s.data.toList.drop p ≠ [] := by rw [HD.out]; simp
      have HNE := Lib.hid hne; clear hne
      have hdl : (s.data.toList.drop p).length = s.size - p := by rw [List.length_drop, HSL.out]
      have HDL := Lib.hid hdl; clear hdl
      have HIS := Lib.hid his; clear his
      by_cases hamp : c = 38
      · subst hamp
        obtain ⟨t, ht⟩ : ∃ t, t = s.extract p s.size := ⟨_, rfl⟩
        have htl : t.data.toList = s.data.toList.drop p := by
          rw [ht, Lib.extract_data, List.take_of_length_le (by rw [HDL.out]; omega)]
        have hts : t.size ≤ 1000000000 := by rw [Lib.size_eq, htl, HDL.out]; omega
        have cr := readForm_any t wr hts (hv.below h4 hbel)
        rw [htl, HD.out] at cr
        have CR := Lib.hid cr
        have HT := Lib.hid ht
        clear cr ht htl hts
        have ho := oneO_amp (r := s.data.toList.drop (p + 1))
        by_cases h0 : (rf (38 :: s.data.toList.drop (p + 1))).2 = 0
        · rw [if_pos h0, ← HD.out] at ho
          have hfin := (un_none HNE.out (by rw [HDL.out]; omega) ho).symm.trans HUN.out
          have HFIN := Lib.hid hfin
          have CR2 : Calls Tryz.prog 149 #[.string t] wr fun e w' => ∃ x : Int, e = .returned (.tuple #[.int .u8 x, .int .i64 0]) ∧ Below wr.heap.size wr w' := by
            refine CR.out.mono ?_
            rintro e w' ⟨rfl, hb⟩
            rw [h0]
            exact ⟨_, rfl, hb⟩
          have C2 := Lib.hid CR2
          clear ho h0 hfin CR CR2
          go_wp2_with fail
          rw [← HT.out]
          refine C2.out.mono ?_
          rintro e w5 ⟨x, rfl, hb5⟩
          go_wp2
          go_ret3
          exact uPost_mk HFIN.out.symm rfl rfl (hbel.trans (hb5.mono hbel.size))
        · rw [if_neg h0] at ho
          obtain ⟨hl1, hl2⟩ := rf_len h0
          obtain ⟨d, hd⟩ : ∃ d, d = (rf (38 :: s.data.toList.drop (p + 1))).1 := ⟨_, rfl⟩
          obtain ⟨n, hn⟩ : ∃ n, n = (rf (38 :: s.data.toList.drop (p + 1))).2 := ⟨_, rfl⟩
          rw [← hd] at ho hl1 hl2
          rw [← hn] at hl1 h0
          have ho' : oneO (s.data.toList.drop p) = some d := by rw [HD.out]; exact ho
          have hst := (un_some (f := f') (p := p) (acc := acc) HNE.out ho').symm.trans HUN.out
          rw [← hl1, List.drop_drop] at hst
          have hnl : p + n ≤ s.size := by
            have := hl2.length_le
            rw [← HD.out, HDL.out] at this
            omega
          have CR2 : Calls Tryz.prog 149 #[.string t] wr fun e w' => e = .returned (.tuple #[.int .u8 (d.toNat : Int), .int .i64 (n : Int)]) ∧ Below wr.heap.size wr w' := by
            refine CR.out.mono ?_
            rintro e w' ⟨rfl, hb⟩
            rw [← hd, ← hn]
            exact ⟨rfl, hb⟩
          have C2 := Lib.hid CR2
          have HST := Lib.hid hst
          have hn0 : ((n : Int) == 0) = false := by simp; omega
          have hn1 : (n == 0) = false := by simp; omega
          have hdl := d.toNat_lt
          have hnp : 1 ≤ n := by omega
          clear ho ho' h0 CR CR2 hl1 hl2 hd hn hst
          go_wp2_with fail
          rw [← HT.out]
          refine C2.out.mono ?_
          rintro e w5 ⟨rfl, hb5⟩
          go_wp2_with fail
          refine (writeByte_any w.heap.size w.heap.size _ (d.toNat : Int) w5 (is_below HIS.out hb5) (by omega) (Nat.le_trans hbel.size hb5.size)).mono ?_
          rintro e w6 ⟨rfl, hat6, hb6, hst6⟩
          go_wp2
          refine ⟨⟨p + n, f', acc ++ [d], by omega, by go_num, by omega, HST.out, by simp; omega, .inr (by rw [Lib.byteCells_append]; exact hat6), hst6 _ _ _ _ hFb (by decide) (heap_below hF hb5), (hbel.trans (hb5.mono hbel.size)).trans hb6⟩, by simp [intOf]; omega⟩
      · have hc38 : ((c.toNat : Int) == 38) = false := by have := nat_ne hamp; simp at this ⊢; omega
        have ho := oneO_plain (r := s.data.toList.drop (p + 1)) hamp
        rw [← HD.out] at ho
        have hdrw : Below w.heap.size w wr.drew := hbel.drew
        have CF := Lib.hid (form_any s p w1.heap.size c wr.drew hlt hc (by omega) (by show wr.cell? _ = _; rw [Lib.cell_of_heap hF]; rfl) (hv.below h4 hdrw))
        have HO := Lib.hid (one_list s p hlt)
        clear hamp
        have hadd : IntKind.i64.wrap ((p : Int) + 1) = (p : Int) + 1 := IntWalk.i64_in _ (by omega)
        have htn : ((p : Int) + 1).toNat = p + 1 := by omega
        have a1 : (0 : Int) ≤ (p : Int) + 1 := by omega
        have a2 : (p : Int) + 1 ≤ (s.size : Int) := by omega
        have a3 : (p : Int) ≤ (p : Int) + 1 := by omega
        go_wp2_with fail
        refine wp_region_any (by kernel_rfl) ?_
        try (change wpAny _ _ _ _ _ _ _ (World.drew _))
        refine wpAny_take (i := 0) (oi := ⟨some 28, _, _, _, _, _⟩) (v := ?_) rfl (by kernel_rfl) (by kernel_rfl) (by kernel_rfl) (fun _ _ _ h => h) (Or.inl ⟨by rfl, ?_⟩) ?_
        rotate_left
        · (intro w; go_simp; try with_reducible rfl)
        try simp only [Act.put, List.setIfInBounds_toArray, List.set_cons_zero, List.set_cons_succ]
        refine wpAny_take (i := 1) (oi := ⟨some 29, _, _, _, _, _⟩) (v := ?_) rfl (by kernel_rfl) (by kernel_rfl) (by kernel_rfl) (fun _ _ _ h => h) (Or.inl ⟨by rfl, ?_⟩) ?_
        rotate_left
        · (intro w; go_simp; try with_reducible rfl)
        try simp only [Act.put, List.setIfInBounds_toArray, List.set_cons_zero, List.set_cons_succ]
        refine wpAny_take (i := 3) (oi := ⟨some 31, _, _, _, _, _⟩) (v := ?_) rfl (by kernel_rfl) (by kernel_rfl) (by kernel_rfl) (fun _ _ _ h => h) (Or.inl ⟨by rfl, ?_⟩) ?_
        rotate_left
        · (intro w; go_simp; try with_reducible rfl)
        try simp only [Act.put, List.setIfInBounds_toArray, List.set_cons_zero, List.set_cons_succ]
        refine wpAny_take (i := 4) (oi := ⟨some 32, _, _, _, _, _⟩) (v := ?_) rfl (by kernel_rfl) (by kernel_rfl) (by kernel_rfl) (fun _ _ _ h => h) (Or.inl ⟨by rfl, ?_⟩) ?_
        rotate_left
        · (intro w; go_simp; try with_reducible rfl)
        try simp only [Act.put, List.setIfInBounds_toArray, List.set_cons_zero, List.set_cons_succ]
        refine wpAny_take (i := 5) (oi := ⟨some 33, _, _, _, _, _⟩) (v := ?_) rfl (by kernel_rfl) (by kernel_rfl) (by kernel_rfl) (fun _ _ _ h => h) (Or.inl ⟨by rfl, ?_⟩) ?_
        rotate_left
        · (intro w; go_simp; try with_reducible rfl)
        try simp only [Act.put, List.setIfInBounds_toArray, List.set_cons_zero, List.set_cons_succ]
        refine wpAny_take (i := 6) (oi := ⟨some 34, _, _, _, _, _⟩) (v := ?_) rfl (by kernel_rfl) (by kernel_rfl) (by kernel_rfl) (fun _ _ _ h => h) (Or.inl ⟨by rfl, ?_⟩) ?_
        rotate_left
        · (intro w; go_simp; try with_reducible rfl)
        try simp only [Act.put, List.setIfInBounds_toArray, List.set_cons_zero, List.set_cons_succ]
        refine wpAny_take (i := 7) (oi := ⟨some 35, _, _, _, _, _⟩) (v := ?_) rfl (by kernel_rfl) (by kernel_rfl) (by kernel_rfl) (fun _ _ _ h => h) (Or.inl ⟨by rfl, ?_⟩) ?_
        rotate_left
        · (intro w; go_simp; try with_reducible rfl)
        try simp only [Act.put, List.setIfInBounds_toArray, List.set_cons_zero, List.set_cons_succ]
        refine wpAny_ready (rs := [2]) (by kernel_rfl) (by simp) ?_
        refine AllReady.cons (o := ⟨some 30, _, _, _, _, _⟩) rfl (fun K hK => ?_) AllReady.nil
        go_simp
        refine CF.out.mono ?_
        rintro e w5 ⟨rfl, hb5⟩
        refine hK _ _ ?_
        clear hK K
        try simp only [Act.put, List.setIfInBounds_toArray, List.set_cons_zero, List.set_cons_succ]
        refine wpAny_take (i := 8) (oi := ⟨some 36, _, _, _, _, _⟩) (v := ?_) rfl (by kernel_rfl) (by kernel_rfl) (by kernel_rfl) (fun _ _ _ h => h) (Or.inl ⟨by rfl, ?_⟩) ?_
        rotate_left
        · (intro w; go_simp; try with_reducible rfl)
        try simp only [Act.put, List.setIfInBounds_toArray, List.set_cons_zero, List.set_cons_succ]
        refine wpAny_done (by kernel_rfl) ?_ _
        have hb05 : Below wr.heap.size wr w5 := ((Below.refl wr.heap.size wr).drew).trans hb5
        clear hadd htn a1 a2 a3 hb5 hdrw CF
        by_cases hfc : form c = [c]
        · rw [if_pos hfc] at ho
          have hst := (un_some (f := f') (p := p) (acc := acc) HNE.out ho).symm.trans HUN.out
          rw [hfc, List.drop_drop] at hst
          have HST := Lib.hid hst
          have heq : ((str (form c)).toList == (s.extract p (p + 1)).toList) = true := by
            rw [Lib.toList_data, Lib.toList_data, str_data, HO.out, hc, hfc]; simp
          rw [heq]
          clear ho hst hc hfc heq
          go_wp2_with fail
          refine (writeByte_any w.heap.size w.heap.size _ (c.toNat : Int) w5 (is_below HIS.out hb05) (by omega) (Nat.le_trans hbel.size hb05.size)).mono ?_
          rintro e w6 ⟨rfl, hat6, hb6, hst6⟩
          go_wp2
          refine ⟨⟨p + 1, f', acc ++ [c], by omega, by go_num, by omega, HST.out, by simp; omega, .inr (by rw [Lib.byteCells_append]; exact hat6), hst6 _ _ _ _ hFb (by decide) (heap_below hF hb05), (hbel.trans (hb05.mono hbel.size)).trans hb6⟩, by simp [intOf]; omega⟩
        · rw [if_neg hfc] at ho
          have hfin := (un_none HNE.out (by rw [HDL.out]; omega) ho).symm.trans HUN.out
          have HFIN := Lib.hid hfin
          have heq : ((str (form c)).toList == (s.extract p (p + 1)).toList) = false := by
            rw [Lib.toList_data, Lib.toList_data, str_data, HO.out, hc]; simpa using hfc
          rw [heq]
          clear ho hfin hc hfc heq
          go_wp2_with fail
          go_ret3
          exact uPost_mk HFIN.out.symm rfl rfl (hbel.trans (hb05.mono hbel.size))
    · obtain rfl : p = s.size := by omega
      have hd0 : s.data.toList.drop s.size = [] := List.drop_eq_nil_of_le (by rw [HSL.out]; omega)
      have hfin : unesc s.data.toList = (acc, 0, 0) := by rw [← HUN.out, hd0, un_nil]
      have HFIN := Lib.hid hfin
      clear hd0 hfin
      go_wp2_with fail
      refine (Tryz.Builder_String_any w.heap.size w.heap.size acc wr his hbel.size).mono ?_
      rintro e w7 ⟨rfl, hb7⟩
      go_wp2
      go_ret3
      exact uPost_mk HFIN.out rfl rfl (hbel.trans hb7)
end Go.Proofs.YtjnhcoflmechmaaGreatDoor.E
