/-
  tendrilref02.Decimal of a byte, and tendrilref03's Form, starts, one and Escape: what they answer. | tendrilref03.Unescape: what it answers. | tendrilref03.Span.
-/
import Derived.Test.YtjnhcoflmechmaaGreatDoorEUnescape
import Derived.Test.YtjnhcoflmechmaaGreatDoorEEscape
import Derived.Test.YtjnhcoflmechmaaGreatDoorESpan
namespace Go.Proofs.YtjnhcoflmechmaaGreatDoor.E
open Go.RowKit
set_option linter.unusedVariables false

def decD (u : Nat) : List UInt8 := if u = 0 then [] else Lib.decDigits u
theorem decD_step {u : Nat} (h : u ≠ 0) : decD u = decD (u / 10) ++ [UInt8.ofNat (48 + u % 10)] := by
  unfold decD
  rw [if_neg h, Lib.decDigits]
  split
  · rename_i h1
    rw [if_pos (by omega), Nat.mod_eq_of_lt h1]; rfl
  · rename_i h1
    rw [if_neg (by omega)]
theorem decD_dg {u : Nat} (h : u ≠ 0) (h1 : u < 1000) : decD u = dg u := by unfold decD; rw [if_neg h, dg_eq u h1]

def DRel (w : World) (full : List UInt8) (n s : Value) (wr : World) : Prop :=
  ∃ (u : Nat) (x : ByteArray), u ≤ 255 ∧ n = .int .i64 u ∧ s = .string x ∧ decD u ++ x.data.toList = full ∧ Below w.heap.size w wr

theorem conv_dig (u : Nat) (w : World) : (convert 41 9 (.slice (some ⟨w.heap.size, 0, none⟩) 1 1)).run Tryz.prog (w.alloc (.cells #[.int .u8 (48 + (u : Int) % 10)] 5)) = .ok (.string (str [UInt8.ofNat (48 + u % 10)])) (w.alloc (.cells #[.int .u8 (48 + (u : Int) % 10)] 5)) := by
  have h := run_convert_bytes_arg (P := Tryz.prog) (w.alloc (.cells #[.int .u8 (48 + (u : Int) % 10)] 5)) 41 5 Tryz.underlying41 Tryz.underlying5 w.heap.size 0 1 1 [48 + (u : Int) % 10] rfl (fun i hi => by
    have : i = 0 := by omega
    subst this
    simp) 9 Tryz.underlying9
  rw [h]
  have : (48 + (u : Int) % 10).toNat = 48 + u % 10 := by omega
  simp [strOfNums, str, this]

set_option maxRecDepth 900000 in
set_option maxRecDepth 100000 in
set_option maxHeartbeats 1000000 in
theorem refDecimal_any (c : UInt8) (w : World) : Calls Tryz.prog 50 #[.int .i64 (c.toNat : Int)] w (StrPost w (dg c.toNat)) := by
  have hcl := c.toNat_lt
  obtain ⟨n, hn⟩ : ∃ n, n = c.toNat := ⟨_, rfl⟩
  rw [← hn]
  have hn2 : n ≤ 255 := by omega
  clear hn hcl
  by_cases h0 : n = 0
  · subst h0
    go_enter Tryz.func50, Tryz.ntmps50
    go_wp2
    go_ret
    exact ⟨ret_str (by decide), Below.refl _ _⟩
  · have h0' : ((n : Int) == 0) = false := by simp; omega
    have hneg : decide ((n : Int) < 0) = false := by simp
    have hd := decD_dg h0 (by omega)
    have HD := Lib.hid hd; clear hd
    have hl3 := dg_len n
    go_enter Tryz.func50, Tryz.ntmps50
    go_wp2
    go_loopw [0, 3] (DRel w (decD n)) (fun n _ _ => (intOf n).natAbs)
    case atStart => exact ⟨n, ⟨#[]⟩, by omega, by go_num, rfl, by simp, Below.refl _ _⟩
    case round =>
      obtain ⟨u, x, hu, rfl, rfl, hx, hbel⟩ := hrel
      have hxl : x.size ≤ 3 := by
        have h1 := congrArg List.length hx
        rw [List.length_append, HD.out, ← Lib.size_eq] at h1
        omega
      have HX := Lib.hid hx; clear hx
      have hsz := hbel.size
      by_cases hu0 : u = 0
      · subst hu0
        go_wp2
        go_ret
        refine ⟨ret_str ?_, hbel⟩
        rw [str_data, ← HD.out, ← HX.out]; simp [decD]
      · have hu1 : ((u : Int) != 0) = true := by simp; omega
        have HST := Lib.hid (decD_step hu0)
        have hcv := conv_dig u wr
        obtain ⟨y, hy⟩ : ∃ y : ByteArray, y = str [UInt8.ofNat (48 + u % 10)] := ⟨_, rfl⟩
        have hss : y.size = 1 := by rw [hy, str_size]; rfl
        rw [← hy] at hcv
        have HY := Lib.hid hy; clear hy
        have hcat : ¬ 9223372036854775807 < 1 + x.size := by omega
        clear hl3 hn2 h0 h0' hneg
        go_wp2_with fail
        refine ⟨⟨u / 10, y ++ x, by omega, by go_num, rfl, ?_, hbel.alloc hsz _⟩, by simp [intOf]; omega⟩
        rw [app_list, HY.out, str_data, ← List.append_assoc, ← HST.out, HX.out]

set_option maxRecDepth 900000 in
set_option maxRecDepth 100000 in
set_option maxHeartbeats 1000000 in
theorem refForm_any (c : UInt8) (w : World) : Calls Tryz.prog 66 #[.int .u8 (c.toNat : Int)] w (StrPost w (form c)) := by
  have hcl := c.toNat_lt
  by_cases h1 : c = 38
  · subst h1
    go_enter Tryz.func66, Tryz.ntmps66
    go_wp2
    go_ret
    exact ⟨ret_str (by decide), Below.refl _ _⟩
  by_cases h2 : c = 60
  · subst h2
    go_enter Tryz.func66, Tryz.ntmps66
    go_wp2
    go_ret
    exact ⟨ret_str (by decide), Below.refl _ _⟩
  by_cases h3 : c = 62
  · subst h3
    go_enter Tryz.func66, Tryz.ntmps66
    go_wp2
    go_ret
    exact ⟨ret_str (by decide), Below.refl _ _⟩
  by_cases h4 : c = 34
  · subst h4
    go_enter Tryz.func66, Tryz.ntmps66
    go_wp2
    go_ret
    exact ⟨ret_str (by decide), Below.refl _ _⟩
  have g1 : ((c.toNat : Int) == 38) = false := by have := nat_ne h1; simp at this ⊢; omega
  have g2 : ((c.toNat : Int) == 60) = false := by have := nat_ne h2; simp at this ⊢; omega
  have g3 : ((c.toNat : Int) == 62) = false := by have := nat_ne h3; simp at this ⊢; omega
  have g4 : ((c.toNat : Int) == 34) = false := by have := nat_ne h4; simp at this ⊢; omega
  by_cases h5 : c < 32 ∨ c = 127
  · have HF := Lib.hid (form_num h1 h2 h3 h4 h5)
    have hl := dg_len c.toNat
    have CI := Lib.hid (refDecimal_any c w)
    have hsz := str_size (dg c.toNat)
    have q1 : ¬ 9223372036854775807 < 2 + (str (dg c.toNat)).size := by omega
    have q2 : ¬ 9223372036854775807 < 2 + (str (dg c.toNat)).size + 1 := by omega
    clear hsz
    by_cases h6 : c < 32
    · have h6' : decide ((c.toNat : Int) < 32) = true := by have : c.toNat < 32 := h6; simp; omega
      clear h1 h2 h3 h4 h5 h6
      go_enter Tryz.func66, Tryz.ntmps66
      go_wp2_with (go_at_call 50; refine CI.out.mono ?_; rintro e w' ⟨rfl, hb⟩)
      go_ret
      exact ⟨ret_str (by rw [app_list, app_list, str_data, HF.out, str_data]), hb⟩
    · have h6' : decide ((c.toNat : Int) < 32) = false := by have : ¬ c.toNat < 32 := h6; simp; omega
      have h7 : ((c.toNat : Int) == 127) = true := by rw [h5.resolve_left h6]; rfl
      clear h1 h2 h3 h4 h5 h6
      go_enter Tryz.func66, Tryz.ntmps66
      go_wp2_with (go_at_call 50; refine CI.out.mono ?_; rintro e w' ⟨rfl, hb⟩)
      go_ret
      exact ⟨ret_str (by rw [app_list, app_list, str_data, HF.out, str_data]), hb⟩
  · have h6 : ¬ c < 32 := fun h => h5 (.inl h)
    have h7 : c ≠ 127 := fun h => h5 (.inr h)
    have h6' : decide ((c.toNat : Int) < 32) = false := by have : ¬ c.toNat < 32 := h6; simp; omega
    have h7' : ((c.toNat : Int) == 127) = false := by have := nat_ne h7; simp at this ⊢; omega
    have HF := Lib.hid (form_plain h1 h2 h3 h4 h6 h7)
    have hcv := conv_one c w
    clear h1 h2 h3 h4 h5 h6 h7
    go_enter Tryz.func66, Tryz.ntmps66
    go_wp2
    go_ret
    exact ⟨ret_str (by rw [HF.out]), (Below.refl _ _).alloc (Nat.le_refl _) _⟩

set_option maxRecDepth 100000 in
theorem starts_yes (s t : ByteArray) (w : World) (h : t.data.toList <+: s.data.toList) : Calls Tryz.prog 160 #[.string s, .string t] w fun e w' => e = .returned (.bool true) ∧ w = w' := by
  have hl : t.size ≤ s.size := by rw [Lib.size_eq, Lib.size_eq]; exact h.length_le
  have heq : ((s.extract 0 t.size).toList == t.toList) = true := by
    rw [Lib.extract_toList, Lib.toList_data, Lib.size_eq]
    obtain ⟨r, hr⟩ := h
    rw [← hr]; simp
  have hd : decide (t.size ≤ s.size) = true := by simpa using hl
  go_enter Tryz.func160, Tryz.ntmps160
  go_wp2
  go_ret
  exact ⟨rfl, rfl⟩
set_option maxRecDepth 100000 in
theorem starts_no (s t : ByteArray) (w : World) (h : ¬ t.data.toList <+: s.data.toList) : Calls Tryz.prog 160 #[.string s, .string t] w fun e w' => e = .returned (.bool false) ∧ w = w' := by
  by_cases hl : t.size ≤ s.size
  · have heq : ((s.extract 0 t.size).toList == t.toList) = false := by
      rw [Lib.extract_toList, Lib.toList_data, Lib.size_eq]
      simp
      intro hh
      exact h (hh ▸ List.take_prefix _ _)
    have hd : decide (t.size ≤ s.size) = true := by simpa using hl
    go_enter Tryz.func160, Tryz.ntmps160
    go_wp2
    go_ret
    exact ⟨rfl, rfl⟩
  · have hd : decide (t.size ≤ s.size) = false := by simpa using hl
    go_enter Tryz.func160, Tryz.ntmps160
    go_wp2
    go_ret
    exact ⟨rfl, rfl⟩

/-- The byte whose form a text begins with; -1 if there is none. -/
def oneI (l : List UInt8) : Int := match oneO l with | some c => (c.toNat : Int) | none => -1
theorem oneI_some {l : List UInt8} {c : UInt8} (h : oneO l = some c) : oneI l = c.toNat := by unfold oneI; rw [h]
theorem oneI_none {l : List UInt8} (h : oneO l = none) : oneI l = -1 := by unfold oneI; rw [h]
def OneRel (l : List UInt8) (w : World) (i : Value) (wr : World) : Prop :=
  ∃ k : Nat, k ≤ 256 ∧ i = .int .i64 k ∧ (∀ j : Nat, j < k → ¬ form (UInt8.ofNat j) <+: l) ∧ Below w.heap.size w wr

set_option maxRecDepth 900000 in
set_option maxRecDepth 100000 in
set_option maxHeartbeats 1000000 in
theorem one_any (s : ByteArray) (w : World) : Calls Tryz.prog 139 #[.string s] w (IntPost w (oneI s.data.toList)) := by
  go_enter Tryz.func139, Tryz.ntmps139
  go_wp2
  go_loopw [3] (OneRel s.data.toList w) (fun i _ => 256 - (intOf i).toNat)
  case atStart => exact ⟨0, by omega, rfl, fun j hj => by omega, Below.refl _ _⟩
  case round =>
    obtain ⟨k, hk, rfl, hno, hbel⟩ := hrel
    have HNO := Lib.hid hno; clear hno
    by_cases hlt : k < 256
    · obtain ⟨c, hc⟩ : ∃ c, c = UInt8.ofNat k := ⟨_, rfl⟩
      have hcn : c.toNat = k := by rw [hc]; simp; omega
      have cf := refForm_any c wr
      rw [hcn] at cf
      have CF := Lib.hid cf
      have HC := Lib.hid hc
      have HCN := Lib.hid hcn
      clear cf hc hcn
      by_cases hpre : form c <+: s.data.toList
      · have e : oneI s.data.toList = k := by rw [oneI_some (oneO_some hpre), HCN.out]
        have E := Lib.hid e
        have hpre' : (str (form c)).data.toList <+: s.data.toList := hpre
        have HP := Lib.hid hpre'
        clear hpre hpre' e
        go_wp2_with fail
        refine CF.out.mono ?_
        rintro e w1 ⟨rfl, hb1⟩
        go_wp2_with fail
        refine (starts_yes s (str (form c)) w1 HP.out).mono ?_
        rintro e w2 ⟨rfl, rfl⟩
        go_wp2
        go_ret
        exact ⟨ret_int E.out.symm, hbel.trans (hb1.mono hbel.size)⟩
      · have hpre' : ¬ (str (form c)).data.toList <+: s.data.toList := hpre
        have HP := Lib.hid hpre'
        clear hpre'
        have HPR := Lib.hid hpre; clear hpre
        go_wp2_with fail
        refine CF.out.mono ?_
        rintro e w1 ⟨rfl, hb1⟩
        go_wp2_with fail
        refine (starts_no s (str (form c)) w1 HP.out).mono ?_
        rintro e w2 ⟨rfl, rfl⟩
        go_wp2
        refine ⟨⟨k + 1, by omega, by go_num, fun j hj => ?_, hbel.trans (hb1.mono hbel.size)⟩, by simp [intOf]; omega⟩
        rcases Nat.lt_or_ge j k with h | h
        · exact HNO.out j h
        · obtain rfl : j = k := by omega
          rw [← HC.out]; exact HPR.out
    · obtain rfl : k = 256 := by omega
      have e : oneI s.data.toList = -1 := oneI_none (oneO_none (fun c hc => by
        have := HNO.out c.toNat c.toNat_lt
        simp at this
        exact this hc))
      have E := Lib.hid e; clear e
      go_wp2
      go_ret
      exact ⟨ret_int E.out.symm, hbel⟩

def REscRel (s : ByteArray) (w : World) (o i : Value) (wr : World) : Prop :=
  ∃ (k : Nat) (x : ByteArray), k ≤ s.size ∧ i = .int .i64 k ∧ o = .string x ∧ x.data.toList = escL (s.data.toList.take k) ∧ Below w.heap.size w wr

set_option maxRecDepth 100000 in
set_option maxHeartbeats 1000000 in
theorem refEscape_any (s : ByteArray) (w : World) (hs : s.size ≤ 900000) : Calls Tryz.prog 40 #[.string s] w (StrPost w (escL s.data.toList)) := by
  go_enter Tryz.func40, Tryz.ntmps40
  go_wp2
  go_loopw [3, 7] (REscRel s w) (fun _ i _ => s.size - (intOf i).toNat)
  case atStart => exact ⟨0, ⟨#[]⟩, by omega, rfl, rfl, by simp [escL], Below.refl _ _⟩
  case round =>
    obtain ⟨k, x, hk, rfl, rfl, hx, hbel⟩ := hrel
    have hel := escL_length (s.data.toList.take k)
    rw [take_len s k hk, ← hx, ← Lib.size_eq] at hel
    have HX := Lib.hid hx; clear hx
    by_cases hlt : k < s.size
    · obtain ⟨c, hc⟩ : ∃ c, s[k] = c := ⟨_, rfl⟩
      have HT := Lib.hid (take_esc s k hlt hc)
      have hfp := form_pos c
      have hcl := c.toNat_lt
      have CF := Lib.hid (refForm_any c wr)
      have HSS := Lib.hid (str_size (form c))
      have hfs : (str (form c)).size ≤ 6 := by rw [HSS.out]; exact hfp.2
      have q1 : ¬ 9223372036854775807 < x.size + (str (form c)).size := by omega
      go_wp2_with (go_at_call 66; refine CF.out.mono ?_; rintro e w1 ⟨rfl, hb1⟩)
      refine ⟨⟨k + 1, x ++ str (form c), by omega, by go_num, rfl, ?_, hbel.trans (hb1.mono hbel.size)⟩, by simp [intOf]; omega⟩
      rw [app_list, HX.out, HT.out, str_data]
    · obtain rfl : k = s.size := by omega
      have he : s.data.toList.take s.size = s.data.toList := List.take_of_length_le (by simp)
      rw [he] at HX
      clear he
      go_wp2
      go_ret
      exact ⟨ret_str (by rw [HX.out, str_data]), hbel⟩
end Go.Proofs.YtjnhcoflmechmaaGreatDoor.E

namespace Go.Proofs.YtjnhcoflmechmaaGreatDoor.E
open Go.RowKit
set_option linter.unusedVariables false

def RURel (s : ByteArray) (w : World) (o i : Value) (wr : World) : Prop :=
  ∃ (p f : Nat) (acc : List UInt8), p ≤ s.size ∧ i = .int .i64 p ∧ s.size ≤ f + p ∧ un f (s.data.toList.drop p) p acc = unesc s.data.toList ∧ acc.length ≤ p ∧
    wr.ownsRow w.heap.size 5 1 o acc.length (Lib.byteCells acc) ∧ Below w.heap.size w wr

theorem conv_own {w : World} {base : Nat} {v : Value} {acc : List UInt8} (h : w.ownsRow base 5 1 v acc.length (Lib.byteCells acc)) : (convert 41 9 v).run Tryz.prog w = .ok (.string (str acc)) w := by
  have h' := h
  rcases h.2 with ⟨rfl, h0⟩ | ⟨g, cap, cur, rfl, _⟩
  · have : acc = [] := List.eq_nil_of_length_eq_zero h0
    subst this
    exact run_convert_bytes_nil w 41 5 Tryz.underlying41 Tryz.underlying5 0 0 9 Tryz.underlying9
  · refine run_convert_bytes_back (P := Tryz.prog) w 41 9 5 ⟨g, 0, none⟩ cap acc Tryz.underlying41 Tryz.underlying5 Tryz.underlying9 (fun j hj => ?_)
    refine h'.cells (g := g) rfl j _ ?_
    simp [Lib.byteCells, List.getElem?_eq_getElem hj]

set_option maxRecDepth 900000 in
set_option maxRecDepth 100000 in
set_option maxHeartbeats 4000000 in
theorem refUnescape_any (s : ByteArray) (w : World) (hs : s.size ≤ 900000) : Calls Tryz.prog 110 #[.string s] w (UPost w s.data.toList) := by
  obtain ⟨i0, hi, hz0, hz1, hz2⟩ := info_parts info5
  have hsl : s.data.toList.length = s.size := by simp
  have HSL := Lib.hid hsl; clear hsl
  go_enter Tryz.func110, Tryz.ntmps110
  go_wp2
  go_loopw [5, 6] (RURel s w) (fun _ i _ => s.size - (intOf i).toNat)
  case atStart => exact ⟨0, s.size, [], by omega, rfl, by omega, by rw [unesc, HSL.out]; rfl, by simp, World.ownsRow_nil _ _ _ _, Below.refl _ _⟩
  case round =>
    obtain ⟨p, f, acc, hp, rfl, hf, hun, hacc, hown, hbel⟩ := hrel
    have HUN := Lib.hid hun; clear hun
    have hsz := hbel.size
    by_cases hlt : p < s.size
    · obtain ⟨f', rfl⟩ : ∃ g, f = g + 1 := ⟨f - 1, by omega⟩
      have hdl : (s.data.toList.drop p).length = s.size - p := by rw [List.length_drop, HSL.out]
      have hne : s.data.toList.drop p ≠ [] := fun h => by rw [h] at hdl; simp at hdl; omega
      have HNE := Lib.hid hne
      have HDL := Lib.hid hdl
      clear hne hdl
      obtain ⟨t, ht⟩ : ∃ t, t = s.extract p s.size := ⟨_, rfl⟩
      have htl : t.data.toList = s.data.toList.drop p := by
        rw [ht, Lib.extract_data, List.take_of_length_le (by rw [HDL.out]; omega)]
      have co := one_any t wr
      rw [htl] at co
      have HT := Lib.hid ht
      clear ht htl
      cases ho : oneO (s.data.toList.drop p) with
      | none =>
        rw [oneI_none ho] at co
        have CO := Lib.hid co
        have hfin := (un_none HNE.out (by rw [HDL.out]; omega) ho).symm.trans HUN.out
        have HFIN := Lib.hid hfin
        clear co ho hfin
        go_wp2_with fail
        rw [← HT.out]
        refine CO.out.mono ?_
        rintro e w1 ⟨rfl, hb1⟩
        go_wp2
        go_ret3
        exact uPost_mk HFIN.out.symm rfl rfl (hbel.trans (hb1.mono hbel.size))
      | some d =>
        rw [oneI_some ho] at co
        have CO := Lib.hid co
        have hst := (un_some (f := f') (p := p) (acc := acc) HNE.out ho).symm.trans HUN.out
        rw [List.drop_drop] at hst
        have hnl : p + (form d).length ≤ s.size := by
          have := (oneO_of ho).length_le
          rw [HDL.out] at this
          omega
        have HST := Lib.hid hst
        have hdn := d.toNat_lt
        have hfp := form_pos d
        have HSS := Lib.hid (str_size (form d))
        have hfs : (str (form d)).size ≤ 6 := by rw [HSS.out]; exact hfp.2
        clear co ho hst
        go_wp2_with fail
        rw [← HT.out]
        refine CO.out.mono ?_
        rintro e w1 ⟨rfl, hb1⟩
        have hown1 : w1.ownsRow w.heap.size 5 1 u5 acc.length (Lib.byteCells acc) := by
          refine ⟨hown.1, ?_⟩
          rcases hown.2 with hn | ⟨g, cap, cur, rfl, hg, hh, r⟩
          · exact .inl hn
          · exact .inr ⟨g, cap, cur, rfl, hg, heap_below hh hb1, r⟩
        have hbel1 := hbel.trans (hb1.mono hbel.size)
        have hs1 := hbel1.size
        go_wp2_with (at_builtin; refine wpList_append_own _ rfl _ _ 41 rfl w.heap.size 5 i0 (.int .u8 0) 1 1 Tryz.underlying41 hi hz0 hz1 hz2 rfl (by decide) _ _ _ rfl (hown1.alloc _) ⟨w1.heap.size, 0, none⟩ 1 1 [.int .u8 (d.toNat : Int)] rfl rfl ?c1 ?c2 ?c3 ?c4 ?c5 ?_)
        case c1 =>
          intro j u hj
          match j, hj with
          | 0, hj => simp at hj; subst hj; simp [Addr.add]
        case c2 => intro u hu; simp at hu; subst hu; rfl
        case c3 => unfold maxLen; omega
        case c4 => omega
        case c5 => simp; omega
        intro v2 w2 hown2 hgrow _
        have hbel2 : Below w.heap.size w w2 := (hbel1.alloc hs1 _).grown hgrow (by simp; omega) (fun k hk => (hown1.lt k hk).1)
        go_wp2_with fail
        refine (refForm_any d w2).mono ?_
        rintro e w3 ⟨rfl, hb3⟩
        go_wp2
        refine ⟨⟨p + (form d).length, f', acc ++ [d], by omega, by rw [HSS.out]; go_num, by omega, HST.out, by simp; omega, ?_, hbel2.trans (hb3.mono hbel2.size)⟩, by rw [HSS.out]; simp [intOf]; omega⟩
        have hown3 : w3.ownsRow w.heap.size 5 1 v2 (acc.length + 1) (Lib.byteCells acc ++ [.int .u8 (d.toNat : Int)]) := by
          refine ⟨hown2.1, ?_⟩
          rcases hown2.2 with hn | ⟨g, cap, cur, rfl, hg, hh, r⟩
          · exact .inl hn
          · exact .inr ⟨g, cap, cur, rfl, hg, heap_below hh hb3, r⟩
        simpa [Lib.byteCells_append, Lib.byteCells] using hown3
    · obtain rfl : p = s.size := by omega
      have hd0 : s.data.toList.drop s.size = [] := List.drop_eq_nil_of_le (by rw [HSL.out]; omega)
      have hfin : unesc s.data.toList = (acc, 0, 0) := by rw [← HUN.out, hd0, un_nil]
      have HFIN := Lib.hid hfin
      have hcv := conv_own hown
      clear hd0 hfin
      go_wp2
      go_ret3
      exact uPost_mk HFIN.out rfl rfl hbel
end Go.Proofs.YtjnhcoflmechmaaGreatDoor.E

namespace Go.Proofs.YtjnhcoflmechmaaGreatDoor.E
open Go.RowKit
set_option linter.unusedVariables false

/-- After n plain bytes the span is still to be counted. -/
def SpRel (s : ByteArray) (k : Nat) (i : Value) : Prop :=
  ∃ n : Nat, k + n ≤ s.size ∧ i = .int .i64 n ∧ spanN (s.data.toList.drop k) = n + spanN (s.data.toList.drop (k + n))

theorem span_step {l : List UInt8} {c : UInt8} {r : List UInt8} (h : l = c :: r) (hc : signs.contains c = false) : spanN l = 1 + spanN r := by
  subst h
  rw [show spanN (c :: r) = if signs.contains c = true then 0 else spanN r + 1 from rfl, if_neg (by rw [hc]; simp)]
  omega
theorem span_stop {l : List UInt8} {c : UInt8} {r : List UInt8} (h : l = c :: r) (hc : signs.contains c = true) : spanN l = 0 := by
  subst h
  rw [show spanN (c :: r) = if signs.contains c = true then 0 else spanN r + 1 from rfl, if_pos hc]

set_option maxRecDepth 100000 in
set_option maxHeartbeats 2000000 in
theorem refSpan_any (s : ByteArray) (p : Int) (w : World) (hs : s.size ≤ 900000) (hp0 : -9223372036854775808 ≤ p) (hp1 : p ≤ 9223372036854775807) : Calls Tryz.prog 109 #[.string s, .int .i64 p] w fun e w' => e = .returned (.int .i64 (spanI s.data.toList p)) ∧ w = w' := by
  have hsl : s.data.toList.length = s.size := by simp
  by_cases hneg : p < 0
  · have e : spanI s.data.toList p = 0 := by unfold spanI; rw [if_pos (.inl hneg)]
    have E := Lib.hid e; clear e hsl
    go_enter Tryz.func109, Tryz.ntmps109
    go_wp2
    go_ret
    exact ⟨ret_int E.out.symm, rfl⟩
  · obtain ⟨k, rfl⟩ := Int.eq_ofNat_of_zero_le (show 0 ≤ p by omega)
    by_cases hge : s.size ≤ k
    · have e : spanI s.data.toList k = 0 := by unfold spanI; rw [hsl, if_pos (.inr (by omega))]
      have E := Lib.hid e; clear e hsl
      have hd : decide (s.size ≤ k) = true := by simpa using hge
      go_enter Tryz.func109, Tryz.ntmps109
      go_wp2
      go_ret
      exact ⟨ret_int E.out.symm, rfl⟩
    · have hd : decide (s.size ≤ k) = false := by simpa using hge
      have e : spanI s.data.toList k = spanN (s.data.toList.drop k) := by unfold spanI; rw [hsl, if_neg (by omega), Int.toNat_natCast]
      have E := Lib.hid e
      have HSL := Lib.hid hsl
      clear e hsl
      go_enter Tryz.func109, Tryz.ntmps109
      go_wp2
      go_loop [5] (SpRel s k) (fun i => s.size - (intOf i).toNat)
      case atStart => exact ⟨0, by omega, rfl, by simp⟩
      case round =>
        obtain ⟨n, hn, rfl, hsp⟩ := hrel
        have HS := Lib.hid hsp; clear hsp
        by_cases hlt : k + n < s.size
        · obtain ⟨c, hc⟩ : ∃ c, s[k + n]'hlt = c := ⟨_, rfl⟩
          have HD := Lib.hid (drop_cons s (k + n) hlt hc)
          have hlt' : (k : Int) + (n : Int) < (s.size : Int) := by omega
          have htn : ((k : Int) + (n : Int)).toNat = k + n := by omega
          by_cases hcs : signs.contains c = true
          · have h0 := span_stop HD.out hcs
            have hres : spanN (s.data.toList.drop k) = n := by rw [HS.out, h0]; omega
            have HRES := Lib.hid hres
            have hcc : c = 60 ∨ c = 62 ∨ c = 34 := by simpa [signs] using hcs
            clear h0 hres hcs HD
            rcases hcc with rfl | rfl | rfl
            all_goals
              go_wp2
              go_ret
              exact ⟨ret_int (by rw [E.out, HRES.out]), rfl⟩
          · have hcf : signs.contains c = false := by simpa using hcs
            have h1 := span_step HD.out hcf
            have hst : spanN (s.data.toList.drop k) = (n + 1) + spanN (s.data.toList.drop (k + (n + 1))) := by rw [HS.out, h1]; rw [show k + n + 1 = k + (n + 1) by omega]; omega
            have HST := Lib.hid hst
            have hcc : c ≠ 60 ∧ c ≠ 62 ∧ c ≠ 34 := by simpa [signs] using hcf
            have g1 : ((c.toNat : Int) != 60) = true := by have := nat_ne hcc.1; simp at this ⊢; omega
            have g2 : ((c.toNat : Int) != 62) = true := by have := nat_ne hcc.2.1; simp at this ⊢; omega
            have g3 : ((c.toNat : Int) != 34) = true := by have := nat_ne hcc.2.2; simp at this ⊢; omega
            clear h1 hst hcs hcf hcc HD
            go_wp2
            exact ⟨⟨n + 1, by omega, by go_num, HST.out⟩, by simp [intOf]; omega⟩
        · have hkn : k + n = s.size := by omega
          have hres : spanN (s.data.toList.drop k) = n := by rw [HS.out, List.drop_eq_nil_of_le (by rw [HSL.out]; omega)]; rfl
          have HRES := Lib.hid hres
          have hlt' : ¬ (k : Int) + (n : Int) < (s.size : Int) := by omega
          clear hres hkn
          go_wp2
          go_ret
          exact ⟨ret_int (by rw [E.out, HRES.out]), rfl⟩

end Go.Proofs.YtjnhcoflmechmaaGreatDoor.E
