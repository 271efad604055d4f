/-
  What is within a list or a record: the mathematics of the parser's loop. | What is within a list or a record: the parser's loop. | A value's ways: the mathematics. | The parser's lists and records.
-/
import Derived.Test.YtjnhcoflmechmaaGreatDoorDElem2
namespace Go.Proofs.YtjnhcoflmechmaaGreatDoor
open Go.RowKit Go.Sort
set_option linter.unusedVariables false
set_option maxRecDepth 100000
/-- What stands ahead of what is read. -/
def accE (ns : List ByteArray) (xs : List Dt) : Rd (List ByteArray × List Dt) → Rd (List ByteArray × List Dt)
  | .ok p l => .ok (ns ++ p.1, xs ++ p.2) l
  | .bad n e => .bad n e
theorem accE_nil (R : Rd (List ByteArray × List Dt)) : accE [] [] R = R := by cases R <;> rfl
theorem accE_acc (ns ms : List ByteArray) (xs ys : List Dt) (R : Rd (List ByteArray × List Dt)) : accE ns xs (accE ms ys R) = accE (ns ++ ms) (xs ++ ys) R := by
  cases R with
  | ok p l => simp [accE]
  | bad n e => rfl
theorem cntL_append (a b : List Dt) : cntL (a ++ b) = cntL a + cntL b := by
  induction a with
  | nil => simp [cntL]
  | cons x r ih => rw [List.cons_append, cntL, cntL, ih]; omega
theorem cntL_one (x : Dt) : cntL [x] = cntD x := by rw [cntL, cntL]; omega
/-- One element, then the closing byte. -/
theorem elems_close {k5 : Bool} {o : Nat} {l l2 l3 : Bytes} {p : List ByteArray × Dt} {u : Unit} (h : el1P k5 o l = .ok p l2) (hc : byteP (closeC k5) l2 = .ok u l3) : elemsP k5 o l = .ok (p.1, [p.2]) l3 := by
  rw [elemsP_el1, h]
  show restP k5 o p.1 p.2 l2 = _
  unfold restP
  rw [hc]
/-- One element, then a comma. -/
theorem elems_comma {k5 : Bool} {o : Nat} {l l2 l3 : Bytes} {p : List ByteArray × Dt} {u : Unit} {n : Nat} {e : Int} (h : el1P k5 o l = .ok p l2) (hc : byteP (closeC k5) l2 = .bad n e) (hm : byteP 44 l2 = .ok u l3) : elemsP k5 o l = accE p.1 [p.2] (elemsP k5 o l3) := by
  rw [elemsP_el1, h]
  show restP k5 o p.1 p.2 l2 = _
  unfold restP
  rw [hc, hm]
  show (match elemsP k5 o l3 with | Rd.ok q l4 => Rd.ok (p.1 ++ q.1, p.2 :: q.2) l4 | Rd.bad n e => Rd.bad n e) = _
  cases elemsP k5 o l3 <;> rfl
theorem elems_stop {k5 : Bool} {o : Nat} {l l2 : Bytes} {p : List ByteArray × Dt} {n m : Nat} {e e' : Int} (h : el1P k5 o l = .ok p l2) (hc : byteP (closeC k5) l2 = .bad n e) (hm : byteP 44 l2 = .bad m e') : elemsP k5 o l = .bad m e' := by
  rw [elemsP_el1, h]
  show restP k5 o p.1 p.2 l2 = _
  unfold restP
  rw [hc, hm]
theorem elems_bad {k5 : Bool} {o : Nat} {l : Bytes} {n : Nat} {e : Int} (h : el1P k5 o l = .bad n e) : elemsP k5 o l = .bad n e := by
  rw [elemsP_el1, h]
/-- What within says. -/
noncomputable def withinP (k5 : Bool) (o : Nat) (l : Bytes) : Rd (List ByteArray × List Dt) := match byteP (closeC k5) l with
  | .ok _ l' => .ok ([], []) l'
  | .bad _ _ => elemsP k5 o l
def WithC (P : Nat) (s : ByteArray) (D base : Nat) (k : Int) (o v : Nat) (ns : List ByteArray) (ps : List DV) (R : Rd (List ByteArray × List Dt)) (w : World) (e : Ending) (w' : World) : Prop :=
  (match R with
    | .ok p l => ∃ (v' : Nat) (ns' : List ByteArray) (ps' : List DV) (vN vK : Value), e = .returned (.bool true) ∧ l.length ≤ s.size ∧ P5 w' P s (s.size - l.length) o v' 0 ∧ v' = v + cntL p.2 ∧ v' ≤ s.size - l.length ∧ GS w' base D P k ns' ps' vN vK ∧ (v' ≤ 2000 → ns' = ns ++ p.1 ∧ ps'.map Prod.fst = ps.map Prod.fst ++ p.2)
    | .bad n er => ∃ o' v' : Nat, e = .returned (.bool false) ∧ n ≤ s.size ∧ P5 w' P s (s.size - n) o' v' er ∧ (er = 2 ∨ er = 11)) ∧ Kept (fun b => b = P ∨ b = D ∨ base ≤ b) w w'
end Go.Proofs.YtjnhcoflmechmaaGreatDoor

namespace Go.Proofs.YtjnhcoflmechmaaGreatDoor
open Go.RowKit Go.Sort
set_option linter.unusedVariables false
set_option maxRecDepth 100000
def kindZ (k5 : Bool) : Int := if k5 then 5 else 4
theorem element_any (k5 : Bool) (P : Nat) (s : ByteArray) (D base a o v : Nat) (ns : List ByteArray) (ps : List DV) (vN vK : Value) (w : World) (h : P5 w P s a o v 0) (g : GS w base D P (kindZ k5) ns ps vN vK) (hb : base ≤ w.heap.size) (ha : a ≤ s.size) (hs : s.size ≤ 1000000000) (hva : v ≤ a) (hnl : ns.length ≤ v) (hpl : ps.length ≤ v) (hv : Vars w) (hP4 : 4 ≤ P) (ih : ∀ a', a ≤ a' → a' ≤ s.size → ValOk P s o a') :
    Calls Tryz.prog 150 #[.pointer (some ⟨P, 0, none⟩), .pointer (some ⟨D, 0, none⟩)] w (ElemC P s D base (kindZ k5) o v ns ps (el1P k5 o (restL s a)) w) := by
  cases k5 with
  | false => exact element_list P s D base a o v ns ps vN vK w h g hb ha hs hva hnl hpl hv hP4 (ih a (Nat.le_refl _) ha)
  | true => exact element_rec P s D base a o v ns ps vN vK w h g hb ha hs hva hnl hpl hv hP4 (fun a' h1 h2 => ih a' (by omega) h2)
theorem suf_rest {s : ByteArray} {a : Nat} {l : Bytes} (h : l <:+ restL s a) : restL s (s.size - l.length) = l := by
  have h1 : l <:+ s.data.toList := h.trans (List.drop_suffix _ _)
  have := List.suffix_iff_eq_drop.1 h1
  rw [size_list] at this
  exact this.symm
theorem el1_suf {k5 : Bool} {o : Nat} {l l' : Bytes} {p : List ByteArray × Dt} (h : el1P k5 o l = .ok p l') : l' <:+ l ∧ l'.length < l.length := by
  unfold el1P at h
  rcases hn : nameP k5 l with ⟨ns, l1⟩ | ⟨n, e⟩
  · rw [hn] at h
    have h' : withN ns (valP o l1) = .ok p l' := h
    rcases hv : valP o l1 with ⟨x, l2⟩ | ⟨n, e⟩
    · rw [hv] at h'
      cases h'
      have h1 := nameP_ok hn
      have h2 := val_suf hv
      exact ⟨h2.1.trans h1.1, Nat.lt_of_lt_of_le h2.2 h1.1.length_le⟩
    · rw [hv] at h'; cases h'
  · rw [hn] at h; cases h
/-- The state at the head of the loop. -/
structure WiS (P : Nat) (s : ByteArray) (D base : Nat) (k5 : Bool) (o v a0 : Nat) (ns : List ByteArray) (ps : List DV) (R0 : Rd (List ByteArray × List Dt)) (w W : World) (a v1 : Nat) : Prop where

  le : a0 ≤ a ∧ a ≤ s.size ∧ v1 ≤ a ∧ base ≤ W.heap.size
  p : P5 W P s a o v1 0
  vars : Vars W
  k : Kept (fun b => b = P ∨ b = D ∨ base ≤ b) w W
  st : ∃ (ms : List ByteArray) (xs : List Dt) (ns1 : List ByteArray) (ps1 : List DV) (vN vK : Value), GS W base D P (kindZ k5) ns1 ps1 vN vK ∧ ns1.length ≤ v1 ∧ ps1.length ≤ v1 ∧ R0 = accE ms xs (elemsP k5 o (restL s a)) ∧ v1 = v + cntL xs ∧ (v1 ≤ 2000 → ns1 = ns ++ ms ∧ ps1.map Prod.fst = ps.map Prod.fst ++ xs)
set_option maxHeartbeats 4000000 in
theorem within_loop (k5 : Bool) (P : Nat) (s : ByteArray) (D base a o v : Nat) (ns : List ByteArray) (ps : List DV) (vN vK : Value) (w : World) (h : P5 w P s a o v 0) (g : GS w base D P (kindZ k5) ns ps vN vK) (hb : base ≤ w.heap.size) (ha : a ≤ s.size) (hs : s.size ≤ 1000000000) (hva : v ≤ a) (hnl : ns.length ≤ v) (hpl : ps.length ≤ v) (hv : Vars w) (hP4 : 4 ≤ P) (hD4 : 4 ≤ D) (ih : ∀ a', a ≤ a' → a' ≤ s.size → ValOk P s o a') :
    Calls Tryz.prog 121 #[.pointer (some ⟨P, 0, none⟩), .pointer (some ⟨D, 0, none⟩), .int .u8 ((closeC k5).toNat : Int)] w (WithC P s D base (kindZ k5) o v ns ps (withinP k5 o (restL s a)) w) := by
  have CT := Lib.hid (take_any P s a o v 0 (closeC k5) w h ha hs)
  obtain ⟨r, hr⟩ : ∃ r, r = isC s a (closeC k5) := ⟨_, rfl⟩
  rw [← hr] at CT
  have HG := Lib.hid g; have HV := Lib.hid hv; have HIH := Lib.hid ih
  obtain ⟨R0, hR0⟩ : ∃ R0, R0 = withinP k5 o (restL s a) := ⟨_, rfl⟩
  rw [← hR0]
  have HR0 := Lib.hid hR0; have HR := Lib.hid hr
  clear h g hv ih hR0 hr
  cases r with
  | true =>
    obtain ⟨e1, hlt⟩ := isC_ok HR.out.symm
    have hR := HR0.out
    unfold withinP at hR
    rw [e1] at hR
    have HRR := Lib.hid (show R0 = .ok ([], []) (restL s (a + 1)) from hR)
    clear hR e1
    go_enter Tryz.func121, Tryz.ntmps121
    go_wp2_with fail
    refine CT.out.mono ?_
    rintro e w1 ⟨rfl, hp1, hk1⟩
    simp only [if_true] at hp1
    have HF := Lib.hid (show WithC P s D base (kindZ k5) o v ns ps R0 w (.returned (.bool true)) w1 from by
      rw [HRR.out]
      refine ⟨⟨v, ns, ps, vN, vK, rfl, by rw [restL_len]; omega, by rw [restL_len, show s.size - (s.size - (a + 1)) = a + 1 by omega]; exact hp1, by simp [cntL], by rw [restL_len]; omega, HG.out.keepP hk1, fun _ => ⟨by simp, by simp⟩⟩, hk1.mono (fun b _ h => .inl h)⟩)
    clear hp1 hk1 CT HG
    go_wp2_with fail
    go_ret
    exact HF.out
  | false =>
    have e1 := isC_no HR.out.symm
    have hR := HR0.out
    unfold withinP at hR
    rw [e1] at hR
    have HRR := Lib.hid (show R0 = elemsP k5 o (restL s a) from hR)
    clear hR e1
    go_enter Tryz.func121, Tryz.ntmps121
    go_wp2_with fail
    refine CT.out.mono ?_
    rintro e w1 ⟨rfl, hp1, hk1⟩
    rw [if_neg (by decide)] at hp1
    have HS := Lib.hid (show WiS P s D base k5 o v a ns ps R0 w w1 a v from ⟨⟨Nat.le_refl _, ha, hva, Nat.le_trans hb hk1.size⟩, hp1, HV.out.keptP hP4 hk1, hk1.mono (fun b _ h => .inl h), [], [], ns, ps, vN, vK, HG.out.keepP hk1, hnl, hpl, by rw [accE_nil]; exact HRR.out, by simp [cntL], fun _ => ⟨by simp, by simp⟩⟩)
    clear hp1 hk1 CT HG HV
    go_wp2_with fail
    go_loopg [12] (s.size - a) (fun m _ wr => ∃ a1 v1, RowKit.Hid (WiS P s D base k5 o v a ns ps R0 w wr a1 v1) ∧ s.size - a1 ≤ m)
    case atStart => exact ⟨a, v, HS, Nat.le_refl _⟩
    case round =>
      obtain ⟨a1, v1, HW, hm⟩ := hrel
      obtain ⟨⟨l1, l2, l3, l4⟩, hp, hvr, hk, ms, xs, ns1, ps1, vN1, vK1, g1, n1, n2, hR1, hv1, hacc⟩ := HW.out
      have CE := element_any k5 P s D base a1 o v1 ns1 ps1 vN1 vK1 wr hp g1 l4 l2 hs l3 n1 n2 hvr hP4 (fun a' h1 h2 => HIH.out a' (by omega) h2)
      have HK := Lib.hid hk; have HACC := Lib.hid hacc; have HVR := Lib.hid hvr; have HV1 := Lib.hid hv1
      clear hp hvr hk g1 hacc HW hv1
      rcases hE : el1P k5 o (restL s a1) with ⟨p, l⟩ | ⟨n, er⟩
      · rw [hE] at CE
        have HCE := Lib.hid CE
        have HE := Lib.hid hE; have HR1 := Lib.hid hR1
        clear CE hE hR1
        go_wp2_with fail
        refine HCE.out.mono ?_
        rintro e w2 ⟨⟨v', ns', ps', vN', vK', rfl, hl, hp2, hv', hle', g2, n1', n2', hacc'⟩, hk2⟩
        obtain ⟨hsf, hlt⟩ := el1_suf HE.out
        have hl2 := suf_rest hsf
        rw [restL_len] at hlt
        obtain ⟨a2, ha2⟩ : ∃ a2, a2 = s.size - l.length := ⟨_, rfl⟩
        rw [← ha2] at hp2 hle' hl2
        have CT2 := Lib.hid (take_any P s a2 o v' 0 (closeC k5) w2 hp2 (by omega) hs)
        obtain ⟨r2, hr2⟩ : ∃ r2, r2 = isC s a2 (closeC k5) := ⟨_, rfl⟩
        rw [← hr2] at CT2
        have hcnt : v' = v + cntL (xs ++ [p.2]) := by rw [cntL_append, cntL_one, hv', HV1.out]; omega
        have hall : v' ≤ 2000 → ns' = ns ++ (ms ++ p.1) ∧ ps'.map Prod.fst = ps.map Prod.fst ++ (xs ++ [p.2]) := fun h => by
          obtain ⟨q1, q2⟩ := hacc' h
          obtain ⟨q3, q4⟩ := HACC.out (by omega)
          exact ⟨by rw [q1, q3, List.append_assoc], by rw [q2, q4, List.append_assoc]⟩
        have HCNT := Lib.hid hcnt; have HALL := Lib.hid hall; have HG2 := Lib.hid g2; have HK2 := Lib.hid (HK.out.trans hk2)
        have HVR2 := Lib.hid (show Vars w2 from HVR.out.below (Nat.le_refl 4) (hk2.below HVR.out.2.2.2 (fun k hk => by have := g2.hP; rcases hk with rfl | rfl | hk <;> omega)))
        have HR2 := Lib.hid hr2
        clear hp2 hk2 hv' hacc' hcnt hall hr2 hsf HCE g2 HACC
        go_wp2_with fail
        refine CT2.out.mono ?_
        rintro e w3 ⟨rfl, hp3, hk3⟩
        clear CT2
        cases r2 with
        | true =>
          simp only [if_true] at hp3
          obtain ⟨e1, hlt3⟩ := isC_ok HR2.out.symm
          rw [hl2] at e1
          have HF := Lib.hid (show WithC P s D base (kindZ k5) o v ns ps R0 w (.returned (.bool true)) w3 from by
            rw [HR1.out, elems_close HE.out e1]
            exact ⟨⟨v', ns', ps', vN', vK', rfl, by rw [restL_len]; omega, by rw [restL_len, show s.size - (s.size - (a2 + 1)) = a2 + 1 by omega]; exact hp3, HCNT.out, by rw [restL_len]; omega, HG2.out.keepP hk3, HALL.out⟩, HK2.out.trans (hk3.mono (fun b _ h => .inl h))⟩)
          clear hp3 hk3 e1
          go_wp2_with fail
          go_ret
          exact HF.out
        | false =>
          rw [if_neg (by decide)] at hp3
          have e1 := isC_no HR2.out.symm
          rw [hl2] at e1
          have CE3 := Lib.hid (need_any P s a2 o v' 44 w3 hp3 (by omega) hs)
          have HE1 := Lib.hid e1; have HK3 := Lib.hid hk3
          clear hp3 hk3 e1
          go_wp2_with fail
          refine CE3.out.mono ?_
          rintro e w4 ⟨⟨hc, rfl, hp4⟩ | ⟨hc, rfl, hp4⟩, hk4⟩
          · obtain ⟨e2, hlt4⟩ := isC_ok hc
            rw [hl2] at e2
            have hkk := HK3.out.trans hk4
            have HNX := Lib.hid (show WiS P s D base k5 o v a ns ps R0 w w4 (a2 + 1) v' from ⟨⟨by omega, by omega, by omega, by have := hkk.size; have := HK2.out.size; omega⟩, hp4, HVR2.out.keptP hP4 hkk, HK2.out.trans (hkk.mono (fun b _ h => .inl h)), ms ++ p.1, xs ++ [p.2], ns', ps', vN', vK', HG2.out.keepP hkk, n1', n2', by rw [HR1.out, elems_comma HE.out HE1.out e2, accE_acc], HCNT.out, HALL.out⟩)
            clear hp4 hk4 hkk e2 CE3
            go_wp2_with fail
            go_roundg (s.size - (a2 + 1))
            case measure => omega
            case rel => exact ⟨a2 + 1, v', HNX, Nat.le_refl _⟩
          · have e2 := isC_no hc
            rw [hl2] at e2
            have HF := Lib.hid (show WithC P s D base (kindZ k5) o v ns ps R0 w (.returned (.bool false)) w4 from by
              rw [HR1.out, elems_stop HE.out HE1.out e2]
              exact ⟨⟨o, v', rfl, by omega, by rw [show s.size - (s.size - a2) = a2 by omega]; exact hp4, .inl rfl⟩, HK2.out.trans ((HK3.out.trans hk4).mono (fun b _ h => .inl h))⟩)
            clear hp4 hk4 e2 CE3
            go_wp2_with fail
            go_ret
            exact HF.out
      · rw [hE] at CE
        rw [elems_bad hE] at hR1
        have HCE := Lib.hid CE
        have HR1 := Lib.hid (show R0 = .bad n er from hR1)
        clear CE hE hR1
        go_wp2_with fail
        refine HCE.out.mono ?_
        rintro e w2 ⟨⟨o', v', rfl, hn, hp2, her⟩, hk2⟩
        have HF := Lib.hid (show WithC P s D base (kindZ k5) o v ns ps R0 w (.returned (.bool false)) w2 from by
          rw [HR1.out]; exact ⟨⟨o', v', rfl, hn, hp2, her⟩, HK.out.trans hk2⟩)
        clear hp2 hk2 HCE HK
        go_wp2_with fail
        go_ret
        exact HF.out
end Go.Proofs.YtjnhcoflmechmaaGreatDoor

namespace Go.Proofs.YtjnhcoflmechmaaGreatDoor
open Go.RowKit Go.Sort
set_option linter.unusedVariables false
set_option maxRecDepth 100000
/-- What a list or a record is, behind its bracket. -/
noncomputable def grpP (k5 : Bool) (o : Nat) (r : Bytes) : Rd Dt := if o = 16 then .bad (r.length + 1) 11 else match withinP k5 (o + 1) r with
  | .ok p l => .ok (.mk (kindZ k5) 0 ⟨#[]⟩ p.1 p.2) l
  | .bad n e => .bad n e
def openC (k5 : Bool) : UInt8 := if k5 then 123 else 91
theorem valP_group (k5 : Bool) (o : Nat) (r : Bytes) : valP o (openC k5 :: r) = grpP k5 o r := by
  have h1 : lowC (openC k5) = false := by cases k5 <;> decide
  have h2 : numC (openC k5) = false := by cases k5 <;> decide
  have h3 : ¬ openC k5 = 34 := by cases k5 <;> decide
  have h4 : openC k5 = 91 ∨ openC k5 = 123 := by cases k5 <;> decide
  have h5 : (openC k5 == 123) = k5 := by cases k5 <;> decide
  have h6 : (if openC k5 = 123 then (5 : Int) else 4) = kindZ k5 := by cases k5 <;> decide
  rw [valP]
  rw [h1, h2, h5, h6, if_neg (by decide), if_neg (by decide), if_neg h3, if_pos h4]
  unfold grpP withinP
  by_cases h : o = 16
  · rw [if_pos h, if_pos h]
  · rw [if_neg h, if_neg h]
    rcases byteP (closeC k5) r with ⟨u, l⟩ | ⟨n, e⟩
    · rfl
    · show (match elemsP k5 (o + 1) r with | Rd.ok p l' => Rd.ok (Dt.mk (kindZ k5) 0 noB p.1 p.2) l' | Rd.bad n e => Rd.bad n e) = _
      rcases elemsP k5 (o + 1) r with ⟨p, l⟩ | ⟨n, e⟩
      · rfl
      · rfl
theorem valP_low {c : UInt8} {r : Bytes} (o : Nat) (h : lowC c = true) : valP o (c :: r) = match constD ((c :: r).takeWhile lowC) with | some d => .ok d ((c :: r).dropWhile lowC) | none => .bad (r.length + 1) 2 := by
  rw [valP, if_pos h]
  rcases constD ((c :: r).takeWhile lowC) with _ | d <;> rfl
theorem valP_num {c : UInt8} {r : Bytes} (o : Nat) (h0 : lowC c = false) (h : numC c = true) : valP o (c :: r) = if (C.whN ((c :: r).takeWhile numC)).2 then .ok (.mk 2 (C.whN ((c :: r).takeWhile numC)).1 noB [] []) ((c :: r).dropWhile numC) else .bad (r.length + 1) 2 := by
  rw [valP, h0, if_neg (by decide), if_pos h]
theorem valP_quote (o : Nat) (r : Bytes) : valP o (34 :: r) = textP r := by
  rw [valP]
  rw [show lowC 34 = false by decide, show numC 34 = false by decide, if_neg (by decide), if_neg (by decide), if_pos rfl]
theorem valP_other {c : UInt8} {r : Bytes} (o : Nat) (h0 : lowC c = false) (h1 : numC c = false) (h2 : c ≠ 34) (h3 : c ≠ 91) (h4 : c ≠ 123) : valP o (c :: r) = .bad (r.length + 1) 2 := by
  rw [valP]
  rw [h0, h1, if_neg (by decide), if_neg (by decide), if_neg h2, if_neg (fun h => h.elim h3 h4)]
theorem drop_takeW (p : UInt8 → Bool) (s : ByteArray) (a : Nat) : (restL s a).dropWhile p = restL s (a + ((restL s a).takeWhile p).length) := by
  rw [dropWhile_drop, restL_drop]
end Go.Proofs.YtjnhcoflmechmaaGreatDoor

namespace Go.Proofs.YtjnhcoflmechmaaGreatDoor
open Go.RowKit Go.Sort
set_option linter.unusedVariables false
set_option maxRecDepth 100000
theorem val_bad {P : Nat} {s : ByteArray} {o v n o' v' : Nat} {er : Int} {R : Rd Dt} {w w' : World} (hR : R = .bad n er) (hn : n ≤ s.size) (hp : P5 w' P s (s.size - n) o' v' er) (her : er = 2 ∨ er = 11) (hk : Kept (· = P) w w') : ValC P s o v R w (.returned (.tuple #[zeroV, .bool false])) w' := by
  subst hR; exact ⟨⟨o', v', rfl, hn, hp, her⟩, hk⟩
theorem val_ok {P : Nat} {s : ByteArray} {o v v' : Nat} {R : Rd Dt} {d d' : Dt} {x : NV} {l : Bytes} {w w' : World} {e : Ending} (hR : R = .ok d l) (he : e = .returned (.tuple #[datV d' x, .bool true])) (hl : l.length ≤ s.size) (hp : P5 w' P s (s.size - l.length) o v' 0) (hv : v' = v + cntD d) (hle : v' ≤ s.size - l.length) (hd : v' ≤ 2000 → d' = d) (hdi : DatIn w' (fun b => w.heap.size ≤ b) d' x) (hk : Kept (· = P) w w') : ValC P s o v R w e w' := by
  subst hR; exact ⟨⟨d', x, v', he, hl, hp, hv, hle, hd, hdi⟩, hk⟩
def grpR (kz : Int) : Rd (List ByteArray × List Dt) → Rd Dt
  | .ok p l => .ok (.mk kz 0 ⟨#[]⟩ p.1 p.2) l
  | .bad n e => .bad n e
theorem grpP_eq {k5 : Bool} {o : Nat} {r : Bytes} (h : ¬ o = 16) : grpP k5 o r = grpR (kindZ k5) (withinP k5 (o + 1) r) := by
  unfold grpP
  rw [if_neg h]
  rcases withinP k5 (o + 1) r with ⟨p, l⟩ | ⟨n, e⟩ <;> rfl
abbrev zero5w (W : World) (b : Nat) : World := put5 W b (.int .i64 0) (.int .i64 0) (.string ⟨#[]⟩) (.slice none 0 0) (.slice none 0 0)
theorem gs_new {W : World} {D P : Nat} {k : Int} (hb : B5 W D 46 (.int .i64 k) (.int .i64 0) (.string ⟨#[]⟩) (.slice none 0 0) (.slice none 0 0)) (hP : P < D) : GS W (D + 1) D P k [] [] (.slice none 0 0) (.slice none 0 0) :=
  ⟨hb, ⟨rfl, .inl ⟨rfl, rfl⟩⟩, ⟨rfl, .inl ⟨rfl, rfl⟩⟩, fun b hb => (by cases hb), fun p hp => (by cases hp), by omega, by omega, by omega⟩
set_option maxHeartbeats 4000000 in
theorem group_any (k5 : Bool) (P : Nat) (s : ByteArray) (a o v : Nat) (w : World) (h : P5 w P s (a + 1) o (v + 1) 0) (ha : a < s.size) (hs : s.size ≤ 1000000000) (hva : v ≤ a) (hv : Vars w) (hP4 : 4 ≤ P) (ho : o ≤ 16) (ih : o < 16 → ∀ a', a + 1 ≤ a' → a' ≤ s.size → ValOk P s (o + 1) a') :
    Calls Tryz.prog 82 #[.pointer (some ⟨P, 0, none⟩), .int .i64 a, .bool k5] w (ValC P s o v (grpP k5 o (restL s (a + 1))) w) := by
  obtain ⟨w1, hw1⟩ : ∃ w1, w1 = zeroW w := ⟨_, rfl⟩
  have hk1 : Kept (fun _ => False) w w1 := by rw [hw1]; exact kept_alloc _ _ _
  have hz1 : B5 w1 w.heap.size 46 (.int .i64 0) (.int .i64 0) (.string ⟨#[]⟩) (.slice none 0 0) (.slice none 0 0) := by rw [hw1]; exact B5.new _ _ _ _ _ _ _ _ rfl
  have hp1 := h.kept hk1 (fun h => h)
  have hs1 : w1.heap.size = w.heap.size + 1 := by rw [hw1]; simp
  have hPw : P < w.heap.size := h.lt
  have hkw1 : Kept (· = P) w w1 := hk1.mono (fun _ _ h => absurd h (fun h => h))
  have HKW1 := Lib.hid hkw1
  have hv1 : Vars w1 := hv.keptP hP4 hkw1
  have HW1 := Lib.hid hw1
  by_cases h16 : o = 16
  · have he : ((o : Int) == 16) = true := by simp; omega
    have CF := Lib.hid (fail_any P s (a + 1) o (v + 1) a 0 11 w1 hp1)
    have HR := Lib.hid (show grpP k5 o (restL s (a + 1)) = .bad (s.size - a) 11 from by
      unfold grpP; rw [if_pos h16, restL_len]; congr 1; omega)
    have HZ1 := Lib.hid hz1
    obtain ⟨a0, a1, a2, a3, a4⟩ := hp1.cells
    clear hk1 hz1 hp1 hw1 ih h hv h16 hkw1 hv1
    go_enter Tryz.func82, Tryz.ntmps82
    go_upto_region 1 with (fail)
    rw [zeroW_out HW1]
    go_wp2_with fail
    refine CF.out.mono ?_
    rintro e w2 ⟨rfl, hp2, hk2⟩
    have hz2 := HZ1.out.kept hk2 (show ¬ w.heap.size = P by omega)
    have HF := Lib.hid (val_bad (o := o) (v := v) (o' := o) (v' := v + 1) (w := w) (w' := zero5w w2 w.heap.size) (s := s) HR.out (by omega) (by rw [show s.size - (s.size - a) = a by omega]; exact hp2.kept (kept_put5 _ _ _ _ _ _ _) (show ¬ P = w.heap.size by omega)) (.inr rfl) (kept_boxP (Nat.le_refl _) (HKW1.out.trans hk2) (kept_put5 _ _ _ _ _ _ _)))
    have HZ := Lib.hid (hz2.put (.int .i64 0) (.int .i64 0) (.string ⟨#[]⟩) (.slice none 0 0) (.slice none 0 0))
    obtain ⟨z0, z1, z2, z3, z4⟩ := hz2.cells
    have y0 := hz2.frozen 0; have y1 := hz2.frozen 1; have y2 := hz2.frozen 2; have y3 := hz2.frozen 3; have y4 := hz2.frozen 4
    clear hz2 hk2 hp2 CF HZ1
    go_wp2_with fail
    refine bodyPost_ret (res5 rfl _ _ w.heap.size _ _ _ _ _ _ rfl rfl HZ.out) rfl ?_
    exact HF.out
  · have he : ((o : Int) == 16) = false := by rw [beq_eq_false_iff_ne]; omega
    obtain ⟨D, hD⟩ : ∃ D, D = w.heap.size + 1 := ⟨_, rfl⟩
    obtain ⟨w2, hw2⟩ : ∃ w2, w2 = w1.alloc (.cells #[.int .i64 4, .int .i64 0, .string ⟨#[]⟩, .slice none 0 0, .slice none 0 0] 46) := ⟨_, rfl⟩
    obtain ⟨w3, hw3⟩ : ∃ w3, w3 = if k5 then w2.setCell ⟨D, 0, none⟩ (.int .i64 5) else w2 := ⟨_, rfl⟩
    have hk2 : Kept (fun _ => False) w1 w2 := by rw [hw2]; exact kept_alloc _ _ _
    have hb2 : B5 w2 D 46 (.int .i64 4) (.int .i64 0) (.string ⟨#[]⟩) (.slice none 0 0) (.slice none 0 0) := by rw [hw2]; exact B5.new _ _ _ _ _ _ _ _ (by omega)
    have hk3 : Kept (· = D) w2 w3 := by
      rw [hw3]; cases k5
      · exact Kept.refl _ _
      · exact kept_setCell w2 ⟨D, 0, none⟩ _
    have hb3 : B5 w3 D 46 (.int .i64 (kindZ k5)) (.int .i64 0) (.string ⟨#[]⟩) (.slice none 0 0) (.slice none 0 0) := by
      rw [hw3]; cases k5
      · exact hb2
      · exact hb2.set0 _
    have hDP : ¬ P = D := by omega
    have hp3 : P5 w3 P s (a + 1) o (v + 1) 0 := (hp1.kept hk2 (fun h => h)).kept hk3 hDP
    have hkw3 : Kept (· = P) w w3 := (hkw1.trans (hk2.mono (fun _ _ h => absurd h (fun h => h)))).trans' hk3 (fun i hi h => by have : i = D := h; omega)
    have hz3 := (hz1.kept hk2 (fun h => h)).kept hk3 (show ¬ w.heap.size = D by omega)
    obtain ⟨w4, hw4⟩ : ∃ w4, w4 = w3.setCell ⟨P, 2, none⟩ (.int .i64 ((o : Int) + 1)) := ⟨_, rfl⟩
    have hk4 : Kept (· = P) w3 w4 := by rw [hw4]; exact kept_setCell w3 ⟨P, 2, none⟩ _
    have hp4 : P5 w4 P s (a + 1) (o + 1) (v + 1) 0 := by
      unfold P5; rw [show ((o + 1 : Nat) : Int) = (o : Int) + 1 by omega, hw4]; exact hp3.set2 _
    have hb4 := hb3.kept hk4 (fun h => hDP h.symm)
    have hz4 := hz3.kept hk4 (show ¬ w.heap.size = P by omega)
    have hkw4 := hkw3.trans hk4
    have hs4 : D + 1 ≤ w4.heap.size := hb4.lt
    have hg4 := gs_new (P := P) hb4 (by omega)
    have CW := within_loop k5 P s D (D + 1) (a + 1) (o + 1) (v + 1) [] [] _ _ w4 hp4 hg4 hs4 (by omega) hs (by omega) (by simp) (by simp) (hv.keptP hP4 hkw4) hP4 (by omega) (ih (by omega))
    obtain ⟨kz, hkz⟩ : ∃ kz, kz = kindZ k5 := ⟨_, rfl⟩
    rw [← hkz] at CW
    obtain ⟨R, hR⟩ : ∃ R, R = withinP k5 (o + 1) (restL s (a + 1)) := ⟨_, rfl⟩
    have HG := Lib.hid (show grpP k5 o (restL s (a + 1)) = grpR kz R from by rw [hR, hkz]; exact grpP_eq h16)
    rw [← hR] at CW
    generalize grpP k5 o (restL s (a + 1)) = R0 at HG ⊢
    have HKW4 := Lib.hid hkw4; have HZ4 := Lib.hid hz4
    have HW2 := Lib.hid hw2.symm; have HW3 := Lib.hid hw3.symm; have HW4 := Lib.hid hw4.symm
    obtain ⟨a0, a1, a2, a3, a4⟩ := hp1.cells
    obtain ⟨b0, b1, b2, b3, b4⟩ := hp3.cells
    have f2 := hp3.frozen 2
    obtain ⟨c0, c1, c2, c3, c4⟩ := hb2.cells
    have g0 := hb2.frozen 0
    have hwr : IntKind.i64.wrap ((o : Int) + 1) = (o : Int) + 1 := by rw [IntKind.wrap_i64]; omega
    clear hk1 hz1 hp1 hw1 ih h hv h16 hkw1 hv1 hw2 hw3 hw4 hk2 hb2 hk3 hb3 hp3 hkw3 hz3 hk4 hp4 hb4 hz4 hkw4 hg4 hR hkz HKW1
    subst hD
    have hDs : ¬ w.heap.size = w.heap.size + 1 := by omega
    cases k5
    all_goals
      have CW2 := CW
      first | rw [show ((closeC false).toNat : Int) = 93 from rfl] at CW2 | rw [show ((closeC true).toNat : Int) = 125 from rfl] at CW2
      have HCW := Lib.hid CW2
      clear CW CW2
      go_enter Tryz.func82, Tryz.ntmps82
      go_upto_region 1 with (fail)
      rw [zeroW_out HW1]
      go_upto_region 4 with (fail)
      rw [HW2.out]
      go_upto_region 6 with (fail)
      first | rw [show w2.setCell ⟨w.heap.size + 1, 0, none⟩ (.int .i64 5) = w3 from HW3.out] | rw [show w2 = w3 from HW3.out]
      clear a0 a1 a2 a3 a4 c0 c1 c2 c3 c4 g0
      go_upto_region 7 with (fail)
      rw [HW4.out]
      clear b0 b1 b2 b3 b4 f2
      go_wp2_with fail
      refine HCW.out.mono ?_
      rintro e w5 hpost
      rcases R with ⟨p, l⟩ | ⟨n, er⟩
      · obtain ⟨⟨v', ns', ps', vN, vK, rfl, hl, hp5, hv', hle, hg5, hacc⟩, hk5⟩ := hpost
        obtain ⟨x, rfl, rfl, hdi⟩ := hg5.value
        have hz5 := HZ4.out.kept hk5 (show ¬ (w.heap.size = P ∨ w.heap.size = (w.heap.size + 1) ∨ (w.heap.size + 1) + 1 ≤ w.heap.size) by omega)
        obtain ⟨w6, hw6⟩ : ∃ w6, w6 = w5.setCell ⟨P, 2, none⟩ (.int .i64 (o : Int)) := ⟨_, rfl⟩
        have hk6 : Kept (· = P) w5 w6 := by rw [hw6]; exact kept_setCell w5 ⟨P, 2, none⟩ _
        have hp6 : P5 w6 P s (s.size - l.length) o v' 0 := by rw [hw6]; exact hp5.set2 _
        have hz6 := hz5.kept hk6 (show ¬ w.heap.size = P by omega)
        have hb6 := hg5.box.kept hk6 (fun h => hDP h.symm)
        obtain ⟨W, hW⟩ : ∃ W, W = put5 w6 w.heap.size (.int .i64 kz) (.int .i64 0) (.string ⟨#[]⟩) (.slice x.A ns'.length x.ca) (.slice x.K ps'.length x.ck) := ⟨_, rfl⟩
        have hkW : Kept (· = w.heap.size) w6 W := by rw [hW]; exact kept_put5 _ _ _ _ _ _ _
        have hpW := hp6.kept hkW (show ¬ P = w.heap.size by omega)
        have hdW := ((hdi.kept hk6 (fun b hb _ e => by have e' : b = P := e; have hb' : (w.heap.size + 1) + 1 ≤ b := hb; omega)).kept hkW (fun b hb _ e => by have e' : b = w.heap.size := e; have hb' : (w.heap.size + 1) + 1 ≤ b := hb; omega)).mono (S' := fun b => w.heap.size ≤ b) (fun b hb _ => by have hb' : (w.heap.size + 1) + 1 ≤ b := hb; omega)
        have hkWW : Kept (· = P) w W := ((HKW4.out.trans' hk5 (fun i hi h => by rcases h with h | h | h <;> omega)).trans hk6).trans' hkW (fun i hi h => by have h' : i = w.heap.size := h; omega)
        have hZ := hz6.put (.int .i64 kz) (.int .i64 0) (.string ⟨#[]⟩) (.slice x.A ns'.length x.ca) (.slice x.K ps'.length x.ck)
        rw [← hW] at hZ
        have HZ := Lib.hid hZ; have HW := Lib.hid hW.symm
        have HF := Lib.hid (val_ok (R := R0) (o := o) (v := v) (w := w) (w' := W) (e := .returned (.tuple #[.agg #[.int .i64 (kz), .int .i64 0, .string ⟨#[]⟩, .slice x.A ns'.length x.ca, .slice x.K ps'.length x.ck], .bool true])) (d' := .mk (kz) 0 ⟨#[]⟩ ns' (ps'.map Prod.fst)) (x := x) HG.out (by simp [datV, Dt.kind, Dt.num, Dt.text, Dt.names, Dt.list]) hl hpW (by rw [hv', cntD]; omega) hle (fun h2 => by obtain ⟨q1, q2⟩ := hacc h2; rw [q1, q2]; simp) hdW hkWW)
        obtain ⟨d0, d1, d2, d3, d4⟩ := hp5.cells
        have d2' : w5.cell? ⟨P, 2, none⟩ = some (.int .i64 ((o : Int) + 1)) := by rw [d2]; rfl
        have k2 := hp5.frozen 2
        obtain ⟨m0, m1, m2, m3, m4⟩ := hb6.cells
        obtain ⟨z0, z1, z2, z3, z4⟩ := hz6.cells
        have y0 := hz6.frozen 0; have y1 := hz6.frozen 1; have y2 := hz6.frozen 2; have y3 := hz6.frozen 3; have y4 := hz6.frozen 4
        have hwr2 : IntKind.i64.wrap ((o : Int) + 1 - 1) = (o : Int) := by rw [IntKind.wrap_i64]; omega
        have hwr3 : IntKind.i64.wrap (o : Int) = (o : Int) := by rw [IntKind.wrap_i64]; omega
        have HW6 := Lib.hid hw6.symm
        clear hl hp5 hv' hle hg5 hacc hk5 hdi hz5 hw6 hk6 hp6 hz6 hb6 hW hkW hpW hdW hkWW hZ d2 HCW HKW4 HZ4 HG
        go_upto_region 10 with (fail)
        rw [HW6.out]
        go_wp2_with fail
        rw [show (((((w6.setCell ⟨w.heap.size, 0, none⟩ (.int .i64 kz)).setCell ⟨w.heap.size, 1, none⟩ (.int .i64 0)).setCell ⟨w.heap.size, 2, none⟩ (.string ⟨#[]⟩)).setCell ⟨w.heap.size, 3, none⟩ (.slice x.A ns'.length x.ca)).setCell ⟨w.heap.size, 4, none⟩ (.slice x.K ps'.length x.ck)) = W from HW.out]
        refine bodyPost_ret (res5 rfl _ _ w.heap.size _ _ _ _ _ _ rfl rfl HZ.out) rfl ?_
        exact HF.out
      · obtain ⟨⟨o', v', rfl, hn, hp5, her⟩, hk5⟩ := hpost
        have hz5 := HZ4.out.kept hk5 (show ¬ (w.heap.size = P ∨ w.heap.size = (w.heap.size + 1) ∨ (w.heap.size + 1) + 1 ≤ w.heap.size) by omega)
        have HF := Lib.hid (val_bad (R := R0) (o := o) (v := v) (w := w) (w' := zero5w w5 w.heap.size) HG.out hn (hp5.kept (kept_put5 _ _ _ _ _ _ _) (show ¬ P = w.heap.size by omega)) her (kept_boxP (Nat.le_refl _) (HKW4.out.trans' hk5 (fun i hi h => by rcases h with h | h | h <;> omega)) (kept_put5 _ _ _ _ _ _ _)))
        have HZ := Lib.hid (hz5.put (.int .i64 0) (.int .i64 0) (.string ⟨#[]⟩) (.slice none 0 0) (.slice none 0 0))
        obtain ⟨z0, z1, z2, z3, z4⟩ := hz5.cells
        have y0 := hz5.frozen 0; have y1 := hz5.frozen 1; have y2 := hz5.frozen 2; have y3 := hz5.frozen 3; have y4 := hz5.frozen 4
        clear hz5 hk5 hp5 hn her HCW HKW4 HZ4 HG
        go_wp2_with fail
        refine bodyPost_ret (res5 rfl _ _ w.heap.size _ _ _ _ _ _ rfl rfl HZ.out) rfl ?_
        exact HF.out
end Go.Proofs.YtjnhcoflmechmaaGreatDoor
