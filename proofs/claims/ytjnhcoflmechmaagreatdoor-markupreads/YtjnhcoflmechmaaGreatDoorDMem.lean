/-
  The parser's texts. | A data value in memory that a parser makes: its blocks in a set; the group that is being read.
-/
import Derived.Test.YtjnhcoflmechmaaGreatDoorDName
import Derived.Test.YtjnhcoflmechmaaGreatDoorICheck
namespace Go.Proofs.YtjnhcoflmechmaaGreatDoor
open Go.RowKit Go.Sort
set_option linter.unusedVariables false
set_option maxRecDepth 100000
theorem Vars.keptP {w w' : World} {P : Nat} (h : Vars w) (hP : 4 ≤ P) (hk : Kept (· = P) w w') : Vars w' := h.below (Nat.le_refl 4) (hk.below h.2.2.2 (fun k hk => by subst hk; exact hP))
/-- What a step says that hands back a value: the value and where the parser is then, or the error. -/
def StepC (P : Nat) (s : ByteArray) (o v : Nat) (R : Rd Dt) (w : World) (e : Ending) (w' : World) : Prop :=
  (match R with
    | .ok d l => e = .returned (.tuple #[datV d ⟨none, 0, none, 0⟩, .bool true]) ∧ l.length ≤ s.size ∧ P5 w' P s (s.size - l.length) o v 0
    | .bad n er => e = .returned (.tuple #[zeroV, .bool false]) ∧ n ≤ s.size ∧ P5 w' P s (s.size - n) o v er) ∧ Kept (· = P) w w'
theorem ext_mid (s : ByteArray) (a n : Nat) : (s.extract a (a + n)).data.toList = (restL s a).take n := by
  unfold restL
  rw [Lib.extract_data]
  congr 1; omega
/-- The state in the texts' regions. -/
structure TxS (P : Nat) (s : ByteArray) (a o v : Nat) (w W : World) : Prop where
  p : P5 W P s a o v 0
  z : B5 W w.heap.size 46 (.int .i64 0) (.int .i64 0) (.string ⟨#[]⟩) (.slice none 0 0) (.slice none 0 0)
  k : Kept (· = P) w W
  v : Vars W
theorem TxS.below {P : Nat} {s : ByteArray} {a o v : Nat} {w W W' : World} (h : TxS P s a o v w W) (hb : Below W.heap.size W W') : TxS P s a o v w W' :=
  ⟨h.p.below hb h.p.lt, h.z.below hb h.z.lt, h.k.trans (kept_below hb _), h.v.belowC hb⟩
abbrev Cs2 (P : Nat) (s : ByteArray) (a : Nat) (W : World) : Prop := W.cell? ⟨P, 0, none⟩ = some (.string s) ∧ W.cell? ⟨P, 1, none⟩ = some (.int .i64 a)
theorem TxS.keep {P : Nat} {s : ByteArray} {a o v : Nat} {w W W' : World} (hb : Below W.heap.size W W') (h : TxS P s a o v w W) : TxS P s a o v w W' := h.below hb
theorem TxS.hd {P : Nat} {s : ByteArray} {a o v : Nat} {w W : World} (h : RowKit.Hid (TxS P s a o v w W)) : RowKit.Hid (TxS P s a o v w W.drew) := Lib.hid (h.out.below (below_drewN _ _ _ : Below _ W (W.drewN 1)))
theorem TxS.cells {P : Nat} {s : ByteArray} {a o v : Nat} {w W : World} (h : TxS P s a o v w W) : W.cell? ⟨P, 0, none⟩ = some (.string s) ∧ W.cell? ⟨P, 1, none⟩ = some (.int .i64 a) := ⟨h.p.cells.1, h.p.cells.2.1⟩
theorem step_bad {P : Nat} {s : ByteArray} {a o v n : Nat} {er : Int} {R : Rd Dt} {w w' : World} (hR : R = .bad n er) (hn : n ≤ s.size) (hp : P5 w' P s a o v er) (ha : a = s.size - n) (hk : Kept (· = P) w w') : StepC P s o v R w (.returned (.tuple #[zeroV, .bool false])) w' := by
  subst hR; subst ha; exact ⟨⟨rfl, hn, hp⟩, hk⟩
theorem step_ok {P : Nat} {s : ByteArray} {a o v : Nat} {k m : Int} {t : ByteArray} {l : Bytes} {R : Rd Dt} {w w' : World} (hR : R = .ok (.mk k m t [] []) l) (hn : l.length ≤ s.size) (hp : P5 w' P s a o v 0) (ha : a = s.size - l.length) (hk : Kept (· = P) w w') : StepC P s o v R w (.returned (.tuple #[.agg #[.int .i64 k, .int .i64 m, .string t, .slice none 0 0, .slice none 0 0], .bool true])) w' := by
  subst hR; subst ha; exact ⟨⟨rfl, hn, hp⟩, hk⟩
theorem kept_boxP {P b : Nat} {w W : World} (hb : w.heap.size ≤ b) (hk : Kept (· = P) w W) {W' : World} (h : Kept (· = b) W W') : Kept (· = P) w W' := hk.trans' h (fun i hi h => by subst h; omega)
abbrev TxT (P : Nat) (s : ByteArray) (a o v : Nat) (w W : World) : Prop := W.cell? ⟨P, 0, none⟩ = some (.string s) ∧ W.cell? ⟨P, 1, none⟩ = some (.int .i64 a) ∧ TxS P s a o v w W
theorem TxS.all {P : Nat} {s : ByteArray} {a o v : Nat} {w W : World} (h : TxS P s a o v w W) : W.cell? ⟨P, 0, none⟩ = some (.string s) ∧ W.cell? ⟨P, 1, none⟩ = some (.int .i64 a) ∧ TxS P s a o v w W := ⟨h.cells.1, h.cells.2, h⟩
theorem keepT {P : Nat} {s : ByteArray} {a o v : Nat} {w W W' : World} (hb : Below W.heap.size W W') (h : W.cell? ⟨P, 0, none⟩ = some (.string s) ∧ W.cell? ⟨P, 1, none⟩ = some (.int .i64 a) ∧ TxS P s a o v w W) : W'.cell? ⟨P, 0, none⟩ = some (.string s) ∧ W'.cell? ⟨P, 1, none⟩ = some (.int .i64 a) ∧ TxS P s a o v w W' := (TxS.keep hb h.2.2).all
set_option maxHeartbeats 4000000 in
theorem text_any (P : Nat) (s : ByteArray) (a o v : Nat) (w : World) (h : P5 w P s a o v 0) (ha : a ≤ s.size) (hs : s.size ≤ 1000000000) (hv : Vars w) (hP4 : 4 ≤ P) : Calls Tryz.prog 81 #[.pointer (some ⟨P, 0, none⟩)] w (StepC P s o v (textP (restL s a)) w) := by
  obtain ⟨w1, hw1⟩ : ∃ w1, w1 = zeroW w := ⟨_, rfl⟩
  have hk1 : Kept (fun _ => False) w w1 := by rw [hw1]; exact kept_alloc _ _ _
  have hT1 : TxS P s a o v w w1 := ⟨h.kept hk1 (fun h => h), by rw [hw1]; exact B5.new _ _ _ _ _ _ _ _ rfl, hk1.mono (fun _ _ h => absurd h (fun h => h)), hv.keptP hP4 (hk1.mono (fun _ _ h => absurd h (fun h => h)))⟩
  obtain ⟨n, hn⟩ : ∃ n, n = E.spanN (restL s a) := ⟨_, rfl⟩
  have hns : n ≤ s.size - a := by rw [hn, ← restL_len]; exact E.spanN_le _
  have CS := Lib.hid (show ∀ W, Calls Tryz.prog 118 #[.string s, .int .i64 a] W (E.IntPost W n) from fun W => by
    have := E.span_any s a W hs (by omega) (by omega)
    have e : E.spanI s.data.toList a = (n : Int) := by
      unfold E.spanI
      by_cases h1 : a = s.size
      · rw [if_pos (by right; rw [size_list]; omega), hn, restL_nil (by omega)]; rfl
      · rw [if_neg (by rw [size_list]; omega), hn, Int.toNat_natCast]; rfl
    rw [e] at this; exact this)
  obtain ⟨t, ht⟩ : ∃ t, t = s.extract a (a + n) := ⟨_, rfl⟩
  have htl : t.data.toList = (restL s a).take n := by rw [ht]; exact ext_mid s a n
  obtain ⟨pl, hpl⟩ : ∃ pl, pl = strB (E.unesc ((restL s a).take n)).1 := ⟨_, rfl⟩
  obtain ⟨q, hq⟩ : ∃ q, q = (E.unesc ((restL s a).take n)).2.1 := ⟨_, rfl⟩
  obtain ⟨er, her⟩ : ∃ er, er = (E.unesc ((restL s a).take n)).2.2 := ⟨_, rfl⟩
  have CU := Lib.hid (show ∀ W, Vars W → Calls Tryz.prog 119 #[.string t] W (fun e w' => e = .returned (.tuple #[.string pl, .int .i64 q, .int .i64 er]) ∧ Below W.heap.size W w') from fun W hvW => by
    have := E.unescape_any t W (by rw [← size_list, htl, List.length_take, restL_len]; omega) hvW
    rw [htl] at this
    rw [hpl, hq, her]; exact this)
  have hqn : q ≤ n ∧ (er = 0 ∨ er = 2) := by
    have h1 := E.unesc_only ((restL s a).take n)
    rw [← hq, ← her, List.length_take] at h1
    rcases h1 with h1 | h1 <;> omega
  have HT1 := Lib.hid hT1; have HW1 := Lib.hid hw1
  have hts' : s.extract a (a + n) = t := ht.symm
  have htp : textP (restL s a) = if er ≠ 0 then .bad (s.size - a - q) 2 else match byteP 34 (restL s (a + n)) with | .ok _ l => .ok (.mk 3 0 pl [] []) l | .bad n e => .bad n e := by
    unfold textP
    rw [← hn, ← her, ← hq, ← hpl, restL_len, restL_drop]
    rfl
  rw [htp]
  obtain ⟨R, hR⟩ : ∃ R : Rd Dt, R = if er ≠ 0 then .bad (s.size - a - q) 2 else match byteP 34 (restL s (a + n)) with | .ok _ l => .ok (.mk 3 0 pl [] []) l | .bad n e => .bad n e := ⟨_, rfl⟩
  rw [← hR]
  obtain ⟨a0, a1⟩ := hT1.cells
  have hai : (a : Int) ≤ (s.size : Int) := by omega
  have ha0 : (0 : Int) ≤ (a : Int) := by omega
  have hwr : IntKind.i64.wrap ((a : Int) + (n : Int)) = (a : Int) + (n : Int) := by rw [IntKind.wrap_i64]; omega
  have HRR := Lib.hid hR
  clear hR htp ht htl hpl hq her hT1 hw1 hk1 h hv hn
  go_enter Tryz.func81, Tryz.ntmps81
  go_upto_region 1 with (fail)
  rw [zeroW_out HW1]
  go_region_held3 (fun W => W.cell? ⟨P, 0, none⟩ = some (.string s) ∧ W.cell? ⟨P, 1, none⟩ = some (.int .i64 a) ∧ TxS P s a o v w W)
    (first | assumption | exact (TxS.hd HT1).out.all)
    ((go_at_call 118; refine (CS.out _).mono ?_; rintro e w7 ⟨rfl, hb7⟩; have hfin := keepT hb7 (by assumption)))
  have HT2 := Lib.hid hfin.2.2
  obtain ⟨b0, b1, -⟩ := hfin
  have hni : (0 : Int) ≤ (n : Int) := by omega
  have han : (a : Int) + (n : Int) ≤ (s.size : Int) := by omega
  have htn : ((a : Int) + (n : Int)).toNat = a + n := by omega
  have hle2 : (a : Int) ≤ (a : Int) + (n : Int) := by omega
  clear HT1 HW1 a0 a1 CS
  go_wp2_with fail
  go_region_held3 (fun W => W.cell? ⟨P, 0, none⟩ = some (.string s) ∧ W.cell? ⟨P, 1, none⟩ = some (.int .i64 a) ∧ TxS P s a o v w W)
    (first | assumption | exact (TxS.hd HT2).out.all)
    ((go_at_call 119; refine (CU.out _ (TxS.v (And.right (And.right (by assumption : _ ∧ _ ∧ TxS P s a o v w _))))).mono ?_; rintro e w8 ⟨rfl, hb8⟩; have hfin2 := keepT hb8 (by assumption)))
  have hT3 := hfin2.2.2
  have HT3 := Lib.hid hT3
  clear hfin2 HT2 b0 b1 CU
  rcases hqn with ⟨hqn, her | her⟩
  · subst her
    obtain ⟨b0, b1, b2, b3, b4⟩ := hT3.p.cells
    have f1 := hT3.p.frozen 1
    have hp9 := hT3.p.set1 (.int .i64 ((a + n : Nat) : Int))
    rw [show ((a + n : Nat) : Int) = (a : Int) + (n : Int) by omega] at hp9
    obtain ⟨w9, hw9⟩ : ∃ w9, w9 = w8.setCell ⟨P, 1, none⟩ (.int .i64 ((a : Int) + (n : Int))) := ⟨_, rfl⟩
    rw [← hw9] at hp9
    have hk9 : Kept (· = P) w8 w9 := by rw [hw9]; exact kept_setCell _ ⟨P, 1, none⟩ _
    have hp9' : P5 w9 P s (a + n) o v 0 := by unfold P5; rw [show ((a + n : Nat) : Int) = (a : Int) + (n : Int) by omega]; exact hp9
    have hPw : ¬ w.heap.size = P := fun h => by have := hT3.p.lt; have h1 := hT3.p; have h2 := hT3.z; rw [h] at h2; unfold B5 at h2; rw [show w8.heap[P]? = _ from h1] at h2; cases h2
    have hz9 := hT3.z.kept hk9 hPw
    have CT := take_any P s (a + n) o v 0 34 w9 hp9' (by omega) hs
    obtain ⟨r, hr⟩ : ∃ r, r = isC s (a + n) 34 := ⟨_, rfl⟩
    rw [← hr] at CT
    have HC := Lib.hid CT; have HR := Lib.hid hr; have HZ9 := Lib.hid hz9; have HK9 := Lib.hid (hT3.k.trans hk9); have HW9 := Lib.hid hw9.symm
    clear CT hr hz9 hk9 hp9 hp9' hw9 hT3
    have hR0 := HRR.out
    rw [if_neg (by decide)] at hR0
    have HR0 := Lib.hid hR0; clear hR0
    go_wp2_with fail
    rw [HW9.out]
    refine HC.out.mono ?_
    rintro e w10 ⟨rfl, hp10, hk10⟩
    have hz10 := HZ9.out.kept hk10 hPw
    have hk10' := HK9.out.trans hk10
    cases r with
    | true =>
      rw [if_pos rfl] at hp10
      obtain ⟨e1, hlt⟩ := isC_ok HR.out.symm
      have hR1 := HR0.out
      rw [e1] at hR1
      have HF := Lib.hid (step_ok (R := R) (hR := hR1) (k := 3) (m := 0) (t := pl) (l := restL s (a + n + 1)) (w := w) (w' := put5 w10 w.heap.size (.int .i64 3) (.int .i64 0) (.string pl) (.slice none 0 0) (.slice none 0 0)) (by rw [restL_len]; omega) (hp10.kept (kept_put5 _ _ _ _ _ _ _) (fun h => hPw h.symm)) (by rw [restL_len]; omega) (kept_boxP (Nat.le_refl _) hk10' (kept_put5 _ _ _ _ _ _ _)))
      have HZ := Lib.hid (hz10.put (.int .i64 3) (.int .i64 0) (.string pl) (.slice none 0 0) (.slice none 0 0))
      obtain ⟨z0, z1, z2, z3, z4⟩ := hz10.cells
      have y0 := hz10.frozen 0; have y1 := hz10.frozen 1; have y2 := hz10.frozen 2; have y3 := hz10.frozen 3; have y4 := hz10.frozen 4
      clear hz10 hk10 hk10' hp10 HC HZ9 HK9 HW9 HT3 b0 b1 b2 b3 b4 f1
      go_wp2_with fail
      refine bodyPost_ret (res5 rfl _ _ w.heap.size _ _ _ _ _ _ rfl rfl HZ.out) rfl ?_
      exact HF.out
    | false =>
      rw [if_neg (by decide)] at hp10
      have hR1 := HR0.out
      rw [isC_no HR.out.symm] at hR1
      have HR1 := Lib.hid hR1; clear hR1
      have CF := Lib.hid (fail_any P s (a + n) o v (a + n) 0 2 w10 hp10)
      obtain ⟨d0, d1, d2, d3, d4⟩ := hp10.cells
      clear hp10 HC HZ9 HK9 HW9 HT3 b0 b1 b2 b3 b4 f1 hk10
      have HK10 := Lib.hid hk10'; have HZ10 := Lib.hid hz10
      clear hk10' hz10
      go_wp2_with fail
      refine CF.out.mono ?_
      rintro e w11 ⟨rfl, hp11, hk11⟩
      have hz11 := HZ10.out.kept hk11 hPw
      have HF := Lib.hid (step_bad (R := R) (hR := HR1.out) (w := w) (er := 2) (n := s.size - (a + n)) (w' := put5 w11 w.heap.size (.int .i64 0) (.int .i64 0) (.string ⟨#[]⟩) (.slice none 0 0) (.slice none 0 0)) (by omega) (hp11.kept (kept_put5 _ _ _ _ _ _ _) (fun h => hPw h.symm)) (by omega) (kept_boxP (Nat.le_refl _) (HK10.out.trans hk11) (kept_put5 _ _ _ _ _ _ _)))
      have HZ := Lib.hid (hz11.put (.int .i64 0) (.int .i64 0) (.string ⟨#[]⟩) (.slice none 0 0) (.slice none 0 0))
      obtain ⟨z0, z1, z2, z3, z4⟩ := hz11.cells
      have y0 := hz11.frozen 0; have y1 := hz11.frozen 1; have y2 := hz11.frozen 2; have y3 := hz11.frozen 3; have y4 := hz11.frozen 4
      clear hz11 hk11 hp11 CF HK10 HZ10 d0 d1 d2 d3 d4
      go_wp2_with fail
      refine bodyPost_ret (res5 rfl _ _ w.heap.size _ _ _ _ _ _ rfl rfl HZ.out) rfl ?_
      exact HF.out
  · subst her
    have hPw : ¬ w.heap.size = P := fun h => by have h1 := hT3.p; have h2 := hT3.z; rw [h] at h2; unfold B5 at h2; rw [show w8.heap[P]? = _ from h1] at h2; cases h2
    have CF0 := fail_any P s a o v (a + q) 0 2 w8 hT3.p
    rw [show ((a + q : Nat) : Int) = (a : Int) + (q : Int) by omega] at CF0
    have CF := Lib.hid CF0
    have hwq : IntKind.i64.wrap ((a : Int) + (q : Int)) = (a : Int) + (q : Int) := by rw [IntKind.wrap_i64]; omega
    obtain ⟨b0, b1, b2, b3, b4⟩ := hT3.p.cells
    clear hT3 CF0
    have hR0 := HRR.out
    rw [if_pos (by decide)] at hR0
    have HR0 := Lib.hid hR0; clear hR0
    go_wp2_with fail
    refine CF.out.mono ?_
    rintro e w11 ⟨rfl, hp11, hk11⟩
    have hz11 := HT3.out.z.kept hk11 hPw
    have HF := Lib.hid (step_bad (R := R) (hR := HR0.out) (w := w) (er := 2) (n := s.size - a - q) (w' := put5 w11 w.heap.size (.int .i64 0) (.int .i64 0) (.string ⟨#[]⟩) (.slice none 0 0) (.slice none 0 0)) (by omega) (hp11.kept (kept_put5 _ _ _ _ _ _ _) (fun h => hPw h.symm)) (by omega) (kept_boxP (Nat.le_refl _) (HT3.out.k.trans hk11) (kept_put5 _ _ _ _ _ _ _)))
    have HZ := Lib.hid (hz11.put (.int .i64 0) (.int .i64 0) (.string ⟨#[]⟩) (.slice none 0 0) (.slice none 0 0))
    obtain ⟨z0, z1, z2, z3, z4⟩ := hz11.cells
    have y0 := hz11.frozen 0; have y1 := hz11.frozen 1; have y2 := hz11.frozen 2; have y3 := hz11.frozen 3; have y4 := hz11.frozen 4
    clear hz11 hk11 hp11 CF HT3 b0 b1 b2 b3 b4
    go_wp2_with fail
    refine bodyPost_ret (res5 rfl _ _ w.heap.size _ _ _ _ _ _ rfl rfl HZ.out) rfl ?_
    exact HF.out
end Go.Proofs.YtjnhcoflmechmaaGreatDoor

namespace Go.Proofs.YtjnhcoflmechmaaGreatDoor
open Go.RowKit Go.Sort
set_option linter.unusedVariables false
set_option maxRecDepth 100000
def SRowP (w : World) (S : Nat → Prop) (A : Option Addr) (ns : List ByteArray) : Prop :=
  0 < ns.length → ∃ b off, A = some ⟨b, off, none⟩ ∧ S b ∧ b < w.heap.size ∧ ∀ j, (hj : j < ns.length) → w.cell? ⟨b, off + j, none⟩ = some (.string ns[j])
theorem SRowP.kept {w w' : World} {S T : Nat → Prop} {A : Option Addr} {ns : List ByteArray} (h : SRowP w S A ns) (hk : Kept T w w') (hT : ∀ b, S b → b < w.heap.size → ¬ T b) : SRowP w' S A ns := by
  intro h0
  obtain ⟨b, off, hA, hb, hlt, hc⟩ := h h0
  exact ⟨b, off, hA, hb, Nat.lt_of_lt_of_le hlt hk.size, fun j hj => hk.cellOf (hc j hj) (hT b hb hlt)⟩
theorem SRowP.mono {w : World} {S S' : Nat → Prop} {A : Option Addr} {ns : List ByteArray} (h : SRowP w S A ns) (hS : ∀ b, S b → b < w.heap.size → S' b) : SRowP w S' A ns := by
  intro h0
  obtain ⟨b, off, hA, hb, hlt, hc⟩ := h h0
  exact ⟨b, off, hA, hS b hb hlt, hlt, hc⟩
/-- A value whose memory lies in blocks of a set. -/
inductive DatIn (w : World) (S : Nat → Prop) : Dt → NV → Prop
  | mk {d : Dt} {x : NV} (X : Nat → NV) (nm : SRowP w S x.A d.names) (h1 : d.names.length ≤ x.ca) (h2 : x.ca ≤ maxLen) (h3 : x.A = none → x.ca = 0) (h4 : d.list.length ≤ x.ck) (h5 : x.ck ≤ maxLen) (h6 : x.K = none → x.ck = 0)
      (row : 0 < d.list.length → ∃ b off, x.K = some ⟨b, off, none⟩ ∧ S b ∧ b < w.heap.size ∧ ∀ j, (h : j < d.list.length) → DatCells w b (off + j * 5) d.list[j] (X j))
      (sub : ∀ j, (h : j < d.list.length) → DatIn w S d.list[j] (X j)) : DatIn w S d x
theorem DatIn.kept {w w' : World} {S T : Nat → Prop} {d : Dt} {x : NV} (h : DatIn w S d x) (hk : Kept T w w') (hT : ∀ b, S b → b < w.heap.size → ¬ T b) : DatIn w' S d x := by
  induction h with
  | mk X nm h1 h2 h3 h4 h5 h6 row sub ih =>
    refine .mk X (nm.kept hk hT) h1 h2 h3 h4 h5 h6 (fun h0 => ?_) ih
    obtain ⟨b, off, hK, hb, hlt, hc⟩ := row h0
    exact ⟨b, off, hK, hb, Nat.lt_of_lt_of_le hlt hk.size, fun j hj => (hc j hj).kept hk (hT b hb hlt)⟩
theorem DatIn.mono {w : World} {S S' : Nat → Prop} {d : Dt} {x : NV} (h : DatIn w S d x) (hS : ∀ b, S b → b < w.heap.size → S' b) : DatIn w S' d x := by
  induction h with
  | mk X nm h1 h2 h3 h4 h5 h6 row sub ih =>
    refine .mk X (nm.mono hS) h1 h2 h3 h4 h5 h6 (fun h0 => ?_) ih
    obtain ⟨b, off, hK, hb, hlt, hc⟩ := row h0
    exact ⟨b, off, hK, hS b hb hlt, hlt, hc⟩
theorem DatIn.at {w : World} {S : Nat → Prop} {d : Dt} {x : NV} (h : DatIn w S d x) : DatAt w w.heap.size d x := by
  induction h with
  | mk X nm h1 h2 h3 h4 h5 h6 row sub ih =>
    refine .mk X (fun h0 => ?_) h1 h2 h3 h4 h5 h6 (fun h0 => ?_) ih
    · obtain ⟨b, off, hA, hb, hlt, hc⟩ := nm h0
      exact ⟨b, off, hA, hlt, hc⟩
    · obtain ⟨b, off, hK, hb, hlt, hc⟩ := row h0
      exact ⟨b, off, hK, hlt, hc⟩
theorem din_zero (w : World) (S : Nat → Prop) (k n : Int) (t : ByteArray) : DatIn w S (.mk k n t [] []) ⟨none, 0, none, 0⟩ := .mk (fun _ => ⟨none, 0, none, 0⟩) (fun h => by simp [Dt.names] at h) (Nat.le_refl _) (by simp [maxLen]) (fun _ => rfl) (Nat.le_refl _) (by simp [maxLen]) (fun _ => rfl) (fun h => by simp [Dt.list] at h) (fun j h => by simp [Dt.list] at h)
abbrev DV := Dt × NV
def dds (ps : List DV) : List Value := ps.flatMap fun p => datCells p.1 p.2
theorem dds_length (ps : List DV) : (dds ps).length = ps.length * 5 := by
  induction ps with
  | nil => rfl
  | cons p r ih => unfold dds at ih ⊢; rw [List.flatMap_cons, List.length_append, ih]; simp [datCells]; omega
theorem dds_append (ps qs : List DV) : dds (ps ++ qs) = dds ps ++ dds qs := by unfold dds; rw [List.flatMap_append]
theorem dds_at (ps : List DV) (j : Nat) (hj : j < ps.length) (i : Nat) (hi : i < 5) : (dds ps)[j * 5 + i]? = (datCells ps[j].1 ps[j].2)[i]? := by
  induction ps generalizing j with
  | nil => simp at hj
  | cons p r ih =>
    have e : dds (p :: r) = datCells p.1 p.2 ++ dds r := rfl
    rw [e]
    cases j with
    | zero => rw [List.getElem?_append_left (by simp [datCells]; omega)]; simp
    | succ j =>
      rw [List.getElem?_append_right (by simp [datCells]; omega), show (j + 1) * 5 + i - (datCells p.1 p.2).length = j * 5 + i by simp [datCells]; omega, ih j (by simpa using hj)]
      simp
theorem Kept.own {S : Nat → Prop} {w w' : World} (h : Kept S w w') {base : Nat} {e : TypeId} {size : Nat} {v : Value} {n : Nat} {xs : List Value} (ho : w.ownsRow base e size v n xs) (hs : ∀ k, v.ownBlock = some k → ¬ S k) : w'.ownsRow base e size v n xs := by
  refine ⟨ho.1, ?_⟩
  rcases ho.2 with hn | ⟨g, cap, cur, rfl, hg, hh, r⟩
  · exact .inl hn
  · exact .inr ⟨g, cap, cur, rfl, hg, (h.block g (Array.getElem?_eq_some_iff.1 hh).1 (hs g rfl)).trans hh, r⟩
theorem own_parts {w : World} {base e size : Nat} {v : Value} {n : Nat} {xs : List Value} (h : w.ownsRow base e size v n xs) (h0 : 0 < size) :
    ∃ A c, v = .slice A n c ∧ n ≤ c ∧ c ≤ maxLen ∧ (A = none → c = 0) ∧ (0 < n → ∃ g, A = some ⟨g, 0, none⟩ ∧ base ≤ g ∧ g < w.heap.size ∧ ∀ j, j < n * size → w.cell? ⟨g, j, none⟩ = xs[j]?) := by
  rcases h.2 with ⟨rfl, hn⟩ | ⟨g, cap, cur, rfl, hbg, hg, hnc, hcm, _, _⟩
  · exact ⟨none, 0, by rw [hn], by omega, by simp [maxLen], fun _ => rfl, fun h1 => by omega⟩
  · exact ⟨_, cap, rfl, hnc, hcm, (fun h => by cases h), fun _ => ⟨g, rfl, hbg, (Array.getElem?_eq_some_iff.1 hg).1, fun j hj => World.ownsRow.cellAt h j hj⟩⟩
/-- The group that is being read: its box at D, its names and its values so far. -/
structure GS (W : World) (base D P : Nat) (k : Int) (ns : List ByteArray) (ps : List DV) (vN vK : Value) : Prop where
  box : B5 W D 46 (.int .i64 k) (.int .i64 0) (.string ⟨#[]⟩) vN vK
  rn : W.ownsRow base 9 1 vN ns.length (ns.map Value.string)
  rk : W.ownsRow base 46 5 vK ps.length (dds ps)
  apart : ∀ b, vN.ownBlock = some b → vK.ownBlock ≠ some b
  kids : ∀ p ∈ ps, DatIn W (fun b => base ≤ b ∧ ¬ OwnB vN b ∧ ¬ OwnB vK b) p.1 p.2
  hD : D < base
  hP : P < base
  hDP : D ≠ P
theorem GS.keepP {W W' : World} {base D P : Nat} {k : Int} {ns : List ByteArray} {ps : List DV} {vN vK : Value} (g : GS W base D P k ns ps vN vK) (hk : Kept (· = P) W W') : GS W' base D P k ns ps vN vK :=
  ⟨g.box.kept hk g.hDP, hk.own g.rn (fun b hb e => by have h1 := (g.rn.lt b hb).1; have h2 := g.hP; have e' : b = P := e; omega), hk.own g.rk (fun b hb e => by have h1 := (g.rk.lt b hb).1; have h2 := g.hP; have e' : b = P := e; omega), g.apart, fun p hp => (g.kids p hp).kept hk (fun b hb _ e => by have h2 := g.hP; have e' : b = P := e; omega), g.hD, g.hP, g.hDP⟩
theorem GS.names {W W' : World} {base D P : Nat} {k : Int} {ns : List ByteArray} {ps : List DV} {vN vK v' : Value} {ms : List ByteArray} (g : GS W base D P k ns ps vN vK) (hr : W'.ownsRow base 9 1 v' (ns ++ ms).length ((ns ++ ms).map Value.string)) (hk : Kept (OwnB vN) W W') (hf : Fresh W vN v') (hs : W.heap.size ≤ W'.heap.size) :
    GS (W'.setCell ⟨D, 3, none⟩ v') base D P k (ns ++ ms) ps v' vK := by
  have hDN : ¬ OwnB vN D := fun e => by have := (g.rn.lt D e).1; have := g.hD; omega
  have hb := g.box.kept hk hDN
  have hks : Kept (· = D) W' (W'.setCell ⟨D, 3, none⟩ v') := kept_setCell W' ⟨D, 3, none⟩ v'
  have hrk := hk.own g.rk (fun b hb e => g.apart b e hb)
  refine ⟨hb.set3 _, hks.own hr (fun b hb e => by have h1 := (hr.lt b hb).1; have h2 := g.hD; have e' : b = D := e; omega), hks.own hrk (fun b hb e => by have h1 := (g.rk.lt b hb).1; have h2 := g.hD; have e' : b = D := e; omega), fun b hb hb2 => ?_, fun p hp => ?_, g.hD, g.hP, g.hDP⟩
  · rcases Nat.lt_or_ge b W.heap.size with h1 | h1
    · exact g.apart b (hf b h1 hb) hb2
    · have := (g.rk.lt b hb2).2; omega
  · have h0 := (g.kids p hp).mono (S' := fun b => b < W.heap.size ∧ base ≤ b ∧ ¬ OwnB vN b ∧ ¬ OwnB vK b) (fun b hb hlt => ⟨hlt, hb⟩)
    refine ((h0.kept hk (fun b hb _ e => hb.2.2.1 e)).kept hks (fun b hb _ e => by have h2 := g.hD; have e' : b = D := e; omega)).mono (fun b hb hlt => ⟨hb.2.1, fun e => hb.2.2.1 (hf b hb.1 e), hb.2.2.2⟩)
/-- One value more. -/
theorem GS.add {W W' : World} {base D P : Nat} {k : Int} {ns : List ByteArray} {ps : List DV} {vN vK v' : Value} {d : Dt} {x : NV} (g : GS W base D P k ns ps vN vK) (hr : W'.ownsRow base 46 5 v' (ps ++ [(d, x)]).length (dds (ps ++ [(d, x)]))) (hk : Kept (OwnB vK) W W') (hf : Fresh W vK v')
    (hd : DatIn W (fun b => base ≤ b ∧ ¬ OwnB vN b ∧ ¬ OwnB vK b) d x) : GS (W'.setCell ⟨D, 4, none⟩ v') base D P k ns (ps ++ [(d, x)]) vN v' := by
  have hDK : ¬ OwnB vK D := fun e => by have := (g.rk.lt D e).1; have := g.hD; omega
  have hb := g.box.kept hk hDK
  have hks : Kept (· = D) W' (W'.setCell ⟨D, 4, none⟩ v') := kept_setCell W' ⟨D, 4, none⟩ v'
  have hrn := hk.own g.rn (fun b hb e => g.apart b hb e)
  refine ⟨hb.set4 _, hks.own hrn (fun b hb e => by have h1 := (g.rn.lt b hb).1; have h2 := g.hD; have e' : b = D := e; omega), hks.own hr (fun b hb e => by have h1 := (hr.lt b hb).1; have h2 := g.hD; have e' : b = D := e; omega), fun b hb hb2 => ?_, fun p hp => ?_, g.hD, g.hP, g.hDP⟩
  · rcases Nat.lt_or_ge b W.heap.size with h1 | h1
    · exact g.apart b hb (hf b h1 hb2)
    · have := (g.rn.lt b hb).2; omega
  · have hp' : DatIn W (fun b => base ≤ b ∧ ¬ OwnB vN b ∧ ¬ OwnB vK b) p.1 p.2 := by
      rcases List.mem_append.1 hp with h1 | h1
      · exact g.kids p h1
      · simp only [List.mem_singleton] at h1; subst h1; exact hd
    have h0 := hp'.mono (S' := fun b => b < W.heap.size ∧ base ≤ b ∧ ¬ OwnB vN b ∧ ¬ OwnB vK b) (fun b hb hlt => ⟨hlt, hb⟩)
    refine ((h0.kept hk (fun b hb _ e => hb.2.2.2 e)).kept hks (fun b hb _ e => by have h2 := g.hD; have e' : b = D := e; omega)).mono (fun b hb hlt => ⟨hb.2.1, hb.2.2.1, fun e => hb.2.2.2 (hf b hb.1 e)⟩)
/-- The group as a value. -/
theorem GS.value {W : World} {base D P : Nat} {k : Int} {ns : List ByteArray} {ps : List DV} {vN vK : Value} (g : GS W base D P k ns ps vN vK) :
    ∃ x : NV, vN = .slice x.A ns.length x.ca ∧ vK = .slice x.K ps.length x.ck ∧ DatIn W (fun b => base ≤ b) (.mk k 0 ⟨#[]⟩ ns (ps.map Prod.fst)) x := by
  obtain ⟨A, ca, hvN, a1, a2, a3, a4⟩ := own_parts g.rn (by decide)
  obtain ⟨K, ck, hvK, k1, k2, k3, k4⟩ := own_parts g.rk (by decide)
  refine ⟨⟨A, ca, K, ck⟩, hvN, hvK, .mk (fun j => (ps.getD j (.mk 0 0 ⟨#[]⟩ [] [], ⟨none, 0, none, 0⟩)).2) (fun h0 => ?_) a1 a2 a3 (by simpa [Dt.list] using k1) k2 k3 (fun h0 => ?_) (fun j hj => ?_)⟩
  · obtain ⟨b, hA, hb, hlt, hc⟩ := a4 h0
    refine ⟨b, 0, hA, hb, hlt, fun j hj => ?_⟩
    have hj' : j < ns.length := hj
    rw [Nat.zero_add, hc j (by omega)]
    simp [Dt.names, hj']
  · have h0' : 0 < ps.length := by simpa [Dt.list] using h0
    obtain ⟨b, hK, hb, hlt, hc⟩ := k4 h0'
    refine ⟨b, 0, hK, hb, hlt, fun j hj => ?_⟩
    have hj' : j < ps.length := by simpa [Dt.list] using hj
    have e1 : (Dt.mk k 0 ⟨#[]⟩ ns (ps.map Prod.fst)).list[j] = ps[j].1 := by simp [Dt.list]
    have e2 : (ps.getD j (.mk 0 0 ⟨#[]⟩ [] [], ⟨none, 0, none, 0⟩)).2 = ps[j].2 := by simp [List.getD_eq_getElem?_getD, hj']
    rw [e1, e2]
    have key : ∀ i, i < 5 → W.cell? ⟨b, 0 + j * 5 + i, none⟩ = (datCells ps[j].1 ps[j].2)[i]? := fun i hi => by
      rw [Nat.zero_add, hc (j * 5 + i) (by omega), dds_at ps j hj' i hi]
    exact ⟨key 0 (by decide), key 1 (by decide), key 2 (by decide), key 3 (by decide), key 4 (by decide)⟩
  · have hj' : j < ps.length := by simpa [Dt.list] using hj
    have e1 : (Dt.mk k 0 ⟨#[]⟩ ns (ps.map Prod.fst)).list[j] = ps[j].1 := by simp [Dt.list]
    have e2 : (ps.getD j (.mk 0 0 ⟨#[]⟩ [] [], ⟨none, 0, none, 0⟩)).2 = ps[j].2 := by simp [List.getD_eq_getElem?_getD, hj']
    rw [e1, e2]
    exact (g.kids _ (List.getElem_mem hj')).mono (fun b hb _ => hb.1)
end Go.Proofs.YtjnhcoflmechmaaGreatDoor
