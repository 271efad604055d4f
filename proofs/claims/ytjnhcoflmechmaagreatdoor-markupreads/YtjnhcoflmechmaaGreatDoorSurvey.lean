/-
  What is wrong with a node alone: placeFault, nodeFault, and the reference's Alone. | The state of a survey: what has been passed, how deep it went, the keys of the siblings. | vtree's survey visits the nodes as the plain visit does. | vtree: survey, Check, Size, Depth, isValid. | append at slices of attributes.
-/
import Derived.Test.YtjnhcoflmechmaaGreatDoorTree
import Derived.Carry
import Derived.Laws.EntriesVeiled
import Derived.OwnWalk
import Derived.Laws.AppendOwnNone
namespace Go.Proofs.YtjnhcoflmechmaaGreatDoor
open Go.RowKit Go.Sort
set_option linter.unusedVariables false
set_option maxRecDepth 100000
abbrev nodeV (t : Tr) (x : NV) : Value := .agg #[.string t.tag, .string t.key, .string t.text, .slice x.A t.as.length x.ca, .slice x.K t.kids.length x.ck]
abbrev boxW (w : World) (t : Tr) (x : NV) : World := w.alloc (.cells #[.string t.tag, .string t.key, .string t.text, .slice x.A t.as.length x.ca, .slice x.K t.kids.length x.ck] 25)
theorem box_out {w w1 : World} {t : Tr} {x : NV} (h : RowKit.Hid (w1 = boxW w t x)) : w.alloc (.cells #[.string t.tag, .string t.key, .string t.text, .slice x.A t.as.length x.ca, .slice x.K t.kids.length x.ck] 25) = w1 := h.out.symm
theorem below_box (w : World) (t : Tr) (x : NV) : Below w.heap.size w (boxW w t x) := (Below.refl _ _).alloc (Nat.le_refl _) _
def placeF (n d : Nat) : Int := if n = 4096 then 12 else if 64 < d then 11 else 0
theorem placeFault_any (n d : Nat) (w : World) : Calls Tryz.prog 98 #[.int .i64 n, .int .i64 d] w fun e w' => e = .returned (.int .i64 (placeF n d)) ∧ w = w' := by
  by_cases h1 : n = 4096
  · have h1' : ((n : Int) == 4096) = true := by rw [h1]; rfl
    have HR := Lib.hid (show placeF n d = 12 by simp [placeF, h1])
    clear h1
    go_enter Tryz.func98, Tryz.ntmps98
    go_wp2_with fail
    go_ret
    exact ⟨ret_int HR.out.symm, rfl⟩
  · have h1' : ((n : Int) == 4096) = false := by rw [beq_eq_false_iff_ne]; omega
    by_cases h2 : 64 < d
    · have HR := Lib.hid (show placeF n d = 11 by simp [placeF, h1, h2])
      have h2' : (d : Int) > 64 := by omega
      clear h1
      go_enter Tryz.func98, Tryz.ntmps98
      go_wp2_with fail
      go_ret
      exact ⟨ret_int HR.out.symm, rfl⟩
    · have HR := Lib.hid (show placeF n d = 0 by simp [placeF, h1, h2])
      have h2' : ¬ (d : Int) > 64 := by omega
      clear h1
      go_enter Tryz.func98, Tryz.ntmps98
      go_wp2_with fail
      go_ret
      exact ⟨ret_int HR.out.symm, rfl⟩
/-- The fault of a node by itself and among its siblings. -/
def NodeP (t : Tr) (S : ByteArray → Prop) (f : Int) : Prop := (aloneT t ≠ 0 ∧ f = aloneT t) ∨ (aloneT t = 0 ∧ S t.key ∧ f = 10) ∨ (aloneT t = 0 ∧ ¬ S t.key ∧ f = 0)
theorem alone_tag {t : Tr} (h : wfB tagB t.tag = false) : aloneT t = 7 := by simp [aloneT, h]
theorem alone_long {t : Tr} (h : wfB tagB t.tag = true) (h2 : 65536 < t.key.size ∨ 65536 < t.text.size) : aloneT t = 3 := by simp [aloneT, h, h2]
theorem alone_att {t : Tr} (h : wfB tagB t.tag = true) (h2 : t.key.size ≤ 65536) (h3 : t.text.size ≤ 65536) : aloneT t = attE t.as := by
  have : ¬ (65536 < t.key.size ∨ 65536 < t.text.size) := by omega
  simp [aloneT, h, this]
set_option maxHeartbeats 2000000 in
theorem nodeFault_any (t : Tr) (x : NV) (w : World) (bm n : Nat) (S : ByteArray → Prop) (h : TRow w w.heap.size x.A t.as) (hg : GoodT t) (hm : KSet w bm n S) :
    Calls Tryz.prog 99 #[nodeV t x, .map (some bm)] w fun e w' => ∃ f, e = .returned (.int .i64 f) ∧ NodeP t S f ∧ Below w.heap.size w w' := by
  obtain ⟨s1, s2, s3, s4, s5, s6⟩ := hg.sizes
  obtain ⟨w1, hw1⟩ : ∃ w1, w1 = boxW w t x := ⟨_, rfl⟩
  have hb1 : Below w.heap.size w w1 := by rw [hw1]; exact below_box w t x
  have hbox : KidCells w1 w.heap.size 0 t x := by rw [hw1]; exact box_node w t x
  obtain ⟨c0, c1, c2, c3, c4⟩ := hbox
  have HW := Lib.hid hw1; have HB1 := Lib.hid hb1
  have HT := Lib.hid (h.up hb1)
  have HM := Lib.hid (hm.keep (kept_below hb1 (fun _ => False)) (fun h => h))
  have CT := Lib.hid (tag_any t.tag w1 s1)
  have HS5 := Lib.hid s5
  clear hw1 hb1 h hm hg s1 s5
  cases htag : wfB tagB t.tag with
  | false =>
    rw [htag] at CT
    have HA := Lib.hid (alone_tag htag)
    clear htag
    go_enter Tryz.func99, Tryz.ntmps99
    go_wp2_with fail
    rw [box_out HW]
    refine CT.out.mono ?_
    rintro e w2 ⟨rfl, rfl⟩
    go_wp2_with fail
    go_ret
    exact ⟨7, rfl, .inl ⟨by rw [HA.out]; decide, HA.out.symm⟩, HB1.out⟩
  | true =>
    rw [htag] at CT
    have HTG := Lib.hid htag
    clear htag
    go_enter Tryz.func99, Tryz.ntmps99
    go_wp2_with fail
    rw [box_out HW]
    refine CT.out.mono ?_
    rintro e w2 ⟨rfl, rfl⟩
    go_wp2_with fail
    refine (fits_any t.key _).mono ?_
    rintro e w3 ⟨rfl, rfl⟩
    by_cases hk : t.key.size ≤ 65536
    · rw [decide_eq_true hk]
      go_wp2_with fail
      refine (fits_any t.text _).mono ?_
      rintro e w3 ⟨rfl, rfl⟩
      by_cases hx : t.text.size ≤ 65536
      · rw [decide_eq_true hx]
        have HAT := Lib.hid (alone_att HTG.out hk hx)
        have CA := Lib.hid (check_any x.A x.ca t.as w1 HT.out s4 HS5.out)
        go_wp2_with fail
        refine CA.out.mono ?_
        rintro e w4 ⟨a, f, rfl, hcp, hb4⟩
        have HF := Lib.hid (attE_of hcp)
        have HB4 := Lib.hid (HB1.out.trans (hb4.mono HB1.out.size))
        have hlt : w.heap.size < w1.heap.size := World.block_lt_of_cell? w1 _ c0
        have d1 : w4.cell? ⟨w.heap.size, 0 + 1, none⟩ = some (.string t.key) := (hb4.cell (p := ⟨w.heap.size, 0 + 1, none⟩) hlt).trans c1
        have HM4 := Lib.hid (HM.out.keep (kept_below hb4 (fun _ => False)) (fun h => h))
        clear hcp hb4 CA HM HT c0 c1 c2 c3 c4 CT
        by_cases hz : f = 0
        · subst hz
          obtain ⟨r, hr, hlook⟩ := HM4.out.look t.key (by unfold maxLen; omega)
          have HR := Lib.hid hr
          clear hr
          cases r with
          | true =>
            have HQ := Lib.hid (HR.out.1 rfl)
            clear HR
            go_wp2_with fail
            go_ret
            exact ⟨10, rfl, .inr (.inl ⟨by rw [HAT.out, ← HF.out], HQ.out, rfl⟩), HB4.out.trans (((Below.refl _ _).alloc (Nat.le_refl _) _).mono HB4.out.size)⟩
          | false =>
            have HQ := Lib.hid (show ¬ S t.key from fun h => by have := HR.out.2 h; cases this)
            clear HR
            go_wp2_with fail
            go_ret
            exact ⟨0, rfl, .inr (.inr ⟨by rw [HAT.out, ← HF.out], HQ.out, rfl⟩), HB4.out.trans (((Below.refl _ _).alloc (Nat.le_refl _) _).mono HB4.out.size)⟩
        · have hz' : (f != 0) = true := by simpa using hz
          have HZ := Lib.hid hz
          clear hz
          go_wp2_with fail
          go_ret
          exact ⟨f, rfl, .inl ⟨by rw [HAT.out, ← HF.out]; exact HZ.out, by rw [HAT.out, ← HF.out]⟩, HB4.out⟩
      · rw [decide_eq_false hx]
        have HA := Lib.hid (alone_long HTG.out (.inr (by omega)))
        go_wp2_with fail
        go_ret
        exact ⟨3, rfl, .inl ⟨by rw [HA.out]; decide, HA.out.symm⟩, HB1.out⟩
    · rw [decide_eq_false hk]
      have HA := Lib.hid (alone_long HTG.out (.inl (by omega)))
      go_wp2_with fail
      go_ret
      exact ⟨3, rfl, .inl ⟨by rw [HA.out]; decide, HA.out.symm⟩, HB1.out⟩
set_option maxHeartbeats 2000000 in
theorem alone_any (t : Tr) (x : NV) (w : World) (h : TRow w w.heap.size x.A t.as) (hg : GoodT t) :
    Calls Tryz.prog 36 #[nodeV t x] w fun e w' => e = .returned (.int .i64 (aloneT t)) ∧ Below w.heap.size w w' := by
  obtain ⟨s1, s2, s3, s4, s5, s6⟩ := hg.sizes
  obtain ⟨w1, hw1⟩ : ∃ w1, w1 = boxW w t x := ⟨_, rfl⟩
  have hb1 : Below w.heap.size w w1 := by rw [hw1]; exact below_box w t x
  have hbox : KidCells w1 w.heap.size 0 t x := by rw [hw1]; exact box_node w t x
  obtain ⟨c0, c1, c2, c3, c4⟩ := hbox
  have HW := Lib.hid hw1; have HB1 := Lib.hid hb1
  have HT := Lib.hid (h.up hb1)
  have CT := Lib.hid (named_any t.tag false w1 s1)
  rw [show innerB false = tagB from rfl] at CT
  have HS5 := Lib.hid s5
  clear hw1 hb1 h hg s1 s5
  cases htag : wfB tagB t.tag with
  | false =>
    rw [htag] at CT
    have HA := Lib.hid (alone_tag htag)
    clear htag
    go_enter Tryz.func36, Tryz.ntmps36
    go_wp2_with fail
    rw [box_out HW]
    refine CT.out.mono ?_
    rintro e w2 ⟨rfl, rfl⟩
    go_wp2_with fail
    go_ret
    exact ⟨ret_int HA.out.symm, HB1.out⟩
  | true =>
    rw [htag] at CT
    have HTG := Lib.hid htag
    clear htag
    by_cases hk : t.key.size ≤ 65536
    · by_cases hx : t.text.size ≤ 65536
      · have HAT := Lib.hid (alone_att HTG.out hk hx)
        have CA := Lib.hid (refCheck_any x.A x.ca t.as w1 HT.out s4 HS5.out)
        have hk' : ¬ (t.key.size : Int) > 65536 := by omega
        have hx' : ¬ (t.text.size : Int) > 65536 := by omega
        go_enter Tryz.func36, Tryz.ntmps36
        go_wp2_with fail
        rw [box_out HW]
        refine CT.out.mono ?_
        rintro e w2 ⟨rfl, rfl⟩
        go_wp2_with fail
        refine CA.out.mono ?_
        rintro e w4 ⟨a, f, rfl, hcp, hb4⟩
        have HF := Lib.hid (attE_of hcp)
        have HB4 := Lib.hid (HB1.out.trans (hb4.mono HB1.out.size))
        clear hcp hb4 CA HT c0 c1 c2 c3 c4 CT
        go_wp2_with fail
        go_ret
        exact ⟨ret_int (by rw [HAT.out, ← HF.out]), HB4.out⟩
      · have HA := Lib.hid (alone_long HTG.out (.inr (by omega)))
        have hk' : ¬ (t.key.size : Int) > 65536 := by omega
        have hx' : (t.text.size : Int) > 65536 := by omega
        go_enter Tryz.func36, Tryz.ntmps36
        go_wp2_with fail
        rw [box_out HW]
        refine CT.out.mono ?_
        rintro e w2 ⟨rfl, rfl⟩
        go_wp2_with fail
        go_ret
        exact ⟨ret_int HA.out.symm, HB1.out⟩
    · have HA := Lib.hid (alone_long HTG.out (.inl (by omega)))
      have hk' : (t.key.size : Int) > 65536 := by omega
      go_enter Tryz.func36, Tryz.ntmps36
      go_wp2_with fail
      rw [box_out HW]
      refine CT.out.mono ?_
      rintro e w2 ⟨rfl, rfl⟩
      go_wp2_with fail
      go_ret
      exact ⟨ret_int HA.out.symm, HB1.out⟩
end Go.Proofs.YtjnhcoflmechmaaGreatDoor

namespace Go.Proofs.YtjnhcoflmechmaaGreatDoor
open Go.RowKit Go.Sort
set_option linter.unusedVariables false
set_option maxRecDepth 100000
structure VS (w : World) (bp bd bv : Nat) (l : List It) : Prop where
  p : w.cell? ⟨bp, 0, none⟩ = some (.int .i64 l.length)
  d : w.cell? ⟨bd, 0, none⟩ = some (.int .i64 (maxD l))
  v : w.cell? ⟨bv, 0, none⟩ = some (.func (.func 97) #[] #[.pointer (some ⟨bp, 0, none⟩), .pointer (some ⟨bd, 0, none⟩), .pointer (some ⟨bv, 0, none⟩)])
  fp : w.frozen? ⟨bp, 0, none⟩ = false
  fd : w.frozen? ⟨bd, 0, none⟩ = false
structure Apart (n0 bp bd bv bm : Nat) : Prop where
  pd : ¬ bp = bd
  pv : ¬ bp = bv
  dv : ¬ bd = bv
  mp : ¬ bm = bp
  md : ¬ bm = bd
  mv : ¬ bm = bv
  lp : n0 ≤ bp
  ld : n0 ≤ bd
  lv : n0 ≤ bv
  lm : n0 ≤ bm
theorem VS.keep {w w' : World} {bp bd bv : Nat} {l : List It} (h : VS w bp bd bv l) {S : Nat → Prop} (hk : Kept S w w') (h1 : ¬ S bp) (h2 : ¬ S bd) (h3 : ¬ S bv) : VS w' bp bd bv l :=
  ⟨hk.cellOf h.p h1, hk.cellOf h.d h2, hk.cellOf h.v h3, (hk.frozen (a := ⟨bp, 0, none⟩) (World.block_lt_of_cell? w _ h.p) h1).trans h.fp, (hk.frozen (a := ⟨bd, 0, none⟩) (World.block_lt_of_cell? w _ h.d) h2).trans h.fd⟩
theorem VS.lt {w : World} {bp bd bv : Nat} {l : List It} (h : VS w bp bd bv l) : bp < w.heap.size ∧ bd < w.heap.size ∧ bv < w.heap.size := ⟨World.block_lt_of_cell? w _ h.p, World.block_lt_of_cell? w _ h.d, World.block_lt_of_cell? w _ h.v⟩
/-- The two counters moved on by one node. -/
abbrev setW (w : World) (bp bd : Nat) (a b : Int) : World := (w.setCell ⟨bp, 0, none⟩ (.int .i64 a)).setCell ⟨bd, 0, none⟩ (.int .i64 b)
theorem kept_setW (w : World) (bp bd : Nat) (a b : Int) : Kept (fun k => k = bp ∨ k = bd) w (setW w bp bd a b) :=
  ((kept_setCell w ⟨bp, 0, none⟩ _).mono (fun _ _ h => .inl h)).trans ((kept_setCell _ ⟨bd, 0, none⟩ _).mono (fun _ _ h => .inr h))
theorem VS.step {w : World} {bp bd bv : Nat} {l : List It} (h : VS w bp bd bv l) (h1 : ¬ bp = bd) (h2 : ¬ bp = bv) (h3 : ¬ bd = bv) (x : It) {a b : Int} (ha : a = l.length + 1) (hb : b = max (maxD l : Int) (x.d : Int)) : VS (setW w bp bd a b) bp bd bv (l ++ [x]) := by
  have hk := kept_setW w bp bd a b
  refine ⟨?_, ?_, hk.cellOf h.v (fun e => e.elim (fun e => h2 e.symm) (fun e => h3 e.symm)), ?_, ?_⟩
  · rw [(kept_setCell _ ⟨bd, 0, none⟩ _).cellOf (World.cell?_setCell_same _ _ _ h.p) h1, ha]; simp
  · have h4 : (w.setCell ⟨bp, 0, none⟩ (.int .i64 a)).cell? ⟨bd, 0, none⟩ = some (.int .i64 (maxD l)) := (kept_setCell _ ⟨bp, 0, none⟩ _).cellOf h.d (fun e => h1 e.symm)
    have e : ((max (maxD l) x.d : Nat) : Int) = max (maxD l : Int) (x.d : Int) := by omega
    rw [World.cell?_setCell_same _ _ _ h4, hb, maxD_snoc, e]
  · simp [h.fp]
  · simp [h.fd]
theorem nodeF_place {t : Tr} {d : Nat} {up : Int} {l : List It} (h : placeF l.length d ≠ 0) : nodeF aloneT l ⟨t, d, up⟩ = placeF l.length d := by
  unfold placeF at h ⊢
  unfold nodeF
  by_cases h1 : l.length = 4096
  · simp [h1]
  · by_cases h2 : 64 < d
    · simp [h1, h2]
    · simp [h1, h2] at h
theorem nodeF_node {t : Tr} {d : Nat} {up : Int} {l : List It} {f : Int} (h : placeF l.length d = 0) (hu : 0 ≤ up ∨ l = []) (hp : NodeP t (fun k => k ≠ noB ∧ hasKey l up k) f) : nodeF aloneT l ⟨t, d, up⟩ = f := by
  unfold placeF at h
  have h1 : ¬ l.length = 4096 := fun e => by rw [if_pos e] at h; cases h
  have h2 : ¬ 64 < d := fun e => by rw [if_neg h1, if_pos e] at h; cases h
  unfold nodeF
  rw [if_neg h1, if_neg h2]
  rcases hp with ⟨ha, rfl⟩ | ⟨ha, hs, rfl⟩ | ⟨ha, hs, rfl⟩
  · rw [if_pos ha]
  · rw [if_neg (by simpa using ha), if_pos]
    refine ⟨?_, hs.1, hs.2⟩
    rcases hu with hu | hu
    · exact hu
    · subst hu
      obtain ⟨x, hx, _⟩ := hs.2
      simp at hx
  · rw [if_neg (by simpa using ha), if_neg]
    exact fun h => hs ⟨h.2.1, h.2.2⟩
theorem visitK_append (al : Tr → Int) : ∀ (a b : List Tr) (d : Nat) (up : Int) (l : List It), visitK al (a ++ b) d up l = if (visitK al a d up l).2 = 0 then visitK al b d up (visitK al a d up l).1 else visitK al a d up l
  | [], b, d, up, l => by simp [visitK]
  | k :: a, b, d, up, l => by
    rw [List.cons_append, visitK, visitK]
    by_cases h : (visitL al k d up l).2 = 0
    · rw [if_pos h, if_pos h]; exact visitK_append al a b d up _
    · rw [if_neg h, if_neg h, if_neg h]
theorem visitK_one (al : Tr → Int) (k : Tr) (d : Nat) (up : Int) (l : List It) : visitK al [k] d up l = visitL al k d up l := by
  rw [visitK]
  by_cases h : (visitL al k d up l).2 = 0
  · rw [if_pos h, visitK]; exact Prod.ext rfl h.symm
  · rw [if_neg h]
theorem visitK_take (al : Tr → Int) {ks : List Tr} {j : Nat} (hj : j < ks.length) (d : Nat) (up : Int) (l lk : List It) (h : visitK al (ks.take j) d up l = (lk, 0)) : visitK al (ks.take (j + 1)) d up l = visitL al ks[j] d up lk := by
  have e : ks.take (j + 1) = ks.take j ++ [ks[j]] := by simp
  rw [e, visitK_append, h, if_pos rfl, visitK_one]
theorem visitK_fail (al : Tr → Int) {ks : List Tr} {j : Nat} (hj : j < ks.length) (d : Nat) (up : Int) (l lk : List It) (h : visitK al (ks.take j) d up l = (lk, 0)) (hf : (visitL al ks[j] d up lk).2 ≠ 0) : visitK al ks d up l = visitL al ks[j] d up lk := by
  have e : ks = ks.take (j + 1) ++ ks.drop (j + 1) := by simp
  conv => lhs; rw [e]
  rw [visitK_append, visitK_take al hj d up l lk h, if_neg hf]
end Go.Proofs.YtjnhcoflmechmaaGreatDoor

namespace Go.Proofs.YtjnhcoflmechmaaGreatDoor
open Go.RowKit Go.Sort
set_option linter.unusedVariables false
set_option maxRecDepth 100000
abbrev SetB (bp bd bm : Nat) : Nat → Prop := fun b => b = bp ∨ b = bd ∨ b = bm
def VisitPost (n0 bp bd bv bm : Nat) (up : Int) (w : World) (r : List It × Int) (e : Ending) (w' : World) : Prop :=
  e = .returned (.int .i64 r.2) ∧ VS w' bp bd bv r.1 ∧ (r.2 = 0 → ∃ n, n ≤ r.1.length ∧ KSet w' bm n (fun k => k ≠ noB ∧ hasKey r.1 up k)) ∧ Kept (SetB bp bd bm) w w'
theorem set_out {w2 w3 : World} {bp bd : Nat} {a b : Int} (h : RowKit.Hid (w3 = setW w2 bp bd a b)) : (w2.setCell ⟨bp, 0, none⟩ (.int .i64 a)).setCell ⟨bd, 0, none⟩ (.int .i64 b) = w3 := h.out.symm
theorem isEmpty_noB {k : ByteArray} : k.toList.isEmpty = true ↔ k = noB := by
  rw [Lib.toList_data]
  obtain ⟨⟨l⟩⟩ := k
  cases l <;> simp [noB]
set_option maxHeartbeats 4000000 in
theorem visit_any (n0 bp bd bv : Nat) : ∀ t : Tr, ∀ (x : NV) (d : Nat) (up : Int) (l : List It) (w : World) (bm nk : Nat), TreeAt w n0 t x → GoodT t → VS w bp bd bv l → KSet w bm nk (fun k => k ≠ noB ∧ hasKey l up k) → nk ≤ l.length → Apart n0 bp bd bv bm →
    (0 ≤ up ∨ l = []) → Ups l → up < l.length → Clean aloneT l → d ≤ 65 →
    Calls Tryz.prog 97 #[nodeV t x, .int .i64 d, .map (some bm), .pointer (some ⟨bp, 0, none⟩), .pointer (some ⟨bd, 0, none⟩), .pointer (some ⟨bv, 0, none⟩)] w (VisitPost n0 bp bd bv bm up w (visitL aloneT t d up l)) := by
  refine tr_ind (fun t ih => ?_)
  intro x d up l w bm nk htree hgood hvs hset hnk hap hup0 hups hup hclean hd
  have hll := hclean.le
  obtain ⟨w1, hw1⟩ : ∃ w1, w1 = boxW w t x := ⟨_, rfl⟩
  have hb1 : Below w.heap.size w w1 := by rw [hw1]; exact below_box w t x
  have hbox : KidCells w1 w.heap.size 0 t x := by rw [hw1]; exact box_node w t x
  have hn0 : n0 ≤ w.heap.size := Nat.le_trans hap.lp (Nat.le_of_lt hvs.lt.1)
  have hvs1 := hvs.keep (kept_below hb1 (fun _ => False)) (fun h => h) (fun h => h) (fun h => h)
  have hset1 := hset.keep (kept_below hb1 (fun _ => False)) (fun h => h)
  have ht1 := htree.keepB (hb1.mono hn0)
  have hp1 := hvs1.p
  have HW := Lib.hid hw1; have HB1 := Lib.hid hb1; have HBX := Lib.hid hbox
  have HIH := Lib.hid ih; have HT := Lib.hid htree; have HG := Lib.hid hgood; have HAP := Lib.hid hap
  have HU := Lib.hid hups; have HUP := Lib.hid hup; have HU0 := Lib.hid hup0; have HCL := Lib.hid hclean
  have HVS1 := Lib.hid hvs1; have HSET1 := Lib.hid hset1; have HT1 := Lib.hid ht1
  have HLT := Lib.hid hvs.lt
  have HMLT := Lib.hid hset.lt
  have HEQ := Lib.hid (visitL_eq aloneT t d up l)
  clear hw1 hb1 hbox ih htree hgood hap hups hup hup0 hclean hvs hset hvs1 hset1 ht1
  generalize visitL aloneT t d up l = r at HEQ ⊢
  obtain ⟨c0, c1, c2, c3, c4⟩ := HBX.out
  have hp0 : (w.alloc (.cells #[.string t.tag, .string t.key, .string t.text, .slice x.A t.as.length x.ca, .slice x.K t.kids.length x.ck] 25)).cell? ⟨bp, 0, none⟩ = some (.int .i64 l.length) := by rw [box_out HW]; exact hp1
  by_cases hpl : placeF l.length d = 0
  · have CP := Lib.hid (placeFault_any l.length d w1)
    have CN := Lib.hid (nodeFault_any t x w1 bm nk _ (HT1.out.att.mono (Nat.le_trans hn0 HB1.out.size)) HG.out HSET1.out)
    rw [hpl] at CP
    have HPL := Lib.hid hpl
    clear hpl
    go_enter Tryz.func97, Tryz.ntmps97
    go_wp2_with fail
    rw [box_out HW]
    refine CP.out.mono ?_
    rintro e w2 ⟨rfl, rfl⟩
    go_wp2_with fail
    refine CN.out.mono ?_
    rintro e w2 ⟨f, rfl, hnp, hb2⟩
    have HF := Lib.hid (nodeF_node HPL.out HU0.out hnp)
    have hk2 := kept_below hb2 (fun _ => False)
    have hvs2 := HVS1.out.keep hk2 (fun h => h) (fun h => h) (fun h => h)
    have HSET2 := Lib.hid (HSET1.out.keep hk2 (fun h => h))
    have HT2 := Lib.hid (HT1.out.keepB (hb2.mono (Nat.le_trans hn0 HB1.out.size)))
    obtain ⟨g0, g1, g2, g3, g4⟩ := HBX.out.kept hk2 (fun h => h)
    have HB2 := Lib.hid (HB1.out.trans (hb2.mono HB1.out.size))
    have HB12 := Lib.hid hb2
    obtain ⟨p2, d2, v2, fp2, fd2⟩ := hvs2
    have HVS2 := Lib.hid (show VS w2 bp bd bv l from ⟨p2, d2, v2, fp2, fd2⟩)
    clear hb2 hk2 hnp CN CP HVS1 HSET1 HT1 c0 c1 c2 c3 c4 hp1 hp0
    by_cases hf : f = 0
    · subst hf
      have npd := HAP.out.pd
      have npv := HAP.out.pv
      have ndv := HAP.out.dv
      have r1 : IntKind.i64.wrap ((l.length : Int) + 1) = (l.length : Int) + 1 := by rw [IntKind.wrap_i64]; omega
      obtain ⟨w3, hw3⟩ : ∃ w3, w3 = setW w2 bp bd ((l.length : Int) + 1) (max (maxD l : Int) (d : Int)) := ⟨_, rfl⟩
      have hk3 : Kept (fun k => k = bp ∨ k = bd) w2 w3 := by rw [hw3]; exact kept_setW _ _ _ _ _
      have hvs3 : VS w3 bp bd bv (l ++ [⟨t, d, up⟩]) := by rw [hw3]; exact HVS2.out.step npd npv ndv ⟨t, d, up⟩ rfl rfl
      have hset3 := HSET2.out.keep hk3 (fun e => e.elim HAP.out.mp HAP.out.md)
      have HW3 := Lib.hid hw3
      obtain ⟨w4, hset4, hk4, hor⟩ : ∃ w4, KSet w4 bm (l.length + 1) (fun k => k ≠ noB ∧ (hasKey l up k ∨ t.key = k)) ∧ Kept (fun k => k = bm) w3 w4 ∧ ((t.key.toList.isEmpty = true ∧ w4 = w3) ∨ (t.key.toList.isEmpty = false ∧ (Instr.mapUpdate 144 (.map (some bm)) (.string t.key) (.agg #[])).run Tryz.prog w3 = .ok () w4)) := by
        by_cases he : t.key = noB
        · refine ⟨w3, hset3.imp (fun k => ⟨fun h => ⟨h.1, .inl h.2⟩, fun h => ⟨h.1, h.2.elim id (fun e => absurd (e.symm.trans he) h.1)⟩⟩) (by omega), Kept.refl _ _, .inl ⟨isEmpty_noB.2 he, rfl⟩⟩
        · obtain ⟨w4, hrun, hs, hk⟩ := hset3.store t.key (by have := HG.out.sizes.2.1; unfold maxLen; omega) (by unfold maxLen; omega)
          refine ⟨w4, hs.imp (fun k => ⟨fun h => h.elim (fun h => ⟨h.1, .inl h.2⟩) (fun e => ⟨fun e' => he (e.trans e'), .inr e⟩), fun h => h.2.elim (fun h' => .inl ⟨h.1, h'⟩) .inr⟩) (by omega), hk, .inr ⟨?_, hrun⟩⟩
          cases hb : t.key.toList.isEmpty with
          | true => exact absurd (isEmpty_noB.1 hb) he
          | false => rfl
      have hvs4 := hvs3.keep hk4 (fun e => HAP.out.mp e.symm) (fun e => HAP.out.md e.symm) (fun e => HAP.out.mv e.symm)
      have hk4' : Kept (SetB bp bd bm) w w4 := ((kept_below HB2.out _).trans (hk3.mono (fun k _ h => h.elim .inl (fun h => .inr (.inl h))))).trans (hk4.mono (fun k _ h => .inr (.inr h)))
      have hbw4 : Below n0 w2 w4 := (hk3.below (Nat.le_trans hn0 HB2.out.size) (fun k h => by have h1 := HAP.out.lp; have h2 := HAP.out.ld; omega)).trans (hk4.below (Nat.le_trans hn0 (Nat.le_trans HB2.out.size hk3.size)) (fun k h => by have h1 := HAP.out.lm; omega))
      have ht4 := HT2.out.keepB hbw4
      have hne : ¬ SetB bp bd bm w.heap.size := fun e => by have h1 := HLT.out; have h2 := HMLT.out; rcases e with e | e | e <;> omega
      have hbx4 : KidCells w4 w.heap.size 0 t x := (HBX.out.kept (kept_below (show Below w1.heap.size w1 w2 from HB12.out) (fun _ => False)) (fun h => h)).kept ((hk3.mono (T := SetB bp bd bm) (fun k _ h => h.elim .inl (fun h => .inr (.inl h)))).trans (hk4.mono (fun k _ h => .inr (.inr h)))) hne
      obtain ⟨w5, hw5⟩ : ∃ w5, w5 = w4.alloc (.map #[] 0) := ⟨_, rfl⟩
      obtain ⟨b5, hb5⟩ : ∃ b, b = w4.heap.size := ⟨_, rfl⟩
      have hbl5 : Below w4.heap.size w4 w5 := by rw [hw5]; exact (Below.refl _ _).alloc (Nat.le_refl _) _
      have hvs5 := hvs4.keep (kept_below hbl5 (fun _ => False)) (fun h => h) (fun h => h) (fun h => h)
      have hset5 := hset4.keep (kept_below hbl5 (fun _ => False)) (fun h => h)
      have ht5 := ht4.keepB (hbl5.mono (Nat.le_trans hn0 hk4'.size))
      have hnew5 : KSet w5 b5 0 (fun _ => False) := by rw [hw5, hb5]; exact KSet.new w4
      have hbx5 := hbx4.kept (kept_below hbl5 (fun _ => False)) (fun h => h)
      have hk5 : Kept (SetB bp bd bm) w w5 := hk4'.trans (kept_below hbl5 _)
      have hb5lt : w.heap.size ≤ b5 := by rw [hb5]; exact hk4'.size
      have HVS5 := Lib.hid hvs5; have HSET5 := Lib.hid hset5; have HT5 := Lib.hid ht5; have HNEW5 := Lib.hid hnew5; have HK5 := Lib.hid hk5
      have HW5 := Lib.hid hw5; have HB5 := Lib.hid hb5
      have hq4 : w5.cell? ⟨w.heap.size, 0 + 4, none⟩ = some (.slice x.K t.kids.length x.ck) := hbx5.c4
      have hmm := @run_makeMap Tryz.prog
      have hkl : t.kids.length ≤ 1000000 := HG.out.sizes.2.2.2.2.2
      have hd64 : d ≤ 64 := by
        have := HPL.out
        unfold placeF at this
        split at this
        · cases this
        · split at this
          · cases this
          · omega
      clear hset3 hk3 hvs3 hset4 hk4 hvs4 hk4' hbw4 ht4 hbx4 hbl5 hvs5 hset5 ht5 hnew5 hk5 hbx5 hne hd hw3 hw5 hb5
      rcases hor with ⟨he, hw4⟩ | ⟨he, hrun⟩
      · subst hw4
        rw [HW5.out] at hq4
        rw [HW3.out] at hq4
        have hsz : w2.heap.size = b5 := by rw [HB5.out, HW3.out]; simp
        go_wp2_with fail
        rw [set_out HW3, show w4.alloc (.map #[] 0) = w5 from HW5.out.symm]
        clear hsz hq4
        clear g0 g1 g2 g3 g4 p2 d2 v2 fp2 fd2 hmm he npd npv ndv
        have r2 : IntKind.i64.wrap ((d : Int) + 1) = (d : Int) + 1 := by rw [IntKind.wrap_i64]; omega
        have hb5n : ¬ b5 = bp ∧ ¬ b5 = bd ∧ ¬ b5 = bv ∧ ¬ b5 = bm := by have h1 := HLT.out; have h2 := HMLT.out; omega
        have HBN := Lib.hid hb5n
        clear hb5n
        go_loopg [14, 15, 44] t.kids.length (fun g _ _ s44 wr => ∃ (k : Nat) (lk : List It) (nk : Nat), s44 = .int .i64 k ∧ k ≤ t.kids.length ∧ t.kids.length - k ≤ g ∧ RowKit.Hid (visitK aloneT (t.kids.take k) (d + 1) l.length (l ++ [⟨t, d, up⟩]) = (lk, 0)) ∧ RowKit.Hid (VS wr bp bd bv lk) ∧ RowKit.Hid (nk ≤ lk.length ∧ KSet wr b5 nk (fun q => q ≠ noB ∧ hasKey lk l.length q)) ∧ RowKit.Hid (KSet wr bm (l.length + 1) (fun q => q ≠ noB ∧ (hasKey l up q ∨ t.key = q))) ∧ RowKit.Hid (Kept (SetB bp bd bm) w wr))
        case atStart =>
          refine ⟨0, l ++ [⟨t, d, up⟩], 0, rfl, by omega, by omega, Lib.hid (by simp [visitK]), HVS5, Lib.hid ⟨by omega, ?_⟩, HSET5, HK5⟩
          exact HNEW5.out.imp (fun q => ⟨fun h => h.elim, fun h => hasKey_new HU.out HUP.out q h.2⟩) (Nat.le_refl _)
        case round =>
          obtain ⟨k, lk, nk, rfl, hk, hg, HVK, HVS, HSN, HSM, HKW⟩ := hrel
          have hbw : Below n0 w wr := HKW.out.below hn0 (fun i h => by have h1 := HAP.out.lp; have h2 := HAP.out.ld; have h3 := HAP.out.lm; rcases h with h | h | h <;> omega)
          by_cases hlt : k < t.kids.length
          · have h1 : (k : Int) < (t.kids.length : Int) := by omega
            obtain ⟨b, off, kd, y, hK, hb, hkd, hkc, hkt⟩ := (HT.out.keepB hbw).kid hlt
            obtain ⟨q0, q1, q2, q3, q4⟩ := hkc
            obtain ⟨w6, hw6⟩ : ∃ w6, w6 = boxW wr kd y := ⟨_, rfl⟩
            have hb6 : Below wr.heap.size wr w6 := by rw [hw6]; exact below_box wr kd y
            have HW6 := Lib.hid hw6
            have hvs6 := HVS.out.keep (kept_below hb6 (fun _ => False)) (fun h => h) (fun h => h) (fun h => h)
            have hsn6 := HSN.out.2.keep (kept_below hb6 (fun _ => False)) (fun h => h)
            have HSM6 := Lib.hid (HSM.out.keep (kept_below hb6 (fun _ => False)) (fun h => h))
            have HKW6 := Lib.hid (HKW.out.trans (kept_below hb6 _))
            have hnr : n0 ≤ wr.heap.size := Nat.le_trans hn0 HKW.out.size
            have hv : (wr.alloc (.cells #[.string kd.tag, .string kd.key, .string kd.text, .slice y.A kd.as.length y.ca, .slice y.K kd.kids.length y.ck] 25)).cell? ⟨bv, 0, none⟩ = some (.func (.func 97) #[] #[.pointer (some ⟨bp, 0, none⟩), .pointer (some ⟨bd, 0, none⟩), .pointer (some ⟨bv, 0, none⟩)]) := by rw [box_out HW6]; exact hvs6.v
            have hups : Ups lk ∧ (l.length : Int) < lk.length ∧ Clean aloneT lk := by
              have e1 := visitK_ext aloneT (t.kids.take k) (d + 1) l.length (l ++ [⟨t, d, up⟩]) (HU.out.snoc HUP.out) (by simp; omega)
              have e2 := visit_belowK aloneT (t.kids.take k) (d + 1) l.length (l ++ [⟨t, d, up⟩]) (HCL.out.snoc HF.out)
              rw [HVK.out] at e1 e2
              obtain ⟨ext, he, -⟩ := e1.2 rfl
              refine ⟨e1.1, ?_, e2.2.2.1⟩
              have : lk.length = l.length + 1 + ext.length := by
                have : lk = (l ++ [⟨t, d, up⟩]) ++ ext := he
                rw [this]; simp; omega
              omega
            have C := HIH.out kd (by rw [hkd]; exact List.getElem_mem _) y (d + 1) l.length lk w6 b5 nk (hkt.keepB (hb6.mono hnr)) (HG.out.kid hlt hkd) hvs6 hsn6 HSN.out.1 ⟨HAP.out.pd, HAP.out.pv, HAP.out.dv, HBN.out.1, HBN.out.2.1, HBN.out.2.2.1, HAP.out.lp, HAP.out.ld, HAP.out.lv, Nat.le_trans hn0 hb5lt⟩ (.inl (by omega)) hups.1 hups.2.1 hups.2.2 (by omega)
            rw [show ((d + 1 : Nat) : Int) = (d : Int) + 1 from rfl] at C
            have HC := Lib.hid C
            have HTK := Lib.hid (visitK_take aloneT hlt (d + 1) l.length (l ++ [⟨t, d, up⟩]) lk HVK.out)
            have HFL := Lib.hid (visitK_fail aloneT hlt (d + 1) l.length (l ++ [⟨t, d, up⟩]) lk HVK.out)
            rw [← hkd] at HTK HFL
            clear hkd hkt hbw hb6 hw6 hvs6 hsn6 hups C HVK HVS HSN HSM HKW
            go_wp2_with fail
            rw [box_out HW6]
            refine HC.out.mono ?_
            generalize visitL aloneT kd (d + 1) (↑l.length) lk = rk at HTK HFL
            rintro e w7 ⟨rfl, hvs7, hset7, hk7⟩
            have hk7' : Kept (SetB bp bd bm) w w7 := HKW6.out.trans' hk7 (fun i hi h => by rcases h with h | h | h; exact .inl h; exact .inr (.inl h); omega)
            have HK7 := Lib.hid hk7'; have HVS7 := Lib.hid hvs7; have HSET7 := Lib.hid hset7
            have HSM7 := Lib.hid (HSM6.out.keep hk7 (fun h => by have h2 := HBN.out; have h3 := HAP.out.mp; have h4 := HAP.out.md; rcases h with h | h | h <;> omega))
            clear hk7 hk7' hvs7 hset7 HC HSM6 HKW6 hv q0 q1 q2 q3 q4
            obtain ⟨lk', ek⟩ := rk
            by_cases hek : ek = 0
            · subst hek
              obtain ⟨nk', hn', hs'⟩ := HSET7.out (by first | exact rfl | exact trivial)
              have HSN7 := Lib.hid (And.intro hn' hs')
              clear hn' hs' HSET7
              go_wp2_with fail
              rw [← hK]
              go_roundg (t.kids.length - (k + 1))
              case measure => omega
              case rel => exact ⟨k + 1, lk', nk', by go_num, by omega, by omega, HTK, HVS7, HSN7, HSM7, HK7⟩
            · have hz' : (ek != 0) = true := by simpa using hek
              have HZ := Lib.hid hek
              clear hek
              go_wp2_with fail
              go_ret
              rw [HEQ.out, if_pos HF.out, HFL.out HZ.out]
              exact ⟨rfl, HVS7.out, fun h => absurd h HZ.out, HK7.out⟩
          · have h1 : ¬ (k : Int) < (t.kids.length : Int) := by omega
            have HVF := Lib.hid (show visitK aloneT t.kids (d + 1) l.length (l ++ [⟨t, d, up⟩]) = (lk, 0) by rw [← HVK.out, List.take_of_length_le (by omega)])
            clear hbw
            go_wp2_with fail
            go_ret
            rw [HEQ.out, if_pos HF.out, HVF.out]
            refine ⟨rfl, HVS.out, fun _ => ?_, HKW.out⟩
            obtain ⟨ext, he, hx⟩ := (visit_ext aloneT t d up l HU.out HUP.out).2 (by rw [visitL_eq, if_pos HF.out, HVF.out])
            rw [visitL_eq, if_pos HF.out, HVF.out] at he
            have he' : lk = l ++ ⟨t, d, up⟩ :: ext := he
            refine ⟨l.length + 1, by rw [he']; simp, HSM.out.imp (fun q => ?_) (Nat.le_refl _)⟩
            show _ ↔ q ≠ noB ∧ hasKey lk up q
            rw [he', hasKey_up HUP.out hx]
      · rw [HW5.out] at hq4
        rw [HW3.out] at hrun
        go_wp2_with fail
        rw [show w4.alloc (.map #[] 0) = w5 from HW5.out.symm, show w4.heap.size = b5 from HB5.out.symm]
        clear hrun hq4
        clear g0 g1 g2 g3 g4 p2 d2 v2 fp2 fd2 hmm he npd npv ndv
        have r2 : IntKind.i64.wrap ((d : Int) + 1) = (d : Int) + 1 := by rw [IntKind.wrap_i64]; omega
        have hb5n : ¬ b5 = bp ∧ ¬ b5 = bd ∧ ¬ b5 = bv ∧ ¬ b5 = bm := by have h1 := HLT.out; have h2 := HMLT.out; omega
        have HBN := Lib.hid hb5n
        clear hb5n
        go_loopg [14, 15, 44] t.kids.length (fun g _ _ s44 wr => ∃ (k : Nat) (lk : List It) (nk : Nat), s44 = .int .i64 k ∧ k ≤ t.kids.length ∧ t.kids.length - k ≤ g ∧ RowKit.Hid (visitK aloneT (t.kids.take k) (d + 1) l.length (l ++ [⟨t, d, up⟩]) = (lk, 0)) ∧ RowKit.Hid (VS wr bp bd bv lk) ∧ RowKit.Hid (nk ≤ lk.length ∧ KSet wr b5 nk (fun q => q ≠ noB ∧ hasKey lk l.length q)) ∧ RowKit.Hid (KSet wr bm (l.length + 1) (fun q => q ≠ noB ∧ (hasKey l up q ∨ t.key = q))) ∧ RowKit.Hid (Kept (SetB bp bd bm) w wr))
        case atStart =>
          refine ⟨0, l ++ [⟨t, d, up⟩], 0, rfl, by omega, by omega, Lib.hid (by simp [visitK]), HVS5, Lib.hid ⟨by omega, ?_⟩, HSET5, HK5⟩
          exact HNEW5.out.imp (fun q => ⟨fun h => h.elim, fun h => hasKey_new HU.out HUP.out q h.2⟩) (Nat.le_refl _)
        case round =>
          obtain ⟨k, lk, nk, rfl, hk, hg, HVK, HVS, HSN, HSM, HKW⟩ := hrel
          have hbw : Below n0 w wr := HKW.out.below hn0 (fun i h => by have h1 := HAP.out.lp; have h2 := HAP.out.ld; have h3 := HAP.out.lm; rcases h with h | h | h <;> omega)
          by_cases hlt : k < t.kids.length
          · have h1 : (k : Int) < (t.kids.length : Int) := by omega
            obtain ⟨b, off, kd, y, hK, hb, hkd, hkc, hkt⟩ := (HT.out.keepB hbw).kid hlt
            obtain ⟨q0, q1, q2, q3, q4⟩ := hkc
            obtain ⟨w6, hw6⟩ : ∃ w6, w6 = boxW wr kd y := ⟨_, rfl⟩
            have hb6 : Below wr.heap.size wr w6 := by rw [hw6]; exact below_box wr kd y
            have HW6 := Lib.hid hw6
            have hvs6 := HVS.out.keep (kept_below hb6 (fun _ => False)) (fun h => h) (fun h => h) (fun h => h)
            have hsn6 := HSN.out.2.keep (kept_below hb6 (fun _ => False)) (fun h => h)
            have HSM6 := Lib.hid (HSM.out.keep (kept_below hb6 (fun _ => False)) (fun h => h))
            have HKW6 := Lib.hid (HKW.out.trans (kept_below hb6 _))
            have hnr : n0 ≤ wr.heap.size := Nat.le_trans hn0 HKW.out.size
            have hv : (wr.alloc (.cells #[.string kd.tag, .string kd.key, .string kd.text, .slice y.A kd.as.length y.ca, .slice y.K kd.kids.length y.ck] 25)).cell? ⟨bv, 0, none⟩ = some (.func (.func 97) #[] #[.pointer (some ⟨bp, 0, none⟩), .pointer (some ⟨bd, 0, none⟩), .pointer (some ⟨bv, 0, none⟩)]) := by rw [box_out HW6]; exact hvs6.v
            have hups : Ups lk ∧ (l.length : Int) < lk.length ∧ Clean aloneT lk := by
              have e1 := visitK_ext aloneT (t.kids.take k) (d + 1) l.length (l ++ [⟨t, d, up⟩]) (HU.out.snoc HUP.out) (by simp; omega)
              have e2 := visit_belowK aloneT (t.kids.take k) (d + 1) l.length (l ++ [⟨t, d, up⟩]) (HCL.out.snoc HF.out)
              rw [HVK.out] at e1 e2
              obtain ⟨ext, he, -⟩ := e1.2 rfl
              refine ⟨e1.1, ?_, e2.2.2.1⟩
              have : lk.length = l.length + 1 + ext.length := by
                have : lk = (l ++ [⟨t, d, up⟩]) ++ ext := he
                rw [this]; simp; omega
              omega
            have C := HIH.out kd (by rw [hkd]; exact List.getElem_mem _) y (d + 1) l.length lk w6 b5 nk (hkt.keepB (hb6.mono hnr)) (HG.out.kid hlt hkd) hvs6 hsn6 HSN.out.1 ⟨HAP.out.pd, HAP.out.pv, HAP.out.dv, HBN.out.1, HBN.out.2.1, HBN.out.2.2.1, HAP.out.lp, HAP.out.ld, HAP.out.lv, Nat.le_trans hn0 hb5lt⟩ (.inl (by omega)) hups.1 hups.2.1 hups.2.2 (by omega)
            rw [show ((d + 1 : Nat) : Int) = (d : Int) + 1 from rfl] at C
            have HC := Lib.hid C
            have HTK := Lib.hid (visitK_take aloneT hlt (d + 1) l.length (l ++ [⟨t, d, up⟩]) lk HVK.out)
            have HFL := Lib.hid (visitK_fail aloneT hlt (d + 1) l.length (l ++ [⟨t, d, up⟩]) lk HVK.out)
            rw [← hkd] at HTK HFL
            clear hkd hkt hbw hb6 hw6 hvs6 hsn6 hups C HVK HVS HSN HSM HKW
            go_wp2_with fail
            rw [box_out HW6]
            refine HC.out.mono ?_
            generalize visitL aloneT kd (d + 1) (↑l.length) lk = rk at HTK HFL
            rintro e w7 ⟨rfl, hvs7, hset7, hk7⟩
            have hk7' : Kept (SetB bp bd bm) w w7 := HKW6.out.trans' hk7 (fun i hi h => by rcases h with h | h | h; exact .inl h; exact .inr (.inl h); omega)
            have HK7 := Lib.hid hk7'; have HVS7 := Lib.hid hvs7; have HSET7 := Lib.hid hset7
            have HSM7 := Lib.hid (HSM6.out.keep hk7 (fun h => by have h2 := HBN.out; have h3 := HAP.out.mp; have h4 := HAP.out.md; rcases h with h | h | h <;> omega))
            clear hk7 hk7' hvs7 hset7 HC HSM6 HKW6 hv q0 q1 q2 q3 q4
            obtain ⟨lk', ek⟩ := rk
            by_cases hek : ek = 0
            · subst hek
              obtain ⟨nk', hn', hs'⟩ := HSET7.out (by first | exact rfl | exact trivial)
              have HSN7 := Lib.hid (And.intro hn' hs')
              clear hn' hs' HSET7
              go_wp2_with fail
              rw [← hK]
              go_roundg (t.kids.length - (k + 1))
              case measure => omega
              case rel => exact ⟨k + 1, lk', nk', by go_num, by omega, by omega, HTK, HVS7, HSN7, HSM7, HK7⟩
            · have hz' : (ek != 0) = true := by simpa using hek
              have HZ := Lib.hid hek
              clear hek
              go_wp2_with fail
              go_ret
              rw [HEQ.out, if_pos HF.out, HFL.out HZ.out]
              exact ⟨rfl, HVS7.out, fun h => absurd h HZ.out, HK7.out⟩
          · have h1 : ¬ (k : Int) < (t.kids.length : Int) := by omega
            have HVF := Lib.hid (show visitK aloneT t.kids (d + 1) l.length (l ++ [⟨t, d, up⟩]) = (lk, 0) by rw [← HVK.out, List.take_of_length_le (by omega)])
            clear hbw
            go_wp2_with fail
            go_ret
            rw [HEQ.out, if_pos HF.out, HVF.out]
            refine ⟨rfl, HVS.out, fun _ => ?_, HKW.out⟩
            obtain ⟨ext, he, hx⟩ := (visit_ext aloneT t d up l HU.out HUP.out).2 (by rw [visitL_eq, if_pos HF.out, HVF.out])
            rw [visitL_eq, if_pos HF.out, HVF.out] at he
            have he' : lk = l ++ ⟨t, d, up⟩ :: ext := he
            refine ⟨l.length + 1, by rw [he']; simp, HSM.out.imp (fun q => ?_) (Nat.le_refl _)⟩
            show _ ↔ q ≠ noB ∧ hasKey lk up q
            rw [he', hasKey_up HUP.out hx]
    · have hz' : (f != 0) = true := by simpa using hf
      have HZ := Lib.hid hf
      clear hf
      go_wp2_with fail
      go_ret
      rw [HEQ.out, if_neg (by rw [HF.out]; exact HZ.out), HF.out]
      exact ⟨rfl, HVS2.out, fun h => absurd h HZ.out, kept_below HB2.out _⟩
  · have CP := Lib.hid (placeFault_any l.length d w1)
    have HPF := Lib.hid (nodeF_place (t := t) (up := up) hpl)
    have HPN := Lib.hid hpl
    generalize placeF l.length d = f at CP HPF HPN
    clear hpl
    have hz' : (f != 0) = true := by simpa using HPN.out
    go_enter Tryz.func97, Tryz.ntmps97
    go_wp2_with fail
    rw [box_out HW]
    refine CP.out.mono ?_
    rintro e w2 ⟨rfl, rfl⟩
    go_wp2_with fail
    go_ret
    rw [HEQ.out, if_neg (by rw [HPF.out]; exact HPN.out), HPF.out]
    exact ⟨rfl, HVS1.out, fun h => absurd h HPN.out, kept_below HB1.out _⟩
end Go.Proofs.YtjnhcoflmechmaaGreatDoor

namespace Go.Proofs.YtjnhcoflmechmaaGreatDoor
open Go.RowKit Go.Sort
set_option linter.unusedVariables false
set_option maxRecDepth 100000
def svF (B : Nat) : Value := .func (.func 97) #[] #[.pointer (some ⟨B + 1, 0, none⟩), .pointer (some ⟨B + 1 + 1, 0, none⟩), .pointer (some ⟨B + 1 + 1 + 1, 0, none⟩)]
def svW (w : World) (t : Tr) (x : NV) : World := ((((w.alloc (.cells #[.string t.tag, .string t.key, .string t.text, .slice x.A t.as.length x.ca, .slice x.K t.kids.length x.ck] 25)).alloc (.cells #[.int .i64 0] 3)).alloc (.cells #[.int .i64 0] 3)).alloc (.cells #[svF w.heap.size] 142)).alloc (.map #[] 0)
theorem cell_push {w : World} {o : Obj} {a : Addr} {v : Value} (h : w.cell? a = some v) : (w.alloc o).cell? a = some v := (kept_alloc w o (fun _ => False)).cellOf h (fun h => h)
theorem froz_push {w : World} {o : Obj} {a : Addr} (ha : a.block < w.heap.size) (h : w.frozen? a = false) : (w.alloc o).frozen? a = false := ((kept_alloc w o (fun _ => False)).frozen ha (fun h => h)).trans h
theorem cell_fresh (w : World) (v : Value) (t : TypeId) (n : Nat) (hn : n = w.heap.size) : (w.alloc (.cells #[v] t)).cell? ⟨n, 0, none⟩ = some v := by subst hn; simp
theorem froz_fresh (w : World) (v : Value) (t : TypeId) (n : Nat) (hn : n = w.heap.size) : (w.alloc (.cells #[v] t)).frozen? ⟨n, 0, none⟩ = false := by subst hn; simp
theorem svW_vs (w : World) (t : Tr) (x : NV) : VS (svW w t x) (w.heap.size + 1) (w.heap.size + 1 + 1) (w.heap.size + 1 + 1 + 1) [] := by
  unfold svW
  refine ⟨?_, ?_, ?_, ?_, ?_⟩
  · exact cell_push (cell_push (cell_push (cell_fresh _ _ _ _ (by simp))))
  · exact cell_push (cell_push (cell_fresh _ _ _ _ (by simp)))
  · exact cell_push (cell_fresh _ _ _ _ (by simp))
  · exact froz_push (by simp) (froz_push (by simp) (froz_push (by simp) (froz_fresh _ _ _ _ (by simp))))
  · exact froz_push (by simp) (froz_push (by simp) (froz_fresh _ _ _ _ (by simp)))
theorem svW_below (w : World) (t : Tr) (x : NV) : Below w.heap.size w (svW w t x) := by
  unfold svW
  exact (((((Below.refl _ w).alloc (Nat.le_refl _) _).alloc (by simp) _).alloc (by simp; omega) _).alloc (by simp; omega) _).alloc (by simp; omega) _
theorem svW_set (w : World) (t : Tr) (x : NV) : KSet (svW w t x) (w.heap.size + 1 + 1 + 1 + 1) 0 (fun _ => False) := by
  have := KSet.new ((((w.alloc (.cells #[.string t.tag, .string t.key, .string t.text, .slice x.A t.as.length x.ca, .slice x.K t.kids.length x.ck] 25)).alloc (.cells #[.int .i64 0] 3)).alloc (.cells #[.int .i64 0] 3)).alloc (.cells #[svF w.heap.size] 142))
  unfold svW
  simpa using this
theorem sv_out {w w1 : World} {t : Tr} {x : NV} (h : RowKit.Hid (w1 = svW w t x)) : ((((w.alloc (.cells #[.string t.tag, .string t.key, .string t.text, .slice x.A t.as.length x.ca, .slice x.K t.kids.length x.ck] 25)).alloc (.cells #[.int .i64 0] 3)).alloc (.cells #[.int .i64 0] 3)).alloc (.cells #[.func (.func 97) #[] #[.pointer (some ⟨w.heap.size + 1, 0, none⟩), .pointer (some ⟨w.heap.size + 1 + 1, 0, none⟩), .pointer (some ⟨w.heap.size + 1 + 1 + 1, 0, none⟩)]] 142)).alloc (.map #[] 0) = w1 := h.out.symm
set_option maxHeartbeats 4000000 in
theorem survey_any (t : Tr) (x : NV) (w : World) (h : TreeAt w w.heap.size t x) (hg : GoodT t) :
    Calls Tryz.prog 58 #[nodeV t x] w fun e w' => e = .returned (.tuple #[.int .i64 (seenL aloneT t).1.length, .int .i64 (maxD (seenL aloneT t).1), .int .i64 (seenL aloneT t).2]) ∧ Below w.heap.size w w' := by
  have hmm := @run_makeMap Tryz.prog
  obtain ⟨w1, hw1⟩ : ∃ w1, w1 = svW w t x := ⟨_, rfl⟩
  have hb1 : Below w.heap.size w w1 := by rw [hw1]; exact svW_below w t x
  have hvs : VS w1 (w.heap.size + 1) (w.heap.size + 1 + 1) (w.heap.size + 1 + 1 + 1) [] := by rw [hw1]; exact svW_vs w t x
  have hset : KSet w1 (w.heap.size + 1 + 1 + 1 + 1) 0 (fun k => k ≠ noB ∧ hasKey [] (-1) k) := by
    rw [hw1]
    exact (svW_set w t x).imp (fun k => ⟨fun h => h.elim, fun h => by obtain ⟨y, hy, _⟩ := h.2; simp at hy⟩) (Nat.le_refl _)
  have C := Lib.hid (visit_any w.heap.size (w.heap.size + 1) (w.heap.size + 1 + 1) (w.heap.size + 1 + 1 + 1) t x 1 (-1) [] w1 (w.heap.size + 1 + 1 + 1 + 1) 0 (h.keepB hb1) hg hvs hset (Nat.le_refl _) ⟨by omega, by omega, by omega, by omega, by omega, by omega, by omega, by omega, by omega, by omega⟩ (.inr rfl) (fun y hy => by simp at hy) (by simp) (Clean.nil _) (by omega))
  change RowKit.Hid (Calls _ _ _ _ (VisitPost _ _ _ _ _ _ _ (seenL aloneT t))) at C
  have HW := Lib.hid hw1; have HB1 := Lib.hid hb1
  clear h hg hw1 hb1 hvs hset
  generalize seenL aloneT t = r at C ⊢
  go_enter Tryz.func58, Tryz.ntmps58
  go_wp2_with fail
  rw [sv_out HW]
  refine C.out.mono ?_
  rintro e w2 ⟨rfl, hvs, -, hk⟩
  obtain ⟨p2, d2, v2, fp2, fd2⟩ := hvs
  have HB2 := Lib.hid (HB1.out.trans (hk.below HB1.out.size (fun i h => by rcases h with h | h | h <;> omega)))
  clear hk C v2 fp2 fd2 hmm
  go_wp2_with fail
  go_quiet (fail)
  go_wp2_with fail
  go_ret3
  exact ⟨rfl, HB2.out.trans (below_drewN _ _ _)⟩
noncomputable def checkV (r : List It × Int) : Value := .tuple #[.int .i64 (if r.2 = 0 then 0 else r.1.length), .int .i64 r.2]
def okT (t : Tr) : Prop := (seenL aloneT t).2 = 0
set_option maxHeartbeats 2000000 in
theorem vcheck_any (t : Tr) (x : NV) (w : World) (h : TreeAt w w.heap.size t x) (hg : GoodT t) :
    Calls Tryz.prog 32 #[nodeV t x] w fun e w' => e = .returned (.tuple #[.int .i64 (if (seenL aloneT t).2 = 0 then 0 else ((seenL aloneT t).1.length : Int)), .int .i64 (seenL aloneT t).2]) ∧ Below w.heap.size w w' := by
  obtain ⟨w1, hw1⟩ : ∃ w1, w1 = boxW w t x := ⟨_, rfl⟩
  have hb1 : Below w.heap.size w w1 := by rw [hw1]; exact below_box w t x
  obtain ⟨c0, c1, c2, c3, c4⟩ : KidCells w1 w.heap.size 0 t x := by rw [hw1]; exact box_node w t x
  have C := Lib.hid (survey_any t x w1 (h.up hb1) hg)
  have HW := Lib.hid hw1; have HB1 := Lib.hid hb1
  clear h hg hw1 hb1
  generalize seenL aloneT t = r at C ⊢
  obtain ⟨l, e⟩ := r
  by_cases he : e = 0
  · subst he
    go_enter Tryz.func32, Tryz.ntmps32
    go_wp2_with fail
    rw [box_out HW]
    refine C.out.mono ?_
    rintro e w2 ⟨rfl, hb2⟩
    have HB2 := Lib.hid (HB1.out.trans (hb2.mono HB1.out.size))
    clear hb2 c0 c1 c2 c3 c4 C
    go_wp2_with fail
    go_ret2
    exact ⟨rfl, HB2.out⟩
  · have he' : (e == 0) = false := by simpa using he
    have HE := Lib.hid he
    clear he
    go_enter Tryz.func32, Tryz.ntmps32
    go_wp2_with fail
    rw [box_out HW]
    refine C.out.mono ?_
    rintro e w2 ⟨rfl, hb2⟩
    have HB2 := Lib.hid (HB1.out.trans (hb2.mono HB1.out.size))
    clear hb2 c0 c1 c2 c3 c4 C
    go_wp2_with fail
    go_ret2
    exact ⟨rfl, HB2.out⟩
end Go.Proofs.YtjnhcoflmechmaaGreatDoor

namespace Go.Proofs.YtjnhcoflmechmaaGreatDoor
open Go.RowKit Go.Sort
set_option linter.unusedVariables false
set_option maxRecDepth 100000
theorem info_parts {t : TypeId} {z : Value} {s b : Nat} (h : (Tryz.prog.info? t).map (fun i => (i.zero, i.size, i.bytes)) = some (some z, s, b)) :
    ∃ i, Tryz.prog.info? t = some i ∧ i.zero = some z ∧ i.size = s ∧ i.bytes = b := by
  cases hi : Tryz.prog.info? t with
  | none => rw [hi] at h; simp at h
  | some i => rw [hi] at h; simp at h; exact ⟨i, rfl, h.1, h.2.1, h.2.2⟩
theorem Tryz.info63 : (Tryz.prog.info? 63).map (fun i => (i.zero, i.size, i.bytes)) = some (some (.agg #[.string ⟨#[]⟩, .string ⟨#[]⟩]), 2, 32) := by kernel_rfl
theorem trow_src {w : World} {B : Nat} {ad : Addr} {ms : List At} (hr : TRow w B (some ad) ms) : ∀ j y, (ats ms)[j]? = some y → w.cell? (ad.add j) = some y := by
  intro j y hj
  have hjl : j < ms.length * 2 := by have := (List.getElem?_eq_some_iff.1 hj).1; rw [ats_length] at this; exact this
  obtain ⟨b, off, hA, _, hc⟩ := hr (by omega)
  obtain rfl : ad = ⟨b, off, none⟩ := by simpa using hA
  have hq : j / 2 < ms.length := by omega
  rw [ats_at ms j hjl] at hj
  have eg : ms.getD (j / 2) noAt = ms[j / 2] := by simp [List.getD_eq_getElem?_getD, hq]
  rw [eg] at hj
  rw [Addr.add_lit, ← hj]
  obtain ⟨c0, c1⟩ := hc (j / 2) hq
  rcases (show j % 2 = 0 ∨ j % 2 = 1 by omega) with h4 | h4
  · rw [h4, show off + j = off + j / 2 * 2 by omega]; exact c0
  · rw [h4, show off + j = off + j / 2 * 2 + 1 by omega]; exact c1
/-- append(x, y...) -/
theorem wpList_appT {P : Program} {w : World} {ops : Array Oper} {rest : List Oper} {o : Oper} {a : Act} {Q : Exit → Act → World → Prop} (hgd : o.guard = none) (s x : Operand) (t : TypeId)
    (ho : o.op = .call { callee := .builtin .append, args := #[s, x], argTypes := #[t, t] })
    (base : Nat) (e : TypeId) (i : TypeInfo) (z : Value) (ht : P.underlying t = some (.slice e)) (hi : P.info? e = some i) (hz : i.zero = some z)
    (hsize : i.size = 2) (hby : i.bytes = 32) (hzs : z.cells.size = 2)
    (v : Value) (n : Nat) (xs : List Value) (hs : a.eval s = v) (hown : w.ownsRow base e 2 v n xs)
    (A : Option Addr) (m c : Nat) (ms : List At) (hx : a.eval x = .slice A m c) (hm : ms.length = m) (hr : TRow w w.heap.size A ms) (hc0 : A = none → c = 0)
    (hbytes : (n + m) ≤ 10000000) (hbase : base ≤ w.heap.size)
    (h : ∀ v' w', w'.ownsRow base e 2 v' (n + m) (xs ++ ats ms) → Below base w w' → wpList P ops Q rest (a.put o.dst v') w') : wpList P ops Q (o :: rest) a w := by
  subst hm
  cases A with
  | none =>
    obtain rfl := trow_none hr
    obtain rfl := hc0 rfl
    exact wpList_append_own_none hgd s x t ho base e i 2 ht hi v n xs hs hown hx (h v w (by simpa [ats] using hown) (Below.refl _ _))
  | some ad =>
    refine wpList_append_own w hgd s x t ho base e i z 2 32 ht hi hz hsize hby hzs (by omega) v n xs hs hown ad ms.length c (ats ms) hx (ats_length ms) (trow_src hr) (ats_one ms) (by simp [maxLen]; omega) (by omega) hbase ?_
    intro v' w' hown' hgrow _
    exact h v' w' hown' ((Below.refl base w).grown hgrow hbase (fun k hk => (hown.lt k hk).1))
theorem two_new (W : World) (a b : Value) (t : TypeId) (B : Nat) (hB : B = W.heap.size) : ∀ j u, [a, b][j]? = some u → (W.alloc (.cells #[a, b] t)).cell? ((⟨B, 0, none⟩ : Addr).add j) = some u := by
  subst hB
  intro j u hj
  have e1 : (W.alloc (.cells #[a, b] t)).cell? ⟨W.heap.size, 0 + j, none⟩ = (#[a, b] : Array Value)[0 + j]? := cell_of_row _ _ _ _ _ (0, 0) (heap_alloc_new W _)
  rw [Addr.add_lit, e1]
  simpa using hj
/-- append(x, y) -/
theorem wpList_app2 {P : Program} {w : World} {ops : Array Oper} {rest : List Oper} {o : Oper} {a : Act} {Q : Exit → Act → World → Prop} (hgd : o.guard = none) (s x : Operand) (t : TypeId)
    (ho : o.op = .call { callee := .builtin .append, args := #[s, x], argTypes := #[t, t] })
    (base : Nat) (e : TypeId) (i : TypeInfo) (z : Value) (ht : P.underlying t = some (.slice e)) (hi : P.info? e = some i) (hz : i.zero = some z)
    (hsize : i.size = 2) (hby : i.bytes = 32) (hzs : z.cells.size = 2)
    (v : Value) (n : Nat) (xs : List Value) (hs : a.eval s = v) (hown : w.ownsRow base e 2 v n xs)
    (p : At) (B : Nat) (hB : B = w.heap.size) (hx : a.eval x = .slice (some ⟨B, 0, none⟩) 1 1)
    (hbytes : (n + 1) ≤ 10000000) (hbase : base ≤ w.heap.size)
    (h : ∀ v' w', w'.ownsRow base e 2 v' (n + 1) (xs ++ encA p) → Below base w w' → wpList P ops Q rest (a.put o.dst v') w') : wpList P ops Q (o :: rest) a (w.alloc (.cells #[.string p.1, .string p.2] e)) := by
  subst hB
  refine wpList_append_own (w.alloc _) hgd s x t ho base e i z 2 32 ht hi hz hsize hby hzs (by omega) v n xs hs (hown.alloc _) ⟨w.heap.size, 0, none⟩ 1 1 (encA p) hx rfl (two_new _ _ _ _ _ rfl) (encA_one p) (by simp [maxLen]; omega) (by omega) (by simp; omega) ?_
  · intro v' w' hown' hgrow _
    exact h v' w' hown' (((Below.refl base w).alloc hbase _).grown hgrow (by simp; omega) (fun k hk => (hown.lt k hk).1))
/-- A slice of attributes that the call made, in a block of its own. -/
def MadeA (w : World) (es : List At) (e : Ending) (w' : World) : Prop := ∃ v, e = .returned v ∧ w'.ownsRow w.heap.size 63 2 v es.length (ats es) ∧ Below w.heap.size w w'
theorem own_ats {w : World} {base : Nat} {v : Value} {zs : List At} {n : Nat} {xs : List Value} (h : w.ownsRow base 63 2 v n xs) (hx : xs = ats zs) (hn : zs.length = n) : w.ownsRow base 63 2 v zs.length (ats zs) := by subst hx; subst hn; exact h
theorem MadeA.made {w w' : World} {es : List At} {e : Ending} (h : MadeA w es e w') : MadeT w es e w' := by
  obtain ⟨v, rfl, hown, hb⟩ := h
  obtain ⟨A, c, rfl, h1, h2, h3, _⟩ := trow_own hown
  exact ⟨A, c, rfl, h1, h2, h3, hb⟩
end Go.Proofs.YtjnhcoflmechmaaGreatDoor
