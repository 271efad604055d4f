/-
  KeysPlay.
-/
import Derived.Test.YtlhhfcnagkhllaaKLaw4
import Derived.Test.YtlhhfcnagkhllaaKOpenS
namespace Go.Proofs.Ytlhhfcnagkhllaa
open Go.RowKit Go.Maps
set_option linter.unusedVariables false

theorem arow_at {w : World} {B : Nat} {A : Option Addr} {ls : List ActL} (h : ARow w B A ls) {j : Nat} (hj : j < ls.length) :
    ∃ b off a, A = some ⟨b, off, none⟩ ∧ b < B ∧ a = ls[j] ∧ w.cell? ⟨b, off + j * 5, none⟩ = some (.int .i64 a.kind) ∧ w.cell? ⟨b, off + j * 5 + 1, none⟩ = some (.string a.key.tag) ∧ w.cell? ⟨b, off + j * 5 + 2, none⟩ = some (.string a.key.key) ∧ w.cell? ⟨b, off + j * 5 + 3, none⟩ = some (.int .i64 a.key.n) ∧ w.cell? ⟨b, off + j * 5 + 4, none⟩ = some (.int .i64 a.n) := by
  obtain ⟨b, off, hA, hb, hc⟩ := h (by omega)
  exact ⟨b, off, _, hA, hb, rfl, hc j hj⟩
theorem ARow.below {w w' : World} {B : Nat} {A : Option Addr} {ls : List ActL} (h : ARow w B A ls) (hb : Below B w w') : ARow w' B A ls := by
  intro h0
  obtain ⟨b, off, hA, hlt, hc⟩ := h h0
  exact ⟨b, off, hA, hlt, fun j hj => ⟨(hb.cell (p := ⟨b, off + j * 5, none⟩) hlt).trans (hc j hj).1, (hb.cell (p := ⟨b, off + j * 5 + 1, none⟩) hlt).trans (hc j hj).2.1, (hb.cell (p := ⟨b, off + j * 5 + 2, none⟩) hlt).trans (hc j hj).2.2.1, (hb.cell (p := ⟨b, off + j * 5 + 3, none⟩) hlt).trans (hc j hj).2.2.2.1, (hb.cell (p := ⟨b, off + j * 5 + 4, none⟩) hlt).trans (hc j hj).2.2.2.2⟩⟩

abbrev okAct (a : ActL) : Prop := a.key.tag.size ≤ 200 ∧ a.key.key.size ≤ 200
def LoRel (w : World) (ls : List ActL) (i : Value) (wr : World) : Prop := ∃ k : Nat, k ≤ ls.length ∧ i = .int .i64 k ∧ (∀ j, (hj : j < ls.length) → j < k → okAct ls[j]) ∧ Below w.heap.size w wr
def LoPost (w : World) (ls : List ActL) (e : Ending) (w' : World) : Prop := ∃ r, e = .returned (.bool r) ∧ (r = false → ls.length ≤ 200 ∧ ∀ a ∈ ls, okAct a) ∧ Below w.heap.size w w'
set_option maxRecDepth 100000 in
set_option maxHeartbeats 4000000 in
theorem long_any (A : Option Addr) (c : Nat) (ls : List ActL) (w : World) (hr : ARow w w.heap.size A ls) (hl0 : ls.length ≤ maxLen) :
    Calls Try.prog 7 #[.slice A ls.length c] w (LoPost w ls) := by
  unfold maxLen at hl0
  have HR := Lib.hid hr
  clear hr
  go_enter Try.func7, Try.ntmps7
  go_wp2_with fail
  go_loopw [6] (LoRel w ls) (fun i _ => ls.length - (intOf i).toNat)
  case atStart => exact ⟨0, by omega, rfl, fun j _ h => by omega, Below.refl _ _⟩
  case round =>
    obtain ⟨k, hk, rfl, hok, hbel⟩ := hrel
    have HOK := Lib.hid hok; have HB := Lib.hid hbel
    clear hok hbel
    by_cases hlt : k < ls.length
    · obtain ⟨b, off, a, rfl, hb, ha, d0, d1, d2, d3, d4⟩ := arow_at (HR.out.below HB.out) hlt
      have HA := Lib.hid ha
      clear ha d0 d3 d4
      by_cases ht : 200 < a.key.tag.size
      · have hd1 : decide ((200 : Int) < (a.key.tag.size : Int)) = true := by simp; omega
        go_wp2_with fail
        go_ret
        exact ⟨true, rfl, (fun h => by cases h), HB.out⟩
      · have hd1 : decide ((200 : Int) < (a.key.tag.size : Int)) = false := by simp; omega
        by_cases hk2 : 200 < a.key.key.size
        · have hd2 : decide ((200 : Int) < (a.key.key.size : Int)) = true := by simp; omega
          go_wp2_with fail
          go_ret
          exact ⟨true, rfl, (fun h => by cases h), HB.out⟩
        · have hd2 : decide ((200 : Int) < (a.key.key.size : Int)) = false := by simp; omega
          go_wp2_with fail
          refine ⟨⟨k + 1, by omega, by go_num, fun j hj hjk => ?_, HB.out⟩, by simp [intOf]; omega⟩
          by_cases e : j < k
          · exact HOK.out j hj e
          · obtain rfl : j = k := by omega
            rw [← HA.out]; exact ⟨by omega, by omega⟩
    · obtain rfl : k = ls.length := by omega
      go_wp2_with fail
      go_ret
      refine ⟨_, rfl, fun h => ⟨?_, fun a ha => ?_⟩, HB.out⟩
      · simp at h; omega
      · obtain ⟨j, hj, rfl⟩ := List.mem_iff_getElem.1 ha
        exact HOK.out j hj hj

structure Ref (ls : List ActL) (es : List En) : Prop where
  sorted : Sorted es
  wf : ∀ p ∈ es, LWf p.1
  small : ∀ p ∈ es, small p.1
theorem Ref.del {ls : List ActL} {es : List En} (h : Ref ls es) (k : Nat) : Ref ls (delE es k) := by
  have hs : ∀ p ∈ delE es k, p ∈ es := fun p hp => by
    rcases List.mem_append.1 hp with h1 | h1
    · exact List.mem_of_mem_take h1
    · exact List.mem_of_mem_drop h1
  exact ⟨del_sorted h.sorted k, fun p hp => h.wf p (hs p hp), fun p hp => h.small p (hs p hp)⟩
theorem Ref.ins {ls : List ActL} {es : List En} (h : Ref ls es) {p : En} {k : Nat} (hk : InAt es p k) (hn : p.1 ∉ es.map Prod.fst) (hw : LWf p.1) (hs : Go.Proofs.Ytlhhfcnagkhllaa.small p.1) : Ref ls (insE es p k) := by
  have hm : ∀ q ∈ insE es p k, q = p ∨ q ∈ es := fun q hq => by simpa using (ins_perm es p k).mem_iff.1 hq
  refine ⟨ins_sorted h.sorted hk hn, fun q hq => ?_, fun q hq => ?_⟩
  · rcases hm q hq with rfl | h1
    · exact hw
    · exact h.wf q h1
  · rcases hm q hq with rfl | h1
    · exact hs
    · exact h.small q h1
def KPRel (w : World) (X bm : Nat) (ls : List ActL) (r i : Value) (wr : World) : Prop := ∃ k : Nat, ∃ es A c, k ≤ ls.length ∧ i = .int .i64 k ∧ r = .slice A es.length c ∧ Ref ls es ∧ es.length ≤ k ∧ EV wr A c es ∧ Ix wr w.heap.size X bm es ∧ Below w.heap.size w wr
theorem Kept.ev {w w' : World} {A : Option Addr} {c : Nat} {es : List En} {bm : Nat} (hk : Kept (· = bm) w w') (h : EV w A c es) (hm : ∃ m cl, w.heap[bm]? = some (.map m cl)) : EV w' A c es := by
  refine ⟨fun h0 => ?_, h.le, h.cap, h.nil, h.frm⟩
  obtain ⟨b, off, hA, hlt, hc⟩ := h.row h0
  have hne : b ≠ bm := by
    intro e
    subst e
    obtain ⟨m, cl, hm⟩ := hm
    have := (hc 0 h0).1
    simp [World.cell?, hm] at this
  exact ⟨b, off, hA, Nat.lt_of_lt_of_le hlt hk.size, fun j hj => ⟨hk.cellOf (hc j hj).1 hne, hk.cellOf (hc j hj).2.1 hne, hk.cellOf (hc j hj).2.2.1 hne, hk.cellOf (hc j hj).2.2.2 hne⟩⟩
theorem Ix.isMap {w : World} {base X bm : Nat} {es : List (Lab × Int)} (h : Ix w base X bm es) : ∃ m cl, w.heap[bm]? = some (.map m cl) := by
  obtain ⟨D, ho, _⟩ := h.own
  obtain ⟨es, clock, hb, _⟩ := ho
  exact ⟨es, clock, hb⟩
set_option maxRecDepth 100000 in
set_option maxHeartbeats 4000000 in
theorem law3_go (room : Int) (A : Option Addr) (c : Nat) (ls : List ActL) (w : World) (hr : ARow w w.heap.size A ls) (hl0 : ls.length ≤ maxLen) (hwf : ∀ a ∈ ls, AWf a) :
    Calls Try.prog 3 #[.int .i64 room, .slice A ls.length c] w fun e w' => e = .returned (.bool true) ∧ Below w.heap.size w w' := by
  have HF := Lib.hid hwf; have HR := Lib.hid hr; have HL0 := Lib.hid hl0
  clear hwf hr hl0
  go_enter Try.func3, Try.ntmps3
  go_wp2_with fail
  refine (long_any A c ls w HR.out HL0.out).mono ?_
  rintro e w1 ⟨r, rfl, hlo, hb1⟩
  cases r with
  | true =>
    have HB1 := Lib.hid hb1
    clear hb1 hlo
    go_wp2_with fail
    refine (same_law w1).mono ?_
    rintro e w2 ⟨rfl, hb2⟩
    go_wp2_with fail
    go_ret
    exact ⟨rfl, HB1.out.trans (hb2.mono HB1.out.size)⟩
  | false =>
    obtain ⟨hl, hok⟩ := hlo rfl
    have HOK := Lib.hid hok; have HB1 := Lib.hid hb1
    clear hlo hok hb1
    go_wp2_with fail
    refine (new_any room w1).mono ?_
    rintro e w2 ⟨X, bm, rfl, hix, hb2⟩
    have HIX := Lib.hid hix; have HB2 := Lib.hid hb2
    clear hix hb2
    go_wp2_with fail
    go_loopw [6, 18] (KPRel w1 X bm ls) (fun _ i _ => ls.length - (intOf i).toNat)
    case atStart => exact ⟨0, [], none, 0, by omega, rfl, rfl, ⟨List.Pairwise.nil, fun p hp => by simp at hp, fun p hp => by simp at hp⟩, by simp, ev_nil _, HIX.out, HB2.out⟩
    case round =>
      clear HIX HB2
      obtain ⟨k, es, Ae, ce, hk, rfl, rfl, href, hel, hev, hix, hbel⟩ := hrel
      have HREF := Lib.hid href; have HEV := Lib.hid hev; have HIX := Lib.hid hix; have HB := Lib.hid hbel
      clear href hev hix hbel
      by_cases hlt : k < ls.length
      · have HBW := Lib.hid (HB1.out.trans (HB.out.mono HB1.out.size))
        obtain ⟨b, off, a, rfl, hb, ha, d0, d1, d2, d3, d4⟩ := arow_at (HR.out.below HBW.out) hlt
        have haw : AWf a := by rw [ha]; exact HF.out _ (List.getElem_mem _)
        have hao : okAct a := by rw [ha]; exact HOK.out _ (List.getElem_mem _)
        have hb1' : b < w1.heap.size := Nat.lt_of_lt_of_le hb HB1.out.size
        clear ha hb
        have HAW := Lib.hid haw; have HAO := Lib.hid hao
        clear haw hao
        go_wp2_with fail
        refine (find_any Ae ce es a.key wr HEV.out.row (by omega) HREF.out.wf HAW.out.key).mono ?_
        rintro e w3 ⟨r, rfl, hfa, hb3⟩
        have hbr : b < wr.heap.size := Nat.lt_of_lt_of_le hb1' HB.out.size
        replace d0 := (hb3.cell (p := ⟨b, off + k * 5, none⟩) hbr).trans d0
        replace d1 := (hb3.cell (p := ⟨b, off + k * 5 + 1, none⟩) hbr).trans d1
        replace d2 := (hb3.cell (p := ⟨b, off + k * 5 + 2, none⟩) hbr).trans d2
        replace d3 := (hb3.cell (p := ⟨b, off + k * 5 + 3, none⟩) hbr).trans d3
        replace d4 := (hb3.cell (p := ⟨b, off + k * 5 + 4, none⟩) hbr).trans d4
        have HEV3 := Lib.hid (HEV.out.up hb3); have HIX3 := Lib.hid (HIX.out.below hb3); have HB3 := Lib.hid (HB.out.trans (hb3.mono HB.out.size))
        have hbr3 : b < w3.heap.size := Nat.lt_of_lt_of_le hbr hb3.size
        clear hb3 hbr HEV HIX HB HBW
        clear wr
        rcases hfa with ⟨j, hj, rfl, hjL⟩ | ⟨rfl, hno⟩
        · have HJ := Lib.hid hjL
          clear hjL
          have hd3 : decide ((j : Int) < 0) = false := by simp
          have hd4 : decide ((0 : Int) ≤ (j : Int)) = true := by simp
          by_cases hk0 : a.kind = 0
          · have hk0' : (a.kind == 0) = true := by simp [hk0]
            go_wp2_with fail
            have HC := Lib.hid (put_old w1.heap.size X bm es a.key a.n es[j].2 w3.drew (HIX3.out.keep (kept_drew w3 (fun _ => False)) (fun h => h) (fun h => h)) HAW.out.key (by rw [← HJ.out]; exact List.getElem_mem _))
            go_region_held3 (fun w' => w'.cell? ⟨b, off + k * 5 + 1, none⟩ = some (.string a.key.tag) ∧ w'.cell? ⟨b, off + k * 5 + 2, none⟩ = some (.string a.key.key) ∧ w'.cell? ⟨b, off + k * 5 + 3, none⟩ = some (.int .i64 a.key.n) ∧ w'.cell? ⟨b, off + k * 5 + 4, none⟩ = some (.int .i64 a.n))
              (first
                | go_keep
                | (go_split_ands
                   exact ⟨(hb4.cell (p := ⟨b, off + k * 5 + 1, none⟩) hbr3).trans d1, (hb4.cell (p := ⟨b, off + k * 5 + 2, none⟩) hbr3).trans d2, (hb4.cell (p := ⟨b, off + k * 5 + 3, none⟩) hbr3).trans d3, (hb4.cell (p := ⟨b, off + k * 5 + 4, none⟩) hbr3).trans d4⟩))
              ((go_at_call 11; refine HC.out.mono ?_; rintro e w4 ⟨rfl, hb4⟩))
            have hd5 := (below_drewN w3.heap.size w3 1).trans hb4
            have HEV4 := Lib.hid (HEV3.out.up hd5); have HIX4 := Lib.hid (HIX3.out.below hd5); have HB4 := Lib.hid (HB3.out.trans (hd5.mono HB3.out.size))
            clear hb4 hd5 d1 d2 d3 d4
            go_wp2_with fail
            exact ⟨⟨k + 1, es, Ae, ce, by omega, by go_num, rfl, HREF.out, by omega, HEV4.out, HIX4.out, HB4.out⟩, by simp [intOf]; omega⟩
          · have hk0' : (a.kind == 0) = false := by simp [hk0]
            by_cases hk1 : a.kind = 1
            · have hk1' : (a.kind == 1) = true := by simp [hk1]
              go_wp2_with fail
              refine (get_any w1.heap.size X bm es a.key es[j].2 true w3 HIX3.out HAW.out.key ⟨fun _ => by rw [← HJ.out]; exact List.getElem_mem _, fun h => by cases h⟩).mono ?_
              rintro e w4 ⟨rfl, hb4⟩
              have HEV4 := Lib.hid (HEV3.out.up hb4); have HIX4 := Lib.hid (HIX3.out.below hb4); have HB4 := Lib.hid (HB3.out.trans (hb4.mono HB3.out.size))
              obtain ⟨b2, off2, q, rfl, hb2, hq, e1, e2, e3, e4⟩ := erow_at HEV4.out.row hj
              rw [← hq]
              have hd6 : (q.2 != q.2) = false := by simp
              clear hb4 d1 d2 d3 d4 e1 e2 e3 hq
              go_wp2_with fail
              exact ⟨⟨k + 1, es, _, ce, by omega, by go_num, rfl, HREF.out, by omega, HEV4.out, HIX4.out, HB4.out⟩, by simp [intOf]; omega⟩
            · have hk1' : (a.kind == 1) = false := by simp [hk1]
              obtain ⟨b2, off2, q, rfl, hb2, hq, e1, e2, e3, e4⟩ := erow_at HEV3.out.row hj
              clear e1 e2 e3 e4 hb2 hq
              go_wp2_with fail
              refine (drop_yes w1.heap.size X bm es (delE es j) a.key es[j].2 w3 HIX3.out HAW.out.key (by omega) (by rw [← HJ.out]; exact del_perm hj)).mono ?_
              rintro e w4 ⟨rfl, hix4, hk4⟩
              have HEV4 := Lib.hid (hk4.ev HEV3.out HIX3.out.isMap); have HIX4 := Lib.hid hix4; have HB4 := Lib.hid (HB3.out.trans (hk4.below HB3.out.size (fun i hi => by have : i = bm := hi; rw [this]; exact HIX3.out.loM)))
              clear hk4 hix4 d1 d2 d3 d4
              go_wp2_with fail
              refine (rdrop_any b2 off2 ce es j w4 HEV4.out.row (by omega) HEV4.out.le HEV4.out.cap hj).mono ?_
              rintro e w5 ⟨v, rfl, hown, hb5⟩
              obtain ⟨A5, c5, rfl, hev5⟩ := ev_own hown
              have HEV5 := Lib.hid hev5; have HIX5 := Lib.hid (HIX4.out.below hb5); have HB5 := Lib.hid (HB4.out.trans (hb5.mono HB4.out.size))
              clear hown hev5 hb5
              go_wp2_with fail
              exact ⟨⟨k + 1, delE es j, A5, c5, by omega, by go_num, rfl, HREF.out.del j, by have := (del_perm hj).length_eq; simp at this; omega, HEV5.out, HIX5.out, HB5.out⟩, by simp [intOf]; omega⟩
        · have HNO := Lib.hid hno
          clear hno
          by_cases hk0 : a.kind = 0
          · have hk0' : (a.kind == 0) = true := by simp [hk0]
            go_wp2_with fail
            have HNE := Lib.hid (show ¬ b = bm by have := HIX3.out.loM; omega)
            have HC := Lib.hid (put_new w1.heap.size X bm es ((a.key, a.n) :: es) a.key a.n w3.drew (HIX3.out.keep (kept_drew w3 (fun _ => False)) (fun h => h) (fun h => h)) HAW.out.key HAW.out.n HNO.out (by omega) (List.Perm.refl _))
            go_region_held3 (fun w' => w'.cell? ⟨b, off + k * 5 + 1, none⟩ = some (.string a.key.tag) ∧ w'.cell? ⟨b, off + k * 5 + 2, none⟩ = some (.string a.key.key) ∧ w'.cell? ⟨b, off + k * 5 + 3, none⟩ = some (.int .i64 a.key.n) ∧ w'.cell? ⟨b, off + k * 5 + 4, none⟩ = some (.int .i64 a.n))
              (first
                | go_keep
                | (go_split_ands
                   exact ⟨hk4.cellOf (w := w3.drew) (a := ⟨b, off + k * 5 + 1, none⟩) d1 HNE.out, hk4.cellOf (w := w3.drew) (a := ⟨b, off + k * 5 + 2, none⟩) d2 HNE.out, hk4.cellOf (w := w3.drew) (a := ⟨b, off + k * 5 + 3, none⟩) d3 HNE.out, hk4.cellOf (w := w3.drew) (a := ⟨b, off + k * 5 + 4, none⟩) d4 HNE.out⟩))
              ((go_at_call 11; refine HC.out.mono ?_; rintro e w4 ⟨rfl, hix4, hk4⟩))
            have hd5 : Kept (· = bm) w3 w4 := (kept_drew w3 _).trans hk4
            replace d1 := hd5.cellOf (a := ⟨b, off + k * 5 + 1, none⟩) d1 HNE.out
            replace d2 := hd5.cellOf (a := ⟨b, off + k * 5 + 2, none⟩) d2 HNE.out
            replace d3 := hd5.cellOf (a := ⟨b, off + k * 5 + 3, none⟩) d3 HNE.out
            replace d4 := hd5.cellOf (a := ⟨b, off + k * 5 + 4, none⟩) d4 HNE.out
            have HEV4 := Lib.hid (hd5.ev HEV3.out HIX3.out.isMap); have HIX4 := Lib.hid hix4; have HB4 := Lib.hid (HB3.out.trans (hd5.below HB3.out.size (fun i hi => by have : i = bm := hi; rw [this]; exact HIX3.out.loM)))
            clear hk4 hd5 hix4
            have hbr4 : b < w4.heap.size := World.block_lt_of_cell? w4 _ d1
            have hsm : small a.key := ⟨by have := HAO.out.1; omega, by have := HAO.out.2; omega⟩
            have HC2 := Lib.hid (rput_any Ae ce es (a.key, a.n) w4.drew (HEV4.out.up (below_drewN _ w4 1)) (by omega) HREF.out.small hsm)
            have HSM := Lib.hid hsm
            clear hsm HC
            go_wp2_with fail
            go_region_held3 (fun w' => w'.cell? ⟨b, off + k * 5 + 1, none⟩ = some (.string a.key.tag) ∧ w'.cell? ⟨b, off + k * 5 + 2, none⟩ = some (.string a.key.key) ∧ w'.cell? ⟨b, off + k * 5 + 3, none⟩ = some (.int .i64 a.key.n) ∧ w'.cell? ⟨b, off + k * 5 + 4, none⟩ = some (.int .i64 a.n))
              (first
                | go_keep
                | (go_split_ands
                   exact ⟨(hb5.cell (p := ⟨b, off + k * 5 + 1, none⟩) hbr4).trans d1, (hb5.cell (p := ⟨b, off + k * 5 + 2, none⟩) hbr4).trans d2, (hb5.cell (p := ⟨b, off + k * 5 + 3, none⟩) hbr4).trans d3, (hb5.cell (p := ⟨b, off + k * 5 + 4, none⟩) hbr4).trans d4⟩))
              ((go_at_call 12; refine HC2.out.mono ?_; rintro e w5 ⟨at', hin, v, rfl, hown, hb5⟩))
            obtain ⟨A5, c5, rfl, hev5⟩ := ev_own hown
            have hd5 := (below_drewN w4.heap.size w4 1).trans hb5
            have HEV5 := Lib.hid hev5; have HIX5 := Lib.hid ((HIX4.out.below hd5).perm (ins_perm es (a.key, a.n) at')); have HB5 := Lib.hid (HB4.out.trans (hd5.mono HB4.out.size)); have HIN := Lib.hid hin
            clear hown hev5 hb5 hd5 hin d1 d2 d3 d4
            go_wp2_with fail
            exact ⟨⟨k + 1, insE es (a.key, a.n) at', A5, c5, by omega, by go_num, rfl, HREF.out.ins HIN.out HNO.out HAW.out.key HSM.out, by have := (ins_perm es (a.key, a.n) at').length_eq; simp at this; omega, HEV5.out, HIX5.out, HB5.out⟩, by simp [intOf]; omega⟩
          · have hk0' : (a.kind == 0) = false := by simp [hk0]
            by_cases hk1 : a.kind = 1
            · have hk1' : (a.kind == 1) = true := by simp [hk1]
              go_wp2_with fail
              refine (get_any w1.heap.size X bm es a.key 0 false w3 HIX3.out HAW.out.key ⟨(fun h => by cases h), fun _ => ⟨HNO.out, rfl⟩⟩).mono ?_
              rintro e w4 ⟨rfl, hb4⟩
              have HEV4 := Lib.hid (HEV3.out.up hb4); have HIX4 := Lib.hid (HIX3.out.below hb4); have HB4 := Lib.hid (HB3.out.trans (hb4.mono HB3.out.size))
              clear hb4 d1 d2 d3 d4
              go_wp2_with fail
              exact ⟨⟨k + 1, es, Ae, ce, by omega, by go_num, rfl, HREF.out, by omega, HEV4.out, HIX4.out, HB4.out⟩, by simp [intOf]; omega⟩
            · have hk1' : (a.kind == 1) = false := by simp [hk1]
              go_wp2_with fail
              refine (drop_no w1.heap.size X bm es a.key w3 HIX3.out HAW.out.key HNO.out).mono ?_
              rintro e w4 ⟨rfl, hb4⟩
              have HEV4 := Lib.hid (HEV3.out.up hb4); have HIX4 := Lib.hid (HIX3.out.below hb4); have HB4 := Lib.hid (HB3.out.trans (hb4.mono HB3.out.size))
              clear hb4 d1 d2 d3 d4
              go_wp2_with fail
              exact ⟨⟨k + 1, es, Ae, ce, by omega, by go_num, rfl, HREF.out, by omega, HEV4.out, HIX4.out, HB4.out⟩, by simp [intOf]; omega⟩
      · obtain rfl : k = ls.length := by omega
        go_wp2_with fail
        refine (allLaw_any _ X bm Ae ce es wr HIX.out HEV.out (by omega) HREF.out.sorted HREF.out.wf).mono ?_
        rintro e w2' ⟨rfl, hb2⟩
        have HB3 := Lib.hid (HB.out.trans (hb2.mono HB.out.size))
        clear hb2
        go_wp2_with fail
        refine (same_law w2').mono ?_
        rintro e w3 ⟨rfl, hb3⟩
        go_wp2_with fail
        go_ret
        have h4 := HB3.out.trans (hb3.mono HB3.out.size)
        exact ⟨rfl, HB1.out.trans (h4.mono HB1.out.size)⟩
end Go.Proofs.Ytlhhfcnagkhllaa
