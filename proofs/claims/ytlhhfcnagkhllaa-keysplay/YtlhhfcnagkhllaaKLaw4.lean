/-
  KeysOf.
-/
import Derived.Test.YtlhhfcnagkhllaaKAllLaw
namespace Go.Proofs.Ytlhhfcnagkhllaa
open Go.RowKit Go.Maps
set_option linter.unusedVariables false

theorem Ix.perm {w : World} {base X bm : Nat} {es es' : List (Lab × Int)} (h : Ix w base X bm es) (hp : es'.Perm es) : Ix w base X bm es' := by
  obtain ⟨D, ho, ha⟩ := h.own
  refine ⟨h.lo, h.loM, h.ne, h.c0, D, by rw [hp.length_eq]; exact ho, ?_⟩
  have hpf := hp.map Prod.fst
  exact ⟨hpf.nodup_iff.2 ha.nodup, fun p hq => ha.wf p (hp.mem_iff.1 hq), fun L hL => by rw [ha.has L hL]; simp only [hpf.mem_iff], fun p hq => ha.val p (hp.mem_iff.1 hq), by rw [ha.size, hp.length_eq]⟩
theorem of_perm {ls : List Lab} {k : Nat} {es es' : List En} {p : En} (h : es.Perm (ofL ls k)) (hi : es'.Perm (p :: es)) : es'.Perm (ofL ls k ++ [p]) :=
  hi.trans ((List.Perm.cons p h).trans (List.perm_append_singleton p _).symm)

/-- The reference's list, of the first k labels. -/
structure RefOf (ls : List Lab) (k : Nat) (es : List En) : Prop where
  perm : es.Perm (ofL ls k)
  sorted : Sorted es
theorem RefOf.len {ls : List Lab} {k : Nat} {es : List En} (h : RefOf ls k es) : es.length ≤ k := by rw [h.perm.length_eq]; exact ofL_len ls k
theorem of_mem {ls : List Lab} {k : Nat} (hk : k ≤ ls.length) : ∀ p ∈ ofL ls k, ∃ j, j < k ∧ ∃ hj : j < ls.length, p.1 = ls[j] := by
  induction k with
  | zero => intro p hp; simp [ofL] at hp
  | succ k ih =>
    intro p hp
    have e : ls.getD k noLab = ls[k] := by simp [List.getD_eq_getElem?_getD, show k < ls.length by omega]
    simp only [ofL, e] at hp
    split at hp
    · obtain ⟨j, h1, h2⟩ := ih (by omega) p hp
      exact ⟨j, by omega, h2⟩
    · rcases List.mem_append.1 hp with h1 | h1
      · obtain ⟨j, h1, h2⟩ := ih (by omega) p h1
        exact ⟨j, by omega, h2⟩
      · simp at h1
        exact ⟨k, by omega, by omega, by rw [h1]⟩
theorem sz_next {ls : List Lab} {k : Nat} {L : Lab} (h : ∀ j, (hj : j < ls.length) → j < k → ls[j].tag.size ≤ 200 ∧ ls[j].key.size ≤ 200) (hk : k < ls.length) (hL : L = ls[k]) (h1 : L.tag.size ≤ 200) (h2 : L.key.size ≤ 200) :
    ∀ j, (hj : j < ls.length) → j < k + 1 → ls[j].tag.size ≤ 200 ∧ ls[j].key.size ≤ 200 := by
  intro j hj hjk
  by_cases e : j < k
  · exact h j hj e
  · obtain rfl : j = k := by omega
    rw [← hL]; exact ⟨h1, h2⟩
def OLRel (w : World) (ls : List Lab) (r i : Value) (wr : World) : Prop := ∃ k : Nat, ∃ es A c, k ≤ ls.length ∧ i = .int .i64 k ∧ r = .slice A es.length c ∧ RefOf ls k es ∧ (∀ j, (hj : j < ls.length) → j < k → ls[j].tag.size ≤ 200 ∧ ls[j].key.size ≤ 200) ∧ EV wr A c es ∧ Below w.heap.size w wr
set_option maxRecDepth 100000 in
set_option maxHeartbeats 4000000 in
theorem law4_any (A : Option Addr) (c : Nat) (ls : List Lab) (w : World) (hr : LRow w w.heap.size A ls) (hl0 : ls.length ≤ maxLen) (hwf : ∀ L ∈ ls, LWf L) :
    Calls Try.prog 4 #[.slice A ls.length c] w fun e w' => e = .returned (.bool true) ∧ Below w.heap.size w w' := by
  have HF := Lib.hid hwf
  have HR := Lib.hid hr
  clear hwf hr
  unfold maxLen at hl0
  by_cases hl : ls.length ≤ 100
  · go_enter Try.func4, Try.ntmps4
    go_wp2_with fail
    go_loopw [3, 11] (OLRel w ls) (fun _ i _ => ls.length - (intOf i).toNat)
    case atStart => exact ⟨0, [], none, 0, by omega, rfl, rfl, ⟨by simp [ofL], List.Pairwise.nil⟩, fun j _ h => by omega, ev_nil w, Below.refl _ _⟩
    case round =>
      obtain ⟨k, es, Ae, ce, hk, rfl, rfl, href, hsz, hev, hbel⟩ := hrel
      have hel := href.len
      have HREF := Lib.hid href; have HSZ := Lib.hid hsz; have HEV := Lib.hid hev
      clear href hsz hev
      by_cases hlt : k < ls.length
      · obtain ⟨b, off, L, rfl, hb, hL, d1, d2, d3⟩ := lrow_at (HR.out.below hbel) hlt
        have hLw : LWf L := by rw [hL]; exact HF.out _ (List.getElem_mem _)
        have HL := Lib.hid hL; have HB := Lib.hid hbel
        clear hL hbel
        by_cases ht : 200 < L.tag.size
        · have hd1 : decide ((200 : Int) < (L.tag.size : Int)) = true := by simp; omega
          go_wp2_with fail
          refine (same_law wr).mono ?_
          rintro e w1 ⟨rfl, hb1⟩
          go_wp2_with fail
          go_ret
          exact ⟨rfl, HB.out.trans (hb1.mono HB.out.size)⟩
        · have hd1 : decide ((200 : Int) < (L.tag.size : Int)) = false := by simp; omega
          by_cases hk2 : 200 < L.key.size
          · have hd2 : decide ((200 : Int) < (L.key.size : Int)) = true := by simp; omega
            go_wp2_with fail
            refine (same_law wr).mono ?_
            rintro e w1 ⟨rfl, hb1⟩
            go_wp2_with fail
            go_ret
            exact ⟨rfl, HB.out.trans (hb1.mono HB.out.size)⟩
          · have hd2 : decide ((200 : Int) < (L.key.size : Int)) = false := by simp; omega
            go_wp2_with fail
            have hbw : b < wr.heap.size := Nat.lt_of_lt_of_le hb HB.out.size
            refine (find_any Ae ce es L wr HEV.out.row (by omega) (fun p hp => by obtain ⟨j, _, hj, e⟩ := of_mem hk p (HREF.out.perm.mem_iff.1 hp); rw [e]; exact HF.out _ (List.getElem_mem _)) hLw).mono ?_
            rintro e w1 ⟨r, rfl, hfa, hb1⟩
            have HEV1 := Lib.hid (HEV.out.up hb1); have HB1 := Lib.hid (HB.out.trans (hb1.mono HB.out.size))
            replace d1 := (hb1.cell (p := ⟨b, off + k * 3, none⟩) hbw).trans d1
            replace d2 := (hb1.cell (p := ⟨b, off + k * 3 + 1, none⟩) hbw).trans d2
            replace d3 := (hb1.cell (p := ⟨b, off + k * 3 + 2, none⟩) hbw).trans d3
            clear hb1
            rcases hfa with ⟨j, hj, rfl, hjL⟩ | ⟨rfl, hno⟩
            · have HJ := Lib.hid hjL
              clear hjL
              have hd3 : decide ((j : Int) < 0) = false := by simp
              go_wp2_with fail
              have hmem : ls[k] ∈ (ofL ls k).map Prod.fst := by
                rw [← HL.out, ← HJ.out]
                exact (HREF.out.perm.map Prod.fst).mem_iff.1 (List.mem_map.2 ⟨_, List.getElem_mem _, rfl⟩)
              exact ⟨⟨k + 1, es, Ae, ce, by omega, by go_num, rfl, ⟨by rw [ofL_old hlt hmem]; exact HREF.out.perm, HREF.out.sorted⟩, sz_next HSZ.out hlt HL.out (by omega) (by omega), HEV1.out, HB1.out⟩, by simp [intOf]; omega⟩
            · have HNO := Lib.hid hno
              clear hno
              go_wp2_with fail
              have hno' : ls[k] ∉ (ofL ls k).map Prod.fst := by
                rw [← HL.out]
                exact fun h => HNO.out ((HREF.out.perm.map Prod.fst).mem_iff.2 h)
              refine (rput_any Ae ce es (L, (k : Int)) w1 HEV1.out (by omega) (fun q hq => by obtain ⟨j, hjk, hj, e⟩ := of_mem hk q (HREF.out.perm.mem_iff.1 hq); rw [e]; have := HSZ.out j hj hjk; exact ⟨by omega, by omega⟩) ⟨by show L.tag.size ≤ 100000; omega, by show L.key.size ≤ 100000; omega⟩).mono ?_
              rintro e w2 ⟨at', hin, v, rfl, hown, hb2⟩
              obtain ⟨A2, c2, rfl, hev2⟩ := ev_own hown
              clear hown
              have HEV2 := Lib.hid hev2; have HB2 := Lib.hid (HB1.out.trans (hb2.mono HB1.out.size)); have HIN := Lib.hid hin
              clear hev2 hb2 hin
              go_wp2_with fail
              exact ⟨⟨k + 1, insE es (L, (k : Int)) at', A2, c2, by omega, by go_num, rfl, ⟨by rw [ofL_new hlt hno', ← HL.out]; exact of_perm HREF.out.perm (ins_perm _ _ _), ins_sorted HREF.out.sorted HIN.out HNO.out⟩, sz_next HSZ.out hlt HL.out (by omega) (by omega), HEV2.out, HB2.out⟩, by simp [intOf]; omega⟩
      · obtain rfl : k = ls.length := by omega
        have HB := Lib.hid hbel
        clear hbel
        go_wp2_with fail
        refine (of_any A c ls wr (HR.out.up HB.out) (by omega) HF.out).mono ?_
        rintro e w1 ⟨X, bm, rfl, hix, hb1⟩
        have HIX := Lib.hid (hix.perm HREF.out.perm); have HEV1 := Lib.hid (HEV.out.up hb1); have HB1 := Lib.hid (HB.out.trans (hb1.mono HB.out.size))
        clear hix hb1
        go_wp2_with fail
        refine (allLaw_any _ X bm Ae ce es w1 HIX.out HEV1.out (by omega) HREF.out.sorted (fun p hp => by obtain ⟨j, _, hj, e⟩ := of_mem hk p (HREF.out.perm.mem_iff.1 hp); rw [e]; exact HF.out _ (List.getElem_mem _))).mono ?_
        rintro e w2 ⟨rfl, hb2⟩
        have HB2 := Lib.hid (HB1.out.trans (hb2.mono HB1.out.size))
        clear hb2
        go_wp2_with fail
        refine (same_law w2).mono ?_
        rintro e w3 ⟨rfl, hb3⟩
        go_wp2_with fail
        go_ret
        exact ⟨rfl, HB2.out.trans (hb3.mono HB2.out.size)⟩
  · go_enter Try.func4, Try.ntmps4
    go_wp2_with fail
    refine (same_law w).mono ?_
    rintro e w1 ⟨rfl, hb⟩
    go_wp2_with fail
    go_ret
    exact ⟨rfl, hb⟩
end Go.Proofs.Ytlhhfcnagkhllaa
