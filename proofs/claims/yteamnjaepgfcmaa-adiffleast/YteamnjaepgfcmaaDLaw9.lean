/-
  tendrillaw10.AdiffLeast: true, whatever the list and the changes.
-/
import Derived.Test.YteamnjaepgfcmaaDSame
import Derived.Test.YteamnjaepgfcmaaDOpen
import Derived.BigQuiet
import Derived.StillTailTactics
namespace Go.Proofs.Yteamnjaepgfcmaa
open Go.RowKit Go.Sort Go.Lib
set_option linter.unusedVariables false
theorem short_one {a : List At} (h : Short a) {n v : ByteArray} {g : Bool} (hn : n.size ≤ 10000000) (hv : v.size ≤ 10000000) : Short (oneD a (n, v, g)) := by
  intro x hx
  unfold oneD at hx
  split at hx
  · exact h x (List.mem_filter.1 hx).1
  · rcases mem_with hx with rfl | hx
    · exact ⟨hn, hv⟩
    · exact h x hx
set_option maxRecDepth 100000 in
set_option maxHeartbeats 4000000 in
theorem leastLaw_any (A B : Option Addr) (c d : Nat) (a : List At) (l : List Ch) (w : World) (h : TRow w w.heap.size A a) (h' : XRow w w.heap.size B l) (hf : Fit a) (hf' : XFit l) (hc : a.length ≤ c) (hm : c ≤ maxLen) (hn : A = none → c = 0) (hd : l.length ≤ maxLen) :
    Calls Try.prog 9 #[.slice A a.length c, .slice B l.length d] w (TrueB w) := by
  have HR := Lib.hid h; have HR' := Lib.hid h'
  have C1 := Lib.hid (heavy10_any A c a w h hf (by omega))
  have HKA := Lib.hid (And.intro hc (And.intro hm hn))
  have HF := Lib.hid hf'
  clear h h' hm hc hn hf'
  go_enter Try.func9, Try.ntmps9
  go_wp2_with fail
  refine C1.out.mono ?_
  rintro e w1 ⟨hb, rfl, hb1, hs⟩
  have HB1 := Lib.hid hb1
  cases hb with
  | true =>
    clear hs
    go_wp2_with fail
    refine (same10_any w1).mono ?_
    rintro e w2 ⟨rfl, hb2⟩
    go_wp2_with fail
    go_ret
    exact ⟨rfl, HB1.out.trans (hb2.mono HB1.out.size)⟩
  | false =>
    obtain ⟨hl, hsz⟩ := hs rfl
    have HSH := Lib.hid (few_short (by omega) hsz)
    have HR1 := Lib.hid (HR.out.up hb1); have HR1' := Lib.hid (HR'.out.up hb1)
    clear hs hsz hb1 C1 HR HR'
    by_cases hlong : 60 < l.length
    · go_wp2_with fail
      refine (same10_any w1).mono ?_
      rintro e w2 ⟨rfl, hb2⟩
      go_wp2_with fail
      go_ret
      exact ⟨rfl, HB1.out.trans (hb2.mono HB1.out.size)⟩
    · go_wp2_with fail
      go_loopg [5, 6, 18] l.length (fun g s5 _ s18 wr => ∃ (k : Nat) (X : Option Addr) (cx : Nat), s18 = .int .i64 k ∧ k ≤ l.length ∧ l.length - k ≤ g ∧ s5 = .slice X (doL a (l.take k)).length cx ∧ Hid (TRow wr wr.heap.size X (doL a (l.take k)) ∧ (doL a (l.take k)).length ≤ cx ∧ cx ≤ maxLen ∧ (X = none → cx = 0)) ∧ Hid (Short (doL a (l.take k))) ∧ Hid (Below w1.heap.size w1 wr))
      case atStart => exact ⟨0, A, c, rfl, by omega, by omega, rfl, Lib.hid ⟨HR1.out, HKA.out.1, HKA.out.2.1, HKA.out.2.2⟩, HSH, Lib.hid (Below.refl _ _)⟩
      case round =>
        obtain ⟨k, X, cx, rfl, hk, hg, rfl, HX, HSX, HB⟩ := hrel
        have hle := do_le (l.take k) a
        have hle2 : (l.take k).length ≤ l.length := by simp; omega
        by_cases hlt : k < l.length
        · have h1 : (k : Int) < (l.length : Int) := by omega
          have h2 : ¬ (k : Int) < 0 := by omega
          obtain ⟨b, off, n, v, g', rfl, hbb, he, d1, d2, d3⟩ := xrow_at (HR1'.out.up HB.out) hlt
          have HT := Lib.hid (do_take (a := a) hlt)
          rw [← he] at HT
          obtain ⟨f1, f2⟩ : n.size ≤ 140737488355328 ∧ v.size ≤ 140737488355328 := by have := HF.out l[k] (List.getElem_mem hlt); rw [← he] at this; exact this
          obtain ⟨x, hx⟩ : ∃ x, x = doL a (l.take k) := ⟨_, rfl⟩
          rw [← hx] at HT HX HSX hle ⊢
          have hq1 : IntKind.i64.wrap ((n.size : Int) + (v.size : Int)) = (n.size : Int) + (v.size : Int) := by rw [IntKind.wrap_i64]; omega
          have d1' : ∀ q, (wr.drewN q).cell? ⟨b, off + k * 3, none⟩ = some (.string n) := fun q => d1
          have d2' : ∀ q, (wr.drewN q).cell? ⟨b, off + k * 3 + 1, none⟩ = some (.string v) := fun q => d2
          clear hx he hbb d1 d2
          by_cases hbig : 5000 < n.size + v.size
          · have hq2 : decide ((5000 : Int) < (n.size : Int) + (v.size : Int)) = true := decide_eq_true (by omega)
            go_wp2_with fail
            go_quiet (fail)
            have HBQ := Lib.hid (HB1.out.trans ((HB.out.trans (below_drewN w1.heap.size wr nq)).mono HB1.out.size))
            clear d1' d2' d3
            generalize wr.drewN nq = w2 at HBQ ⊢
            go_wp2_with fail
            refine (same10_any w2).mono ?_
            rintro e w3 ⟨rfl, hb3⟩
            go_wp2_with fail
            go_ret
            exact ⟨rfl, HBQ.out.trans (hb3.mono HBQ.out.size)⟩
          · have hq2 : decide ((5000 : Int) < (n.size : Int) + (v.size : Int)) = false := decide_eq_false (by omega)
            go_wp2_with fail
            go_quiet (fail)
            obtain ⟨w2, hw2⟩ : ∃ w2, w2 = wr.drewN nq := ⟨_, rfl⟩
            have HBQ := Lib.hid (show Below w1.heap.size w1 w2 by rw [hw2]; exact HB.out.trans (below_drewN _ _ _))
            have e1 : w2.cell? ⟨b, off + k * 3, none⟩ = some (.string n) := by rw [hw2]; exact d1' _
            have e2 : w2.cell? ⟨b, off + k * 3 + 1, none⟩ = some (.string v) := by rw [hw2]; exact d2' _
            have e3 : w2.cell? ⟨b, off + k * 3 + 2, none⟩ = some (.bool g') := by rw [hw2]; exact d3
            have C := Lib.hid (one_any X cx x n v g' w2.drew (show TRow w2.drew w2.drew.heap.size X x by rw [hw2]; exact HX.out.1) (by omega) HSX.out (by omega))
            have HSY := Lib.hid (short_one (g := g') HSX.out (n := n) (v := v) (by omega) (by omega))
            rw [← hw2]
            clear d1' d2' d3 hw2 HX HB
            go_wp2_with fail
            go_still_tail 17, (by kernel_rfl)
            change wpList _ _ _ _ _ w2.drew
            have HBD := Lib.hid (HBQ.out.drew)
            clear e1 e2 e3 HBQ
            generalize w2.drew = w3 at C HBD ⊢
            go_wp2_with (go_at_call 31; refine C.out.mono ?_; rintro e w4 ⟨Y, cy, rfl, r1, r2, r3, r4, hb4⟩)
            go_roundg (l.length - (k + 1))
            case measure => omega
            case rel =>
              refine ⟨k + 1, Y, cy, by go_num, by omega, by omega, ?_, ?_, ?_, Lib.hid (HBD.out.trans (hb4.mono HBD.out.size))⟩
              · rw [HT.out]
              · rw [HT.out]; exact Lib.hid ⟨r1, r2, r3, r4⟩
              · rw [HT.out]; exact HSY
        · have h1 : ¬ (k : Int) < (l.length : Int) := by omega
          have e : l.take k = l := List.take_of_length_le (by omega)
          rw [e] at HX HSX hle ⊢
          have hlst := diff_least a l
          obtain ⟨x, hx⟩ : ∃ x, x = doL a l := ⟨_, rfl⟩
          have C2 := Lib.hid (do_any A B c d a l wr (HR1.out.up HB.out) (HR1'.out.up HB.out) (by omega) (by omega) HKA.out.2.2)
          rw [← hx] at HX HSX hle C2 hlst ⊢
          have HB2 := Lib.hid (HB1.out.trans (HB.out.mono HB1.out.size))
          have HRA := Lib.hid (HR1.out.up HB.out)
          clear hx e HR1 HR1' HB HF
          go_wp2_with fail
          refine C2.out.mono ?_
          rintro e w3 ⟨Z, cz, rfl, rz, -, -, -, hb3⟩
          have HB3 := Lib.hid (HB2.out.trans (hb3.mono HB2.out.size))
          have HX3 := Lib.hid (HX.out.1.up hb3); have HRA3 := Lib.hid (HRA.out.up hb3)
          have C3 := Lib.hid (attrs_any Z X cz cx x x w3 rz HX3.out (by omega) (by omega))
          rw [decide_eq_true rfl] at C3
          clear rz hb3 C2 HRA
          go_wp2_with fail
          refine C3.out.mono ?_
          rintro e w4 ⟨rfl, q4, hw4⟩
          have HB4 := Lib.hid (show Below w.heap.size w w4 by rw [hw4]; exact HB3.out.trans (below_drewN _ _ _))
          have C4 := Lib.hid (names_any A X c cx a x w4 (show TRow w4 w4.heap.size A a by rw [hw4]; exact HRA3.out) (show TRow w4 w4.heap.size X x by rw [hw4]; exact HX3.out) (by omega) (by omega) HSH.out HSX.out HKA.out.1 HX.out.2.1 HKA.out.2.1 HX.out.2.2.1 HKA.out.2.2 HX.out.2.2.2)
          obtain ⟨z, hz⟩ : ∃ z, z = (diffD a x).length := ⟨_, rfl⟩
          rw [← hz] at C4 hlst
          have hq5 : decide ((z : Int) ≤ (l.length : Int)) = true := decide_eq_true (by omega)
          clear hw4 C3 hz HX3 HRA3 HB3
          go_wp2_with fail
          refine C4.out.mono ?_
          rintro e w5 ⟨rfl, hb5⟩
          have HB5 := Lib.hid (HB4.out.trans (hb5.mono HB4.out.size))
          clear hb5 C4
          go_wp2_with fail
          refine (same10_any w5).mono ?_
          rintro e w6 ⟨rfl, hb6⟩
          go_wp2_with fail
          go_ret
          exact ⟨rfl, HB5.out.trans (hb6.mono HB5.out.size)⟩
end Go.Proofs.Yteamnjaepgfcmaa
