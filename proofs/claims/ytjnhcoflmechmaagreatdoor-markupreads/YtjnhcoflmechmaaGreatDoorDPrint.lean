/-
  datum.write, writeWithin and Print: the text of a value. | datum.Print.
-/
import Derived.Test.YtjnhcoflmechmaaGreatDoorDWeigh
import Derived.Test.YtjnhcoflmechmaaGreatDoorEEscape
import Derived.Test.YtjnhcoflmechmaaGreatDoorCNumMath
namespace Go.Proofs.YtjnhcoflmechmaaGreatDoor
open Go.RowKit Go.Sort
set_option linter.unusedVariables false
set_option maxRecDepth 100000
/-- A builder that holds these bytes; what a call of its own turned. -/
def BB (w : World) (B b : Nat) (l : Bytes) : Prop := Lib.IsBuilder 68 5 B b (Lib.byteCells l) w
def Wr (B b : Nat) (l : Bytes) (w w' : World) : Prop := BB w' B b l ∧ Below B w w' ∧ E.Stands b w w'
theorem BB.up {w w' : World} {B b : Nat} {l : Bytes} (h : BB w B b l) (hb : Below w.heap.size w w') : BB w' B b l := h.imp (fun h => E.at_below h hb) (fun h => E.at_below h hb)
theorem BB.lt {w : World} {B b : Nat} {l : Bytes} (h : BB w B b l) : b < w.heap.size := by
  rcases h with h | h
  · exact h.lt
  · exact h.lt
theorem Wr.next {B b : Nat} {l m : Bytes} {w w1 w2 : World} (h : Wr B b l w w1) (k : Wr B b m w1 w2) : Wr B b m w w2 := ⟨k.1, h.2.1.trans k.2.1, h.2.2.trans k.2.2⟩
theorem Wr.up {B b : Nat} {l : Bytes} {w w1 w2 : World} (h : Wr B b l w w1) (k : Below w1.heap.size w1 w2) (hB : B ≤ w.heap.size) : Wr B b l w w2 := ⟨h.1.up k, h.2.1.trans (k.mono (Nat.le_trans hB h.2.1.size)), h.2.2.trans (E.stands_below k)⟩
theorem Wr.of {B b : Nat} {l : Bytes} {w w1 : World} (h : BB w B b l) (k : Below w.heap.size w w1) (hB : B ≤ w.heap.size) : Wr B b l w w1 := ⟨h.up k, k.mono hB, E.stands_below k⟩
theorem ws_any (B b : Nat) (l : Bytes) (s : ByteArray) (w : World) (h : BB w B b l) (hl : l.length + s.size ≤ 1000000000000) (hB : B ≤ w.heap.size) :
    Calls Tryz.prog 71 #[.pointer (some ⟨b, 0, none⟩), .string s] w fun e w' => e = .returned (.tuple #[.int .i64 s.size, .nilIface]) ∧ Wr B b (l ++ s.data.toList) w w' := by
  refine (E.writeString_any B b _ s w h (by rw [Lib.byteCells_length]; omega) hB).mono ?_
  rintro e w' ⟨rfl, h1, h2, h3⟩
  refine ⟨rfl, ?_, h2, h3⟩
  unfold BB
  rw [Lib.byteCells_append]
  exact .inr h1
theorem wb_any (B b : Nat) (l : Bytes) (c : UInt8) (w : World) (h : BB w B b l) (hl : l.length + 1 ≤ 1000000000000) (hB : B ≤ w.heap.size) :
    Calls Tryz.prog 74 #[.pointer (some ⟨b, 0, none⟩), .int .u8 (c.toNat : Int)] w fun e w' => e = .returned .nilIface ∧ Wr B b (l ++ [c]) w w' := by
  refine (E.writeByte_any B b _ (c.toNat : Int) w h (by rw [Lib.byteCells_length]; omega) hB).mono ?_
  rintro e w' ⟨rfl, h1, h2, h3⟩
  refine ⟨rfl, ?_, h2, h3⟩
  unfold BB
  rw [Lib.byteCells_append]
  exact .inr h1
theorem kq {a K : Int} (h : a = K) (i : Int) {r : Bool} (hr : (K == i) = r) : (a == i) = r := by rw [h]; exact hr
theorem textD_0 {d : Dt} (h : d.kind = 0) : textD d = [110, 111, 110, 101] := by cases d; simp only [Dt.kind] at h; subst h; rw [textD, if_pos rfl]
theorem textD_1 {d : Dt} (h : d.kind = 1) : textD d = if d.num = 1 then [121, 101, 115] else [110, 111] := by cases d; simp only [Dt.kind] at h; subst h; rw [textD, if_neg (by decide), if_pos rfl]; rfl
theorem textD_2 {d : Dt} (h : d.kind = 2) : textD d = Lib.itoa d.num := by cases d; simp only [Dt.kind] at h; subst h; rw [textD, if_neg (by decide), if_neg (by decide), if_pos rfl]; rfl
theorem textD_3 {d : Dt} (h : d.kind = 3) : textD d = 34 :: (E.escL d.text.data.toList ++ [34]) := by cases d; simp only [Dt.kind] at h; subst h; rw [textD, if_neg (by decide), if_neg (by decide), if_neg (by decide), if_pos rfl]; rfl
theorem uptoD_le (d : Dt) (k n : Nat) (h : k ≤ n) : (uptoD d k).length ≤ (uptoD d n).length := by
  induction n with
  | zero => have : k = 0 := by omega
            subst this; exact Nat.le_refl _
  | succ n ih =>
    rcases Nat.lt_or_ge k (n + 1) with h1 | h1
    · have := ih (by omega)
      rw [uptoD, List.length_append]; omega
    · have : k = n + 1 := by omega
      subst this; exact Nat.le_refl _
def noTxt : ByteArray := ⟨#[110, 111]⟩
set_option maxHeartbeats 1000000 in
theorem truthText_any (n : Int) (w : World) (hn : n = 0 ∨ n = 1) : Calls Tryz.prog 72 #[.int .i64 n] w fun e w' => e = .returned (.string (strB (if n = 1 then [121, 101, 115] else [110, 111]))) ∧ w = w' := by
  rcases hn with rfl | rfl
  · go_enter Tryz.func72, Tryz.ntmps72
    go_wp2_with fail
    go_ret
    exact ⟨rfl, rfl⟩
  · go_enter Tryz.func72, Tryz.ntmps72
    go_wp2_with fail
    go_ret
    exact ⟨rfl, rfl⟩
def WriteP (d : Dt) : Prop := ∀ (x : NV) (B b : Nat) (l : Bytes) (w : World), DatAt w B d x → BB w B b l → Vars w → 4 ≤ B → B ≤ w.heap.size → l.length + (textD d).length ≤ 100000000000 →
    Calls Tryz.prog 45 #[.pointer (some ⟨b, 0, none⟩), datV d x] w fun e w' => e = .returned (.tuple #[]) ∧ Wr B b (l ++ textD d) w w'
set_option maxHeartbeats 4000000 in
theorem within_any (d : Dt) (hf : FineD d) (h4 : 4 ≤ d.kind) (ih : ∀ k ∈ d.list, WriteP k) (x : NV) (B b : Nat) (l : Bytes) (w : World) (ht : DatAt w B d x) (hbb : BB w B b l) (hv : Vars w) (hB4 : 4 ≤ B) (hB : B ≤ w.heap.size) (hlen : l.length + (textD d).length ≤ 100000000000) (hll : d.list.length ≤ 1000000) :
    Calls Tryz.prog 75 #[.pointer (some ⟨b, 0, none⟩), datV d x, .int .u8 (((if d.kind = 5 then (123 : UInt8) else 91)).toNat : Int), .int .u8 (((if d.kind = 5 then (125 : UInt8) else 93)).toNat : Int)] w fun e w' => e = .returned (.tuple #[]) ∧ Wr B b (l ++ textD d) w w' := by
  obtain ⟨co, hco⟩ : ∃ co : UInt8, co = if d.kind = 5 then 123 else 91 := ⟨_, rfl⟩
  obtain ⟨cc, hcc⟩ : ∃ cc : UInt8, cc = if d.kind = 5 then 125 else 93 := ⟨_, rfl⟩
  have htx := textD_group h4
  rw [← hco, ← hcc] at htx ⊢
  have hlen2 : l.length + (uptoD d d.list.length).length + 2 ≤ 100000000000 := by rw [htx] at hlen; simp at hlen; omega
  obtain ⟨T, hT⟩ : ∃ T, T = textD d := ⟨_, rfl⟩
  rw [← hT] at htx hlen ⊢
  have HTX := Lib.hid htx
  obtain ⟨w1, hw1⟩ : ∃ w1, w1 = boxD w d x := ⟨_, rfl⟩
  have hb1 : Below w.heap.size w w1 := by rw [hw1]; exact below_boxD w d x
  have hbh : w1.heap[w.heap.size]? = some (.cells #[.int .i64 d.kind, .int .i64 d.num, .string d.text, .slice x.A d.names.length x.ca, .slice x.K d.list.length x.ck] 46 (0, 0)) := by rw [hw1]; exact heap_alloc_new w _
  have hbw := hbb.lt
  have CB := Lib.hid (wb_any B b l co w1 (hbb.up hb1) (by omega) (Nat.le_trans hB hb1.size))
  have HW := Lib.hid hw1; have HT1 := Lib.hid (ht.keepB (hb1.mono hB)); have HB1 := Lib.hid hb1; have HBH := Lib.hid hbh; have HV := Lib.hid hv
  have HIH := Lib.hid ih; have HF := Lib.hid hf; have HBB := Lib.hid hbb
  have hsz1 : w.heap.size < w1.heap.size := by rw [hw1]; simp
  clear hw1 hb1 hbh ht hbb hv ih hf hT hco hcc htx
  go_enter Tryz.func75, Tryz.ntmps75
  go_upto_region 1 with (fail)
  rw [boxD_out HW]
  go_wp2_with fail
  refine CB.out.mono ?_
  rintro e w2 ⟨rfl, hwr2⟩
  have HW2 := Lib.hid hwr2
  have hsz2 : w1.heap.size ≤ w2.heap.size := hwr2.2.1.size
  clear hwr2 CB
  have HBX := Lib.hid (show ∀ W, E.Stands b w1 W → DatCells W w.heap.size 0 d x from fun W hW => by
    have := hW _ _ _ _ (show w.heap.size ≠ b by omega) (by decide) HBH.out
    have e : ∀ j, W.cell? ⟨w.heap.size, j, none⟩ = (#[.int .i64 d.kind, .int .i64 d.num, .string d.text, .slice x.A d.names.length x.ca, .slice x.K d.list.length x.ck] : Array Value)[j]? := fun j => cell_of_row _ _ _ _ _ (0, 0) this
    exact ⟨by rw [e]; rfl, by rw [e]; rfl, by rw [e]; rfl, by rw [e]; rfl, by rw [e]; rfl⟩)
  obtain ⟨c0, c1, c2, c3, c4⟩ := HBX.out w2 HW2.out.2.2
  go_wp2_with fail
  go_loopg [16] d.list.length (fun g s16 wr => ∃ k : Nat, s16 = .int .i64 k ∧ k ≤ d.list.length ∧ d.list.length - k ≤ g ∧ RowKit.Hid (Wr B b (l ++ [co] ++ uptoD d k) w1 wr))
  case atStart => exact ⟨0, rfl, by omega, by omega, Lib.hid (by simpa [uptoD] using HW2.out)⟩
  case round =>
    clear c0 c1 c2 c3 c4
    obtain ⟨k, rfl, hk, hg, HWR⟩ := hrel
    obtain ⟨c0, c1, c2, c3, c4⟩ := HBX.out wr HWR.out.2.2
    have hszr : w1.heap.size ≤ wr.heap.size := HWR.out.2.1.size
    have hle := uptoD_le d k d.list.length hk
    by_cases hlt : k < d.list.length
    · have h1 : (k : Int) < (d.list.length : Int) := by omega
      obtain ⟨bk, off, kd, y, hK, hbk, hkd, hkc, hkt⟩ := (HT1.out.keepB HWR.out.2.1).kid hlt
      obtain ⟨p0, p1, p2, p3, p4⟩ := hkc
      obtain ⟨wB, hwB⟩ : ∃ wB, wB = boxD wr kd y := ⟨_, rfl⟩
      have hbB : Below wr.heap.size wr wB := by rw [hwB]; exact below_boxD wr kd y
      have hbhB : wB.heap[wr.heap.size]? = some (.cells #[.int .i64 kd.kind, .int .i64 kd.num, .string kd.text, .slice y.A kd.names.length y.ca, .slice y.K kd.list.length y.ck] 46 (0, 0)) := by rw [hwB]; exact heap_alloc_new wr _
      have hblt := HWR.out.1.lt
      have HKX := Lib.hid (show ∀ W, E.Stands b wB W → DatCells W wr.heap.size 0 kd y from fun W hW => by
        have := hW _ _ _ _ (show wr.heap.size ≠ b by omega) (by decide) hbhB
        have e : ∀ j, W.cell? ⟨wr.heap.size, j, none⟩ = (#[.int .i64 kd.kind, .int .i64 kd.num, .string kd.text, .slice y.A kd.names.length y.ca, .slice y.K kd.list.length y.ck] : Array Value)[j]? := fun j => cell_of_row _ _ _ _ _ (0, 0) this
        exact ⟨by rw [e]; rfl, by rw [e]; rfl, by rw [e]; rfl, by rw [e]; rfl, by rw [e]; rfl⟩)
      obtain ⟨L0, hL0⟩ : ∃ L0, L0 = l ++ [co] ++ uptoD d k := ⟨_, rfl⟩
      have HC0 := Lib.hid (show Wr B b L0 w1 wB from by rw [hL0]; exact HWR.out.up hbB (by omega))
      have hkk : d.list.getD k (.mk 0 0 noB [] []) = kd := by rw [hkd, List.getD_eq_getElem?_getD, List.getElem?_eq_getElem hlt]; rfl
      have hup : uptoD d (k + 1) = uptoD d k ++ pieceD d k (textD kd) := by rw [uptoD, hkk]
      have hle2 := uptoD_le d (k + 1) d.list.length (by omega)
      have hup2 : l ++ [co] ++ uptoD d (k + 1) = L0 ++ pieceD d k (textD kd) := by rw [hup, hL0]; simp
      have hL1 : L0.length + (pieceD d k (textD kd)).length ≤ 100000000000 := by
        have := congrArg List.length hup2
        simp only [List.length_append, List.length_singleton] at this hle2
        omega
      have HUP := Lib.hid hup2
      have HIHk := Lib.hid (HIH.out kd (by rw [hkd]; exact List.getElem_mem _))
      have HKT := Lib.hid (hkt.keepB (hbB.mono (show B ≤ wr.heap.size by omega)))
      have HWB := Lib.hid hwB
      have hszB : wr.heap.size ≤ wB.heap.size := hbB.size
      have HHK := Lib.hid hK
      have HVB := Lib.hid ((HV.out.belowC HB1.out).below hB4 HC0.out.2.1)
      have HNM := Lib.hid (HF.out)
      clear hL0 hkd hkt hwB hbB hbhB hkk hup hle2 hup2 hle HWR hlen
      by_cases h0 : k = 0
      · by_cases h5 : d.kind = 5
        · have hgt : ¬ (k : Int) > 0 := by omega
          have hkn : (0 : Int) ≤ (k : Int) := by omega
          have h5b : (d.kind == 5) = true := by rw [h5]; rfl
          have hnl : k < d.names.length := by cases HNM.out with | mk own nm sub => have := own.2.2.2.2.2.2.1 h5; omega
          obtain ⟨bn, on, nk, hA, hbn, hnk, hcn⟩ := srow_at (HT1.out.names) hnl
          have hgd : d.names.getD k noB = nk := by rw [hnk, List.getD_eq_getElem?_getD, List.getElem?_eq_getElem hnl]; rfl
          have HNR := Lib.hid (show ∀ W, Below B w1 W → W.cell? ⟨bn, on + k, none⟩ = some (.string nk) from fun W hW => (hW.cell (p := ⟨bn, on + k, none⟩) (show bn < B from hbn)).trans hcn)
          have hnl2 : (k : Int) < (d.names.length : Int) := by omega
          have hpc : pieceD d k (textD kd) = (nk.data.toList ++ 61 :: textD kd) := by unfold pieceD; rw [if_pos h0, if_pos h5, hgd]; simp
          have HHA := Lib.hid hA
          have hnsz : nk.data.toList.length = nk.size := by simp
          rw [hpc] at hL1
          have HPC := Lib.hid hpc
          try simp only [List.length_append] at hL1
          try simp only [List.length_cons] at hL1
          try simp only [List.length_append] at hL1
          try simp only [List.length_cons] at hL1
          clear hpc h0 h5 hA hnk hcn hgd
          obtain ⟨c0, c1, c2, c3, c4⟩ := HBX.out wB HC0.out.2.2
          rw [HHA.out] at c3
          obtain ⟨e0, e1, e2, e3, e4⟩ := HKX.out wB (fun _ _ _ _ _ _ h => h)
          have hcn := HNR.out wB HC0.out.2.1
          have HKW0 := Lib.hid (show Wr B b L0 wB wB from ⟨HC0.out.1, Below.refl _ _, fun _ _ _ _ _ _ h => h⟩)
          have D1 := Lib.hid (ws_any B b (L0) nk wB HC0.out.1 (by first | omega | (rw [List.length_append]; omega) | (simp only [List.length_append, List.length_cons, List.length_nil]; omega)) (by have := HC0.out.2.1.size; omega))
          go_upto_region 5 with (fail)
          rw [boxD_out HWB]
          go_wp2_with fail
          refine D1.out.mono ?_
          rintro e w11 ⟨rfl, hq1⟩
          have HC1 := Lib.hid (HC0.out.next hq1)
          have HKW1 := Lib.hid (HKW0.out.next hq1)
          clear hq1 D1 c0 c1 c2 c3 c4 e0 e1 e2 e3 e4 hcn
          obtain ⟨c0, c1, c2, c3, c4⟩ := HBX.out w11 HC1.out.2.2
          rw [HHA.out] at c3
          obtain ⟨e0, e1, e2, e3, e4⟩ := HKX.out w11 HKW1.out.2.2
          have hcn := HNR.out w11 HC1.out.2.1
          have D2 := Lib.hid (show Calls Tryz.prog 74 #[.pointer (some ⟨b, 0, none⟩), .int .u8 61] w11 (fun e w' => e = .returned .nilIface ∧ Wr B b ((L0 ++ nk.data.toList) ++ [61]) w11 w') from wb_any B b ((L0 ++ nk.data.toList)) 61 w11 HC1.out.1 (by first | omega | (rw [List.length_append]; omega) | (simp only [List.length_append, List.length_cons, List.length_nil]; omega)) (by have := HC1.out.2.1.size; omega))
          go_wp2_with fail
          refine D2.out.mono ?_
          rintro e w12 ⟨rfl, hq2⟩
          have HC2 := Lib.hid (HC1.out.next hq2)
          have HKW2 := Lib.hid (HKW1.out.next hq2)
          clear hq2 D2 c0 c1 c2 c3 c4 e0 e1 e2 e3 e4 hcn
          obtain ⟨c0, c1, c2, c3, c4⟩ := HBX.out w12 HC2.out.2.2
          rw [HHA.out] at c3
          obtain ⟨e0, e1, e2, e3, e4⟩ := HKX.out w12 HKW2.out.2.2
          have hcn := HNR.out w12 HC2.out.2.1
          have D3 := Lib.hid (HIHk.out y B b (((L0 ++ nk.data.toList) ++ [61])) w12 (HKT.out.keepB (HKW2.out.2.1)) HC2.out.1 (HVB.out.below hB4 HKW2.out.2.1) hB4 (by have := HC2.out.2.1.size; omega) (by first | omega | (rw [List.length_append]; omega) | (simp only [List.length_append, List.length_cons, List.length_nil]; omega)))
          go_wp2_with fail
          refine D3.out.mono ?_
          rintro e w13 ⟨rfl, hq3⟩
          have HC3 := Lib.hid (HC2.out.next hq3)
          have HKW3 := Lib.hid (HKW2.out.next hq3)
          clear hq3 D3 c0 c1 c2 c3 c4 e0 e1 e2 e3 e4 hcn
          obtain ⟨c0, c1, c2, c3, c4⟩ := HBX.out w13 HC3.out.2.2
          rw [HHA.out] at c3
          obtain ⟨e0, e1, e2, e3, e4⟩ := HKX.out w13 HKW3.out.2.2
          have hcn := HNR.out w13 HC3.out.2.1
          go_wp2_with fail
          try rw [← HHK.out]
          try rw [← HHA.out]
          go_roundg (d.list.length - (k + 1))
          case measure => omega
          case rel => exact ⟨k + 1, by go_num, by omega, by omega, Lib.hid (by rw [HUP.out, HPC.out]; simpa using HC3.out)⟩
        · have hgt : ¬ (k : Int) > 0 := by omega
          have hkn : (0 : Int) ≤ (k : Int) := by omega
          have h5b : (d.kind == 5) = false := by rw [beq_eq_false_iff_ne]; exact h5
          have hpc : pieceD d k (textD kd) = textD kd := by unfold pieceD; rw [if_pos h0, if_neg h5]; simp
          rw [hpc] at hL1
          have HPC := Lib.hid hpc
          try simp only [List.length_append] at hL1
          try simp only [List.length_cons] at hL1
          try simp only [List.length_append] at hL1
          try simp only [List.length_cons] at hL1
          clear hpc h0 h5
          obtain ⟨c0, c1, c2, c3, c4⟩ := HBX.out wB HC0.out.2.2
          obtain ⟨e0, e1, e2, e3, e4⟩ := HKX.out wB (fun _ _ _ _ _ _ h => h)
          have HKW0 := Lib.hid (show Wr B b L0 wB wB from ⟨HC0.out.1, Below.refl _ _, fun _ _ _ _ _ _ h => h⟩)
          have D1 := Lib.hid (HIHk.out y B b (L0) wB (HKT.out.keepB (HKW0.out.2.1)) HC0.out.1 (HVB.out.below hB4 HKW0.out.2.1) hB4 (by have := HC0.out.2.1.size; omega) (by first | omega | (rw [List.length_append]; omega) | (simp only [List.length_append, List.length_cons, List.length_nil]; omega)))
          go_upto_region 5 with (fail)
          rw [boxD_out HWB]
          go_wp2_with fail
          refine D1.out.mono ?_
          rintro e w11 ⟨rfl, hq1⟩
          have HC1 := Lib.hid (HC0.out.next hq1)
          have HKW1 := Lib.hid (HKW0.out.next hq1)
          clear hq1 D1 c0 c1 c2 c3 c4 e0 e1 e2 e3 e4
          obtain ⟨c0, c1, c2, c3, c4⟩ := HBX.out w11 HC1.out.2.2
          obtain ⟨e0, e1, e2, e3, e4⟩ := HKX.out w11 HKW1.out.2.2
          go_wp2_with fail
          try rw [← HHK.out]
          go_roundg (d.list.length - (k + 1))
          case measure => omega
          case rel => exact ⟨k + 1, by go_num, by omega, by omega, Lib.hid (by rw [HUP.out, HPC.out]; simpa using HC1.out)⟩
      · by_cases h5 : d.kind = 5
        · have hgt : (k : Int) > 0 := by omega
          have h5b : (d.kind == 5) = true := by rw [h5]; rfl
          have hnl : k < d.names.length := by cases HNM.out with | mk own nm sub => have := own.2.2.2.2.2.2.1 h5; omega
          obtain ⟨bn, on, nk, hA, hbn, hnk, hcn⟩ := srow_at (HT1.out.names) hnl
          have hgd : d.names.getD k noB = nk := by rw [hnk, List.getD_eq_getElem?_getD, List.getElem?_eq_getElem hnl]; rfl
          have HNR := Lib.hid (show ∀ W, Below B w1 W → W.cell? ⟨bn, on + k, none⟩ = some (.string nk) from fun W hW => (hW.cell (p := ⟨bn, on + k, none⟩) (show bn < B from hbn)).trans hcn)
          have hnl2 : (k : Int) < (d.names.length : Int) := by omega
          have hpc : pieceD d k (textD kd) = 44 :: (nk.data.toList ++ 61 :: textD kd) := by unfold pieceD; rw [if_neg h0, if_pos h5, hgd]; simp
          have HHA := Lib.hid hA
          have hnsz : nk.data.toList.length = nk.size := by simp
          rw [hpc] at hL1
          have HPC := Lib.hid hpc
          try simp only [List.length_append] at hL1
          try simp only [List.length_cons] at hL1
          try simp only [List.length_append] at hL1
          try simp only [List.length_cons] at hL1
          clear hpc h0 h5 hA hnk hcn hgd
          obtain ⟨c0, c1, c2, c3, c4⟩ := HBX.out wB HC0.out.2.2
          rw [HHA.out] at c3
          obtain ⟨e0, e1, e2, e3, e4⟩ := HKX.out wB (fun _ _ _ _ _ _ h => h)
          have hcn := HNR.out wB HC0.out.2.1
          have HKW0 := Lib.hid (show Wr B b L0 wB wB from ⟨HC0.out.1, Below.refl _ _, fun _ _ _ _ _ _ h => h⟩)
          have D1 := Lib.hid (show Calls Tryz.prog 74 #[.pointer (some ⟨b, 0, none⟩), .int .u8 44] wB (fun e w' => e = .returned .nilIface ∧ Wr B b (L0 ++ [44]) wB w') from wb_any B b (L0) 44 wB HC0.out.1 (by first | omega | (rw [List.length_append]; omega) | (simp only [List.length_append, List.length_cons, List.length_nil]; omega)) (by have := HC0.out.2.1.size; omega))
          go_upto_region 5 with (fail)
          rw [boxD_out HWB]
          go_wp2_with fail
          refine D1.out.mono ?_
          rintro e w11 ⟨rfl, hq1⟩
          have HC1 := Lib.hid (HC0.out.next hq1)
          have HKW1 := Lib.hid (HKW0.out.next hq1)
          clear hq1 D1 c0 c1 c2 c3 c4 e0 e1 e2 e3 e4 hcn
          obtain ⟨c0, c1, c2, c3, c4⟩ := HBX.out w11 HC1.out.2.2
          rw [HHA.out] at c3
          obtain ⟨e0, e1, e2, e3, e4⟩ := HKX.out w11 HKW1.out.2.2
          have hcn := HNR.out w11 HC1.out.2.1
          have D2 := Lib.hid (ws_any B b ((L0 ++ [44])) nk w11 HC1.out.1 (by first | omega | (rw [List.length_append]; omega) | (simp only [List.length_append, List.length_cons, List.length_nil]; omega)) (by have := HC1.out.2.1.size; omega))
          go_wp2_with fail
          refine D2.out.mono ?_
          rintro e w12 ⟨rfl, hq2⟩
          have HC2 := Lib.hid (HC1.out.next hq2)
          have HKW2 := Lib.hid (HKW1.out.next hq2)
          clear hq2 D2 c0 c1 c2 c3 c4 e0 e1 e2 e3 e4 hcn
          obtain ⟨c0, c1, c2, c3, c4⟩ := HBX.out w12 HC2.out.2.2
          rw [HHA.out] at c3
          obtain ⟨e0, e1, e2, e3, e4⟩ := HKX.out w12 HKW2.out.2.2
          have hcn := HNR.out w12 HC2.out.2.1
          have D3 := Lib.hid (show Calls Tryz.prog 74 #[.pointer (some ⟨b, 0, none⟩), .int .u8 61] w12 (fun e w' => e = .returned .nilIface ∧ Wr B b (((L0 ++ [44]) ++ nk.data.toList) ++ [61]) w12 w') from wb_any B b (((L0 ++ [44]) ++ nk.data.toList)) 61 w12 HC2.out.1 (by first | omega | (rw [List.length_append]; omega) | (simp only [List.length_append, List.length_cons, List.length_nil]; omega)) (by have := HC2.out.2.1.size; omega))
          go_wp2_with fail
          refine D3.out.mono ?_
          rintro e w13 ⟨rfl, hq3⟩
          have HC3 := Lib.hid (HC2.out.next hq3)
          have HKW3 := Lib.hid (HKW2.out.next hq3)
          clear hq3 D3 c0 c1 c2 c3 c4 e0 e1 e2 e3 e4 hcn
          obtain ⟨c0, c1, c2, c3, c4⟩ := HBX.out w13 HC3.out.2.2
          rw [HHA.out] at c3
          obtain ⟨e0, e1, e2, e3, e4⟩ := HKX.out w13 HKW3.out.2.2
          have hcn := HNR.out w13 HC3.out.2.1
          have D4 := Lib.hid (HIHk.out y B b ((((L0 ++ [44]) ++ nk.data.toList) ++ [61])) w13 (HKT.out.keepB (HKW3.out.2.1)) HC3.out.1 (HVB.out.below hB4 HKW3.out.2.1) hB4 (by have := HC3.out.2.1.size; omega) (by first | omega | (rw [List.length_append]; omega) | (simp only [List.length_append, List.length_cons, List.length_nil]; omega)))
          go_wp2_with fail
          refine D4.out.mono ?_
          rintro e w14 ⟨rfl, hq4⟩
          have HC4 := Lib.hid (HC3.out.next hq4)
          have HKW4 := Lib.hid (HKW3.out.next hq4)
          clear hq4 D4 c0 c1 c2 c3 c4 e0 e1 e2 e3 e4 hcn
          obtain ⟨c0, c1, c2, c3, c4⟩ := HBX.out w14 HC4.out.2.2
          rw [HHA.out] at c3
          obtain ⟨e0, e1, e2, e3, e4⟩ := HKX.out w14 HKW4.out.2.2
          have hcn := HNR.out w14 HC4.out.2.1
          go_wp2_with fail
          try rw [← HHK.out]
          try rw [← HHA.out]
          go_roundg (d.list.length - (k + 1))
          case measure => omega
          case rel => exact ⟨k + 1, by go_num, by omega, by omega, Lib.hid (by rw [HUP.out, HPC.out]; simpa using HC4.out)⟩
        · have hgt : (k : Int) > 0 := by omega
          have h5b : (d.kind == 5) = false := by rw [beq_eq_false_iff_ne]; exact h5
          have hpc : pieceD d k (textD kd) = 44 :: textD kd := by unfold pieceD; rw [if_neg h0, if_neg h5]; simp
          rw [hpc] at hL1
          have HPC := Lib.hid hpc
          try simp only [List.length_append] at hL1
          try simp only [List.length_cons] at hL1
          try simp only [List.length_append] at hL1
          try simp only [List.length_cons] at hL1
          clear hpc h0 h5
          obtain ⟨c0, c1, c2, c3, c4⟩ := HBX.out wB HC0.out.2.2
          obtain ⟨e0, e1, e2, e3, e4⟩ := HKX.out wB (fun _ _ _ _ _ _ h => h)
          have HKW0 := Lib.hid (show Wr B b L0 wB wB from ⟨HC0.out.1, Below.refl _ _, fun _ _ _ _ _ _ h => h⟩)
          have D1 := Lib.hid (show Calls Tryz.prog 74 #[.pointer (some ⟨b, 0, none⟩), .int .u8 44] wB (fun e w' => e = .returned .nilIface ∧ Wr B b (L0 ++ [44]) wB w') from wb_any B b (L0) 44 wB HC0.out.1 (by first | omega | (rw [List.length_append]; omega) | (simp only [List.length_append, List.length_cons, List.length_nil]; omega)) (by have := HC0.out.2.1.size; omega))
          go_upto_region 5 with (fail)
          rw [boxD_out HWB]
          go_wp2_with fail
          refine D1.out.mono ?_
          rintro e w11 ⟨rfl, hq1⟩
          have HC1 := Lib.hid (HC0.out.next hq1)
          have HKW1 := Lib.hid (HKW0.out.next hq1)
          clear hq1 D1 c0 c1 c2 c3 c4 e0 e1 e2 e3 e4
          obtain ⟨c0, c1, c2, c3, c4⟩ := HBX.out w11 HC1.out.2.2
          obtain ⟨e0, e1, e2, e3, e4⟩ := HKX.out w11 HKW1.out.2.2
          have D2 := Lib.hid (HIHk.out y B b ((L0 ++ [44])) w11 (HKT.out.keepB (HKW1.out.2.1)) HC1.out.1 (HVB.out.below hB4 HKW1.out.2.1) hB4 (by have := HC1.out.2.1.size; omega) (by first | omega | (rw [List.length_append]; omega) | (simp only [List.length_append, List.length_cons, List.length_nil]; omega)))
          go_wp2_with fail
          refine D2.out.mono ?_
          rintro e w12 ⟨rfl, hq2⟩
          have HC2 := Lib.hid (HC1.out.next hq2)
          have HKW2 := Lib.hid (HKW1.out.next hq2)
          clear hq2 D2 c0 c1 c2 c3 c4 e0 e1 e2 e3 e4
          obtain ⟨c0, c1, c2, c3, c4⟩ := HBX.out w12 HC2.out.2.2
          obtain ⟨e0, e1, e2, e3, e4⟩ := HKX.out w12 HKW2.out.2.2
          go_wp2_with fail
          try rw [← HHK.out]
          go_roundg (d.list.length - (k + 1))
          case measure => omega
          case rel => exact ⟨k + 1, by go_num, by omega, by omega, Lib.hid (by rw [HUP.out, HPC.out]; simpa using HC2.out)⟩
    · have h1 : ¬ (k : Int) < (d.list.length : Int) := by omega
      have hke : k = d.list.length := by omega
      have CE := Lib.hid (wb_any B b _ cc wr HWR.out.1 (by simp; omega) (by omega))
      go_wp2_with fail
      refine CE.out.mono ?_
      rintro e w3 ⟨rfl, hwr3⟩
      have HFN := Lib.hid (show Wr B b (l ++ T) w w3 from by
        have := (Wr.of HBB.out HB1.out hB).next (HWR.out.next hwr3)
        rw [HTX.out, ← hke]
        simpa using this)
      clear hwr3 CE
      go_wp2_with fail
      go_end0
      exact ⟨rfl, HFN.out⟩
theorem b91 : (((91 : UInt8).toNat : Nat) : Int) = 91 := rfl
set_option maxHeartbeats 4000000 in
theorem write_any : ∀ d : Dt, FineD d → GoodD d → WriteP d := by
  refine dt_ind (fun d ih hf hg => ?_)
  obtain ⟨g1, g2, g3, g4, g5, g6⟩ := hg.sizes
  intro x B b l w ht hbb hv hB4 hB hlen
  have hpl : PlainP d := by cases hf; assumption
  obtain ⟨⟨k0, k5⟩, p1, p2, p3, p4, p5, p6, p7⟩ := hpl
  obtain ⟨w1, hw1⟩ : ∃ w1, w1 = boxD w d x := ⟨_, rfl⟩
  have hb1 : Below w.heap.size w w1 := by rw [hw1]; exact below_boxD w d x
  have hbox : DatCells w1 w.heap.size 0 d x := by rw [hw1]; exact box_dat w d x
  have hwr1 : Wr B b l w w1 := Wr.of hbb hb1 hB
  have hsz1 : w.heap.size ≤ w1.heap.size := hb1.size
  have HV1 := Lib.hid (hv.belowC hb1)
  have HWR1 := Lib.hid hwr1
  have HW := Lib.hid hw1
  obtain ⟨T, hT⟩ : ∃ T, T = textD d := ⟨_, rfl⟩
  have hbh : w1.heap[w.heap.size]? = some (.cells #[.int .i64 d.kind, .int .i64 d.num, .string d.text, .slice x.A d.names.length x.ca, .slice x.K d.list.length x.ck] 46 (0, 0)) := by rw [hw1]; exact heap_alloc_new w _
  have hblt := hbb.lt
  have HBX := Lib.hid (show ∀ W, E.Stands b w1 W → DatCells W w.heap.size 0 d x from fun W hW => by
    have := hW _ _ _ _ (show w.heap.size ≠ b by omega) (by decide) hbh
    have e : ∀ j, W.cell? ⟨w.heap.size, j, none⟩ = (#[.int .i64 d.kind, .int .i64 d.num, .string d.text, .slice x.A d.names.length x.ca, .slice x.K d.list.length x.ck] : Array Value)[j]? := fun j => cell_of_row _ _ _ _ _ (0, 0) this
    exact ⟨by rw [e]; rfl, by rw [e]; rfl, by rw [e]; rfl, by rw [e]; rfl, by rw [e]; rfl⟩)
  have hk : d.kind = 0 ∨ d.kind = 1 ∨ d.kind = 2 ∨ d.kind = 3 ∨ d.kind = 4 ∨ d.kind = 5 := by omega
  rw [← hT] at hlen ⊢
  rcases hk with hk | hk | hk | hk | hk | hk
  · have D := Lib.hid (ws_any B b l ⟨#[110, 111, 110, 101]⟩ w1 hwr1.1 (by have := hlen; rw [hT, textD_0 hk] at this; simp at this; show l.length + 4 ≤ 1000000000000; omega) (by omega))
    have e0 := kq hk 0 (r := true) rfl
    have HTE := Lib.hid (show l ++ T = l ++ (⟨#[110, 111, 110, 101]⟩ : ByteArray).data.toList by rw [hT, textD_0 hk])
    obtain ⟨c0, c1, c2, c3, c4⟩ := hbox
    clear hk p1 p2 p3 p4 p5 p6 p7 k0 k5 hT hlen hbh hw1
    go_enter Tryz.func45, Tryz.ntmps45
    go_upto_region 1 with (fail)
    rw [boxD_out HW]
    go_wp2_with fail
    refine D.out.mono ?_
    rintro e w2 ⟨rfl, hq⟩
    have HQ := Lib.hid (HWR1.out.next hq)
    clear hq D
    go_wp2_with fail
    go_end0
    exact ⟨rfl, by rw [HTE.out]; exact HQ.out⟩
  · obtain ⟨tx, htx⟩ : ∃ tx : ByteArray, tx = strB (if d.num = 1 then [121, 101, 115] else [110, 111]) := ⟨_, rfl⟩
    have htl : tx.data.toList = T := by rw [hT, textD_1 hk, htx]; rfl
    have hts : tx.size = T.length := by rw [← htl]; simp
    have C := Lib.hid (truthText_any d.num w1 (p5 hk))
    rw [← htx] at C
    have D := Lib.hid (ws_any B b l tx w1 hwr1.1 (by omega) (by omega))
    have e0 := kq hk 0 (r := false) rfl
    have e1 := kq hk 1 (r := true) rfl
    have HTE := Lib.hid htl
    obtain ⟨c0, c1, c2, c3, c4⟩ := hbox
    clear hk p1 p2 p3 p4 p5 p6 p7 k0 k5 hT hlen hbh hw1 htx htl hts
    go_enter Tryz.func45, Tryz.ntmps45
    go_upto_region 1 with (fail)
    rw [boxD_out HW]
    go_wp2_with fail
    refine C.out.mono ?_
    rintro e w2 ⟨rfl, rfl⟩
    go_wp2_with fail
    refine D.out.mono ?_
    rintro e w2 ⟨rfl, hq⟩
    have HQ := Lib.hid (HWR1.out.next hq)
    clear hq D
    go_wp2_with fail
    go_end0
    exact ⟨rfl, by rw [← HTE.out]; exact HQ.out⟩
  · have CD := Lib.hid (C.decimal_any d.num w1 g2 HV1.out)
    obtain ⟨tx, htx⟩ : ∃ tx : ByteArray, tx = C.str (Lib.itoa d.num) := ⟨_, rfl⟩
    have htl : tx.data.toList = T := by rw [hT, textD_2 hk, htx]; rfl
    have hts : tx.size = T.length := by rw [← htl]; simp
    rw [← htx] at CD
    have e0 := kq hk 0 (r := false) rfl
    have e1 := kq hk 1 (r := false) rfl
    have e2 := kq hk 2 (r := true) rfl
    have HTE := Lib.hid htl
    obtain ⟨c0, c1, c2, c3, c4⟩ := hbox
    have hts2 : l.length + tx.size ≤ 1000000000000 := by omega
    clear hk p1 p2 p3 p4 p5 p6 p7 k0 k5 hT hlen hbh hw1 htx htl hts
    go_enter Tryz.func45, Tryz.ntmps45
    go_upto_region 1 with (fail)
    rw [boxD_out HW]
    go_wp2_with fail
    refine CD.out.mono ?_
    rintro e w2 ⟨rfl, hb2⟩
    have hwr2 := HWR1.out.up hb2 hB
    have HWR2 := Lib.hid hwr2
    have D := Lib.hid (ws_any B b l tx w2 hwr2.1 hts2 (by have := hwr2.2.1.size; omega))
    clear hb2 hwr2 CD
    go_wp2_with fail
    refine D.out.mono ?_
    rintro e w3 ⟨rfl, hq⟩
    have HQ := Lib.hid (HWR2.out.next hq)
    clear hq D
    go_wp2_with fail
    go_end0
    exact ⟨rfl, by rw [← HTE.out]; exact HQ.out⟩
  · obtain ⟨et, het⟩ : ∃ et : Bytes, et = E.escL d.text.data.toList := ⟨_, rfl⟩
    have htl : T = 34 :: (et ++ [34]) := by rw [hT, textD_3 hk, het]
    have hel : l.length + et.length + 2 ≤ 100000000000 := by rw [htl] at hlen; simp at hlen; omega
    have e0 := kq hk 0 (r := false) rfl
    have e1 := kq hk 1 (r := false) rfl
    have e2 := kq hk 2 (r := false) rfl
    have e3 := kq hk 3 (r := true) rfl
    have D := Lib.hid (show Calls Tryz.prog 74 #[.pointer (some ⟨b, 0, none⟩), .int .u8 34] w1 (fun e w' => e = .returned .nilIface ∧ Wr B b (l ++ [34]) w1 w') from wb_any B b l 34 w1 hwr1.1 (by omega) (by omega))
    have HTE := Lib.hid htl; have HET := Lib.hid het
    obtain ⟨c0, c1, c2, c3, c4⟩ := hbox
    have htsz : d.text.size ≤ 900000 := by omega
    clear hk p1 p2 p3 p4 p5 p6 p7 k0 k5 hT hlen hbh hw1 htl het
    go_enter Tryz.func45, Tryz.ntmps45
    go_upto_region 1 with (fail)
    rw [boxD_out HW]
    go_wp2_with fail
    refine D.out.mono ?_
    rintro e w2 ⟨rfl, hq⟩
    have HW12 := Lib.hid hq
    have HQ := Lib.hid (HWR1.out.next hq)
    clear hq D c0 c1 c2 c3 c4
    obtain ⟨c0, c1, c2, c3, c4⟩ := HBX.out w2 HW12.out.2.2
    have CE := E.escape_any d.text w2 htsz (HV1.out.below hB4 HW12.out.2.1)
    rw [← HET.out] at CE
    have HCE := Lib.hid CE
    clear CE
    go_wp2_with fail
    refine HCE.out.mono ?_
    rintro e w3 ⟨rfl, hb3⟩
    have hq3 := HQ.out.up hb3 hB
    have HQ3 := Lib.hid hq3
    have hes : (E.str et).size = et.length := E.str_size et
    have D2 := Lib.hid (ws_any B b (l ++ [34]) (E.str et) w3 hq3.1 (by simp; omega) (by have := hq3.2.1.size; omega))
    clear hb3 hq3 HCE
    go_wp2_with fail
    refine D2.out.mono ?_
    rintro e w4 ⟨rfl, hq4⟩
    have hq5 := HQ3.out.next hq4
    have HQ5 := Lib.hid hq5
    have D3 := Lib.hid (show Calls Tryz.prog 74 #[.pointer (some ⟨b, 0, none⟩), .int .u8 34] w4 (fun e w' => e = .returned .nilIface ∧ Wr B b (l ++ [34] ++ (E.str et).data.toList ++ [34]) w4 w') from wb_any B b _ 34 w4 hq5.1 (by rw [List.length_append, List.length_append, size_list, hes]; simp; omega) (by have := hq5.2.1.size; omega))
    clear hq4 hq5 D2
    go_wp2_with fail
    refine D3.out.mono ?_
    rintro e w5 ⟨rfl, hq6⟩
    have HQ6 := Lib.hid (HQ5.out.next hq6)
    clear hq6 D3
    go_wp2_with fail
    go_end0
    refine ⟨rfl, ?_⟩
    rw [HTE.out]
    have := HQ6.out
    rw [E.str_data] at this
    simpa using this
  · have hsub : ∀ k ∈ d.list, FineD k ∧ GoodD k := fun k hk => ⟨by cases hf; rename_i h; exact h k hk, by obtain ⟨j, hj, rfl⟩ := List.getElem_of_mem hk; exact hg.kid hj rfl⟩
    have D := within_any d hf (by omega) (fun k hk => ih k hk (hsub k hk).1 (hsub k hk).2) x B b l w1 (ht.keepB (hb1.mono hB)) hwr1.1 HV1.out hB4 (by omega) (by rw [← hT]; exact hlen) g6
    rw [if_neg (by omega), if_neg (by omega), ← hT] at D
    have HD := Lib.hid (show Calls Tryz.prog 75 #[.pointer (some ⟨b, 0, none⟩), datV d x, .int .u8 91, .int .u8 93] w1 (fun e w' => e = .returned (.tuple #[]) ∧ Wr B b (l ++ T) w1 w') from D)
    have e0 := kq hk 0 (r := false) rfl
    have e1 := kq hk 1 (r := false) rfl
    have e2 := kq hk 2 (r := false) rfl
    have e3 := kq hk 3 (r := false) rfl
    have e4 := kq hk 4 (r := true) rfl
    obtain ⟨c0, c1, c2, c3, c4⟩ := hbox
    clear hk p1 p2 p3 p4 p5 p6 p7 k0 k5 hT hlen hbh hw1 D
    go_enter Tryz.func45, Tryz.ntmps45
    go_upto_region 1 with (fail)
    rw [boxD_out HW]
    go_wp2_with fail
    refine HD.out.mono ?_
    rintro e w2 ⟨rfl, hq⟩
    have HQ := Lib.hid (HWR1.out.next hq)
    clear hq HD
    go_wp2_with fail
    go_end0
    exact ⟨rfl, HQ.out⟩
  · have hsub : ∀ k ∈ d.list, FineD k ∧ GoodD k := fun k hk => ⟨by cases hf; rename_i h; exact h k hk, by obtain ⟨j, hj, rfl⟩ := List.getElem_of_mem hk; exact hg.kid hj rfl⟩
    have D := within_any d hf (by omega) (fun k hk => ih k hk (hsub k hk).1 (hsub k hk).2) x B b l w1 (ht.keepB (hb1.mono hB)) hwr1.1 HV1.out hB4 (by omega) (by rw [← hT]; exact hlen) g6
    rw [if_pos hk, if_pos hk, ← hT] at D
    have HD := Lib.hid (show Calls Tryz.prog 75 #[.pointer (some ⟨b, 0, none⟩), datV d x, .int .u8 123, .int .u8 125] w1 (fun e w' => e = .returned (.tuple #[]) ∧ Wr B b (l ++ T) w1 w') from D)
    have e0 := kq hk 0 (r := false) rfl
    have e1 := kq hk 1 (r := false) rfl
    have e2 := kq hk 2 (r := false) rfl
    have e3 := kq hk 3 (r := false) rfl
    have e4 := kq hk 4 (r := false) rfl
    have e5 := kq hk 5 (r := true) rfl
    obtain ⟨c0, c1, c2, c3, c4⟩ := hbox
    clear hk p1 p2 p3 p4 p5 p6 p7 k0 k5 hT hlen hbh hw1 D
    go_enter Tryz.func45, Tryz.ntmps45
    go_upto_region 1 with (fail)
    rw [boxD_out HW]
    go_wp2_with fail
    refine HD.out.mono ?_
    rintro e w2 ⟨rfl, hq⟩
    have HQ := Lib.hid (HWR1.out.next hq)
    clear hq HD
    go_wp2_with fail
    go_end0
    exact ⟨rfl, HQ.out⟩
theorem textL_le : ∀ (k5 : Bool) (ns : List ByteArray) (first : Bool) (l : List Dt) (left : Int) (op : Nat), (∀ x ∈ l, ∀ (lf : Int) (o : Nat), 0 ≤ wghD x lf o → ((textD x).length : Int) ≤ 400000 * (lf - wghD x lf o) - 40) → (∀ n ∈ ns, n.size ≤ 32) → 0 ≤ wghL l left op → ((textL k5 ns first l).length : Int) ≤ 400000 * (left - wghL l left op)
  | k5, ns, first, [], left, op, _, _, _ => by rw [textL, wghL]; simp
  | k5, ns, first, x :: r, left, op, hx, hn, h => by
    rw [textL]
    rw [wghL] at h ⊢
    by_cases h0 : wghD x left op < 0
    · rw [if_pos h0] at h; omega
    · rw [if_neg h0] at h ⊢
      have h1 := hx x (by simp) left op (by omega)
      have h2 := textL_le k5 ns.tail false r (wghD x left op) op (fun y hy => hx y (by simp [hy])) (fun n hn' => hn n (List.mem_of_mem_tail hn')) h
      have h3 : (if first = true then ([] : Bytes) else [44]).length ≤ 1 := by split <;> simp
      have h4 : (if k5 = true then (ns.headD noB).data.toList ++ [61] else []).length ≤ 33 := by
        split
        · cases ns with
          | nil => simp [noB]
          | cons n ns => have := hn n (by simp); rw [List.headD_cons, List.length_append, size_list]; simp; omega
        · simp
      simp only [List.length_append, Int.natCast_add]
      omega
theorem textD_le : ∀ d : Dt, NumsD d → ∀ (left : Int) (op : Nat), 0 ≤ wghD d left op → ((textD d).length : Int) ≤ 400000 * (left - wghD d left op) - 40 := by
  refine dt_ind fun d ih hnd left op h => ?_
  have ho := wgh_own h
  rw [wghD_ok ho] at h ⊢
  obtain ⟨hl, hp, hd, hnl, hnm⟩ := ho
  have hw := wghL_le _ _ _ h
  have hnames : ∀ n ∈ d.names, n.size ≤ 32 := fun n hn => by
    obtain ⟨i, hi, rfl⟩ := List.getElem_of_mem hn
    have := (hnm i hi).1
    unfold nmB at this
    simp only [Bool.and_eq_true, decide_eq_true_eq] at this
    omega
  have hL := textL_le (d.kind == 5) d.names true d.list (left - 1) (op + 1) (fun x hx lf o h => ih x hx (hnd.own.2.2 x hx) lf o h) hnames h
  obtain ⟨⟨k0, k5⟩, p1, p2, p3, p4, p5, p6, p7⟩ := hp
  have hk : d.kind = 0 ∨ d.kind = 1 ∨ d.kind = 2 ∨ d.kind = 3 ∨ 4 ≤ d.kind := by omega
  rcases hk with hk | hk | hk | hk | hk
  · rw [textD_0 hk]; simp; omega
  · rw [textD_1 hk]; split <;> simp <;> omega
  · rw [textD_2 hk]
    have := (C.isNum_facts (l := Lib.itoa d.num) (v := d.num) ⟨hnd.own.2.1, rfl⟩).2.2.2.2.2.1
    omega
  · rw [textD_3 hk]
    have := E.escL_length d.text.data.toList
    rw [size_list] at this
    simp only [List.length_cons, List.length_append, List.length_nil, Int.natCast_add]
    omega
  · have := textL_upto d d.list 0 rfl
    rw [textD_group hk]
    simp only [uptoD, List.drop_zero, List.nil_append, Nat.zero_add] at this
    rw [← this]
    have e0 : ((0 : Nat) == 0) = true := rfl
    rw [e0]
    simp only [List.length_cons, List.length_append, List.length_nil, Int.natCast_add]
    omega
end Go.Proofs.YtjnhcoflmechmaaGreatDoor

namespace Go.Proofs.YtjnhcoflmechmaaGreatDoor
open Go.RowKit Go.Sort
set_option linter.unusedVariables false
set_option maxRecDepth 100000
def PrintP (d : Dt) (w : World) (e : Ending) (w' : World) : Prop := ((RightP d ∧ e = .returned (.tuple #[.string (strB (textD d)), .int .i64 0])) ∨ (¬ RightP d ∧ e = .returned (.tuple #[.string ⟨#[]⟩, .int .i64 24]))) ∧ Below w.heap.size w w'
set_option maxHeartbeats 4000000 in
theorem print_any (d : Dt) (x : NV) (w : World) (h : DatAt w w.heap.size d x) (hg : GoodD d) (hv : Vars w) : Calls Tryz.prog 21 #[datV d x] w (PrintP d w) := by
  obtain ⟨w1, hw1⟩ : ∃ w1, w1 = boxD w d x := ⟨_, rfl⟩
  have hb1 : Below w.heap.size w w1 := by rw [hw1]; exact below_boxD w d x
  have hbox : DatCells w1 w.heap.size 0 d x := by rw [hw1]; exact box_dat w d x
  have CR := Lib.hid (right_any d x w1 (h.up hb1) hg)
  have HW := Lib.hid hw1; have HB1 := Lib.hid hb1; have HT1 := Lib.hid (h.up hb1); have HBX := Lib.hid hbox; have HG := Lib.hid hg; have HV := Lib.hid hv
  have hsz1 : w.heap.size < w1.heap.size := hbox.block_lt
  obtain ⟨c0, c1, c2, c3, c4⟩ := hbox
  clear hw1 hb1 h hg hv
  go_enter Tryz.func21, Tryz.ntmps21
  go_upto_region 1 with (fail)
  rw [boxD_out HW]
  go_wp2_with fail
  refine CR.out.mono ?_
  rintro e w2 ⟨r, rfl, hr, hb2⟩
  have HR := Lib.hid hr; have HB2 := Lib.hid (HB1.out.trans (hb2.mono HB1.out.size)); have HB12 := Lib.hid hb2
  have hsz2 : w1.heap.size ≤ w2.heap.size := hb2.size
  clear hr hb2 CR c0 c1 c2 c3 c4
  obtain ⟨c0, c1, c2, c3, c4⟩ := HBX.out.below HB12.out hsz1
  cases r with
  | false =>
    go_wp2_with fail
    go_ret2
    exact ⟨.inr ⟨fun h => (by have := HR.out.2 h; cases this), rfl⟩, HB2.out⟩
  | true =>
    have hri := HR.out.1 rfl
    have hlen := textD_le d (good_nums HG.out) 2000 0 hri
    obtain ⟨w3, hw3⟩ : ∃ w3, w3 = w2.alloc (.cells #[.pointer none, .slice none 0 0] 68) := ⟨_, rfl⟩
    have hb3 : Below w2.heap.size w2 w3 := by rw [hw3]; exact (Below.refl _ _).alloc (Nat.le_refl _) _
    have hbb : BB w3 w2.heap.size w2.heap.size [] := by rw [hw3]; exact Lib.fresh_isBuilder 68 5 w2
    have hsz3 : w2.heap.size ≤ w3.heap.size := hb3.size
    have HV3 := Lib.hid (((HV.out.belowC HB2.out)).belowC hb3)
    have CW := Lib.hid (write_any d (fine_of d 2000 0 hri) HG.out x w2.heap.size w2.heap.size [] w3 ((HT1.out.up HB12.out).keepB hb3) hbb HV3.out (by have := HV.out.2.2.2; omega) hsz3 (by unfold RightP at hri; simp only [List.length_nil]; omega))
    have HW3 := Lib.hid hw3; have HB3 := Lib.hid hb3; have HRI := Lib.hid hri
    clear hri hlen hbb hw3 c0 c1 c2 c3 c4
    obtain ⟨c0, c1, c2, c3, c4⟩ := (HBX.out.below HB12.out hsz1).below hb3 (by omega)
    clear hb3
    go_upto_region 4 with (fail)
    rw [show w2.alloc (.cells #[.pointer none, .slice none 0 0] 68) = w3 from HW3.out.symm]
    go_wp2_with fail
    refine CW.out.mono ?_
    rintro e w4 ⟨rfl, hwr⟩
    rw [List.nil_append] at hwr
    have CS := Lib.hid (Tryz.Builder_String_any w2.heap.size w2.heap.size (textD d) w4 hwr.1 (by have := hwr.2.1.size; omega))
    have HB4 := Lib.hid (HB3.out.trans hwr.2.1)
    clear hwr CW
    go_wp2_with fail
    refine CS.out.mono ?_
    rintro e w5 ⟨rfl, hb5⟩
    have HB5 := Lib.hid (HB2.out.trans ((HB4.out.trans hb5).mono HB2.out.size))
    clear hb5 CS
    go_wp2_with fail
    go_ret2
    exact ⟨.inl ⟨HRI.out, rfl⟩, HB5.out⟩
end Go.Proofs.YtjnhcoflmechmaaGreatDoor
