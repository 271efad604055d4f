/-
  lineUpOf: the things that are not new, in the order in which they stood.
-/
import Derived.Test.YtlpjjnpafmakhaaLU
import Derived.Test.YtlpjjnpafmakhaaOld
import Derived.IntWalk
import Derived.Deep.DeepCutAuto
namespace Go.Proofs.Ytlpjjnpafmakhaa
open Go.RowKit
set_option linter.unusedVariables false

def zeros (n : Nat) : Array Value := (ints (List.replicate n 0)).toArray
theorem make_zeros (n : Nat) (hn : n ≤ 1000001) (w : World) : (Instr.makeSlice 22 (.int .i64 (n : Int)) (.int .i64 (n : Int))).run Try.prog w = .ok (.slice (some ⟨w.heap.size, 0, none⟩) n n) (w.alloc (.cells (zeros n) 3)) := by
  obtain ⟨i0, hi, hz0, hz1, hz2⟩ := info_parts Try.info3
  have := run_make (P := Try.prog) w 22 3 i0 (.int .i64 0) Try.underlying22 hi hz0 .i64 .i64 n n (by omega) (Int.le_refl _) (by rw [hz2]; omega) (by omega)
  rw [this, hz1]
  simp only [Int.toNat_natCast]
  have e : madeCells (Value.int .i64 0).cells (n * 1) = zeros n := by
    apply Array.ext'
    rw [made_ints]; rfl
  rw [e]
theorem lu_made {w w1 : World} {U bp bn n : Nat} (h1 : w1.heap[bp]? = some (.cells (zeros (n + 1)) 3 (0, 0))) (h2 : w1.heap[bn]? = some (.cells (zeros (n + 1)) 3 (0, 0))) (ne : ¬ bp = bn) (neP : ¬ U = bp) (neN : ¬ U = bn)
    (lo : w.heap.size ≤ U) (loP : w.heap.size ≤ bp) (loN : w.heap.size ≤ bn) (lt : U < w1.heap.size) (hn : n ≤ 1000000)
    (c0 : w1.cell? ⟨U, 0, none⟩ = some (.int .i64 n)) (c1 : w1.cell? ⟨U, 1, none⟩ = some (.slice (some ⟨bp, 0, none⟩) (n + 1) (n + 1))) (c2 : w1.cell? ⟨U, 2, none⟩ = some (.slice (some ⟨bn, 0, none⟩) (n + 1) (n + 1))) :
    LU w1 w.heap.size U bp bn n (List.replicate (n + 1) 0) (List.replicate (n + 1) 0) :=
  ⟨ne, neP, neN, lo, loP, loN, lt, c0, c1, c2, block_own h1 loP (by simp) (by simp [maxLen]; omega), block_own h2 loN (by simp) (by simp [maxLen]; omega)⟩

def fillN (n k : Nat) : List Int := List.replicate k (-1) ++ List.replicate (n + 1 - k) 0
theorem fillN_set {n k : Nat} (h : k ≤ n) : (fillN n k).set k (-1) = fillN n (k + 1) := by
  unfold fillN
  rw [List.set_append_right _ _ (by simp)]
  simp only [List.length_replicate, Nat.sub_self]
  rw [show n + 1 - k = (n + 1 - (k + 1)) + 1 by omega, List.replicate_succ, List.set_cons_zero, List.replicate_succ']
  simp
theorem fillN_end (n : Nat) : (fillN n n).set n (n : Int) = emptyN n := by
  unfold fillN emptyN
  rw [List.set_append_right _ _ (by simp)]
  simp

def W0 (w : World) (n p q : Nat) : World :=
  (((w.alloc (Obj.cells (zeros (n + 1)) 3)).alloc (Obj.cells (zeros (n + 1)) 3)).alloc (Obj.cells #[.int .i64 n, .slice (some ⟨p, 0, none⟩) (n + 1) (n + 1), .slice (some ⟨q, 0, none⟩) (n + 1) (n + 1)] 58)).drew
theorem lu_W0 (w : World) (n p q : Nat) (hn : n ≤ 1000000) (h : (p = w.heap.size ∧ q = w.heap.size + 1) ∨ (p = w.heap.size + 1 ∧ q = w.heap.size)) :
    LU (W0 w n p q) w.heap.size (w.heap.size + 1 + 1) p q n (fillN n 0) (fillN n 0) ∧ Below w.heap.size w (W0 w n p q) := by
  have hb0 : (W0 w n p q).heap[w.heap.size]? = some (.cells (zeros (n + 1)) 3 (0, 0)) := by
    have e1 := heap_alloc_new w (Obj.cells (zeros (n + 1)) 3)
    have hs : (w.alloc (Obj.cells (zeros (n + 1)) 3)).heap.size = w.heap.size + 1 := by simp
    show (((w.alloc _).alloc _).alloc _).heap[_]? = _
    rw [heap_alloc_old _ _ (by simp; omega), heap_alloc_old _ _ (by simp), e1]
  have hb1 : (W0 w n p q).heap[w.heap.size + 1]? = some (.cells (zeros (n + 1)) 3 (0, 0)) := by
    have e1 := heap_alloc_new (w.alloc (Obj.cells (zeros (n + 1)) 3)) (Obj.cells (zeros (n + 1)) 3)
    have hs : (w.alloc (Obj.cells (zeros (n + 1)) 3)).heap.size = w.heap.size + 1 := by simp
    show (((w.alloc _).alloc _).alloc _).heap[_]? = _
    rw [heap_alloc_old _ _ (by simp), ← hs, e1]
  have hbel : Below w.heap.size w (W0 w n p q) := (((((Below.refl w.heap.size w).alloc (Nat.le_refl _) _).alloc (by simp) _).alloc (by simp; omega) _)).trans (below_drewN _ _ 1)
  have hs2 : ((w.alloc (Obj.cells (zeros (n + 1)) 3)).alloc (Obj.cells (zeros (n + 1)) 3)).heap.size = w.heap.size + 1 + 1 := by simp
  have hb2 := heap_alloc_new ((w.alloc (Obj.cells (zeros (n + 1)) 3)).alloc (Obj.cells (zeros (n + 1)) 3)) (Obj.cells #[.int .i64 n, .slice (some ⟨p, 0, none⟩) (n + 1) (n + 1), .slice (some ⟨q, 0, none⟩) (n + 1) (n + 1)] 58)
  rw [hs2] at hb2
  have hb2' : (W0 w n p q).heap[w.heap.size + 1 + 1]? = some (Obj.cells #[.int .i64 n, .slice (some ⟨p, 0, none⟩) (n + 1) (n + 1), .slice (some ⟨q, 0, none⟩) (n + 1) (n + 1)] 58 (0, 0)) := hb2
  have c0 : (W0 w n p q).cell? ⟨w.heap.size + 1 + 1, 0, none⟩ = some (.int .i64 n) := cell_of_row _ _ _ _ _ (0, 0) hb2'
  have c1 : (W0 w n p q).cell? ⟨w.heap.size + 1 + 1, 1, none⟩ = some (.slice (some ⟨p, 0, none⟩) (n + 1) (n + 1)) := cell_of_row _ _ _ _ _ (0, 0) hb2'
  have c2 : (W0 w n p q).cell? ⟨w.heap.size + 1 + 1, 2, none⟩ = some (.slice (some ⟨q, 0, none⟩) (n + 1) (n + 1)) := cell_of_row _ _ _ _ _ (0, 0) hb2'
  have hlt : w.heap.size + 1 + 1 < (W0 w n p q).heap.size := by simp [W0]
  have hf : fillN n 0 = List.replicate (n + 1) 0 := by simp [fillN]
  rw [hf]
  refine ⟨?_, hbel⟩
  rcases h with ⟨rfl, rfl⟩ | ⟨rfl, rfl⟩
  · exact lu_made hb0 hb1 (by omega) (by omega) (by omega) (by omega) (by omega) (by omega) hlt hn c0 c1 c2
  · exact lu_made hb1 hb0 (by omega) (by omega) (by omega) (by omega) (by omega) (by omega) hlt hn c0 c1 c2

/-- A row that lies in none of the blocks of a set. -/
def RowS (w : World) (S : Nat → Prop) (A : Option Addr) (zs : List Int) : Prop := 0 < zs.length → ∃ b off, A = some ⟨b, off, none⟩ ∧ b < w.heap.size ∧ ¬ S b ∧ RowAt w b off zs
theorem RowS.kept {w w' : World} {S : Nat → Prop} {A : Option Addr} {zs : List Int} (h : RowS w S A zs) (hk : Kept S w w') : RowS w' S A zs := by
  intro h0
  obtain ⟨b, off, hA, hb, hs, hr⟩ := h h0
  exact ⟨b, off, hA, Nat.lt_of_lt_of_le hb hk.size, hs, hr.kept hk hs⟩
theorem rowS_own {w : World} {base : Nat} {v : Value} {zs : List Int} (h : OwnI w base v zs) (S : Nat → Prop) (hS : ∀ b, S b → b < base) : ∃ A c, v = .slice A zs.length c ∧ RowS w S A zs := by
  rcases h.2 with ⟨rfl, hn⟩ | ⟨g, cap, cur, rfl, hgb, hg, hnc, hcm, _, _⟩
  · exact ⟨none, 0, by rw [hn], fun h0 => by omega⟩
  · refine ⟨_, cap, rfl, fun _ => ⟨g, 0, rfl, (Array.getElem?_eq_some_iff.1 hg).1, fun hs => by have := hS g hs; omega, fun j hj => ?_⟩⟩
    rw [Nat.zero_add, World.ownsRow.cellAt h j (by omega)]
    simp [List.getD_eq_getElem?_getD, List.getElem?_eq_getElem hj]

def LuMade (w : World) (n : Nat) (s : List Nat) (e : Ending) (w' : World) : Prop := ∃ U bp bn N P, e = .returned (.pointer (some ⟨U, 0, none⟩)) ∧ LU w' w.heap.size U bp bn n N P ∧ Ring n N P s ∧ Below w.heap.size w w'
def L1Rel (w : World) (U bp bn n : Nat) (i : Value) (wr : World) : Prop := ∃ k : Nat, k ≤ n ∧ i = .int .i64 k ∧ LU wr w.heap.size U bp bn n (fillN n k) (fillN n k) ∧ Below w.heap.size w wr
def L2Rel (w : World) (U bp bn n : Nat) (A : Option Addr) (s : List Nat) (i : Value) (wr : World) : Prop := ∃ k : Nat, k ≤ s.length ∧ i = .int .i64 k ∧ ∃ N P, LU wr w.heap.size U bp bn n N P ∧ Ring n N P (s.take k) ∧ RowS wr (two bp bn) A (nats s) ∧ Below w.heap.size w wr
theorem two_low {w : World} {U bp bn n : Nat} {N P : List Int} {w1 : World} (h : LU w1 w.heap.size U bp bn n N P) : ∀ k, two bp bn k → w.heap.size ≤ k := by
  rintro k (rfl | rfl)
  · exact h.loP
  · exact h.loN
theorem LU.ltP {w : World} {base U bp bn n : Nat} {N P : List Int} (h : LU w base U bp bn n N P) : bp < w.heap.size := (h.rp.lt bp rfl).2
theorem LU.ltN {w : World} {base U bp bn n : Nat} {N P : List Int} (h : LU w base U bp bn n N P) : bn < w.heap.size := (h.rn.lt bn rfl).2
theorem LU.below {w w1 w' : World} {base U bp bn n : Nat} {N P : List Int} (h : LU w base U bp bn n N P) (hb : Below w.heap.size w w') : LU w' base U bp bn n N P := h.keep (S := fun _ => False) (kept_below hb _) (fun h => h) (fun h => h) (fun h => h)

def CutA (w : World) (n : Nat) (s : Value) (wx : World) : Prop := ∃ U bp bn, s = .pointer (some ⟨U, 0, none⟩) ∧ LU wx w.heap.size U bp bn n (fillN n 0) (fillN n 0) ∧ Below w.heap.size w wx
theorem cutA1 (w : World) (n : Nat) (hn : n ≤ 1000000) : CutA w n (.pointer (some ⟨w.heap.size + 1 + 1, 0, none⟩)) (W0 w n w.heap.size (w.heap.size + 1)) := ⟨_, _, _, rfl, lu_W0 w n _ _ hn (.inl ⟨rfl, rfl⟩)⟩
theorem cutA2 (w : World) (n : Nat) (hn : n ≤ 1000000) : CutA w n (.pointer (some ⟨w.heap.size + 1 + 1, 0, none⟩)) (W0 w n (w.heap.size + 1) w.heap.size) := ⟨_, _, _, rfl, lu_W0 w n _ _ hn (.inr ⟨rfl, rfl⟩)⟩
def CutB (w : World) (U bp bn n : Nat) (wx : World) : Prop := LU wx w.heap.size U bp bn n (emptyN n) (emptyN n) ∧ Below w.heap.size w wx

set_option maxRecDepth 100000 in
set_option maxHeartbeats 8000000 in
theorem lineUpOf_any (A : Option Addr) (c : Nat) (l : List Int) (w : World) (hr : Row w w.heap.size A l) (hl : l.length ≤ 1000000) (ht : twice l = false) :
    Calls Try.prog 22 #[.slice A l.length c] w (LuMade w l.length (startL l)) := by
  have hmk := make_zeros (l.length + 1) (by omega)
  have hcast : ((l.length + 1 : Nat) : Int) = (l.length : Int) + 1 := by omega
  rw [hcast] at hmk
  have hwr : IntKind.i64.wrap ((l.length : Int) + 1) = (l.length : Int) + 1 := IntWalk.i64_in _ (by omega)
  have HT := Lib.hid ht
  clear hcast ht
  have hW0 : ∀ p q, (((w.alloc (Obj.cells (zeros (l.length + 1)) 3)).alloc (Obj.cells (zeros (l.length + 1)) 3)).alloc (Obj.cells #[.int .i64 l.length, .slice (some ⟨p, 0, none⟩) (l.length + 1) (l.length + 1), .slice (some ⟨q, 0, none⟩) (l.length + 1) (l.length + 1)] 58)).drew = W0 w l.length p q := fun _ _ => rfl
  have HW := Lib.hid hW0
  clear hW0
  go_enter Try.func22, Try.ntmps22
  go_upto_region 1 with (fail)
  go_cut [3] from 7 to 18 (CutA w l.length)
  case first =>
    go_region
    all_goals
      rw [HW.out]
      have h1 := cutA1 w l.length hl
      have h2 := cutA2 w l.length hl
      go_wp2_with fail
      go_meet
      first | exact h1 | exact h2
  case rest =>
  obtain ⟨U, bp, bn, rfl, hLU, hB1⟩ := hcut
  clear HW hmk hwr
  generalize wc = w1 at hLU hB1 ⊢
  go_wp2_with fail
  go_loopw [21] (L1Rel w U bp bn l.length) (fun i _ => l.length - (intOf i).toNat)
  case atStart => exact ⟨0, by omega, rfl, hLU, hB1⟩
  case round =>
    clear hLU hB1
    obtain ⟨k, hk, rfl, hLU, hbel⟩ := hrel
    have hne := hLU.ne
    have hneP := hLU.neP
    have hneN := hLU.neN
    have hne' : ¬ bn = bp := fun e => hLU.ne e.symm
    have c1 := hLU.c1
    have c2 := hLU.c2
    by_cases hlt : k < l.length
    · have cp := hLU.cellP (show k ≤ l.length by omega)
      have cn := hLU.cellN (show k ≤ l.length by omega)
      have fp := hLU.frP k
      have fn := hLU.frN k
      generalize el (fillN l.length k) k = xo at cp cn
      have H := Lib.hid hLU; have HB := Lib.hid hbel; have HR := Lib.hid hr
      clear hLU hbel hr
      go_wp2_with fail
      go_region
      have h1 := ((H.out.setP k (-1)).setN k (-1)).drew
      have k1 := (((kept_setCell wr bp k (.int .i64 (-1))).mono (T := two bp bn) (fun k hk => .inl hk)).trans ((kept_setCell _ bn k (.int .i64 (-1))).mono (fun k hk => .inr hk))).trans (kept_drewN _ 1 _)
      go_wp2
      rw [fillN_set (by omega)] at h1
      exact ⟨⟨k + 1, by omega, by go_num, h1, HB.out.trans (k1.below HB.out.size (two_low H.out))⟩, by simp [intOf]; omega⟩
    · obtain rfl : k = l.length := by omega
      have H := Lib.hid hLU; have HB := Lib.hid hbel; have HR := Lib.hid hr
      clear hLU hbel hr c1 c2
      go_upto_region 7 with (fail)
      go_cut [] from 37 to 62 (CutB w U bp bn l.length)
      case first =>
        have c0 := H.out.c0
        have c1 := H.out.c1
        have c2 := H.out.c2
        have cp := H.out.cellP (Nat.le_refl l.length)
        have cn := H.out.cellN (Nat.le_refl l.length)
        have fp := H.out.frP l.length
        have fn := H.out.frN l.length
        generalize el (fillN l.length l.length) l.length = xo at cp cn
        go_region
        have h1 := ((H.out.setP l.length l.length).setN l.length l.length).drew
        have k1 := (((kept_setCell wr bp l.length (.int .i64 l.length)).mono (T := two bp bn) (fun k hk => .inl hk)).trans ((kept_setCell _ bn l.length (.int .i64 l.length)).mono (fun k hk => .inr hk))).trans (kept_drewN _ 1 _)
        rw [fillN_end] at h1
        have hb1 := HB.out.trans (k1.below HB.out.size (two_low H.out))
        go_wp2_with fail
        go_meet
        exact ⟨h1, hb1⟩
      case rest =>
      obtain ⟨h1, hb1⟩ := hcut
      clear H HB
      generalize wc = w2 at h1 hb1 ⊢
      have hr2 : Row w2 w2.heap.size A l := (HR.out.below hb1).mono hb1.size
      have H1 := Lib.hid h1; have HB1 := Lib.hid hb1; have HR2 := Lib.hid hr2
      clear h1 hb1 hr2 hlt hk wr
      go_wp2_with fail
      refine (oldThings_any A c l w2 HR2.out hl HT.out).mono ?_
      rintro e w3 ⟨v, rfl, hown, hb3⟩
      have hlu3 := H1.out.below (w1 := w2) hb3
      obtain ⟨A3, c3, rfl, hrs⟩ := rowS_own hown (two bp bn) (fun b hb => by rcases hb with rfl | rfl; exact Nat.lt_succ_of_lt H1.out.ltP; exact Nat.lt_succ_of_lt H1.out.ltN)
      rw [nats_length]
      have hb03 := HB1.out.trans (hb3.mono HB1.out.size)
      have hS := start_is HT.out
      have hSL : (startL l).length ≤ l.length := by have h1 := hS.perm.length_eq; have h2 := oldTo_len l l.length; have h3 : oldTo l l.length = oldL l := rfl; rw [h3] at h2; omega
      have HS := Lib.hid hS
      clear hown hb3 H1 HB1 HR2 hS
      go_wp2_with fail
      go_loopw [66] (L2Rel w U bp bn l.length A3 (startL l)) (fun i _ => (startL l).length - (intOf i).toNat)
      case atStart => exact ⟨0, by omega, rfl, _, _, hlu3, Ring.empty _, hrs, hb03⟩
      case round =>
        clear hlu3 hrs hb03
        obtain ⟨k, hk, rfl, Nn, P, hLU, hring, hrs, hbel⟩ := hrel
        by_cases hlt : k < (startL l).length
        · obtain ⟨b, off, rfl, hb, hsb, hra⟩ := hrs (by rw [nats_length]; omega)
          have cx := hra k (by rw [nats_length]; omega)
          obtain ⟨t, htd⟩ : ∃ t, t = (startL l)[k] := ⟨_, rfl⟩
          have etk : (nats (startL l)).getD k 0 = (t : Int) := by simp [nats, List.getD_eq_getElem?_getD, hlt, htd]
          rw [etk] at cx
          have htm : t ∈ startL l := by rw [htd]; exact List.getElem_mem _
          have htl := (HS.out.low htm).1
          have htn : t ∉ (startL l).take k := by
            intro hm
            obtain ⟨j, hj, he⟩ := List.mem_take_iff_getElem.1 hm
            have := (List.getElem_inj HS.out.nodup).1 (he.trans htd)
            omega
          obtain ⟨q, hq, hqe, hring'⟩ := hring.push htl htn
          have c0 := hLU.c0
          have H := Lib.hid hLU; have HQ := Lib.hid hqe; have HRS := Lib.hid hrs; have HTD := Lib.hid htd; have HB := Lib.hid hbel
          clear hLU hqe hra hrs etk htd hbel
          go_wp2_with fail
          refine (insert_any w.heap.size U bp bn l.length Nn P t l.length q wr H.out hl (by omega) (by omega) hq HQ.out).mono ?_
          rintro e w4 ⟨rfl, hlu4, hk4⟩
          have hb4 := HB.out.trans (hk4.below HB.out.size (two_low H.out))
          have hrs4 := HRS.out.kept hk4
          go_wp2
          refine ⟨⟨k + 1, by omega, by go_num, _, _, hlu4, ?_, hrs4, hb4⟩, by simp [intOf]; omega⟩
          rw [List.take_succ_eq_append_getElem hlt, ← HTD.out]
          exact hring'
        · go_wp2
          go_ret
          refine ⟨U, bp, bn, Nn, P, rfl, hLU, ?_, hbel⟩
          rwa [List.take_of_length_le (by omega)] at hring
end Go.Proofs.Ytlpjjnpafmakhaa
