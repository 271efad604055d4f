/-
  tendrilplain.Texts, ranks.Do of strings, tendrillaw05.RanksDo.
-/
import Derived.Test.YtdfalejldjbaiaaDo
namespace Go.Proofs.Ytdfalejldjbaiaa
open Go.RowKit
set_option linter.unusedVariables false

theorem texts_any (A1 A2 : Option Addr) (c1 c2 : Nat) (zs : List ByteArray) (w : World) (h1 : SRow w w.heap.size A1 zs) (h2 : SRow w w.heap.size A2 zs) (hl : zs.length ≤ 1000000000) :
    Calls Try.prog 19 #[.slice A1 zs.length c1, .slice A2 zs.length c2] w fun e w' => e = .returned (.bool true) ∧ Below w.heap.size w w' := by
  go_enter Try.func19, Try.ntmps19
  go_wp2
  go_loopw [13] (fun i wr => ∃ k : Nat, k ≤ zs.length ∧ i = .int .i64 k ∧ Below w.heap.size w wr) (fun i _ => zs.length - (intOf i).toNat)
  case atStart => exact ⟨0, by omega, rfl, Below.refl _ _⟩
  case round =>
    obtain ⟨k, hk, rfl, hbel⟩ := hrel
    by_cases hlt : k < zs.length
    · obtain ⟨b1, o1, x, rfl, hb1, hx1, hc1⟩ := srow_at (h1.below hbel) hlt
      obtain ⟨b2, o2, y, rfl, hb2, hx2, hc2⟩ := srow_at (h2.below hbel) hlt
      obtain rfl : x = y := by rw [hx1, hx2]
      clear hx1 hx2
      go_wp2_with fail
      go_quiet (fail)
      go_wp2
      exact ⟨⟨k + 1, by omega, by go_num, bel_drewN hbel _⟩, by simp [intOf]; omega⟩
    · go_wp2
      go_ret
      exact ⟨rfl, hbel⟩

theorem Try.info9 : (Try.prog.info? 9).map (fun i => (i.zero, i.size, i.bytes)) = some (some (.string noStr), 1, 16) := by kernel_rfl

def fillG {α : Type} (f : Nat → α) (z : α) (n k : Nat) : List α := (List.range n).map (fun i => if i < k then f i else z)
theorem fillG_zero {α : Type} (f : Nat → α) (z : α) (n : Nat) : List.replicate n z = fillG f z n 0 := by
  apply List.ext_getElem <;> simp [fillG]
theorem fillG_full {α : Type} (f : Nat → α) (z : α) (n : Nat) : fillG f z n n = (List.range n).map f := by
  apply List.ext_getElem
  · simp [fillG]
  · intro i h1 h2
    simp [fillG] at h1
    simp [fillG, h1]
theorem fillG_set {α : Type} (f : Nat → α) (z : α) {n k : Nat} (hk : k < n) : (fillG f z n k).set k (f k) = fillG f z n (k + 1) := by
  apply List.ext_getElem
  · simp [fillG]
  · intro i h1 h2
    rw [List.getElem_set]
    simp only [fillG, List.getElem_map, List.getElem_range]
    by_cases h : k = i
    · subst h; simp
    · rw [if_neg h]
      by_cases h' : i < k
      · rw [if_pos h', if_pos (by omega)]
      · rw [if_neg h', if_neg (by omega)]
theorem fillG_at {α : Type} (f : Nat → α) (z : α) {n k j : Nat} (hj : j < n) : (fillG f z n k)[j]? = some (if j < k then f j else z) := by
  simp [fillG, hj]

/-- What Do puts at place i. -/
def doAt (p : List Int) (ss : List ByteArray) (i : Nat) : ByteArray := ss.getD (p.getD i 0).toNat noStr
def doL (p : List Int) (ss : List ByteArray) : List ByteArray := (List.range p.length).map (doAt p ss)
def doR (p : List Int) (ss : List ByteArray) : List ByteArray := if p.length = ss.length ∧ isP p = true then doL p ss else []
theorem doL_length (p : List Int) (ss : List ByteArray) : (doL p ss).length = p.length := by simp [doL]
theorem doL_at {p : List Int} {ss : List ByteArray} {i : Nat} (h : i < p.length) : (doL p ss).getD i noStr = doAt p ss i := by
  rw [getD_lt (by rw [doL_length]; exact h)]; simp [doL]
theorem do_back {p : List Int} {ss : List ByteArray} (h : isP p = true) (hl : p.length = ss.length) : doL (turnL p) (doL p ss) = ss := by
  apply List.ext_getElem
  · rw [doL_length, turnL_length, hl]
  · intro i h1 h2
    have hi : i < p.length := by omega
    rw [← getD_lt (d := noStr) h1, doL_at (by rw [turnL_length]; exact hi), ← getD_lt (d := noStr) h2]
    unfold doAt
    rw [turnL_at hi, Int.toNat_natCast]
    obtain ⟨h3, h4⟩ := isP_idx h hi
    rw [doL_at h3]
    unfold doAt
    rw [h4, Int.toNat_natCast]

def SMade (w : World) (ss : List ByteArray) (e : Ending) (w' : World) : Prop := ∃ A c, e = .returned (.slice A ss.length c) ∧ SRow w' w'.heap.size A ss ∧ Below w.heap.size w w'
theorem srow_own {w : World} {base g n : Nat} {ss : List ByteArray} (h : w.ownsRow base 9 1 (.slice (some ⟨g, 0, none⟩) n n) n (ss.map Value.string)) (hn : ss.length = n) : SRow w w.heap.size (some ⟨g, 0, none⟩) ss := by
  intro h0
  refine ⟨g, 0, rfl, (h.lt g rfl).2, fun j hj => ?_⟩
  rw [Nat.zero_add, h.cellAt j (by omega)]
  simp [hj]
def strV (p : List Int) (ss : List ByteArray) (i : Nat) : Value := .string (doAt p ss i)
theorem made_strs (n : Nat) : (madeCells (Value.string noStr).cells (n * 1)).toList = List.replicate n (.string noStr) := by
  have : (Value.string noStr).cells = #[.string noStr] := rfl
  rw [this, toList_madeCells_one]; simp
theorem full_strs (p : List Int) (ss : List ByteArray) : (List.range p.length).map (strV p ss) = (doL p ss).map Value.string := by
  simp [doL, strV]

def DoRel (w : World) (g : Nat) (p : List Int) (ss : List ByteArray) (i : Value) (wr : World) : Prop :=
  ∃ k : Nat, k ≤ p.length ∧ i = .int .i64 k ∧ wr.ownsRow g 9 1 (.slice (some ⟨g, 0, none⟩) p.length p.length) p.length (fillG (strV p ss) (.string noStr) p.length k) ∧ Below w.heap.size w wr

set_option maxHeartbeats 2000000 in
theorem do_any (A1 A2 : Option Addr) (c1 c2 : Nat) (p : List Int) (ss : List ByteArray) (w : World) (h1 : Row w w.heap.size A1 p) (h2 : SRow w w.heap.size A2 ss) (hl : p.length ≤ 1000000) (hm : ss.length ≤ 1000000) :
    Calls Try.prog 18 #[.slice A1 p.length c1, .slice A2 ss.length c2] w (SMade w (doR p ss)) := by
  obtain ⟨i0, hi, hz0, hz1, hz2⟩ := info_parts Try.info9
  have hby : i0.bytes * p.length ≤ 281474976710656 := by rw [hz2]; omega
  have HBY := Lib.hid hby; clear hby
  by_cases hpl : p.length = ss.length
  · have hpl' : ((p.length : Int) != (ss.length : Int)) = false := by simp; omega
    have HPL := Lib.hid hpl; clear hpl
    go_enter Try.func18, Try.ntmps18
    go_wp2_with fail
    refine (is_any A1 c1 p w h1 hl).mono ?_
    rintro e w1 ⟨rfl, hb1⟩
    cases hp : isP p with
    | false =>
      have HT := Lib.hid (show doR p ss = [] by simp [doR, hp])
      clear hp
      go_wp2_with fail
      go_ret
      rw [HT.out]
      exact ⟨none, 0, rfl, fun h => by simp at h, hb1⟩
    | true =>
      have HT := Lib.hid (show doR p ss = doL p ss by unfold doR; rw [if_pos ⟨HPL.out, hp⟩])
      have HP := Lib.hid hp
      clear hp
      have hsz := hb1.size
      go_wp2_with (at_make; refine wpList_make_full _ rfl (.tmp 19) (.tmp 19) 28 rfl w1.heap.size 9 i0 (.string noStr) 1 Try.underlying28 hi hz0 hz1 .i64 .i64 _ _ p.length rfl rfl rfl rfl HBY.out (by unfold maxLen; omega) (Nat.le_refl _) ?_; intro w2 hown2 hg2; rw [made_strs, fillG_zero (strV p ss)] at hown2)
      have hb2 : Below w.heap.size w w2 := hb1.grown hg2 hsz (fun k hk => by cases hk)
      clear hg2
      go_loopw [23] (DoRel w w1.heap.size p ss) (fun i _ => p.length - (intOf i).toNat)
      case atStart => exact ⟨0, by omega, rfl, hown2, hb2⟩
      case round =>
        clear hown2 hb2
        obtain ⟨k, hk, rfl, hown, hbel⟩ := hrel
        by_cases hlt : k < p.length
        · obtain ⟨b, off, x, rfl, hb, hx, hc⟩ := row_at (h1.below hbel) hlt
          have hxr := (isP_iff.1 HP.out).1 _ (getD_mem hlt)
          rw [← hx] at hxr
          obtain ⟨m, rfl⟩ := Int.eq_ofNat_of_zero_le hxr.1
          have hml : m < ss.length := by have := HPL.out; omega
          obtain ⟨b', off', y, rfl, hb', hy, hcy⟩ := srow_at (h2.below hbel) hml
          have hdo : strV p ss k = .string y := by unfold strV doAt; rw [← hx, Int.toNat_natCast, hy]
          have hcs : ∃ u, wr.cell? ⟨w1.heap.size, k, none⟩ = some (.string u) := by
            rw [hown.cellAt k (by omega), fillG_at _ _ hlt, if_neg (by omega)]; exact ⟨_, rfl⟩
          obtain ⟨u, hcs⟩ := hcs
          have hfz := hown.frozenAt k
          have hst2 := hown.stored k (strV p ss k)
          rw [fillG_set _ _ hlt, hdo] at hst2
          have H2 := Lib.hid hst2
          clear hst2 hown hdo hx hy hxr
          go_wp2_with fail
          exact ⟨⟨k + 1, by omega, by go_num, H2.out.1, hbel.setCell hsz _⟩, by simp [intOf]; omega⟩
        · obtain rfl : k = p.length := by omega
          rw [fillG_full, full_strs] at hown
          have hrow := srow_own hown (doL_length p ss)
          go_wp2
          go_ret
          rw [HT.out]
          exact ⟨_, p.length, by rw [doL_length]; rfl, hrow, hbel⟩
  · have hpl' : ((p.length : Int) != (ss.length : Int)) = true := by simp; omega
    have HT := Lib.hid (show doR p ss = [] by unfold doR; rw [if_neg (fun h => hpl h.1)])
    go_enter Try.func18, Try.ntmps18
    go_wp2_with fail
    go_ret
    rw [HT.out]
    exact ⟨none, 0, rfl, fun h => by simp at h, Below.refl _ _⟩

set_option maxRecDepth 100000 in
set_option maxHeartbeats 4000000 in
theorem doLaw_any (A1 A2 : Option Addr) (c1 c2 : Nat) (p : List Int) (ss : List ByteArray) (w : World) (h1 : Row w w.heap.size A1 p) (h2 : SRow w w.heap.size A2 ss) (hs : Strs ss) (hm1 : p.length ≤ maxLen) (hm2 : ss.length ≤ maxLen) :
    Calls Try.prog 5 #[.slice A1 p.length c1, .slice A2 ss.length c2] w fun e w' => e = .returned (.bool true) ∧ Below w.heap.size w w' := by
  have cl := Lib.hid (long_any A2 c2 ss w h2 hs hm2)
  unfold maxLen at hm1 hm2
  by_cases hp : 200 < p.length
  · have hp' : (200 : Int) < p.length := by omega
    go_enter Try.func5, Try.ntmps5
    go_wp2_with fail
    refine (same_law _).mono ?_
    rintro e w1 ⟨rfl, hb1⟩
    go_wp2
    go_ret
    exact ⟨rfl, hb1⟩
  · have hp' : ¬ (200 : Int) < p.length := by omega
    go_enter Try.func5, Try.ntmps5
    go_wp2_with fail
    refine cl.out.mono ?_
    rintro e w0 ⟨r, rfl, hr5, hrs, rfl⟩
    by_cases hr : 5000 < r
    · have hr' : (5000 : Int) < r := by omega
      clear hrs
      go_wp2_with fail
      refine (same_law _).mono ?_
      rintro e w1 ⟨rfl, hb1⟩
      go_wp2
      go_ret
      exact ⟨rfl, hb1⟩
    · have hr' : ¬ (5000 : Int) < r := by omega
      have hsl := hrs (by omega)
      clear hrs hm1 hm2 cl
      go_wp2_with fail
      refine (do_any A1 A2 c1 c2 p ss w h1 h2 (by omega) (by omega)).mono ?_
      rintro e w1 ⟨Ax, cx, rfl, hx1, hb1⟩
      have hp1 := h1.up hb1
      have hs1 := h2.up hb1
      by_cases hpl : p.length = ss.length
      · have hpl' : ((p.length : Int) != (ss.length : Int)) = false := by simp; omega
        have HPL := Lib.hid hpl; clear hpl
        go_wp2_with fail
        refine (refIs_any A1 c1 p w1 hp1 (by omega)).mono ?_
        rintro e w2 ⟨rfl, rfl⟩
        cases hip : isP p with
        | false =>
          rw [show doR p ss = [] by simp [doR, hip]]
          go_wp2_with fail
          refine (same_law _).mono ?_
          rintro e w3 ⟨rfl, hb3⟩
          go_wp2
          go_ret
          exact ⟨rfl, below_trans hb1 hb3⟩
        | true =>
          have hdr : doR p ss = doL p ss := by unfold doR; rw [if_pos ⟨HPL.out, hip⟩]
          rw [hdr] at hx1 ⊢
          have HP := Lib.hid hip
          clear hip hdr
          have hdl := doL_length p ss
          have hback : doR (turnL p) (doL p ss) = ss := by
            unfold doR
            rw [if_pos ⟨by rw [turnL_length, hdl], turnL_isP HP.out⟩, do_back HP.out HPL.out]
          have hat : ∀ i, i < p.length → (doL p ss).getD i noStr = doAt p ss i := fun i hi => doL_at hi
          rw [hdl]
          generalize doL p ss = X at hx1 hdl hback hat
          have HB := Lib.hid hback
          have HAT := Lib.hid hat
          have HXL := Lib.hid hdl
          clear hback hat hdl
          go_wp2_with fail
          go_loopw [42] (fun i wr => ∃ k : Nat, k ≤ p.length ∧ i = .int .i64 k ∧ Below w1.heap.size w1 wr) (fun i _ => p.length - (intOf i).toNat)
          case atStart => exact ⟨0, by omega, rfl, Below.refl _ _⟩
          case round =>
            obtain ⟨k, hk, rfl, hbel⟩ := hrel
            by_cases hlt : k < p.length
            · obtain ⟨b, off, x, rfl, hb, hx, hc⟩ := row_at (hp1.below hbel) hlt
              have hxr := (isP_iff.1 HP.out).1 _ (getD_mem hlt)
              rw [← hx] at hxr
              obtain ⟨m, rfl⟩ := Int.eq_ofNat_of_zero_le hxr.1
              have hml : m < ss.length := by have := HPL.out; omega
              obtain ⟨b', off', y, rfl, hb', hy, hcy⟩ := srow_at (hs1.below hbel) hml
              obtain ⟨b2, off2, z, rfl, hb2, hz, hcz⟩ := srow_at (hx1.below hbel) (show k < X.length by rw [HXL.out]; exact hlt)
              obtain rfl : z = y := by
                rw [hz, HAT.out k hlt]; unfold doAt; rw [← hx, Int.toNat_natCast, hy]
              clear hz hy hx hxr
              go_wp2_with fail
              go_quiet (fail)
              go_wp2
              exact ⟨⟨k + 1, by omega, by go_num, bel_drewN hbel _⟩, by simp [intOf]; omega⟩
            · obtain rfl : k = p.length := by omega
              have hp2 := hp1.up hbel
              have hs2 := hs1.up hbel
              have hx2 := hx1.up hbel
              have hb2 := below_trans hb1 hbel
              go_wp2_with fail
              have c3 := turn_any A1 c1 p wr hp2 (by omega)
              rw [show turnR p = turnL p by unfold turnR; rw [if_pos HP.out]] at c3
              refine c3.mono ?_
              clear c3
              rintro e w3 ⟨A3, c3, rfl, hr3, -, -, -, hb3⟩
              have hs3 := hs2.up hb3
              have hx3 := hx2.up hb3
              have hb3' := below_trans hb2 hb3
              go_wp2_with fail
              have c4 := do_any A3 Ax c3 cx (turnL p) X w3 hr3 hx3 (by rw [turnL_length]; omega) (by rw [HXL.out]; omega)
              rw [HB.out, HXL.out] at c4
              refine c4.mono ?_
              clear c4
              rintro e w4 ⟨A4, c4, rfl, hr4, hb4⟩
              have hs4 := hs3.up hb4
              have hb4' := below_trans hb3' hb4
              go_wp2_with fail
              refine (texts_any A4 A2 c4 c2 ss w4 hr4 hs4 (by omega)).mono ?_
              rintro e w5 ⟨rfl, hb5⟩
              have hb5' := below_trans hb4' hb5
              go_wp2_with fail
              refine (same_law _).mono ?_
              rintro e w6 ⟨rfl, hb6⟩
              go_wp2
              go_ret
              exact ⟨rfl, below_trans hb5' hb6⟩
      · have hpl' : ((p.length : Int) != (ss.length : Int)) = true := by simp; omega
        rw [show doR p ss = [] by unfold doR; rw [if_neg (fun h => hpl h.1)]]
        go_wp2_with fail
        refine (same_law _).mono ?_
        rintro e w3 ⟨rfl, hb3⟩
        go_wp2
        go_ret
        exact ⟨rfl, below_trans hb1 hb3⟩
end Go.Proofs.Ytdfalejldjbaiaa
