/-
  Entries, as cells; Find.
-/
import Derived.Test.YtlhhfcnagkhllaaKListW
import Derived.Test.YtlhhfcnagkhllaaKLess
namespace Go.Proofs.Ytlhhfcnagkhllaa
open Go.RowKit Go.Maps
set_option linter.unusedVariables false

theorem all_any (base X bm : Nat) (es : List (Lab × Int)) (w : World) (h : Ix w base X bm es) (hl : es.length ≤ 1000000) (hsrt : (es.map Prod.fst).Pairwise fun a b => cmpLab a b < 0) :
    Calls Try.prog 21 #[.pointer (some ⟨X, 0, none⟩)] w (MadeL w (es.map Prod.fst)) := by
  have H := Lib.hid h; have HS := Lib.hid hsrt
  have c0 := h.c0
  clear h hsrt
  go_enter Try.func21, Try.ntmps21
  go_wp2_with fail
  refine (list_any base X bm es w H.out hl HS.out).mono ?_
  rintro e w1 ⟨A, c, rfl, hr, hc, hb⟩
  go_wp2_with fail
  go_ret
  exact ⟨A, c, by simp, hr, hc, hb⟩

abbrev En := Lab × Int
abbrev noEn : En := (noLab, 0)
def encE (p : En) : List Value := [.string p.1.tag, .string p.1.key, .int .i64 p.1.n, .int .i64 p.2]
def ens (l : List En) : List Value := l.flatMap encE
theorem ens_append (a b : List En) : ens (a ++ b) = ens a ++ ens b := by simp [ens]
theorem ens_length (l : List En) : (ens l).length = l.length * 4 := by
  induction l with
  | nil => rfl
  | cons p ps ih => simp only [ens, List.flatMap_cons, List.length_append, List.length_cons, encE, List.length_nil] at ih ⊢; omega
theorem ens_at : ∀ (l : List En) (j : Nat), j < l.length * 4 → (ens l)[j]? = some ((encE (l.getD (j / 4) noEn)).getD (j % 4) undef)
  | [], j, h => by simp at h
  | L :: ss, j, h => by
    by_cases h3 : j < 4
    · have e1 : j / 4 = 0 := by omega
      have e2 : j % 4 = j := by omega
      rw [e1, e2]
      match j, h3 with
      | 0, _ => rfl
      | 1, _ => rfl
      | 2, _ => rfl
      | 3, _ => rfl
    · have h' : j - 4 < ss.length * 4 := by simp at h; omega
      have ih := ens_at ss (j - 4) h'
      have e1 : j / 4 = (j - 4) / 4 + 1 := by omega
      have e2 : j % 4 = (j - 4) % 4 := by omega
      rw [e1, e2]
      simp only [ens, List.flatMap_cons] at ih ⊢
      rw [List.getElem?_append_right (by simp [encE]; omega)]
      simp only [encE, List.length_cons, List.length_nil] at ih ⊢
      rw [ih]
      simp
theorem ens_one (l : List En) : ∀ y ∈ ens l, y.oneCell' = true := by
  intro y hy
  obtain ⟨p, _, hp⟩ := List.mem_flatMap.1 hy
  simp [encE] at hp
  rcases hp with rfl | rfl | rfl | rfl <;> rfl
/-- A slice of entries. -/
def ERow (w : World) (B : Nat) (A : Option Addr) (es : List En) : Prop :=
  0 < es.length → ∃ b off, A = some ⟨b, off, none⟩ ∧ b < B ∧ ∀ j, (hj : j < es.length) → w.cell? ⟨b, off + j * 4, none⟩ = some (.string es[j].1.tag) ∧ w.cell? ⟨b, off + j * 4 + 1, none⟩ = some (.string es[j].1.key) ∧ w.cell? ⟨b, off + j * 4 + 2, none⟩ = some (.int .i64 es[j].1.n) ∧ w.cell? ⟨b, off + j * 4 + 3, none⟩ = some (.int .i64 es[j].2)
theorem erow_at {w : World} {B : Nat} {A : Option Addr} {es : List En} (h : ERow w B A es) {j : Nat} (hj : j < es.length) :
    ∃ b off p, A = some ⟨b, off, none⟩ ∧ b < B ∧ p = es[j] ∧ w.cell? ⟨b, off + j * 4, none⟩ = some (.string p.1.tag) ∧ w.cell? ⟨b, off + j * 4 + 1, none⟩ = some (.string p.1.key) ∧ w.cell? ⟨b, off + j * 4 + 2, none⟩ = some (.int .i64 p.1.n) ∧ w.cell? ⟨b, off + j * 4 + 3, none⟩ = some (.int .i64 p.2) := by
  obtain ⟨b, off, hA, hb, hc⟩ := h (by omega)
  exact ⟨b, off, _, hA, hb, rfl, hc j hj⟩
theorem ERow.below {w w' : World} {B : Nat} {A : Option Addr} {es : List En} (h : ERow w B A es) (hb : Below B w w') : ERow w' B A es := by
  intro h0
  obtain ⟨b, off, hA, hlt, hc⟩ := h h0
  exact ⟨b, off, hA, hlt, fun j hj => ⟨(hb.cell (p := ⟨b, off + j * 4, none⟩) hlt).trans (hc j hj).1, (hb.cell (p := ⟨b, off + j * 4 + 1, none⟩) hlt).trans (hc j hj).2.1, (hb.cell (p := ⟨b, off + j * 4 + 2, none⟩) hlt).trans (hc j hj).2.2.1, (hb.cell (p := ⟨b, off + j * 4 + 3, none⟩) hlt).trans (hc j hj).2.2.2⟩⟩
theorem ERow.mono {w : World} {B B' : Nat} {A : Option Addr} {es : List En} (h : ERow w B A es) (hb : B ≤ B') : ERow w B' A es := by
  intro h0
  obtain ⟨b, off, hA, hlt, hc⟩ := h h0
  exact ⟨b, off, hA, by omega, hc⟩
theorem ERow.up {w w' : World} {A : Option Addr} {es : List En} (h : ERow w w.heap.size A es) (hb : Below w.heap.size w w') : ERow w' w'.heap.size A es := (h.below hb).mono hb.size
theorem ERow.nil (w : World) (B : Nat) (A : Option Addr) : ERow w B A [] := fun h => by simp at h
theorem erow_take {w : World} {B : Nat} {A : Option Addr} {es : List En} (h : ERow w B A es) (t : Nat) : ERow w B A (es.take t) := by
  intro h0
  obtain ⟨b, off, hA, hb, hc⟩ := h (by simp at h0; omega)
  refine ⟨b, off, hA, hb, fun j hj => ?_⟩
  have hj2 : j < es.length := by simp at hj; omega
  have e : (es.take t)[j] = es[j] := by simp
  rw [e]
  exact hc j hj2
theorem erow_cut {w : World} {B b off : Nat} {es : List En} (h : ERow w B (some ⟨b, off, none⟩) es) (t : Nat) : ERow w B (some ⟨b, off + t * 4, none⟩) (es.drop t) := by
  intro h0
  have hlt : t < es.length := by simp at h0; omega
  obtain ⟨b', off', hA, hb, hc⟩ := h (by omega)
  obtain ⟨rfl, rfl⟩ : b = b' ∧ off = off' := by simpa using hA
  refine ⟨b, off + t * 4, rfl, hb, fun j hj => ?_⟩
  have := hc (t + j) (by simp at hj; omega)
  have e : (es.drop t)[j] = es[t + j]'(by simp at hj; omega) := by simp
  rw [e, show off + t * 4 + j * 4 = off + (t + j) * 4 by omega]
  exact this
theorem erow_none {w : World} {B : Nat} {es : List En} (h : ERow w B none es) : es = [] := by
  rcases Nat.eq_zero_or_pos es.length with h0 | h0
  · exact List.eq_nil_of_length_eq_zero h0
  · obtain ⟨_, _, h, _⟩ := h h0; cases h
theorem erow_own {w : World} {base e : Nat} {v : Value} {es : List En} (h : w.ownsRow base e 4 v es.length (ens es)) :
    ∃ A cap, v = .slice A es.length cap ∧ ERow w w.heap.size A es ∧ es.length ≤ cap ∧ cap ≤ maxLen ∧ (A = none → cap = 0) := by
  rcases h.2 with ⟨rfl, hn⟩ | ⟨g, cap, cur, rfl, _, hg, hnc, hcm, _, _⟩
  · exact ⟨none, 0, by rw [hn], fun h0 => by omega, by omega, by simp [maxLen], fun _ => rfl⟩
  · refine ⟨_, cap, rfl, fun _ => ⟨g, 0, rfl, (Array.getElem?_eq_some_iff.1 hg).1, fun j hj => ?_⟩, hnc, hcm, fun h => by cases h⟩
    have e : es.getD j noEn = es[j] := by simp [List.getD_eq_getElem?_getD, hj]
    have d0 : j * 4 / 4 = j := by omega
    have d1 : (j * 4 + 1) / 4 = j := by omega
    have d2 : (j * 4 + 2) / 4 = j := by omega
    have d3 : (j * 4 + 3) / 4 = j := by omega
    have m0 : j * 4 % 4 = 0 := by omega
    have m1 : (j * 4 + 1) % 4 = 1 := by omega
    have m2 : (j * 4 + 2) % 4 = 2 := by omega
    have m3 : (j * 4 + 3) % 4 = 3 := by omega
    rw [Nat.zero_add, World.ownsRow.cellAt h (j * 4) (by omega), World.ownsRow.cellAt h (j * 4 + 1) (by omega), World.ownsRow.cellAt h (j * 4 + 2) (by omega), World.ownsRow.cellAt h (j * 4 + 3) (by omega),
      ens_at es (j * 4) (by omega), ens_at es (j * 4 + 1) (by omega), ens_at es (j * 4 + 2) (by omega), ens_at es (j * 4 + 3) (by omega), d0, d1, d2, d3, m0, m1, m2, m3, e]
    exact ⟨rfl, rfl, rfl, rfl⟩

def FindAt (es : List En) (L : Lab) (r : Int) : Prop := (∃ k, ∃ hk : k < es.length, r = (k : Int) ∧ es[k].1 = L) ∨ (r = -1 ∧ L ∉ es.map Prod.fst)
def FRel (w : World) (es : List En) (L : Lab) (i : Value) (wr : World) : Prop := ∃ k : Nat, k ≤ es.length ∧ i = .int .i64 k ∧ (∀ j, (hj : j < es.length) → j < k → es[j].1 ≠ L) ∧ Below w.heap.size w wr ∧ Box wr w.heap.size L
def FPost (w : World) (es : List En) (L : Lab) (e : Ending) (w' : World) : Prop := ∃ r, e = .returned (.int .i64 r) ∧ FindAt es L r ∧ Below w.heap.size w w'
set_option maxRecDepth 100000 in
set_option maxHeartbeats 4000000 in
theorem find_any (A : Option Addr) (c : Nat) (es : List En) (L : Lab) (w : World) (hr : ERow w w.heap.size A es) (hl : es.length ≤ 1000000) (hwf : ∀ p ∈ es, LWf p.1) (hL : LWf L) :
    Calls Try.prog 10 #[.slice A es.length c, labV L] w (FPost w es L) := by
  have HF := Lib.hid hwf
  have hbx := box_new w L
  have hb0 := lit_below w (.cells (labCells L) 30)
  clear hwf
  go_enter Try.func10, Try.ntmps10
  go_wp2_with fail
  go_loopw [8] (FRel w es L) (fun i _ => es.length - (intOf i).toNat)
  case atStart => exact ⟨0, by omega, rfl, fun j _ h => by omega, hb0, hbx⟩
  case round =>
    clear hb0 hbx
    obtain ⟨k, hk, rfl, hno, hbel, hbox⟩ := hrel
    have k1 := hbox.t
    have k2 := hbox.k
    have k3 := hbox.n
    have HNO := Lib.hid hno
    clear hno
    by_cases hlt : k < es.length
    · obtain ⟨b, off, p, rfl, hb, hp, d1, d2, d3, d4⟩ := erow_at (hr.below hbel) hlt
      have hpw : LWf p.1 := by rw [hp]; exact HF.out _ (List.getElem_mem _)
      have hq := eql_lab hpw hL
      have HP := Lib.hid hp
      clear hp d4
      by_cases hs : p.1 = L
      · have hsl : sameL p.1 L = true := by simp [sameL, hs]
        have HSL := Lib.hid hs
        clear hs
        rw [hsl] at hq
        clear hsl
        go_wp2_with fail
        go_quiet (fail)
        go_wp2_with fail
        go_ret
        exact ⟨(k : Int), rfl, .inl ⟨k, hlt, rfl, by rw [← HP.out]; exact HSL.out⟩, hbel.trans (below_drewN _ _ _)⟩
      · have hsl : sameL p.1 L = false := by simp [sameL, hs]
        have HSL := Lib.hid hs
        clear hs
        rw [hsl] at hq
        clear hsl
        go_wp2_with fail
        go_quiet (fail)
        go_wp2_with fail
        refine ⟨⟨k + 1, by omega, by go_num, fun j hj hjk => ?_, hbel.trans (below_drewN _ _ _), hbox.up (below_drewN _ _ _)⟩, by simp [intOf]; omega⟩
        by_cases hjl : j < k
        · exact HNO.out j hj hjl
        · obtain rfl : j = k := by omega
          rw [← HP.out]; exact HSL.out
    · obtain rfl : k = es.length := by omega
      go_wp2_with fail
      go_ret
      refine ⟨-1, rfl, .inr ⟨rfl, fun hm => ?_⟩, hbel⟩
      obtain ⟨p, hp, hpe⟩ := List.mem_map.1 hm
      obtain ⟨j, hj, rfl⟩ := List.mem_iff_getElem.1 hp
      exact HNO.out j hj hj hpe
end Go.Proofs.Ytlhhfcnagkhllaa
