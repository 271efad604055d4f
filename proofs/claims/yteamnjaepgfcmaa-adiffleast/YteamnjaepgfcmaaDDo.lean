/-
  adiff.Do, and the reference's One.
-/
import Derived.Test.YteamnjaepgfcmaaDOf
import Derived.Test.YteamnjaepgfcmaaRWith
import Derived.Test.YteamnjaepgfcmaaWith
import Derived.Test.YteamnjaepgfcmaaGet
import Derived.Test.YteamnjaepgfcmaaNorm
namespace Go.Proofs.Yteamnjaepgfcmaa
open Go.RowKit Go.Sort Go.Lib
set_option linter.unusedVariables false
theorem with_le (l : List At) (n v : ByteArray) : (withL l n v).length ≤ l.length + 1 := by
  have hr : ∀ r : List At, (replL n v r).length = r.length := fun r => by have := congrArg List.length (names_repl n v r); simpa using this
  have hi : ∀ r : List At, (insL n v r).length = r.length + 1 := by
    intro r
    induction r with
    | nil => rfl
    | cons y r ih => unfold insL; split <;> simp [ih]
  unfold withL
  split
  · rw [hr]; omega
  · rw [hi]; omega
theorem one_le (a : List At) (c : Ch) : (oneD a c).length ≤ a.length + 1 := by
  unfold oneD
  split
  · have := without_le a c.1; omega
  · exact with_le _ _ _
theorem do_le : ∀ (l : List Ch) (a : List At), (doL a l).length ≤ a.length + l.length
  | [], a => by simp [doL]
  | c :: l, a => by
    have h1 := do_le l (oneD a c)
    have h2 := one_le a c
    have e : doL a (c :: l) = doL (oneD a c) l := rfl
    rw [e, List.length_cons]; omega
theorem do_take {a : List At} {l : List Ch} {k : Nat} (hk : k < l.length) : doL a (l.take (k + 1)) = oneD (doL a (l.take k)) l[k] := by
  rw [← doL_snoc]
  congr 1
  rw [List.take_add_one, List.getElem?_eq_getElem hk]
  rfl
theorem oneD_gone {a : List At} {n v : ByteArray} : oneD a (n, v, true) = withoutL a n := rfl
theorem oneD_set {a : List At} {n v : ByteArray} : oneD a (n, v, false) = withL a n v := rfl
set_option maxHeartbeats 2000000 in
theorem do_any (A A' : Option Addr) (c c' : Nat) (a : List At) (l : List Ch) (w : World) (h : TRow w w.heap.size A a) (h' : XRow w w.heap.size A' l) (ha : a.length ≤ 10000) (hl : l.length ≤ 10000) (hc0 : A = none → c = 0) :
    Calls Try.prog 30 #[.slice A a.length c, .slice A' l.length c'] w (MadeN w (doL a l)) := by
  have C1 := Lib.hid (clone_own A c a w h (by omega) hc0)
  have HX := Lib.hid h'
  clear h h' hc0
  go_enter Try.func30, Try.ntmps30
  go_wp2_with fail
  refine C1.out.mono ?_
  intro e w1 hmade
  obtain ⟨A1, c1, rfl, r1, k1, m1, n1, hb1⟩ := hmade.madeN
  have HB1 := Lib.hid hb1
  have HM := Lib.hid (And.intro r1 (And.intro k1 (And.intro m1 n1)))
  clear hmade r1 k1 m1 n1 hb1 C1
  go_wp2_with fail
  go_loopg [5, 7, 12] l.length (fun g s5 _ s12 wr => ∃ (k : Nat) (A2 : Option Addr) (c2 : Nat), s12 = .int .i64 k ∧ k ≤ l.length ∧ l.length - k ≤ g ∧ s5 = .slice A2 (doL a (l.take k)).length c2 ∧ Hid (TRow wr wr.heap.size A2 (doL a (l.take k)) ∧ (doL a (l.take k)).length ≤ c2 ∧ c2 ≤ maxLen ∧ (A2 = none → c2 = 0)) ∧ Hid (Below w.heap.size w wr))
  case atStart => exact ⟨0, A1, c1, rfl, by omega, by omega, rfl, Lib.hid HM.out, HB1⟩
  case round =>
    obtain ⟨k, A2, c2, rfl, hk, hg, rfl, HR, HB⟩ := hrel
    have hle := do_le (l.take k) a
    have hle2 : (l.take k).length ≤ l.length := by simp; omega
    by_cases hlt : k < l.length
    · have h1 : (k : Int) < (l.length : Int) := by omega
      have h2 : ¬ (k : Int) < 0 := by omega
      obtain ⟨b, off, n, v, g', rfl, hb, he, d1, d2, d3⟩ := xrow_at (HX.out.up HB.out) hlt
      have HT := Lib.hid (do_take (a := a) hlt)
      rw [← he] at HT
      obtain ⟨x, hx⟩ : ∃ x, x = doL a (l.take k) := ⟨_, rfl⟩
      rw [← hx] at HT HR hle ⊢
      have hbw : Below wr.heap.size wr (wr.alloc (.cells #[.string n, .string v, .bool g'] 46)) := (Below.refl _ _).alloc (Nat.le_refl _) _
      have HBW := Lib.hid (HB.out.trans (hbw.mono HB.out.size))
      obtain ⟨y0, y1, y2⟩ := (BoxC.new wr (n, v, g')).cells
      cases g' with
      | true =>
        have C2 := Lib.hid (without_any A2 c2 x n _ (HR.out.1.up hbw) (by omega))
        clear hx he hb hbw
        go_wp2_with fail
        refine C2.out.mono ?_
        rintro e w2 ⟨A3, c3, rfl, r3, k3, m3, n3, hb3⟩
        go_wp2_with fail
        go_roundg (l.length - (k + 1))
        case measure => omega
        case rel =>
          refine ⟨k + 1, A3, c3, by go_num, by omega, by omega, ?_, ?_, Lib.hid (HBW.out.trans (hb3.mono HBW.out.size))⟩
          · rw [HT.out]; rfl
          · rw [HT.out]; exact Lib.hid ⟨r3, k3, m3, n3⟩
      | false =>
        have C2 := Lib.hid (with_any A2 c2 x n v _ (HR.out.1.up hbw) (by omega) HR.out.2.1 HR.out.2.2.1 HR.out.2.2.2)
        clear hx he hb hbw
        go_wp2_with fail
        refine C2.out.mono ?_
        rintro e w2 ⟨A3, c3, rfl, r3, k3, m3, n3, hb3⟩
        go_wp2_with fail
        go_roundg (l.length - (k + 1))
        case measure => omega
        case rel =>
          refine ⟨k + 1, A3, c3, by go_num, by omega, by omega, ?_, ?_, Lib.hid (HBW.out.trans (hb3.mono HBW.out.size))⟩
          · rw [HT.out]; rfl
          · rw [HT.out]; exact Lib.hid ⟨r3, k3, m3, n3⟩
    · have h1 : ¬ (k : Int) < (l.length : Int) := by omega
      have e : l.take k = l := List.take_of_length_le (by omega)
      rw [e] at HR ⊢
      go_wp2_with fail
      go_ret
      exact ⟨A2, c2, rfl, HR.out.1, HR.out.2.1, HR.out.2.2.1, HR.out.2.2.2, HB.out⟩
set_option maxHeartbeats 2000000 in
theorem one_any (A : Option Addr) (c : Nat) (a : List At) (n v : ByteArray) (g : Bool) (w : World) (h : TRow w w.heap.size A a) (ha : a.length ≤ 100000) (hs : Short a) (hn : n.size ≤ 10000000) :
    Calls Try.prog 31 #[.slice A a.length c, .agg #[.string n, .string v, .bool g]] w (MadeN w (oneD a (n, v, g))) := by
  have hbw : Below w.heap.size w (w.alloc (.cells #[.string n, .string v, .bool g] 47)) := (Below.refl _ _).alloc (Nat.le_refl _) _
  have HB := Lib.hid hbw
  have e : ∀ j, (w.alloc (.cells #[.string n, .string v, .bool g] 47)).cell? ⟨w.heap.size, j, none⟩ = (#[.string n, .string v, .bool g] : Array Value)[j]? := fun j => cell_of_row _ _ _ _ _ (0, 0) (heap_alloc_new w _)
  have y0 := e 0; have y1 := e 1; have y2 := e 2
  simp at y0 y1 y2
  cases g with
  | true =>
    have C2 := Lib.hid (refWithout_any A c a n _ (h.up hbw) (by omega))
    clear h hbw e hs
    go_enter Try.func31, Try.ntmps31
    go_wp2_with fail
    refine C2.out.mono ?_
    rintro e w2 ⟨A3, c3, rfl, r3, k3, m3, n3, hb3⟩
    go_wp2_with fail
    go_ret
    exact ⟨A3, c3, rfl, r3, k3, m3, n3, HB.out.trans (hb3.mono HB.out.size)⟩
  | false =>
    have C2 := Lib.hid (refWith_any A c a n v _ (h.up hbw) (by omega) hs hn)
    clear h hbw e hs hn
    go_enter Try.func31, Try.ntmps31
    go_wp2_with fail
    refine C2.out.mono ?_
    intro e w2 hmade
    obtain ⟨A3, c3, rfl, r3, k3, m3, n3, hb3⟩ := hmade.madeN
    go_wp2_with fail
    go_ret
    exact ⟨A3, c3, rfl, r3, k3, m3, n3, HB.out.trans (hb3.mono HB.out.size)⟩
end Go.Proofs.Yteamnjaepgfcmaa
