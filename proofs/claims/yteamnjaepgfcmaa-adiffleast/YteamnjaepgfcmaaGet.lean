/-
  Get and Without, the program's and the reference's.
-/
import Derived.Test.YteamnjaepgfcmaaFind
import Derived.Test.YteamnjaepgfcmaaApp
namespace Go.Proofs.Yteamnjaepgfcmaa
open Go.RowKit Go.Sort Go.Lib
set_option linter.unusedVariables false
theorem get_hit {n : ByteArray} : ∀ {l : List At} {k : Nat} (hk : k < l.length), l[k].1 = n → (∀ j, (hj : j < l.length) → j < k → ¬ l[j].1 = n) → getL l n = some l[k].2
  | [], k, hk, _, _ => by simp at hk
  | x :: r, 0, _, h1, _ => by simp at h1; simp [getL, h1]
  | x :: r, k + 1, hk, h1, h2 => by
    have h0 : ¬ x.1 = n := h2 0 (by simp) (by omega)
    simp only [getL, if_neg h0, List.getElem_cons_succ]
    exact get_hit (by simpa using hk) (by simpa using h1) (fun j hj hjk => by have := h2 (j + 1) (by simpa using hj) (by omega); simpa using this)
def optS (o : Option ByteArray) : ByteArray := o.getD ⟨#[]⟩
def GetV (l : List At) (n : ByteArray) : Value := .tuple #[.string (optS (getL l n)), .bool (getL l n).isSome]
set_option maxHeartbeats 1000000 in
theorem get_any (A : Option Addr) (c : Nat) (l : List At) (n : ByteArray) (w : World) (h : TRow w w.heap.size A l) (hl : l.length ≤ 1000000) :
    Calls Try.prog 14 #[.slice A l.length c, .string n] w fun e w' => e = .returned (GetV l n) ∧ Below w.heap.size w w' := by
  have HC := Lib.hid (indexOf_any A c l n w h hl); have HR := Lib.hid h
  clear h
  go_enter Try.func14, Try.ntmps14
  go_wp2_with fail
  refine HC.out.mono ?_
  rintro e w1 ⟨r, rfl, hr, hb⟩
  have HB := Lib.hid hb; have HR1 := Lib.hid (HR.out.up hb)
  clear hb
  rcases hr with ⟨k, hk, rfl, h1, h2⟩ | ⟨rfl, h1⟩
  · obtain ⟨b, off, x, rfl, hb, hx, c1, c2⟩ := trow_at HR1.out hk
    have HE := Lib.hid (show GetV l n = .tuple #[.string x.2, .bool true] by unfold GetV; rw [get_hit hk h1 h2, ← hx]; rfl)
    clear h1 h2 hx
    have h3 : ¬ (k : Int) < 0 := by omega
    have h4 : (k : Int) < (l.length : Int) := by omega
    go_wp2_with fail
    go_ret2
    exact ⟨by rw [HE.out]; rfl, HB.out⟩
  · have HE := Lib.hid (show GetV l n = .tuple #[.string ⟨#[]⟩, .bool false] by unfold GetV; rw [getL_none.2 h1]; rfl)
    clear h1
    go_wp2_with fail
    go_ret2
    exact ⟨by rw [HE.out]; rfl, HB.out⟩
set_option maxHeartbeats 1000000 in
theorem refGet_any (A : Option Addr) (c : Nat) (l : List At) (n : ByteArray) (w : World) (h : TRow w w.heap.size A l) (hl : l.length ≤ 1000000) :
    Calls Try.prog 15 #[.slice A l.length c, .string n] w fun e w' => e = .returned (GetV l n) ∧ w = w' := by
  have HC := Lib.hid (find_any A c l n w h hl); have HR := Lib.hid h
  clear h
  go_enter Try.func15, Try.ntmps15
  go_wp2_with fail
  refine HC.out.mono ?_
  rintro e w1 ⟨r, rfl, hr, rfl⟩
  rcases hr with ⟨k, hk, rfl, h1, h2⟩ | ⟨rfl, h1⟩
  · obtain ⟨b, off, x, rfl, hb, hx, c1, c2⟩ := trow_at HR.out hk
    have HE := Lib.hid (show GetV l n = .tuple #[.string x.2, .bool true] by unfold GetV; rw [get_hit hk h1 h2, ← hx]; rfl)
    clear h1 h2 hx
    have h3 : ¬ (k : Int) < 0 := by omega
    have h4 : (k : Int) < (l.length : Int) := by omega
    go_wp2_with fail
    go_ret2
    exact ⟨by rw [HE.out]; rfl, rfl⟩
  · have HE := Lib.hid (show GetV l n = .tuple #[.string ⟨#[]⟩, .bool false] by unfold GetV; rw [getL_none.2 h1]; rfl)
    clear h1
    go_wp2_with fail
    go_ret2
    exact ⟨by rw [HE.out]; rfl, rfl⟩
theorem without_take {l : List At} {n : ByteArray} {k : Nat} (hk : k < l.length) : withoutL (l.take (k + 1)) n = withoutL (l.take k) n ++ (if l[k].1 = n then [] else [l[k]]) := by
  rw [take_succ' l k hk]
  unfold withoutL
  rw [List.filter_append]
  by_cases h : l[k].1 = n
  · simp [h]
  · simp [h]
theorem without_le (l : List At) (n : ByteArray) : (withoutL l n).length ≤ l.length := List.length_filter_le _ _
/-- What Without hands back. -/
def WoutPost (w : World) (l : List At) (n : ByteArray) (e : Ending) (w' : World) : Prop := ∃ A c, e = .returned (.tuple #[.slice A (withoutL l n).length c, .bool (decide ((withoutL l n).length < l.length))]) ∧ TRow w' w'.heap.size A (withoutL l n) ∧ (withoutL l n).length ≤ c ∧ c ≤ maxLen ∧ (A = none → c = 0) ∧ Below w.heap.size w w'
theorem wout_own {w w' : World} {l : List At} {n : ByteArray} {v : Value} (ho : w'.ownsRow w.heap.size 56 2 v (withoutL l n).length (ats (withoutL l n))) (hb : Below w.heap.size w w') : ∃ A c, v = .slice A (withoutL l n).length c ∧ WoutPost w l n (.returned (.tuple #[.slice A (withoutL l n).length c, .bool (decide ((withoutL l n).length < l.length))])) w' := by
  obtain ⟨A, c, rfl, h1, h2, h3, h4⟩ := trow_own ho
  exact ⟨A, c, rfl, A, c, rfl, h1, h2, h3, h4, hb⟩
set_option maxHeartbeats 4000000 in
theorem without_any (A : Option Addr) (c : Nat) (l : List At) (n : ByteArray) (w : World) (h : TRow w w.heap.size A l) (hl : l.length ≤ 1000000) :
    Calls Try.prog 17 #[.slice A l.length c, .string n] w (WoutPost w l n) := by
  obtain ⟨i0, hi, hz0, hz1, hz2⟩ := info_parts Try.info56
  have H := Lib.hid h
  clear h
  go_enter Try.func17, Try.ntmps17
  go_wp2
  go_loopg [6, 8, 11] l.length (fun g s6 _ s11 wr => ∃ k : Nat, s11 = .int .i64 k ∧ k ≤ l.length ∧ l.length - k ≤ g ∧ RowKit.Hid (wr.ownsRow w.heap.size 56 2 s6 (withoutL (l.take k) n).length (ats (withoutL (l.take k) n))) ∧ RowKit.Hid (Below w.heap.size w wr))
  case atStart => exact ⟨0, rfl, by omega, by omega, Lib.hid ⟨rfl, .inl ⟨rfl, rfl⟩⟩, Lib.hid (Below.refl _ _)⟩
  case round =>
    obtain ⟨k, rfl, hk, hg, HO, HB⟩ := hrel
    by_cases hlt : k < l.length
    · have h1 : (k : Int) < (l.length : Int) := by omega
      obtain ⟨b, off, x, rfl, hb, hx, c1, c2⟩ := trow_at (H.out.up HB.out) hlt
      have hlen := without_le (l.take k) n
      have hlen2 : (l.take k).length ≤ k := by simp; omega
      have hbyt : (withoutL (l.take k) n).length + 1 ≤ 10000000 := by omega
      have HWT := Lib.hid (without_take (n := n) hlt)
      rw [← hx] at HWT
      clear hx hlen hlen2
      have hsz := HB.out.size
      have HB1 := Lib.hid (HB.out.alloc hsz (.cells #[.string x.1, .string x.2] 56))
      have hsz1 : w.heap.size ≤ (wr.alloc (.cells #[.string x.1, .string x.2] 56)).heap.size := HB1.out.size
      have HO1 := Lib.hid (World.ownsRow.alloc HO.out (.cells #[.string x.1, .string x.2] 56))
      by_cases he : x.1 = n
      · have hq : (x.1.toList == n.toList) = true := by rw [eqB]; exact decide_eq_true he
        have HE := Lib.hid (show withoutL (l.take (k + 1)) n = withoutL (l.take k) n by rw [HWT.out, if_pos he, List.append_nil])
        clear he HWT
        go_wp2_with fail
        go_roundg (l.length - (k + 1))
        case measure => omega
        case rel => exact ⟨k + 1, by go_num, by omega, by omega, Lib.hid (by rw [HE.out]; exact HO1.out), HB1⟩
      · have hq : (x.1.toList == n.toList) = false := by rw [eqB]; exact decide_eq_false he
        have HE := Lib.hid (show withoutL (l.take (k + 1)) n = withoutL (l.take k) n ++ [x] by rw [HWT.out, if_neg he])
        clear he HWT
        go_wp2_with (at_builtin; refine wpList_app2 rfl _ _ 22 rfl w.heap.size 56 i0 _ Try.underlying22 hi hz0 hz1 hz2 rfl _ _ _ rfl HO1.out x _ (by simp) rfl hbyt hsz1 ?_; intro v1 w3 hown2 hb2)
        have HB3 := Lib.hid (HB1.out.trans hb2)
        have HO3 := Lib.hid (own_ats (zs := withoutL (l.take (k + 1)) n) hown2 (by rw [HE.out, ats_append]; simp [ats]) (by rw [HE.out]; simp))
        clear hown2 hb2
        go_roundg (l.length - (k + 1))
        case measure => omega
        case rel => exact ⟨k + 1, by go_num, by omega, by omega, HO3, HB3⟩
    · have h1 : ¬ (k : Int) < (l.length : Int) := by omega
      have e : l.take k = l := List.take_of_length_le (by omega)
      rw [e] at HO
      clear e
      obtain ⟨A', c', rfl, hp⟩ := wout_own HO.out HB.out
      have HP := Lib.hid hp
      clear hp
      generalize (withoutL l n).length = m at HP
      go_wp2_with fail
      go_ret2

      exact HP.out
end Go.Proofs.Yteamnjaepgfcmaa
