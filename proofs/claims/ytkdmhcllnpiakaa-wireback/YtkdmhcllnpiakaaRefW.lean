/-
  tendrilref04: Num and Text.
-/
import Derived.Test.YtkdmhcllnpiakaaItems
namespace Go.Proofs.Ytkdmhcllnpiakaa
open Go.RowKit
set_option linter.unusedVariables false

theorem own_base {w : World} {base base' : Nat} {v : Value} {bs : List Int} (h : OwnB w base v bs) (hb : base' ≤ base) : OwnB w base' v bs := by
  refine ⟨h.1, ?_⟩
  rcases h.2 with hn | ⟨g, cap, cur, hv, hg, r⟩
  · exact .inl hn
  · exact .inr ⟨g, cap, cur, hv, by omega, r⟩

theorem xnumw_any (n : Int) (w : World) (h0 : 0 ≤ n) (h1 : n < 18446744073709551616) : Calls Try.prog 11 #[.int .u64 n] w (OwnPost w (encs [n])) := by
  go_enter Try.func11, Try.ntmps11
  go_wp2_with fail
  refine (refPut_any (some ⟨w.heap.size, 0, none⟩) 1 [n] (w.heap.size + 1) _ (by simp) (row_lit (k := .u64) (w := w) 27 [n]) (words1 h0 h1) (by simp)).mono ?_
  rintro e w1 ⟨v, rfl, ho, hb⟩
  go_wp2
  go_ret
  exact ⟨_, rfl, own_base ho (by simp), ((Below.refl _ _).alloc (Nat.le_refl _) _).trans (hb.mono (by simp))⟩

set_option maxHeartbeats 1000000 in
theorem xtextw_any (s : ByteArray) (w : World) (hs : s.size ≤ 1000000) : Calls Try.prog 9 #[.string s] w (OwnPost w (tx s)) := by
  obtain ⟨i0, hi, hz0, hz1, hz2⟩ := info_parts Try.info5
  have hel := (encs1_length (n := (s.size : Int)) (by omega) (by omega)).1
  have hsl := sb_length s
  go_enter Try.func9, Try.ntmps9
  go_wp2_with fail
  refine (xnumw_any s.size w (by omega) (by omega)).mono ?_
  rintro e w1 ⟨v, rfl, ho, hb⟩
  obtain ⟨cb, w2, hrun, hb2, hr2⟩ := conv_sb s w1
  have ho2 : OwnB w2 w.heap.size v (encs [(s.size : Int)]) := (kept_below hb2 Never).own ho (fun _ _ h => h)
  unfold OwnB at ho2
  have hsz : w.heap.size ≤ w2.heap.size := Nat.le_trans hb.size hb2.size
  have hx : Value.slice (some ⟨w1.heap.size, 0, none⟩) s.size cb = Value.slice (some ⟨w1.heap.size, 0, none⟩) (sb s).length cb := by rw [hsl]
  have HX := Lib.hid hx; clear hx
  have HSL := Lib.hid hsl; clear hsl
  have hsb : (sb s).length ≤ 1000000 := by rw [HSL.out]; exact hs
  go_wp2_with (at_builtin; refine wpList_appRow rfl _ _ 26 rfl w.heap.size 5 i0 (.int .u8 0) Try.underlying26 hi hz0 hz1 hz2 rfl _ _ _ rfl ho2 .u8 _ (some ⟨w1.heap.size, 0, none⟩) cb (sb s) HX.out hr2 (fun h => by cases h) (by omega) hsz ?_; intro v' w3 ho3 hk3 hf3)
  go_ret
  refine ⟨_, rfl, ?_, ?_⟩
  · unfold OwnB tx
    simpa using ho3
  · have h2 : Below w.heap.size w w2 := hb.trans (hb2.mono hb.size)
    exact h2.trans (hk3.below hsz (fun k hk => (ho2.lt k hk).1))
end Go.Proofs.Ytkdmhcllnpiakaa
