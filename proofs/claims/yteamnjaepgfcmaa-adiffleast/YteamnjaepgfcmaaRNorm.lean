/-
  The reference's Norm.
-/
import Derived.Test.YteamnjaepgfcmaaSame
import Derived.StillTailTactics
namespace Go.Proofs.Yteamnjaepgfcmaa
open Go.RowKit Go.Sort Go.Lib
set_option linter.unusedVariables false
theorem short_with {l : List At} {n v : ByteArray} (h : Short l) (hn : n.size ≤ 10000000) (hv : v.size ≤ 10000000) : Short (withL l n v) := by
  intro x hx
  rcases mem_with hx with rfl | hx
  · exact ⟨hn, hv⟩
  · exact h x hx
theorem len_repl (n v : ByteArray) : ∀ l : List At, (replL n v l).length = l.length
  | [] => rfl
  | x :: r => by
    by_cases e : x.1 = n
    · simp [replL, e]
    · simp [replL, e, len_repl n v r]
theorem len_ins (n v : ByteArray) : ∀ l : List At, (insL n v l).length = l.length + 1
  | [] => rfl
  | x :: r => by
    by_cases e : 0 < cmpN x.1 n
    · simp [insL, e]
    · simp [insL, e, len_ins n v r]
theorem len_with (l : List At) (n v : ByteArray) : (withL l n v).length ≤ l.length + 1 := by
  unfold withL
  split
  · rw [len_repl]; omega
  · rw [len_ins]; omega
theorem norm_len (l : List At) : (normL l).length ≤ l.length := by
  refine snoc_ind (M := fun l => (normL l).length ≤ l.length) (by simp [normL]) (fun l x ih => ?_) l
  rw [normL_snoc, List.length_append]
  have := len_with (normL l) x.1 x.2
  simp; omega
theorem norm_short {l : List At} (h : Short l) : Short (normL l) := by
  have key : ∀ m : List At, Short m → Short (normL m) := by
    intro m
    refine snoc_ind (M := fun m => Short m → Short (normL m)) (fun _ x hx => by simp [normL] at hx) (fun l x ih hm => ?_) m
    rw [normL_snoc]
    have hx := hm x (by simp)
    exact short_with (ih (fun y hy => hm y (by simp [hy]))) hx.1 hx.2
  exact key l h
theorem norm_take (l : List At) (k : Nat) (h : k < l.length) : normL (l.take (k + 1)) = withL (normL (l.take k)) l[k].1 l[k].2 := by rw [take_succ' l k h, normL_snoc]
theorem short_take {l : List At} (h : Short l) (k : Nat) : Short (l.take k) := fun x hx => h x (List.mem_of_mem_take hx)
set_option maxHeartbeats 4000000 in
theorem refNorm_any (A : Option Addr) (c : Nat) (l : List At) (w : World) (h : TRow w w.heap.size A l) (hl : l.length ≤ 10000) (hs : Short l) : Calls Try.prog 22 #[.slice A l.length c] w (MadeN w (normL l)) := by
  have H := Lib.hid h; have HS := Lib.hid hs
  clear h hs
  go_enter Try.func22, Try.ntmps22
  go_wp2
  go_loopg [3, 4, 7] l.length (fun g s3 _ s7 wr => ∃ (k : Nat) (A' : Option Addr) (c' : Nat), s7 = .int .i64 k ∧ s3 = .slice A' (normL (l.take k)).length c' ∧ k ≤ l.length ∧ l.length - k ≤ g ∧ RowKit.Hid (TRow wr wr.heap.size A' (normL (l.take k)) ∧ (normL (l.take k)).length ≤ c' ∧ c' ≤ maxLen ∧ (A' = none → c' = 0)) ∧ RowKit.Hid (Below w.heap.size w wr))
  case atStart => exact ⟨0, none, 0, rfl, rfl, by omega, by omega, Lib.hid ⟨TRow.nil _ _ _, by simp [normL], by simp [maxLen], fun _ => rfl⟩, Lib.hid (Below.refl _ _)⟩
  case round =>
    obtain ⟨k, A', c', rfl, rfl, hk, hg, HT, HB⟩ := hrel
    by_cases hlt : k < l.length
    · have h1 : (k : Int) < (l.length : Int) := by omega
      obtain ⟨b, off, x, rfl, hb, hx, c1, c2⟩ := trow_at (H.out.up HB.out) hlt
      have hxm : x ∈ l := by rw [hx]; exact List.getElem_mem _
      obtain ⟨hx1, hx2⟩ := HS.out x hxm
      have hnl := norm_len (l.take k)
      have hnl2 : (normL (l.take k)).length ≤ 10000 := by simp at hnl; omega
      have HN := Lib.hid (norm_take l k hlt)
      rw [← hx] at HN
      have C := Lib.hid (refWith_any A' c' (normL (l.take k)) x.1 x.2 wr.drew HT.out.1 (by omega) (norm_short (short_take HS.out k)) hx1)
      clear hx hxm hnl
      go_wp2_with fail
      go_still_tail 11, (by kernel_rfl)
      change wpList _ _ _ _ _ wr.drew
      have HBD := Lib.hid (HB.out.drew)
      clear c1 c2 HT HB
      generalize wr.drew = w2 at C HBD ⊢
      go_wp2_with (go_at_call 20; refine C.out.mono ?_; rintro e w3 ⟨v3, rfl, ho, hb3⟩)
      obtain ⟨A3, c3, rfl, r1, r2, r3, r4⟩ := trow_own ho
      have HB3 := Lib.hid (HBD.out.trans (hb3.mono HBD.out.size))
      have HT3 := Lib.hid (And.intro r1 (And.intro r2 (And.intro r3 r4)))
      clear ho hb3 r1 r2 r3 r4 C HBD
      rw [← HN.out] at HT3 ⊢
      go_roundg (l.length - (k + 1))
      case measure => omega
      case rel => exact ⟨k + 1, A3, c3, by go_num, rfl, by omega, by omega, HT3, HB3⟩
    · have h1 : ¬ (k : Int) < (l.length : Int) := by omega
      have e : l.take k = l := List.take_of_length_le (by omega)
      rw [e] at HT
      rw [e]
      go_wp2_with fail
      go_ret
      exact ⟨A', c', rfl, HT.out.1, HT.out.2.1, HT.out.2.2.1, HT.out.2.2.2, HB.out⟩
end Go.Proofs.Yteamnjaepgfcmaa
