/-
  tendrilref02.Words: what it answers.
-/
import Derived.Test.YtmobnjcjpjeflaaDoorSame
import Derived.Test.YtmobnjcjpjeflaaDoorSplitMath
import Derived.Deep.RegionHeld3
import Derived.Deep.AppendLies
namespace Go.Proofs.YtmobnjcjpjeflaaDoor
open Go.RowKit
set_option linter.unusedVariables false
set_option linter.unusedSimpArgs false

/-- The pieces so far, each no longer than the text. -/
def RWRel (w : World) (l : List UInt8) (out i : Value) (wr : World) : Prop :=
  ∃ (k g cap : Nat) (ws : List ByteArray), k ≤ l.length ∧ i = .int .i64 k ∧ out = .slice (some ⟨g, 0, none⟩) ws.length cap ∧ ws.map (·.data.toList) = splitSp (l.take k) ∧ (∀ x ∈ ws, x.size ≤ k) ∧ ws.length ≤ k + 1 ∧
    OwnS wr w.heap.size (.slice (some ⟨g, 0, none⟩) ws.length cap) ws ∧ Below w.heap.size w wr

theorem set_last {α : Type} : ∀ (l : List α) (y : α), l ≠ [] → l.set (l.length - 1) y = l.dropLast ++ [y] := by
  intro l
  induction l with
  | nil => intro y h; exact absurd rfl h
  | cons a r ih =>
    intro y _
    cases r with
    | nil => rfl
    | cons b r =>
      have := ih y (by simp)
      simpa using this
theorem last_getD {α : Type} (d : α) : ∀ (l : List α), l.getLastD d = l.getD (l.length - 1) d := by
  intro l
  induction l with
  | nil => rfl
  | cons a r ih =>
    cases r with
    | nil => rfl
    | cons b r =>
      simp only [List.getLastD_cons, List.length_cons] at ih ⊢
      simpa using ih
theorem app_list (a b : ByteArray) : (a ++ b).data.toList = a.data.toList ++ b.data.toList := Joins.data_append a b
theorem drop_cons' (s : ByteArray) (k : Nat) (h : k < s.size) : s.data.toList.drop k = s.data.toList.getD k 0 :: s.data.toList.drop (k + 1) := by
  have h' : k < s.data.toList.length := by rw [size_list]; exact h
  rw [List.drop_eq_getElem_cons h']
  simp [List.getD_eq_getElem?_getD, List.getElem?_eq_getElem h']
theorem one_list (s : ByteArray) (k : Nat) (h : k < s.size) : (s.extract k (k + 1)).data.toList = [s.data.toList.getD k 0] := by
  rw [extract_list, drop_cons' s k h]
  simp
theorem words_push {s : ByteArray} {k : Nat} {ws : List ByteArray} {x : ByteArray} (hws : ws.map (·.data.toList) = splitSp (s.data.toList.take k)) (hsz : ∀ y ∈ ws, y.size ≤ k) (hpos : 0 < ws.length)
    (hx : x = ws.getD (ws.length - 1) ByteArray.empty) (hlt : k < s.size) (h32 : s.data.toList.getD k 0 ≠ 32) :
    (ws.set (ws.length - 1) (x ++ s.extract k (k + 1))).map (·.data.toList) = splitSp (s.data.toList.take (k + 1)) ∧ (∀ y ∈ ws.set (ws.length - 1) (x ++ s.extract k (k + 1)), y.size ≤ k + 1) ∧ x.size ≤ k := by
  have hne : ws ≠ [] := by intro e; rw [e] at hpos; simp at hpos
  have hxm : x ∈ ws := by
    rw [hx, List.getD_eq_getElem?_getD, List.getElem?_eq_getElem (show ws.length - 1 < ws.length by omega)]
    exact List.getElem_mem _
  have hxk := hsz x hxm
  refine ⟨?_, ?_, hxk⟩
  · rw [take_push _ k (by rw [size_list]; exact hlt), ← hws, set_last ws _ hne]
    unfold pushB
    rw [if_neg h32, last_getD]
    simp only [List.map_append, List.map_dropLast, List.map_cons, List.map_nil, List.length_map, app_list, one_list s k hlt]
    congr 3
    rw [hx]
    simp [List.getD_eq_getElem?_getD, List.getElem?_eq_getElem (show ws.length - 1 < ws.length by omega)]
  · intro y hy
    rcases List.mem_or_eq_of_mem_set hy with h | h
    · have := hsz y h; omega
    · subst h
      have : (x ++ s.extract k (k + 1)).size = x.size + (s.extract k (k + 1)).size := by simp
      rw [this]
      simp
      omega

theorem words_pos {ws : List ByteArray} {l : List UInt8} (h : ws.map (·.data.toList) = splitSp l) : 0 < ws.length := by
  have := splitSp_ne l
  rw [← h] at this
  cases ws with
  | nil => exact absurd rfl this
  | cons => simp

def Full (ws : List ByteArray) (j : Nat) : Prop := ∀ t, t < j → (ws.getD t ByteArray.empty).size ≠ 0
theorem full_succ {ws : List ByteArray} {j : Nat} (h : Full ws j) (e : (ws.getD j ByteArray.empty).size ≠ 0) : Full ws (j + 1) := by
  intro t ht
  rcases Nat.lt_or_ge t j with h1 | h1
  · exact h t h1
  · have : t = j := by omega
    subst this; exact e
theorem list_ne {s : ByteArray} (h : s.size ≠ 0) : s.data.toList ≠ [] := by intro e; exact h (by have := congrArg List.length e; rw [size_list] at this; simpa using this)
theorem okW_empty {s : ByteArray} {ws : List ByteArray} {j : Nat} (h0 : s.size ≠ 0) (hall : ws.map (·.data.toList) = splitSp s.data.toList) (hj : j < ws.length) (hx : (ws.getD j ByteArray.empty).size = 0) : okW s.data.toList = ([], false) := by
  have hany : (splitSp s.data.toList).any (·.isEmpty) = true := by
    rw [← hall, List.any_map, List.any_eq_true]
    refine ⟨ws.getD j ByteArray.empty, ?_, ?_⟩
    · rw [List.getD_eq_getElem?_getD, List.getElem?_eq_getElem hj]; exact List.getElem_mem _
    · have : (ws.getD j ByteArray.empty).data.toList = [] := List.eq_nil_of_length_eq_zero (by rw [size_list]; exact hx)
      show (ws.getD j ByteArray.empty).data.toList.isEmpty = true
      rw [this]; rfl
  simp [okW, list_ne h0, hany]
theorem okW_full {s : ByteArray} {ws : List ByteArray} (h0 : s.size ≠ 0) (hall : ws.map (·.data.toList) = splitSp s.data.toList) (hf : Full ws ws.length) : okW s.data.toList = (ws.map (·.data.toList), true) := by
  have hany : (splitSp s.data.toList).any (·.isEmpty) = false := by
    rw [← hall, List.any_map, List.any_eq_false]
    intro x hx
    obtain ⟨t, ht, rfl⟩ := List.getElem_of_mem hx
    have := hf t ht
    rw [List.getD_eq_getElem?_getD, List.getElem?_eq_getElem ht] at this
    have hne := list_ne this
    simpa using hne
  simp only [okW, list_ne h0, hany, if_false]
  simp [hall]

set_option maxHeartbeats 2000000 in
theorem refWords_any (s : ByteArray) (w : World) (hs : s.size ≤ 100000) : Calls Tryd.prog 17 #[.string s] w (WordsPost w s.data.toList) := by
  obtain ⟨i0, hi, hz0, hz1, hz2⟩ := info_parts Tryd.info9
  by_cases h0 : s.size = 0
  · have hl : s.data.toList = [] := List.eq_nil_of_length_eq_zero (by rw [size_list]; exact h0)
    have hok : okW s.data.toList = ([], true) := by simp [okW, hl]
    have HK := Lib.hid hok
    have hr : s.toList = [] := str_nil h0
    clear hl hok
    go_enter Tryd.func17, Tryd.ntmps17
    go_wp2
    go_ret2
    exact wordsPost_mk (ws := []) HK.out (World.ownsRow_nil _ _ _ _) (Below.refl _ _)
  · have hr : s.toList ≠ [] := str_ne h0
    have hr1 : (s.toList == []) = false := by simpa using hr
    have hr2 : s.toList.isEmpty = false := by simpa using hr
    clear hr
    go_enter Tryd.func17, Tryd.ntmps17
    go_wp2
    go_loopw [4, 12] (RWRel w s.data.toList) (fun _ i _ => s.size - (intOf i).toNat)
    case atStart =>
      have hl := World.ownsRow_lit (base := w.heap.size) (e := 9) (size := 1) w #[.string ⟨#[]⟩] 1 (Nat.le_refl _) (by simp [maxLen]) (by simp)
      exact ⟨0, w.heap.size, 1, [⟨#[]⟩], by omega, rfl, rfl, rfl, fun x hx => by simp at hx; subst hx; exact Nat.zero_le _, by simp, by unfold OwnS; simpa using hl, (Below.refl _ _).alloc (Nat.le_refl _) _⟩
    case round =>
      obtain ⟨k, g, cap, ws, hk, rfl, rfl, hws, hsz, hwl, hown, hbel⟩ := hrel
      rw [size_list] at hk
      have HWS := Lib.hid hws; clear hws
      have HSZ := Lib.hid hsz; clear hsz
      by_cases hlt : k < s.size
      · have ek := byte_eq s k hlt
        by_cases h32 : byte s k = 32
        · have heq : (byte s k == 32) = true := by simpa using h32
          have hszb := hbel.size
          unfold OwnS at hown
          go_wp2_with (at_builtin; refine wpList_app1 rfl _ _ 29 rfl w.heap.size 9 i0 (.string ByteArray.empty) 16 Tryd.underlying29 hi hz0 hz1 hz2 rfl _ _ _ rfl hown (.string ⟨#[]⟩) rfl rfl (by omega) (by simp only [maxLen]; omega) (by omega) ?_; intro v' w1 hown1 hbel1)
          obtain ⟨g', cap', hv', -, -⟩ := hown1.form (by omega)
          rw [hv'] at hown1 ⊢
          refine ⟨⟨k + 1, g', cap', ws ++ [⟨#[]⟩], by rw [size_list]; omega, by go_num, by simp, ?_, ?_, by simp; omega, ?_, hbel.trans hbel1⟩, by simp [intOf]; omega⟩
          · rw [take_push _ k (by rw [size_list]; exact hlt), ← HWS.out, (getD_byte s k).2 h32]
            simp [pushB]
          · intro y hy
            rcases List.mem_append.1 hy with h | h
            · have := HSZ.out y h; omega
            · simp at h; subst h; exact Nat.zero_le _
          · unfold OwnS
            simpa using hown1
        · have hne : (byte s k == 32) = false := by simpa using h32
          have hpos : 0 < ws.length := words_pos HWS.out
          obtain ⟨x, hx⟩ : ∃ x, x = ws.getD (ws.length - 1) ByteArray.empty := ⟨_, rfl⟩
          have hxs : x.size ≤ 100000 := by have := (words_push HWS.out HSZ.out hpos hx hlt (fun e => h32 ((getD_byte s k).1 e))).2.2; omega
          unfold OwnS at hown
          have hcell : wr.cell? ⟨g, ws.length - 1, none⟩ = some (.string x) := by
            rw [hown.cellAt _ (by omega), hx]
            simp [List.getD_eq_getElem?_getD, List.getElem?_eq_getElem (show ws.length - 1 < ws.length by omega)]
          have hfr := hown.frozenAt (ws.length - 1)
          have HX := Lib.hid hx; clear hx
          have wl : IntKind.i64.wrap ((ws.length : Int) - 1) = (ws.length : Int) - 1 := IntWalk.i64_in _ (by omega)
          have wk : IntKind.i64.wrap ((k : Int) + 1) = (k : Int) + 1 := IntWalk.i64_in _ (by omega)
          have tl : ((ws.length : Int) - 1).toNat = ws.length - 1 := by omega
          have tk : ((k : Int) + 1).toNat = k + 1 := by omega
          have l0 : 0 ≤ (ws.length : Int) - 1 := by omega
          have hcat : ¬ 9223372036854775807 < x.size + (min (k + 1) s.size - k) := by omega
          have l2 : (1 : Int) ≤ (ws.length : Int) := by omega
          have l1 : (ws.length : Int) - 1 < (ws.length : Int) := by omega
          have k1 : (k : Int) + 1 ≤ (s.size : Int) := by omega
          have k2 : (k : Int) ≤ (k : Int) + 1 := by omega
          go_wp2_with fail
          refine wp_region_any (by kernel_rfl) ?_
          try (change wpAny _ _ _ _ _ _ _ (World.drew _))
          refine wpAny_take (i := 0) (oi := ⟨some 22, _, _, _, _, _⟩) (v := ?_) rfl (by kernel_rfl) (by kernel_rfl) (by kernel_rfl) (fun _ _ _ h => h) (Or.inl ⟨by rfl, ?_⟩) ?_
          rotate_left
          · (intro w; go_simp; try with_reducible rfl)
          try simp only [Act.put, List.setIfInBounds_toArray, List.set_cons_zero, List.set_cons_succ]
          refine wpAny_take (i := 1) (oi := ⟨some 23, _, _, _, _, _⟩) (v := ?_) rfl (by kernel_rfl) (by kernel_rfl) (by kernel_rfl) (fun _ _ _ h => h) (Or.inl ⟨by rfl, ?_⟩) ?_
          rotate_left
          · (intro w; go_simp; try with_reducible rfl)
          try simp only [Act.put, List.setIfInBounds_toArray, List.set_cons_zero, List.set_cons_succ]
          refine wpAny_take (i := 2) (oi := ⟨some 24, _, _, _, _, _⟩) (v := ?_) rfl (by kernel_rfl) (by kernel_rfl) (by kernel_rfl) (fun _ _ _ h => h) (Or.inl ⟨by rfl, ?_⟩) ?_
          rotate_left
          · (intro w; go_simp; try with_reducible rfl)
          try simp only [Act.put, List.setIfInBounds_toArray, List.set_cons_zero, List.set_cons_succ]
          refine wpAny_take (i := 3) (oi := ⟨some 25, _, _, _, _, _⟩) (v := ?_) rfl (by kernel_rfl) (by kernel_rfl) (by kernel_rfl) (fun _ _ _ h => h) (Or.inl ⟨by rfl, ?_⟩) ?_
          rotate_left
          · (intro w; go_simp; try with_reducible rfl)
          try simp only [Act.put, List.setIfInBounds_toArray, List.set_cons_zero, List.set_cons_succ]
          refine wpAny_take (i := 4) (oi := ⟨some 26, _, _, _, _, _⟩) (v := ?_) rfl (by kernel_rfl) (by kernel_rfl) (by kernel_rfl) (fun _ _ _ h => h) (Or.inl ⟨by rfl, ?_⟩) ?_
          rotate_left
          · (intro w; go_simp; try with_reducible rfl)
          try simp only [Act.put, List.setIfInBounds_toArray, List.set_cons_zero, List.set_cons_succ]
          refine wpAny_take (i := 5) (oi := ⟨some 27, _, _, _, _, _⟩) (v := ?_) rfl (by kernel_rfl) (by kernel_rfl) (by kernel_rfl) (fun _ _ _ h => h) (Or.inl ⟨by rfl, ?_⟩) ?_
          rotate_left
          · (intro w; go_simp; try with_reducible rfl)
          try simp only [Act.put, List.setIfInBounds_toArray, List.set_cons_zero, List.set_cons_succ]
          refine wpAny_take (i := 6) (oi := ⟨some 28, _, _, _, _, _⟩) (v := ?_) rfl (by kernel_rfl) (by kernel_rfl) (by kernel_rfl) (fun _ _ _ h => h) (Or.inl ⟨by rfl, ?_⟩) ?_
          rotate_left
          · (intro w; go_simp; try with_reducible rfl)
          try simp only [Act.put, List.setIfInBounds_toArray, List.set_cons_zero, List.set_cons_succ]
          refine wpAny_take (i := 7) (oi := ⟨some 29, _, _, _, _, _⟩) (v := ?_) rfl (by kernel_rfl) (by kernel_rfl) (by kernel_rfl) (fun _ _ _ h => h) (Or.inl ⟨by rfl, ?_⟩) ?_
          rotate_left
          · (intro w; go_simp; try with_reducible rfl)
          try simp only [Act.put, List.setIfInBounds_toArray, List.set_cons_zero, List.set_cons_succ]
          refine wpAny_take (i := 8) (oi := ⟨some 30, _, _, _, _, _⟩) (v := ?_) rfl (by kernel_rfl) (by kernel_rfl) (by kernel_rfl) (fun _ _ _ h => h) (Or.inl ⟨by rfl, ?_⟩) ?_
          rotate_left
          · (intro w; go_simp; try with_reducible rfl)
          try simp only [Act.put, List.setIfInBounds_toArray, List.set_cons_zero, List.set_cons_succ]
          refine wpAny_take (i := 10) (oi := ⟨some 32, _, _, _, _, _⟩) (v := ?_) rfl (by kernel_rfl) (by kernel_rfl) (by kernel_rfl) (fun _ _ _ h => h) (Or.inl ⟨by rfl, ?_⟩) ?_
          rotate_left
          · (intro w; go_simp; try with_reducible rfl)
          try simp only [Act.put, List.setIfInBounds_toArray, List.set_cons_zero, List.set_cons_succ]
          refine wpAny_take (i := 11) (oi := ⟨some 33, _, _, _, _, _⟩) (v := ?_) rfl (by kernel_rfl) (by kernel_rfl) (by kernel_rfl) (fun _ _ _ h => h) (Or.inl ⟨by rfl, ?_⟩) ?_
          rotate_left
          · (intro w; go_simp; try with_reducible rfl)
          try simp only [Act.put, List.setIfInBounds_toArray, List.set_cons_zero, List.set_cons_succ]
          refine wpAny_take (i := 12) (oi := ⟨some 34, _, _, _, _, _⟩) (v := ?_) rfl (by kernel_rfl) (by kernel_rfl) (by kernel_rfl) (fun _ _ _ h => h) (Or.inl ⟨by rfl, ?_⟩) ?_
          rotate_left
          · (intro w; go_simp; try with_reducible rfl)
          try simp only [Act.put, List.setIfInBounds_toArray, List.set_cons_zero, List.set_cons_succ]
          refine wpAny_take (i := 13) (oi := ⟨some 35, _, _, _, _, _⟩) (v := ?_) rfl (by kernel_rfl) (by kernel_rfl) (by kernel_rfl) (fun _ _ _ h => h) (Or.inl ⟨by rfl, ?_⟩) ?_
          rotate_left
          · (intro w; go_simp; try with_reducible rfl)
          try simp only [Act.put, List.setIfInBounds_toArray, List.set_cons_zero, List.set_cons_succ]
          refine wpAny_take (i := 14) (oi := ⟨some 36, _, _, _, _, _⟩) (v := ?_) rfl (by kernel_rfl) (by kernel_rfl) (by kernel_rfl) (fun _ _ _ h => h) (Or.inl ⟨by rfl, ?_⟩) ?_
          rotate_left
          · (intro w; go_simp; try with_reducible rfl)
          try simp only [Act.put, List.setIfInBounds_toArray, List.set_cons_zero, List.set_cons_succ]
          refine wpAny_ready (rs := [9]) (by kernel_rfl) (by simp) ?_
          refine AllReady.cons (o := ⟨some 31, _, _, _, _, _⟩) rfl (fun K hK => ?_) AllReady.nil
          go_simp
          skip
          refine hK _ _ ?_
          clear hK K
          try simp only [Act.put, List.setIfInBounds_toArray, List.set_cons_zero, List.set_cons_succ]
          refine wpAny_take (i := 15) (oi := ⟨some 37, _, _, _, _, _⟩) (v := ?_) rfl (by kernel_rfl) (by kernel_rfl) (by kernel_rfl) (fun _ _ _ h => h) (Or.inl ⟨by rfl, ?_⟩) ?_
          rotate_left
          · (intro w; go_simp; try with_reducible rfl)
          try simp only [Act.put, List.setIfInBounds_toArray, List.set_cons_zero, List.set_cons_succ]
          refine wpAny_take (i := 16) (oi := ⟨some 38, _, _, _, _, _⟩) (v := ?_) rfl (by kernel_rfl) (by kernel_rfl) (by kernel_rfl) (fun _ _ _ h => h) (Or.inl ⟨by rfl, ?_⟩) ?_
          rotate_left
          · (intro w; go_simp; try with_reducible rfl)
          try simp only [Act.put, List.setIfInBounds_toArray, List.set_cons_zero, List.set_cons_succ]
          refine wpAny_ready (rs := [17]) (by kernel_rfl) (by simp) ?_
          refine AllReady.cons (o := ⟨none, _, _, _, _, _⟩) rfl (fun K hK => ?_) AllReady.nil
          go_simp
          skip
          refine hK _ _ ?_
          clear hK K
          try simp only [Act.put, List.setIfInBounds_toArray, List.set_cons_zero, List.set_cons_succ]
          refine wpAny_done (by kernel_rfl) ?_ _
          clear wl wk tl tk hcell hfr
          go_wp2_with fail
          have hst := hown.stored (ws.length - 1) (.string (x ++ s.extract k (k + 1)))
          have hgB : w.heap.size ≤ g := ((World.ownsRow.lt hown) g rfl).1
          obtain ⟨p1, p2, p3⟩ := words_push HWS.out HSZ.out hpos HX.out hlt (fun e => h32 ((getD_byte s k).1 e))
          refine ⟨⟨k + 1, g, cap, ws.set (ws.length - 1) (x ++ s.extract k (k + 1)), by rw [size_list]; omega, by go_num, by simp, p1, p2, by simp; omega, ?_, ?_⟩, by simp [intOf]; omega⟩
          · have h1 := hst.1
            unfold OwnS
            rw [List.length_set, List.map_set]
            exact h1
          · exact (hbel.setCell (p := ⟨g, ws.length - 1, none⟩) hgB _).drew
      · have hke : k = s.size := by omega
        have hall : ws.map (·.data.toList) = splitSp s.data.toList := by rw [HWS.out, List.take_of_length_le (by rw [size_list]; omega)]
        have HALL := Lib.hid hall; clear hall hke
        have hrow := hown
        unfold OwnS at hrow
        go_wp2_with fail
        go_loop [42] (fun i => ∃ j : Nat, j ≤ ws.length ∧ i = .int .i64 j ∧ Full ws j) (fun i => ws.length - (intOf i).toNat)
        case atStart => exact ⟨0, by omega, rfl, fun t ht => by omega⟩
        case round =>
          obtain ⟨j, hj, rfl, hfull⟩ := hrel
          have HFU := Lib.hid hfull; clear hfull
          by_cases hjl : j < ws.length
          · obtain ⟨x, hx⟩ : ∃ x, x = ws.getD j ByteArray.empty := ⟨_, rfl⟩
            have hcell : wr.cell? ⟨g, j, none⟩ = some (.string x) := by
              rw [hrow.cellAt _ (by omega), hx]
              simp [List.getD_eq_getElem?_getD, List.getElem?_eq_getElem hjl]
            have HX := Lib.hid hx; clear hx
            by_cases hx0 : x.size = 0
            · have hr : x.toList = [] := str_nil hx0
              have hf := okW_empty h0 HALL.out hjl (HX.out ▸ hx0)
              have HF := Lib.hid hf; clear hf
              go_wp2_with fail
              go_ret2
              exact wordsPost_mk (ws := []) HF.out (World.ownsRow_nil _ _ _ _) hbel
            · have hr := str_ne hx0
              have hr1 : (x.toList == []) = false := by simpa using hr
              have hr2 : x.toList.isEmpty = false := by simpa using hr
              clear hr
              go_wp2_with fail
              exact ⟨⟨j + 1, by omega, by go_num, full_succ HFU.out (HX.out ▸ hx0)⟩, by simp [intOf]; omega⟩
          · have hf := okW_full h0 HALL.out (fun t ht => HFU.out t (by omega))
            have HF := Lib.hid hf; clear hf
            go_wp2_with fail
            go_ret2
            exact wordsPost_mk HF.out hown hbel
end Go.Proofs.YtmobnjcjpjeflaaDoor
