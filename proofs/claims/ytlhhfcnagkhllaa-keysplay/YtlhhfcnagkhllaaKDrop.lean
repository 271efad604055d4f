/-
  tendrilref07.Put at a nil slice, Drop; what they keep.
-/
import Derived.Test.YtlhhfcnagkhllaaKPut
namespace Go.Proofs.Ytlhhfcnagkhllaa
open Go.RowKit Go.Maps
set_option linter.unusedVariables false

set_option maxHeartbeats 4000000 in
theorem rput_nil (p : En) (w : World) : Calls Try.prog 12 #[.slice none 0 0, enV p] w (PPost w [] p) := by
  obtain ⟨i0, hi, hz0, hz1, hz2⟩ := info_parts Try.info36
  have hbx := ebox_new w p
  have hb0 := lit_below w (.cells (enCells p) 36)
  have hsz0 : w.heap.size + 1 ≤ (w.alloc (.cells (enCells p) 36)).heap.size := by simp
  obtain ⟨w1, hw1⟩ : ∃ w1, w1 = w.alloc (.cells (enCells p) 36) := ⟨_, rfl⟩
  rw [← hw1] at hbx hb0 hsz0
  have HW := Lib.hid hw1
  clear hw1
  go_enter Try.func12, Try.ntmps12
  go_wp2_with fail
  rw [show w.alloc (.cells #[.string p.1.tag, .string p.1.key, .int .i64 p.1.n, .int .i64 p.2] 36) = w1 from HW.out.symm]
  go_loopw [6] (fun i wr => i = .int .i64 0 ∧ Below w.heap.size w wr ∧ EBox wr w.heap.size p ∧ w.heap.size + 1 ≤ wr.heap.size) (fun _ _ => 0)
  case atStart => exact ⟨rfl, hb0, hbx, hsz0⟩
  case round =>
    clear hbx hb0 hsz0
    obtain ⟨rfl, hb, hbx, hsz⟩ := hrel
    have HB := Lib.hid hb; have HBX := Lib.hid hbx
    clear hb hbx
    go_wp2_with fail
    go_quiet (fail)
    have HB3 := Lib.hid (HB.out.trans (below_drewN _ wr nq))
    have HBX3 := Lib.hid (HBX.out.up (below_drewN _ wr nq))
    have hsz3 : w.heap.size + 1 ≤ (wr.drewN nq).heap.size := hsz
    generalize wr.drewN nq = w3 at HB3 HBX3 hsz3 ⊢
    have hbx1 := HBX3.out
    have k1 := hbx1.t
    have k2 := hbx1.k
    have k3 := hbx1.n
    have k4 := hbx1.v
    go_wp2_with (at_builtin; first
      | (refine wpList_append_own_none rfl _ _ 27 rfl (w.heap.size + 1) 36 i0 4 Try.underlying27 hi _ 1 _ rfl hown2 rfl ?_)
      | (refine wpList_app4 rfl _ _ 27 rfl (w.heap.size + 1) 36 i0 _ Try.underlying27 hi hz0 hz1 hz2 rfl _ 0 [] rfl (World.ownsRow_nil _ _ _ _) p _ rfl rfl (by omega) hsz3 ?_; intro v2 w5 hown2 hbel2; rw [Nat.zero_add] at hown2)
      | (refine wpList_append_own_none rfl _ _ 27 rfl (w.heap.size + 1) 36 i0 4 Try.underlying27 hi _ 0 [] rfl (World.ownsRow_nil _ _ _ _) rfl ?_))
    go_ret
    exact ⟨0, ⟨by simp, fun j hj => by simp at hj, fun h => by simp at h⟩, _, rfl, own_ens (own_down hown2 (Nat.le_succ _)) rfl rfl, HB3.out.trans (hbel2.mono (Nat.le_succ _))⟩

/-- A slice of entries, as a value. -/
structure EV (w : World) (A : Option Addr) (c : Nat) (es : List En) : Prop where
  row : ERow w w.heap.size A es
  le : es.length ≤ c
  cap : c ≤ maxLen
  nil : A = none → c = 0
  frm : A = none ∨ ∃ b off, A = some ⟨b, off, none⟩
theorem EV.up {w w' : World} {A : Option Addr} {c : Nat} {es : List En} (h : EV w A c es) (hb : Below w.heap.size w w') : EV w' A c es := ⟨h.row.up hb, h.le, h.cap, h.nil, h.frm⟩
theorem ev_own {w : World} {base e : Nat} {v : Value} {es : List En} (h : w.ownsRow base e 4 v es.length (ens es)) : ∃ A c, v = .slice A es.length c ∧ EV w A c es := by
  obtain ⟨A, c, h1, h2, h3, h4, h5⟩ := erow_own h
  refine ⟨A, c, h1, h2, h3, h4, h5, ?_⟩
  rcases h.2 with ⟨h6, _⟩ | ⟨g, cap, cur, h6, _⟩
  · rw [h1] at h6; exact .inl (by simp at h6; exact h6.1)
  · rw [h1] at h6; exact .inr ⟨g, 0, by simp at h6; exact h6.1⟩
theorem ev_nil (w : World) : EV w none 0 [] := ⟨ERow.nil _ _ _, by simp, by simp [maxLen], fun _ => rfl, .inl rfl⟩
theorem rput_any (A : Option Addr) (c : Nat) (es : List En) (p : En) (w : World) (h : EV w A c es) (hl : es.length ≤ 1000000) (hsm : ∀ q ∈ es, small q.1) (hp : small p.1) :
    Calls Try.prog 12 #[.slice A es.length c, enV p] w (PPost w es p) := by
  cases A with
  | none =>
    obtain rfl := erow_none h.row
    obtain rfl := h.nil rfl
    exact rput_nil p w
  | some a =>
    obtain ⟨b, off, hA⟩ := h.frm.resolve_left (by simp)
    cases hA
    exact rput_some b off c es p w h.row hl h.le h.cap hsm hp
theorem ins_perm (es : List En) (p : En) (k : Nat) : (insE es p k).Perm (p :: es) := by
  unfold insE
  have h := List.perm_middle (a := p) (l₁ := es.take k) (l₂ := es.drop k)
  rwa [List.take_append_drop] at h
abbrev Sorted (es : List En) : Prop := (es.map Prod.fst).Pairwise fun a b => cmpLab a b < 0
theorem sorted_get {es : List En} (h : Sorted es) {i j : Nat} (hj : j < es.length) (hij : i < j) : cmpLab (es[i]'(by omega)).1 es[j].1 < 0 := by
  have := List.pairwise_iff_getElem.1 h i j (by simp; omega) (by simpa using hj) hij
  simpa using this
theorem ins_sorted {es : List En} {p : En} {k : Nat} (hs : Sorted es) (hk : InAt es p k) (hn : p.1 ∉ es.map Prod.fst) : Sorted (insE es p k) := by
  obtain ⟨h1, h2, h3⟩ := hk
  have hlow : ∀ q ∈ es.take k, cmpLab q.1 p.1 < 0 := by
    intro q hq
    obtain ⟨j, hj, rfl⟩ := List.mem_iff_getElem.1 hq
    have hj' : j < k := by simp at hj; omega
    have := h2 j (by omega) hj'
    simpa [lessB] using this
  have hhigh : ∀ q ∈ es.drop k, cmpLab p.1 q.1 < 0 := by
    intro q hq
    obtain ⟨j, hj, rfl⟩ := List.mem_iff_getElem.1 hq
    have hj' : k + j < es.length := by simp at hj; omega
    have e : (es.drop k)[j] = es[k + j] := by simp
    rw [e]
    have hf := h3 (by omega)
    have hk0 : cmpLab p.1 (es[k]'(by omega)).1 < 0 := by
      have a1 : ¬ cmpLab (es[k]'(by omega)).1 p.1 < 0 := by simpa [lessB] using hf
      have a2 := cmpLab_neg (es[k]'(by omega)).1 p.1
      have a3 : cmpLab (es[k]'(by omega)).1 p.1 ≠ 0 := fun h0 => hn (by rw [← cmpLab_zero h0]; exact List.mem_map.2 ⟨_, List.getElem_mem _, rfl⟩)
      omega
    by_cases hj0 : j = 0
    · subst hj0; exact hk0
    · exact cmpLab_trans hk0 (sorted_get hs hj' (by omega))
  unfold Sorted insE
  rw [List.map_append, List.map_cons]
  have hst : ((es.take k).map Prod.fst).Pairwise fun a b => cmpLab a b < 0 := by rw [List.map_take]; exact List.Pairwise.sublist (List.take_sublist _ _) hs
  have hsd : ((es.drop k).map Prod.fst).Pairwise fun a b => cmpLab a b < 0 := by rw [List.map_drop]; exact List.Pairwise.sublist (List.drop_sublist _ _) hs
  refine List.pairwise_append.2 ⟨hst, List.pairwise_cons.2 ⟨fun b hb => ?_, hsd⟩, fun a ha b hb => ?_⟩
  · obtain ⟨q, hq, rfl⟩ := List.mem_map.1 hb
    exact hhigh q hq
  · obtain ⟨q, hq, rfl⟩ := List.mem_map.1 ha
    rcases List.mem_cons.1 hb with rfl | hb
    · exact hlow q hq
    · obtain ⟨q', hq', rfl⟩ := List.mem_map.1 hb
      exact cmpLab_trans (hlow q hq) (hhigh q' hq')
def delE (es : List En) (k : Nat) : List En := es.take k ++ es.drop (k + 1)
theorem del_perm {es : List En} {k : Nat} (hk : k < es.length) : es.Perm (es[k] :: delE es k) := by
  have h := List.perm_middle (a := es[k]) (l₁ := es.take k) (l₂ := es.drop (k + 1))
  have e : es.take k ++ es[k] :: es.drop (k + 1) = es := by rw [← List.drop_eq_getElem_cons hk, List.take_append_drop]
  rw [e] at h
  exact h
theorem del_sorted {es : List En} (hs : Sorted es) (k : Nat) : Sorted (delE es k) := by
  unfold Sorted delE
  rw [List.map_append]
  refine List.Pairwise.sublist ?_ hs
  rw [List.map_take, List.map_drop]
  have h := List.Sublist.append (List.Sublist.refl ((es.map Prod.fst).take k)) (List.drop_sublist 1 ((es.map Prod.fst).drop k))
  rw [List.take_append_drop, List.drop_drop] at h
  exact h
theorem sorted_nodup {es : List En} (hs : Sorted es) : (es.map Prod.fst).Nodup := by
  refine List.Pairwise.imp ?_ hs
  intro a b h e
  subst e
  rw [cmpLab_self] at h
  omega

set_option maxRecDepth 100000 in
set_option maxHeartbeats 4000000 in
theorem rdrop_any (b off c : Nat) (es : List En) (k : Nat) (w : World) (hr : ERow w w.heap.size (some ⟨b, off, none⟩) es) (hl : es.length ≤ 1000000) (hc : es.length ≤ c) (hcm : c ≤ maxLen) (hk : k < es.length) :
    Calls Try.prog 15 #[.slice (some ⟨b, off, none⟩) es.length c, .int .i64 k] w (MadeE w (delE es k)) := by
  obtain ⟨i0, hi, hz0, hz1, hz2⟩ := info_parts Try.info36
  unfold maxLen at hcm
  have HR := Lib.hid hr
  clear hr
  have HTL := Lib.hid (show (es.take k).length = k by simp; omega)
  have hdl : (es.drop (k + 1)).length = es.length - (k + 1) := by simp
  have HDL := Lib.hid hdl
  clear hdl
  by_cases hca : c = k + 1
  · have HD0 := Lib.hid (show es.drop (k + 1) = [] from List.drop_eq_nil_of_le (by omega))
    have hel : es.length = k + 1 := by omega
    subst hca
    go_enter Try.func15, Try.ntmps15
    go_wp2_with (at_builtin; first
      | (refine wpList_appE rfl _ _ 27 rfl w.heap.size 36 i0 _ Try.underlying27 hi hz0 hz1 hz2 rfl _ k _ rfl hown1 _ _ _ [] rfl rfl (ERow.nil _ _ _) (fun h => by cases h) (by omega) hs1 ?_; intro v3 w6 hown3 hbel3)
      | (refine wpList_appE rfl _ _ 27 rfl w.heap.size 36 i0 _ Try.underlying27 hi hz0 hz1 hz2 rfl _ 0 [] rfl (World.ownsRow_nil _ _ _ _) _ _ _ (es.take k) rfl HTL.out (erow_take HR.out k) (fun h => by cases h) (by omega) (Nat.le_refl _) ?_; intro v1 w4 hown1 hbel1; have hs1 := hbel1.size; rw [Nat.zero_add] at hown1))
    go_ret
    refine ⟨_, rfl, own_ens hown3 ?_ ?_, hbel1.trans hbel3⟩
    · simp [delE, ens, HD0.out]
    · rw [delE, List.length_append, HTL.out, HD0.out]; simp
  · go_enter Try.func15, Try.ntmps15
    go_wp2_with (at_builtin; first
      | (refine wpList_appE rfl _ _ 27 rfl w.heap.size 36 i0 _ Try.underlying27 hi hz0 hz1 hz2 rfl _ k _ rfl hown1 _ _ _ (es.drop (k + 1)) rfl HDL.out ((erow_cut (HR.out.below hbel1) (k + 1)).mono hs1) (fun h => by cases h) (by omega) hs1 ?_; intro v3 w6 hown3 hbel3)
      | (refine wpList_appE rfl _ _ 27 rfl w.heap.size 36 i0 _ Try.underlying27 hi hz0 hz1 hz2 rfl _ 0 [] rfl (World.ownsRow_nil _ _ _ _) _ _ _ (es.take k) rfl HTL.out (erow_take HR.out k) (fun h => by cases h) (by omega) (Nat.le_refl _) ?_; intro v1 w4 hown1 hbel1; have hs1 := hbel1.size; rw [Nat.zero_add] at hown1))
    go_ret
    refine ⟨_, rfl, own_ens hown3 ?_ ?_, hbel1.trans hbel3⟩
    · simp [delE, ens]
    · rw [delE, List.length_append, HTL.out, HDL.out]
end Go.Proofs.Ytlhhfcnagkhllaa
