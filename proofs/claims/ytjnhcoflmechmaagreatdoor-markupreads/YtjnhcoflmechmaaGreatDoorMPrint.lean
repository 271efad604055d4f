/-
  markup.Print.
-/
import Derived.Test.YtjnhcoflmechmaaGreatDoorMWrite
import Derived.Test.YtjnhcoflmechmaaGreatDoorMWeigh
namespace Go.Proofs.YtjnhcoflmechmaaGreatDoor.M
open Go.RowKit Go.Sort
set_option linter.unusedVariables false
set_option maxRecDepth 100000
/-- A node without a fault by itself: its strings are short. -/
theorem alone_sizes {t : Tr} (h : aloneT t = 0) : t.tag.size ≤ 32 ∧ t.key.size ≤ 65536 ∧ t.text.size ≤ 65536 ∧ ∀ a ∈ t.as, a.2.size ≤ 65536 := by
  have hl := alone_len h
  unfold aloneT at h
  split at h
  · cases h
  · rename_i hw
    split at h
    · cases h
    · rename_i hk
      have hw' : wfB tagB t.tag = true := by simpa using hw
      unfold wfB at hw'
      simp only [Bool.and_eq_true, decide_eq_true_eq] at hw'
      refine ⟨hw'.1.1.2, by omega, by omega, fun a ha => ?_⟩
      obtain ⟨x, e, hc⟩ := check_ex t.as
      have he := attE_of hc
      rw [h] at he
      subst he
      rcases hc with ⟨i, hi, rfl, he, hf, hb⟩ | ⟨rfl, _, hb⟩
      · exact absurd he.symm hf
      · obtain ⟨j, hj, rfl⟩ := List.getElem_of_mem ha
        have := hb j hj
        unfold faultL faultX at this
        rw [getD_at hj] at this
        split at this
        · cases this
        · split at this
          · cases this
          · split at this
            · cases this
            · omega
theorem all_fine : ∀ t : Tr, AllT (fun t => aloneT t = 0) t → AllT fineN t := by
  refine tr_ind fun t ih h => ?_
  cases h with
  | mk h sub =>
    obtain ⟨h1, h2, h3, h4⟩ := alone_sizes h
    exact .mk ⟨by omega, by omega, fun a ha => by have := h4 a ha; omega⟩ (fun k hk => ih k hk (sub k hk))
theorem ok_all {t : Tr} (h : okT t) : AllT (fun t => aloneT t = 0) t := visit_all aloneT t 1 (-1) [] h
theorem att_len (l : List At) : (l.flatMap attB).length ≤ 30000 * (l.length + sumA l) := by
  induction l with
  | nil => simp
  | cons a r ih =>
    have e : sumA (a :: r) = a.2.size / 4096 + a.1.size / 4096 + sumA r := by simp [sumA]
    have h1 := E.escL_length a.2.data.toList
    have e1 := size_list a.1; have e2 := size_list a.2
    have h2 : (attB a).length ≤ 4 + a.1.size + 6 * a.2.size := by
      simp only [attB, List.length_cons, List.length_append, List.length_nil]
      omega
    rw [List.flatMap_cons, List.length_append, e, List.length_cons]
    omega
theorem key_len (key : ByteArray) : (keyB key).length ≤ 5 + 6 * key.size := by
  unfold keyB
  have h1 := E.escL_length key.data.toList
  have e1 := size_list key
  split
  · simp
  · simp only [List.length_append, List.length_cons, List.length_nil]; omega
theorem pr_len : ∀ t : Tr, AllT (fun t => aloneT t = 0) t → (prT t).length ≤ 30000 * wT t := by
  refine tr_ind fun t ih h => ?_
  cases h with
  | mk h sub =>
    obtain ⟨h1, -, -, -⟩ := alone_sizes h
    have hk : ∀ ks : List Tr, (∀ k ∈ ks, k ∈ t.kids) → (prL ks).length ≤ 30000 * wK ks := by
      intro ks
      induction ks with
      | nil => intro _; simp [prL]
      | cons k ks ihk =>
        intro hm
        have a1 := ih k (hm k (by simp)) (sub k (hm k (by simp)))
        have a2 := ihk (fun x hx => hm x (by simp [hx]))
        rw [prL, List.length_append, wK]
        omega
    have hk' := hk t.kids (fun k hk => hk)
    have ha := att_len t.as
    have hy := key_len t.key
    have ht := E.escL_length t.text.data.toList
    have e1 := size_list t.tag; have e2 := size_list t.text
    have hb : (if t.text = noB ∧ t.kids = [] then [47, 62] else 62 :: (E.escL t.text.data.toList ++ (prL t.kids ++ ([60, 47] ++ (t.tag.data.toList ++ [62]))))).length ≤ 4 + 6 * t.text.size + (prL t.kids).length + t.tag.size := by
      split
      · simp only [List.length_cons, List.length_nil]; omega
      · simp only [List.length_append, List.length_cons, List.length_nil]; omega
    rw [prT_eq, wT_eq, List.length_append, List.length_cons, List.length_append, List.length_append]
    omega
/-- What Print says. -/
def PrintM (t : Tr) (w : World) (e : Ending) (w' : World) : Prop := (∃ f g : Int, FirstF aloneT (itemsL t) f g ∧ ((g = 0 ∧ e = .returned (.tuple #[.string (strB (prT t)), .int .i64 0])) ∨ (g ≠ 0 ∧ e = .returned (.tuple #[.string ⟨#[]⟩, .int .i64 g])))) ∧ Below w.heap.size w w'
set_option maxHeartbeats 4000000 in
theorem print_any (t : Tr) (x : NV) (w : World) (h : TreeAt w w.heap.size t x) (hg : GoodT t) (hlen : okT t → (prT t).length ≤ 100000000000) (hv : Vars w) : Calls Tryz.prog 13 #[nodeV t x] w (PrintM t w) := by
  obtain ⟨w1, hw1⟩ : ∃ w1, w1 = boxW w t x := ⟨_, rfl⟩
  have hb1 : Below w.heap.size w w1 := by rw [hw1]; exact below_box w t x
  have hbox : KidCells w1 w.heap.size 0 t x := by rw [hw1]; exact box_node w t x
  have CC := vcheck_any t x w1 (h.up hb1) hg
  have hff := seen_first aloneT t
  have hokg : (seenL aloneT t).2 = 0 → okT t := fun h => h
  generalize seenL aloneT t = r at CC hff hokg
  obtain ⟨f, hf⟩ : ∃ f : Int, f = if r.2 = 0 then 0 else (r.1.length : Int) := ⟨_, rfl⟩
  obtain ⟨g, hgg⟩ : ∃ g, g = r.2 := ⟨_, rfl⟩
  rw [← hf, ← hgg] at CC hff
  rw [← hgg] at hokg
  have HCC := Lib.hid CC; have HFF := Lib.hid hff; have HOK := Lib.hid hokg
  have HW := Lib.hid hw1; have HB1 := Lib.hid hb1; have HT1 := Lib.hid (h.up hb1); have HBX := Lib.hid hbox; have HG := Lib.hid hg; have HV := Lib.hid hv; have HLEN := Lib.hid hlen
  have hsz1 : w.heap.size < w1.heap.size := hbox.block_lt
  obtain ⟨c0, c1, c2, c3, c4⟩ := hbox
  clear hw1 hb1 h hg hv CC hff hokg hf hgg hlen
  go_enter Tryz.func13, Tryz.ntmps13
  go_upto_region 1 with (fail)
  rw [box_out HW]
  go_wp2_with fail
  refine HCC.out.mono ?_
  rintro e w2 ⟨rfl, hb2⟩
  have HB2 := Lib.hid (HB1.out.trans (hb2.mono HB1.out.size)); have HB12 := Lib.hid hb2
  have hsz2 : w1.heap.size ≤ w2.heap.size := hb2.size
  clear hb2 HCC c0 c1 c2 c3 c4
  obtain ⟨c0, c1, c2, c3, c4⟩ := HBX.out.below HB12.out hsz1
  by_cases h0 : g = 0
  · subst h0
    have hok := HOK.out rfl
    have hall := ok_all hok
    obtain ⟨w3, hw3⟩ : ∃ w3, w3 = w2.alloc (.cells #[.pointer none, .slice none 0 0] 68) := ⟨_, rfl⟩
    have hb3 : Below w2.heap.size w2 w3 := by rw [hw3]; exact (Below.refl _ _).alloc (Nat.le_refl _) _
    have hbb : BB w3 w2.heap.size w2.heap.size [] := by rw [hw3]; exact Lib.fresh_isBuilder 68 5 w2
    have hsz3 : w2.heap.size ≤ w3.heap.size := hb3.size
    have HV3 := Lib.hid (((HV.out.belowC HB2.out)).belowC hb3)
    have CW := Lib.hid (write_any t HG.out (all_fine t hall) x w2.heap.size w2.heap.size [] w3 ((HT1.out.up HB12.out).keepB hb3) hbb HV3.out (by have := HV.out.2.2.2; omega) hsz3 (by have := HLEN.out hok; simp only [List.length_nil]; omega))
    have HW3 := Lib.hid hw3; have HB3 := Lib.hid hb3; have HLN := Lib.hid (HLEN.out hok)
    clear hbb hw3 c0 c1 c2 c3 c4 hall hok
    obtain ⟨c0, c1, c2, c3, c4⟩ := (HBX.out.below HB12.out hsz1).below hb3 (by omega)
    clear hb3
    go_upto_region 5 with (fail)
    rw [show w2.alloc (.cells #[.pointer none, .slice none 0 0] 68) = w3 from HW3.out.symm]
    go_wp2_with fail
    refine CW.out.mono ?_
    rintro e w4 ⟨rfl, hwr⟩
    rw [List.nil_append] at hwr
    have CS := Lib.hid (Tryz.Builder_String_any w2.heap.size w2.heap.size (prT t) w4 hwr.1 (by have := hwr.2.1.size; omega))
    have HB4 := Lib.hid (HB3.out.trans hwr.2.1)
    clear hwr CW
    go_wp2_with fail
    refine CS.out.mono ?_
    rintro e w5 ⟨rfl, hb5⟩
    have HB5 := Lib.hid (HB2.out.trans ((HB4.out.trans hb5).mono HB2.out.size))
    clear hb5 CS
    go_wp2_with fail
    go_ret2
    exact ⟨⟨f, 0, HFF.out, .inl ⟨rfl, rfl⟩⟩, HB5.out⟩
  · have hne : (g != 0) = true := by simpa using h0
    have HNE := Lib.hid h0
    go_wp2_with fail
    go_ret2
    exact ⟨⟨f, g, HFF.out, .inr ⟨HNE.out, rfl⟩⟩, HB2.out⟩
end Go.Proofs.YtjnhcoflmechmaaGreatDoor.M
