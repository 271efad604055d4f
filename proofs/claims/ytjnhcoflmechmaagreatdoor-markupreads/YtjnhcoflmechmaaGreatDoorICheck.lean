/-
  The reference's items: a slice of nodes with their depth and their parent's number. | The reference's Items, Check, Right and Depth. | The reference's Check tells the first fault of the items. | The statements' Few: where it answers true, the tree is small. | tendrillaw11.VtreeChecks: true, whatever the tree.
-/
import Derived.Test.YtjnhcoflmechmaaGreatDoorSurvey
import Derived.Maps.AppendAt
import Derived.Deep.DeepCutAuto
import Derived.Deep.RegionHeld3
namespace Go.Proofs.YtjnhcoflmechmaaGreatDoor
open Go.RowKit Go.Sort
set_option linter.unusedVariables false
set_option maxRecDepth 100000
abbrev IV := It × NV
def encI (p : IV) : List Value := [.string p.1.t.tag, .string p.1.t.key, .string p.1.t.text, .slice p.2.A p.1.t.as.length p.2.ca, .slice p.2.K p.1.t.kids.length p.2.ck, .int .i64 p.1.d, .int .i64 p.1.up]
def its (l : List IV) : List Value := l.flatMap encI
theorem its_append (a b : List IV) : its (a ++ b) = its a ++ its b := by simp [its]
theorem its_length (l : List IV) : (its l).length = l.length * 7 := by
  induction l with
  | nil => rfl
  | cons p ps ih => simp only [its, List.flatMap_cons, List.length_append, List.length_cons, encI, List.length_nil] at ih ⊢; omega
theorem encI_one (p : IV) : ∀ v ∈ encI p, v.oneCell' = true := by
  intro v hv
  simp [encI] at hv
  rcases hv with rfl | rfl | rfl | rfl | rfl | rfl | rfl <;> rfl
theorem its_at : ∀ (l : List IV) (i : Nat) (hi : i < l.length) (r : Nat), r < 7 → (its l)[i * 7 + r]? = (encI l[i])[r]?
  | [], i, h, _, _ => by simp at h
  | p :: ps, 0, h, r, hr => by
    simp only [its, List.flatMap_cons, Nat.zero_mul, Nat.zero_add, List.getElem_cons_zero]
    rw [List.getElem?_append_left (by simp [encI]; omega)]
  | p :: ps, i + 1, h, r, hr => by
    have ih := its_at ps i (by simpa using h) r hr
    simp only [its, List.flatMap_cons] at ih ⊢
    rw [List.getElem?_append_right (by simp [encI]; omega)]
    simp only [encI, List.length_cons, List.length_nil, List.getElem_cons_succ] at ih ⊢
    rw [← ih]
    congr 1
    omega
theorem arr_new (W : World) (C : Array Value) (t : TypeId) (B : Nat) (hB : B = W.heap.size) : ∀ j u, C.toList[j]? = some u → (W.alloc (.cells C t)).cell? ((⟨B, 0, none⟩ : Addr).add j) = some u := by
  subst hB
  intro j u hj
  have e1 : (W.alloc (.cells C t)).cell? ⟨W.heap.size, 0 + j, none⟩ = C[0 + j]? := cell_of_row _ _ _ _ _ (0, 0) (heap_alloc_new W _)
  rw [Addr.add_lit, e1]
  simpa using hj
/-- A row stays in its block, or goes to a new one. -/
def Fresh (w : World) (v v' : Value) : Prop := ∀ k, k < w.heap.size → v'.ownBlock = some k → v.ownBlock = some k
theorem Fresh.refl (w : World) (v : Value) : Fresh w v v := fun _ _ h => h
theorem Fresh.trans {w w1 : World} {a b c : Value} (h : Fresh w a b) (k : Fresh w1 b c) (hs : w.heap.size ≤ w1.heap.size) : Fresh w a c := fun i hi hc => h i hi (k i (by omega) hc)
abbrev OwnB (v : Value) : Nat → Prop := fun b => v.ownBlock = some b
theorem Kept.fresh {w w1 w2 : World} {a b : Value} (h : Kept (OwnB a) w w1) (hf : Fresh w a b) (k : Kept (OwnB b) w1 w2) : Kept (OwnB a) w w2 := h.trans' k (fun i hi hb => hf i hi hb)
/-- append(x, y) for an element of k cells. -/
theorem wpList_appS {P : Program} {w : World} {ops : Array Oper} {rest : List Oper} {o : Oper} {a : Act} {Q : Exit → Act → World → Prop} (hgd : o.guard = none) (s x : Operand) (t : TypeId)
    (ho : o.op = .call { callee := .builtin .append, args := #[s, x], argTypes := #[t, t] })
    (base : Nat) (e : TypeId) (i : TypeInfo) (z : Value) (k bytes : Nat) (ht : P.underlying t = some (.slice e)) (hi : P.info? e = some i) (hz : i.zero = some z)
    (hsize : i.size = k) (hby : i.bytes = bytes) (hzs : z.cells.size = k) (hk : 0 < k) (hbm : bytes ≤ 1000)
    (v : Value) (n : Nat) (xs : List Value) (hs : a.eval s = v) (hown : w.ownsRow base e k v n xs)
    (C : Array Value) (hC : C.size = k) (hone : ∀ u ∈ C.toList, u.oneCell' = true) (B : Nat) (hB : B = w.heap.size) (hx : a.eval x = .slice (some ⟨B, 0, none⟩) 1 1)
    (hbytes : (n + 1) ≤ 10000000) (hbase : base ≤ w.heap.size)
    (h : ∀ v' w', w'.ownsRow base e k v' (n + 1) (xs ++ C.toList) → Below base w w' → Kept (OwnB v) w w' → Fresh w v v' → wpList P ops Q rest (a.put o.dst v') w') : wpList P ops Q (o :: rest) a (w.alloc (.cells C e)) := by
  subst hB
  have hb : (n + 1) * bytes ≤ 10000000 * 1000 := Nat.mul_le_mul hbytes hbm
  refine wpList_append_own_at (w.alloc _) hgd s x t ho base e i z k bytes ht hi hz hsize hby hzs hk v n xs hs (hown.alloc _) ⟨w.heap.size, 0, none⟩ 1 1 C.toList hx (by simp [hC]) (arr_new _ _ _ _ rfl) hone (by simp [maxLen]; omega) (by omega) (by simp; omega) ?_
  intro v' w' hown' hgrow _ hloc
  refine h v' w' hown' (((Below.refl base w).alloc hbase _).grown hgrow (by simp; omega) (fun k hk => (hown.lt k hk).1)) ((kept_alloc w _ _).trans ((kept_grown hgrow).mono (fun b _ hb => hb.symm))) (fun j hj hb => ?_)
  rcases hloc with hl | hl
  · rw [← hl]; exact hb
  · rw [hl] at hb
    simp at hb
    omega
theorem Tryz.info74 : (Tryz.prog.info? 74).map (fun i => (i.zero, i.size, i.bytes)) = some (some (.agg #[.string ⟨#[]⟩, .string ⟨#[]⟩, .string ⟨#[]⟩, .slice none 0 0, .slice none 0 0, .int .i64 0, .int .i64 0]), 7, 112) := by kernel_rfl
theorem row_form {w : World} {base e k : Nat} {v : Value} {n : Nat} {xs : List Value} (h : w.ownsRow base e k v n xs) : ∃ A cap, v = .slice A n cap := by
  rcases h.2 with ⟨rfl, rfl⟩ | ⟨g, cap, cur, rfl, _⟩
  · exact ⟨_, _, rfl⟩
  · exact ⟨_, _, rfl⟩
theorem belowK_full {ks : List Tr} {d : Nat} {up : Int} {l : List It} (h : 4096 < l.length) : belowK ks d up l = l := by
  cases ks with
  | nil => rw [belowK]
  | cons k ks => rw [belowK, if_pos h]
theorem belowK_append : ∀ (a b : List Tr) (d : Nat) (up : Int) (l : List It), belowK (a ++ b) d up l = belowK b d up (belowK a d up l)
  | [], b, d, up, l => by simp [belowK]
  | k :: a, b, d, up, l => by
    rw [List.cons_append, belowK, belowK]
    by_cases h : 4096 < l.length
    · rw [if_pos h, if_pos h, belowK_full h]
    · rw [if_neg h, if_neg h]; exact belowK_append a b d up _
theorem belowK_take {ks : List Tr} {j : Nat} (hj : j < ks.length) (d : Nat) (up : Int) (l m : List It) (h : belowK (ks.take j) d up l = m) (hm : ¬ 4096 < m.length) : belowK (ks.take (j + 1)) d up l = belowL ks[j] d up m := by
  have e : ks.take (j + 1) = ks.take j ++ [ks[j]] := by simp
  rw [e, belowK_append, h, belowK, if_neg hm, belowK]
theorem belowK_stop {ks : List Tr} {j : Nat} (d : Nat) (up : Int) (l m : List It) (h : belowK (ks.take j) d up l = m) (hm : 4096 < m.length) : belowK ks d up l = m := by
  have e : ks = ks.take j ++ ks.drop j := by simp
  rw [e, belowK_append, h, belowK_full hm]
theorem own_its {w : World} {base : Nat} {v : Value} {ps : List IV} {n : Nat} {xs : List Value} (h : w.ownsRow base 74 7 v n xs) (hx : xs = its ps) (hn : ps.length = n) : w.ownsRow base 74 7 v ps.length (its ps) := by subst hx; subst hn; exact h
def ItemsPost (n0 base : Nat) (v0 : Value) (w : World) (r : List It) (e : Ending) (w' : World) : Prop :=
  ∃ v ps, e = .returned v ∧ w'.ownsRow base 74 7 v ps.length (its ps) ∧ ps.map Prod.fst = r ∧ (∀ p ∈ ps, TreeAt w' n0 p.1.t p.2) ∧ Below base w w' ∧ Kept (OwnB v0) w w' ∧ Fresh w v0 v
set_option maxHeartbeats 4000000 in
theorem below_any (n0 base : Nat) (hnb : n0 ≤ base) : ∀ t : Tr, ∀ (x : NV) (d : Nat) (up : Int) (v : Value) (ps : List IV) (w : World), TreeAt w n0 t x → (∀ p ∈ ps, TreeAt w n0 p.1.t p.2) → base ≤ w.heap.size → w.ownsRow base 74 7 v ps.length (its ps) → d ≤ 66 →
    Calls Tryz.prog 61 #[v, nodeV t x, .int .i64 d, .int .i64 up] w (ItemsPost n0 base v w (belowL t d up (ps.map Prod.fst))) := by
  refine tr_ind (fun t ih => ?_)
  intro x d up v ps w htree hall hbase hown hd
  have hkl : t.kids.length ≤ maxLen := Nat.le_trans htree.caps.2.2.2.1 htree.caps.2.2.2.2.1
  obtain ⟨A, cap, rfl⟩ := row_form hown
  obtain ⟨i0, hi, hz0, hz1, hz2⟩ := info_parts Tryz.info74
  obtain ⟨w1, hw1⟩ : ∃ w1, w1 = boxW w t x := ⟨_, rfl⟩
  have hb1 : Below w.heap.size w w1 := by rw [hw1]; exact below_box w t x
  have hbox : KidCells w1 w.heap.size 0 t x := by rw [hw1]; exact box_node w t x
  have hown1 : w1.ownsRow base 74 7 (.slice A ps.length cap) ps.length (its ps) := by rw [hw1]; exact hown.alloc _
  have hs1 : base ≤ w1.heap.size := Nat.le_trans hbase hb1.size
  have hlt1 : w.heap.size < w1.heap.size := by rw [hw1]; simp
  have ht1 := htree.keepB (hb1.mono (Nat.le_trans hnb hbase))
  have hall1 : ∀ p ∈ ps, TreeAt w1 n0 p.1.t p.2 := fun p hp => (hall p hp).keepB (hb1.mono (Nat.le_trans hnb hbase))
  have HEQ := Lib.hid (belowL_eq t d up (ps.map Prod.fst))
  have hown0 := hown
  have HIH := Lib.hid ih; have HW := Lib.hid hw1; have HB1 := Lib.hid hb1; have HO1 := Lib.hid hown1; have HT1 := Lib.hid ht1; have HA1 := Lib.hid hall1
  have HBX := Lib.hid hbox
  clear ih hw1 hb1 htree hall hown ht1 hall1
  generalize belowL t d up (ps.map Prod.fst) = r at HEQ ⊢
  obtain ⟨c0, c1, c2, c3, c4⟩ := hbox
  unfold maxLen at hkl
  by_cases hfull : 4096 < ps.length
  · have HR := Lib.hid (show r = ps.map Prod.fst by rw [HEQ.out, if_pos (by simpa using hfull)])
    go_enter Tryz.func61, Tryz.ntmps61
    go_wp2_with fail
    rw [box_out HW]
    go_ret
    exact ⟨_, ps, rfl, HO1.out, HR.out.symm, HA1.out, HB1.out.mono hbase, kept_below HB1.out _, Fresh.refl _ _⟩
  · have HEQ2 := Lib.hid (show r = if 64 < d then ps.map Prod.fst ++ [⟨t, d, up⟩] else belowK t.kids (d + 1) ps.length (ps.map Prod.fst ++ [⟨t, d, up⟩]) by rw [HEQ.out, if_neg (by simpa using hfull), List.length_map])
    clear HEQ
    have hps : ps.length ≤ 4096 := by omega
    have hraw : (w.alloc (.cells #[.string t.tag, .string t.key, .string t.text, .slice x.A t.as.length x.ca, .slice x.K t.kids.length x.ck] 25)).ownsRow base 74 7 (.slice A ps.length cap) ps.length (its ps) := by rw [box_out HW]; exact HO1.out
    have hrs : base ≤ (w.alloc (.cells #[.string t.tag, .string t.key, .string t.text, .slice x.A t.as.length x.ca, .slice x.K t.kids.length x.ck] 25)).heap.size := by rw [box_out HW]; exact hs1
    have HRAW := Lib.hid hraw
    have HOLT := Lib.hid (show ∀ k, (Value.slice A ps.length cap).ownBlock = some k → k < w.heap.size by
      intro k hk
      exact (hown0.lt k hk).2)
    clear hraw
    by_cases hdeep : 64 < d
    · have hd' : (d : Int) > 64 := by omega
      have HR := Lib.hid (show r = ps.map Prod.fst ++ [⟨t, d, up⟩] by rw [HEQ2.out, if_pos hdeep])
      go_enter Tryz.func61, Tryz.ntmps61
      go_wp2_with (at_builtin; refine wpList_appS rfl _ _ 71 rfl base 74 i0 (.agg #[.string ⟨#[]⟩, .string ⟨#[]⟩, .string ⟨#[]⟩, .slice none 0 0, .slice none 0 0, .int .i64 0, .int .i64 0]) 7 112 Tryz.underlying71 hi hz0 hz1 hz2 rfl (by omega) (by omega) _ ps.length (its ps) rfl HRAW.out #[.string t.tag, .string t.key, .string t.text, .slice x.A t.as.length x.ca, .slice x.K t.kids.length x.ck, .int .i64 d, .int .i64 up] rfl (encI_one (⟨t, d, up⟩, x)) _ (by simp) rfl (by omega) hrs ?_; intro v2 w2 hown2 hb2 hk2 hf2)
      rw [box_out HW] at hb2 hk2 hf2
      go_ret
      refine ⟨v2, ps ++ [(⟨t, d, up⟩, x)], rfl, own_its hown2 (by simp [its, encI]) (by simp), by rw [HR.out]; simp, fun p hp => ?_, (HB1.out.mono hbase).trans hb2, (kept_below HB1.out _).trans hk2, fun k hk hv => hf2 k (by omega) hv⟩
      have hbn := hb2.mono hnb
      rcases List.mem_append.1 hp with hp | hp
      · exact (HA1.out p hp).keepB hbn
      · simp at hp; subst hp; exact HT1.out.keepB hbn
    · have hd' : ¬ (d : Int) > 64 := by omega
      have r2 : IntKind.i64.wrap ((d : Int) + 1) = (d : Int) + 1 := by rw [IntKind.wrap_i64]; omega
      have HR := Lib.hid (show r = belowK t.kids (d + 1) ps.length (ps.map Prod.fst ++ [⟨t, d, up⟩]) by rw [HEQ2.out, if_neg hdeep])
      have hqraw : ∀ w2, Kept (OwnB (.slice A ps.length cap)) (w.alloc (.cells #[.string t.tag, .string t.key, .string t.text, .slice x.A t.as.length x.ca, .slice x.K t.kids.length x.ck] 25)) w2 → w2.cell? ⟨w.heap.size, 0 + 4, none⟩ = some (.slice x.K t.kids.length x.ck) := by
        intro w2 hk
        rw [box_out HW] at hk
        exact hk.cellOf HBX.out.c4 (fun h => absurd (HOLT.out _ h) (Nat.lt_irrefl _))
      have HQ := Lib.hid hqraw
      clear hqraw c0 c1 c2 c3 c4 hown0
      go_enter Tryz.func61, Tryz.ntmps61
      go_wp2_with (at_builtin; refine wpList_appS rfl _ _ 71 rfl base 74 i0 (.agg #[.string ⟨#[]⟩, .string ⟨#[]⟩, .string ⟨#[]⟩, .slice none 0 0, .slice none 0 0, .int .i64 0, .int .i64 0]) 7 112 Tryz.underlying71 hi hz0 hz1 hz2 rfl (by omega) (by omega) _ ps.length (its ps) rfl HRAW.out #[.string t.tag, .string t.key, .string t.text, .slice x.A t.as.length x.ca, .slice x.K t.kids.length x.ck, .int .i64 d, .int .i64 up] rfl (encI_one (⟨t, d, up⟩, x)) _ (by simp) rfl (by omega) hrs ?_; intro v2 w2 hown2 hb2 hk2 hf2; have hq4 := HQ.out w2 hk2)
      clear HQ
      rw [box_out HW] at hb2 hk2 hf2
      have HB2 := Lib.hid ((HB1.out.mono hbase).trans hb2)
      have HK2 := Lib.hid ((kept_below HB1.out _).trans hk2)
      have HF2 := Lib.hid (show Fresh w (.slice A ps.length cap) v2 from fun k hk hv => hf2 k (by omega) hv)
      have HO2 := Lib.hid (own_its (ps := ps ++ [(⟨t, d, up⟩, x)]) hown2 (by simp [its, encI]) (by simp))
      have HA2 := Lib.hid (show ∀ p ∈ ps ++ [(⟨t, d, up⟩, x)], TreeAt w2 n0 p.1.t p.2 from by
        intro p hp
        have hbn := hb2.mono hnb
        rcases List.mem_append.1 hp with hp | hp
        · exact (HA1.out p hp).keepB hbn
        · simp at hp; subst hp; exact HT1.out.keepB hbn)
      have HT2 := Lib.hid (HT1.out.keepB (hb2.mono hnb))
      have HNB := Lib.hid (show ¬ OwnB v2 w.heap.size from fun h => by have := HOLT.out _ (hf2 _ hlt1 h); omega)
      have HBN2 := Lib.hid (show ∀ wr, Kept (OwnB v2) w2 wr → Below n0 w2 wr from fun wr h => h.below (Nat.le_trans (Nat.le_trans hnb hs1) hb2.size) (fun k hk => Nat.le_trans hnb (hown2.lt k hk).1))
      have HBX2 := Lib.hid (HBX.out.kept hk2 (fun h => by have := HOLT.out _ h; omega))
      clear hb2 hk2 hf2 hown2 hq4
      go_loopg [0, 10, 30] t.kids.length (fun g s0 _ s30 wr => ∃ (k : Nat) (qs : List IV), s30 = .int .i64 k ∧ k ≤ t.kids.length ∧ t.kids.length - k ≤ g ∧ RowKit.Hid (qs.map Prod.fst = belowK (t.kids.take k) (d + 1) ps.length (ps.map Prod.fst ++ [⟨t, d, up⟩])) ∧ RowKit.Hid (wr.ownsRow base 74 7 s0 qs.length (its qs)) ∧ RowKit.Hid (∀ p ∈ qs, TreeAt wr n0 p.1.t p.2) ∧ RowKit.Hid (Below base w wr) ∧ RowKit.Hid (Kept (OwnB (.slice A ps.length cap)) w wr) ∧ RowKit.Hid (Fresh w (.slice A ps.length cap) s0) ∧ RowKit.Hid (Kept (OwnB v2) w2 wr) ∧ RowKit.Hid (Fresh w2 v2 s0))
      case atStart => exact ⟨0, ps ++ [(⟨t, d, up⟩, x)], rfl, by omega, by omega, Lib.hid (by simp [belowK]), HO2, HA2, HB2, HK2, HF2, Lib.hid (Kept.refl _ _), Lib.hid (Fresh.refl _ _)⟩
      case round =>
        obtain ⟨k, qs, rfl, hk, hg, HQ, HO, HA, HB, HK, HF, HKK, HFF⟩ := hrel
        obtain ⟨A', cap', hu⟩ := row_form HO.out
        subst hu
        have hq4 := (HBX2.out.kept HKK.out HNB.out).c4
        have hsw : base ≤ wr.heap.size := Nat.le_trans hbase HB.out.size
        by_cases hlt : k < t.kids.length
        · have h1 : (k : Int) < (t.kids.length : Int) := by omega
          by_cases hq : 4096 < qs.length
          · have HST := Lib.hid (belowK_stop (d + 1) ps.length _ _ HQ.out.symm (by simpa using hq))
            clear hlt
            go_wp2_with fail
            go_ret
            exact ⟨_, qs, rfl, HO.out, by rw [HR.out, HST.out], HA.out, HB.out, HK.out, HF.out⟩
          · obtain ⟨b, off, kd, y, hK, hb, hkd, hkc, hkt⟩ := (HT2.out.keepB (HBN2.out wr HKK.out)).kid hlt
            obtain ⟨q0, q1, q2, q3, q4⟩ := hkc
            have HTK := Lib.hid (belowK_take hlt (d + 1) ps.length _ _ HQ.out.symm (by simpa using hq))
            have C := HIH.out kd (by rw [hkd]; exact List.getElem_mem _) y (d + 1) ps.length _ qs wr hkt HA.out hsw HO.out (by omega)
            rw [show ((d + 1 : Nat) : Int) = (d : Int) + 1 from rfl] at C
            have HC := Lib.hid C
            rw [← hkd] at HTK
            clear hkd hkt C
            go_wp2_with fail
            refine HC.out.mono ?_
            rintro e w3 ⟨v3, qs3, rfl, ho3, hm3, ha3, hb3, hk3, hf3⟩
            have HO3 := Lib.hid ho3; have HA3 := Lib.hid ha3; have HB3 := Lib.hid (HB.out.trans hb3)
            have HK3 := Lib.hid (HK.out.fresh HF.out hk3); have HF3 := Lib.hid (HF.out.trans hf3 HB.out.size)
            have HKK3 := Lib.hid (HKK.out.fresh HFF.out hk3); have HFF3 := Lib.hid (HFF.out.trans hf3 HKK.out.size)
            have HM3 := Lib.hid (hm3.trans HTK.out.symm)
            clear ho3 hm3 ha3 hb3 hk3 hf3 HC q0 q1 q2 q3 q4
            go_wp2_with fail
            try rw [← hK]
            go_roundg (t.kids.length - (k + 1))
            case measure => omega
            case rel => exact ⟨k + 1, qs3, by go_num, by omega, by omega, HM3, HO3, HA3, HB3, HK3, HF3, HKK3, HFF3⟩
        · have h1 : ¬ (k : Int) < (t.kids.length : Int) := by omega
          have HVF := Lib.hid (show qs.map Prod.fst = belowK t.kids (d + 1) ps.length (ps.map Prod.fst ++ [⟨t, d, up⟩]) by rw [HQ.out, List.take_of_length_le (by omega)])
          go_wp2_with fail
          go_ret
          exact ⟨_, qs, rfl, HO.out, by rw [HR.out, HVF.out], HA.out, HB.out, HK.out, HF.out⟩
end Go.Proofs.YtjnhcoflmechmaaGreatDoor

namespace Go.Proofs.YtjnhcoflmechmaaGreatDoor
open Go.RowKit Go.Sort
set_option linter.unusedVariables false
set_option maxRecDepth 100000
structure ItCells (w : World) (g o : Nat) (p : IV) : Prop where
  kid : KidCells w g o p.1.t p.2
  c5 : w.cell? ⟨g, o + 5, none⟩ = some (.int .i64 p.1.d)
  c6 : w.cell? ⟨g, o + 6, none⟩ = some (.int .i64 p.1.up)
def IRow (w : World) (B : Nat) (A : Option Addr) (ps : List IV) : Prop := 0 < ps.length → ∃ g, A = some ⟨g, 0, none⟩ ∧ g < B ∧ ∀ j, (hj : j < ps.length) → ItCells w g (j * 7) ps[j]
theorem irow_own {w : World} {base : Nat} {A : Option Addr} {n cap : Nat} {ps : List IV} (h : w.ownsRow base 74 7 (.slice A n cap) ps.length (its ps)) : n = ps.length ∧ IRow w w.heap.size A ps := by
  rcases h.2 with ⟨he, hn⟩ | ⟨g, c, cur, he, _, hg, hnc, hcm, _, _⟩
  · simp at he
    exact ⟨by omega, fun h0 => by omega⟩
  · simp at he
    obtain ⟨rfl, rfl, rfl⟩ := he
    refine ⟨rfl, fun _ => ⟨g, rfl, (Array.getElem?_eq_some_iff.1 hg).1, fun j hj => ?_⟩⟩
    have key : ∀ r, r < 7 → w.cell? ⟨g, j * 7 + r, none⟩ = (encI ps[j])[r]? := by
      intro r hr
      rw [World.ownsRow.cellAt h (j * 7 + r) (by omega), its_at ps j hj r hr]
    exact ⟨⟨key 0 (by omega), key 1 (by omega), key 2 (by omega), key 3 (by omega), key 4 (by omega)⟩, key 5 (by omega), key 6 (by omega)⟩
theorem IRow.up {w w' : World} {A : Option Addr} {ps : List IV} (h : IRow w w.heap.size A ps) (hb : Below w.heap.size w w') : IRow w' w'.heap.size A ps := by
  intro h0
  obtain ⟨g, hA, hlt, hc⟩ := h h0
  refine ⟨g, hA, Nat.lt_of_lt_of_le hlt hb.size, fun j hj => ⟨(hc j hj).kid.below hb hlt, (hb.cell (p := ⟨g, j * 7 + 5, none⟩) hlt).trans (hc j hj).c5, (hb.cell (p := ⟨g, j * 7 + 6, none⟩) hlt).trans (hc j hj).c6⟩⟩
theorem irow_at {w : World} {B : Nat} {A : Option Addr} {ps : List IV} (h : IRow w B A ps) {j : Nat} (hj : j < ps.length) : ∃ g p, A = some ⟨g, 0, none⟩ ∧ g < B ∧ p = ps[j] ∧ ItCells w g (j * 7) p := by
  obtain ⟨g, hA, hlt, hc⟩ := h (by omega)
  exact ⟨g, _, hA, hlt, rfl, hc j hj⟩
mutual
theorem belowL_all {P : Tr → Prop} (hP : ∀ t, P t → ∀ k ∈ t.kids, P k) : ∀ (t : Tr) (d : Nat) (up : Int) (l : List It), P t → (∀ y ∈ l, P y.t) → ∀ y ∈ belowL t d up l, P y.t
  | .mk a b c s kids, d, up, l, ht, hl => by
    have hs : ∀ y ∈ l ++ [(⟨.mk a b c s kids, d, up⟩ : It)], P y.t := by
      intro y hy
      rcases List.mem_append.1 hy with hy | hy
      · exact hl y hy
      · simp at hy; subst hy; exact ht
    rw [belowL]
    split
    · exact hl
    · split
      · exact hs
      · exact belowK_all hP kids _ _ _ (hP _ ht) hs
theorem belowK_all {P : Tr → Prop} (hP : ∀ t, P t → ∀ k ∈ t.kids, P k) : ∀ (ks : List Tr) (d : Nat) (up : Int) (l : List It), (∀ k ∈ ks, P k) → (∀ y ∈ l, P y.t) → ∀ y ∈ belowK ks d up l, P y.t
  | [], _, _, l, _, hl => by rw [belowK]; exact hl
  | k :: ks, d, up, l, hk, hl => by
    rw [belowK]
    split
    · exact hl
    · exact belowK_all hP ks _ _ _ (fun y hy => hk y (List.mem_cons_of_mem _ hy)) (belowL_all hP k d up l (hk k List.mem_cons_self) hl)
end
theorem items_good {t : Tr} (h : GoodT t) : ∀ y ∈ itemsL t, GoodT y.t := belowL_all (P := GoodT) (fun t ht k hk => by cases ht with | mk h1 h2 h3 h4 h5 h6 sub => exact sub k hk) t 1 (-1) [] h (fun y hy => by simp at hy)
mutual
theorem belowL_len : ∀ (t : Tr) (d : Nat) (up : Int) (l : List It), l.length ≤ 4097 → (belowL t d up l).length ≤ 4097
  | .mk a b c s kids, d, up, l, hl => by
    rw [belowL]
    split
    · exact hl
    · split
      · simp; omega
      · exact belowK_len kids _ _ _ (by simp; omega)
theorem belowK_len : ∀ (ks : List Tr) (d : Nat) (up : Int) (l : List It), l.length ≤ 4097 → (belowK ks d up l).length ≤ 4097
  | [], _, _, l, hl => by rw [belowK]; exact hl
  | k :: ks, d, up, l, hl => by
    rw [belowK]
    split
    · exact hl
    · exact belowK_len ks _ _ _ (belowL_len k d up l hl)
end
mutual
theorem belowL_depth : ∀ (t : Tr) (d : Nat) (up : Int) (l : List It), d ≤ 65 → (∀ y ∈ l, y.d ≤ 65) → ∀ y ∈ belowL t d up l, y.d ≤ 65
  | .mk a b c s kids, d, up, l, hd, hl => by
    have hs : ∀ y ∈ l ++ [(⟨.mk a b c s kids, d, up⟩ : It)], y.d ≤ 65 := by
      intro y hy
      rcases List.mem_append.1 hy with hy | hy
      · exact hl y hy
      · simp at hy; subst hy; exact hd
    rw [belowL]
    split
    · exact hl
    · split
      · exact hs
      · exact belowK_depth kids _ _ _ (by omega) hs
theorem belowK_depth : ∀ (ks : List Tr) (d : Nat) (up : Int) (l : List It), d ≤ 65 → (∀ y ∈ l, y.d ≤ 65) → ∀ y ∈ belowK ks d up l, y.d ≤ 65
  | [], _, _, l, _, hl => by rw [belowK]; exact hl
  | k :: ks, d, up, l, hd, hl => by
    rw [belowK]
    split
    · exact hl
    · exact belowK_depth ks _ _ _ hd (belowL_depth k d up l hd hl)
end
theorem items_depth (t : Tr) : ∀ y ∈ itemsL t, y.d ≤ 65 := belowL_depth t 1 (-1) [] (by omega) (fun y hy => by simp at hy)
theorem items_len (t : Tr) : (itemsL t).length ≤ 4097 := belowL_len t 1 (-1) [] (by simp)
def IPost (w : World) (t : Tr) (e : Ending) (w' : World) : Prop := ∃ A c ps, e = .returned (.slice A ps.length c) ∧ IRow w' w'.heap.size A ps ∧ ps.map Prod.fst = itemsL t ∧ (∀ p ∈ ps, TreeAt w' w.heap.size p.1.t p.2) ∧ Below w.heap.size w w'
set_option maxHeartbeats 2000000 in
theorem items_any (t : Tr) (x : NV) (w : World) (h : TreeAt w w.heap.size t x) : Calls Tryz.prog 35 #[nodeV t x] w (IPost w t) := by
  obtain ⟨w1, hw1⟩ : ∃ w1, w1 = boxW w t x := ⟨_, rfl⟩
  have hb1 : Below w.heap.size w w1 := by rw [hw1]; exact below_box w t x
  obtain ⟨c0, c1, c2, c3, c4⟩ : KidCells w1 w.heap.size 0 t x := by rw [hw1]; exact box_node w t x
  have C := Lib.hid (below_any w.heap.size w1.heap.size hb1.size t x 1 (-1) (.slice none 0 0) [] w1 (h.keepB hb1) (fun p hp => by simp at hp) (Nat.le_refl _) (World.ownsRow_nil _ _ _ _) (by omega))
  have HW := Lib.hid hw1; have HB1 := Lib.hid hb1
  clear h hw1 hb1
  go_enter Tryz.func35, Tryz.ntmps35
  go_wp2_with fail
  rw [box_out HW]
  refine C.out.mono ?_
  rintro e w2 ⟨v, ps, rfl, ho, hm, ha, hb, -, -⟩
  obtain ⟨A, cap, rfl⟩ := row_form ho
  have HO := Lib.hid (irow_own ho); have HM := Lib.hid hm; have HA := Lib.hid ha; have HB := Lib.hid (HB1.out.trans (hb.mono HB1.out.size))
  clear ho hm ha hb c0 c1 c2 c3 c4 C
  go_wp2_with fail
  go_ret
  exact ⟨A, cap, ps, rfl, HO.out.2, HM.out, HA.out, HB.out⟩
theorem take_len {α : Type} {l : List α} {i : Nat} (h : i < l.length) : (l.take i).length = i := by simp; omega
theorem nodeF_many {al : Tr → Int} {pre : List It} {x : It} (h : pre.length = 4096) : nodeF al pre x = 12 := by rw [nodeF, if_pos h]
theorem nodeF_deep {al : Tr → Int} {pre : List It} {x : It} (h : ¬ pre.length = 4096) (hd : 64 < x.d) : nodeF al pre x = 11 := by rw [nodeF, if_neg h, if_pos hd]
theorem nodeF_al {al : Tr → Int} {pre : List It} {x : It} (h : ¬ pre.length = 4096) (hd : ¬ 64 < x.d) (ha : al x.t ≠ 0) : nodeF al pre x = al x.t := by rw [nodeF, if_neg h, if_neg hd, if_pos ha]
theorem nodeF_twice {al : Tr → Int} {pre : List It} {x : It} (h : ¬ pre.length = 4096) (hd : ¬ 64 < x.d) (ha : al x.t = 0) (hk : 0 ≤ x.up ∧ x.t.key ≠ noB ∧ hasKey pre x.up x.t.key) : nodeF al pre x = 10 := by rw [nodeF, if_neg h, if_neg hd, if_neg (by simpa using ha), if_pos hk]
theorem nodeF_ok {al : Tr → Int} {pre : List It} {x : It} (h : ¬ pre.length = 4096) (hd : ¬ 64 < x.d) (ha : al x.t = 0) (hk : ¬ (0 ≤ x.up ∧ x.t.key ≠ noB ∧ hasKey pre x.up x.t.key)) : nodeF al pre x = 0 := by rw [nodeF, if_neg h, if_neg hd, if_neg (by simpa using ha), if_neg hk]
def CPost (w : World) (t : Tr) (e : Ending) (w' : World) : Prop := ∃ a f, e = .returned (.tuple #[.int .i64 a, .int .i64 f]) ∧ FirstF aloneT (itemsL t) a f ∧ Below w.heap.size w w'
def NoHit (ps : List IV) (x : It) (k : Nat) : Prop := ∀ j, (hj : j < ps.length) → j < k → ¬ (0 ≤ x.up ∧ ps[j].1.up = x.up ∧ x.t.key ≠ noB ∧ ps[j].1.t.key = x.t.key)
theorem NoHit.step {ps : List IV} {x : It} {k : Nat} (h : NoHit ps x k) (hk : k < ps.length) (hn : ¬ (0 ≤ x.up ∧ ps[k].1.up = x.up ∧ x.t.key ≠ noB ∧ ps[k].1.t.key = x.t.key)) : NoHit ps x (k + 1) := by
  intro j hj hjk
  rcases Nat.lt_or_ge j k with h1 | h1
  · exact h j hj h1
  · have : j = k := by omega
    subst this; exact hn
theorem NoHit.none {ps : List IV} {x : It} {i : Nat} (h : NoHit ps x i) : ¬ (0 ≤ x.up ∧ x.t.key ≠ noB ∧ hasKey ((ps.map Prod.fst).take i) x.up x.t.key) := by
  rintro ⟨h1, h2, y, hy, h3, h4⟩
  obtain ⟨j, hj, rfl⟩ := List.mem_iff_getElem.1 hy
  simp at hj
  refine h j (by omega) (by omega) ⟨h1, ?_, h2, ?_⟩
  · simpa using h3
  · simpa using h4
theorem hit_has {ps : List IV} {x : It} {i k : Nat} (hk : k < ps.length) (hki : k < i) (h1 : ps[k].1.up = x.up) (h2 : ps[k].1.t.key = x.t.key) : hasKey ((ps.map Prod.fst).take i) x.up x.t.key :=
  ⟨ps[k].1, List.mem_iff_getElem.2 ⟨k, by simp; omega, by simp⟩, h1, h2⟩
end Go.Proofs.YtjnhcoflmechmaaGreatDoor

namespace Go.Proofs.YtjnhcoflmechmaaGreatDoor
open Go.RowKit Go.Sort
set_option linter.unusedVariables false
set_option maxRecDepth 100000
set_option maxHeartbeats 8000000 in
set_option maxRecDepth 100000 in
theorem icheck_any (t : Tr) (x : NV) (w : World) (h : TreeAt w w.heap.size t x) (hg : GoodT t) : Calls Tryz.prog 14 #[nodeV t x] w (CPost w t) := by
  obtain ⟨w1, hw1⟩ : ∃ w1, w1 = boxW w t x := ⟨_, rfl⟩
  have hb1 : Below w.heap.size w w1 := by rw [hw1]; exact below_box w t x
  obtain ⟨c0, c1, c2, c3, c4⟩ : KidCells w1 w.heap.size 0 t x := by rw [hw1]; exact box_node w t x
  have C := Lib.hid (items_any t x w1 (h.up hb1))
  have HW := Lib.hid hw1; have HB1 := Lib.hid hb1
  have HGI := Lib.hid (items_good hg)
  have HLEN := Lib.hid (items_len t)
  have HDEP := Lib.hid (items_depth t)
  clear h hw1 hb1 hg
  go_enter Tryz.func14, Tryz.ntmps14
  go_wp2_with fail
  rw [box_out HW]
  refine C.out.mono ?_
  rintro e w2 ⟨A, cap, ps, rfl, hrow, hm, ha, hb2⟩
  have HROW := Lib.hid hrow; have HM := Lib.hid hm
  have HB2 := Lib.hid (HB1.out.trans (hb2.mono HB1.out.size))
  have HTA := Lib.hid (show ∀ p ∈ ps, TRow w2 w2.heap.size p.2.A p.1.t.as from fun p hp => ((ha p hp).att).mono hb2.size)
  have hlen : ps.length ≤ 4097 := by have := HLEN.out; rw [← hm] at this; simpa using this
  have HGP := Lib.hid (show ∀ p ∈ ps, GoodT p.1.t from fun p hp => HGI.out p.1 (by rw [← hm]; exact List.mem_map_of_mem hp))
  have HDP := Lib.hid (show ∀ p ∈ ps, p.1.d ≤ 65 from fun p hp => HDEP.out p.1 (by rw [← hm]; exact List.mem_map_of_mem hp))
  clear hrow hm ha hb2 c0 c1 c2 c3 c4 C HLEN HDEP HGI
  go_wp2_with fail
  go_loopg [12] ps.length (fun g s12 wr => ∃ i : Nat, s12 = .int .i64 i ∧ i ≤ ps.length ∧ ps.length - i ≤ g ∧ RowKit.Hid (∀ j, (hj : j < (itemsL t).length) → j < i → nodeF aloneT ((itemsL t).take j) (itemsL t)[j] = 0) ∧ RowKit.Hid (Below w2.heap.size w2 wr))
  case atStart => exact ⟨0, rfl, by omega, by omega, Lib.hid (fun j hj h => by omega), Lib.hid (Below.refl _ _)⟩
  case round =>
    obtain ⟨i, rfl, hi, hg, HF, HB⟩ := hrel
    by_cases hlt : i < ps.length
    · have h1 : (i : Int) < (ps.length : Int) := by omega
      obtain ⟨gb, p, rfl, hgb, hp, hpc⟩ := irow_at (HROW.out.up HB.out) hlt
      have hpm : p ∈ ps := by rw [hp]; exact List.getElem_mem _
      have hmi : i < (itemsL t).length := by rw [← HM.out]; simpa using hlt
      have HPI := Lib.hid (show (itemsL t)[i] = p.1 by simp only [← HM.out]; rw [List.getElem_map, hp])
      have HTL := Lib.hid (show ((itemsL t).take i).length = i from take_len hmi)
      have FAIL := Lib.hid (show ∀ (f : Int) (W : World), nodeF aloneT ((itemsL t).take i) p.1 = f → f ≠ 0 → Below w2.heap.size w2 W → CPost w t (.returned (.tuple #[.int .i64 i, .int .i64 f])) W from fun f W hf h0 hW => ⟨i, f, rfl, .inl ⟨i, hmi, rfl, by rw [HPI.out]; exact hf.symm, h0, HF.out⟩, HB2.out.trans (hW.mono HB2.out.size)⟩)
      have PASS := Lib.hid (show nodeF aloneT ((itemsL t).take i) p.1 = 0 → ∀ j, (hj : j < (itemsL t).length) → j < i + 1 → nodeF aloneT ((itemsL t).take j) (itemsL t)[j] = 0 from fun h0 j hj hji => by
        rcases Nat.lt_or_ge j i with h2 | h2
        · exact HF.out j hj h2
        · have : j = i := by omega
          subst this
          rw [HPI.out]; exact h0)
      obtain ⟨⟨q0, q1, q2, q3, q4⟩, q5, q6⟩ := hpc
      have HPP := Lib.hid hp
      clear hp
      by_cases h96 : i = 4096
      · have HR := Lib.hid (FAIL.out 12 wr (nodeF_many (by rw [HTL.out]; exact h96)) (by decide) HB.out)
        have h96' : ((i : Int) == 4096) = true := by rw [h96]; rfl
        clear h96
        go_wp2_with fail
        go_ret2
        exact HR.out
      · have h96' : ((i : Int) == 4096) = false := by rw [beq_eq_false_iff_ne]; omega
        have HN96 := Lib.hid (show ¬ ((itemsL t).take i).length = 4096 by rw [HTL.out]; exact h96)
        clear h96
        by_cases hdp : 64 < p.1.d
        · have HR := Lib.hid (FAIL.out 11 wr (nodeF_deep HN96.out hdp) (by decide) HB.out)
          have hdp' : (p.1.d : Int) > 64 := by omega
          go_wp2_with fail
          go_ret2
          exact HR.out
        · have hdp' : ¬ (p.1.d : Int) > 64 := by omega
          have CA := Lib.hid (alone_any p.1.t p.2 wr ((HTA.out p hpm).up HB.out) (HGP.out p hpm))
          have HAL := Lib.hid (show ∀ f, f = aloneT p.1.t → f ≠ 0 → nodeF aloneT ((itemsL t).take i) p.1 = f from fun f hf h0 => by rw [nodeF_al HN96.out hdp (by rw [← hf]; exact h0), hf])
          have HTW := Lib.hid (show aloneT p.1.t = 0 → (0 ≤ p.1.up ∧ p.1.t.key ≠ noB ∧ hasKey ((itemsL t).take i) p.1.up p.1.t.key) → nodeF aloneT ((itemsL t).take i) p.1 = 10 from fun h0 hk => nodeF_twice HN96.out hdp h0 hk)
          have HNO := Lib.hid (show aloneT p.1.t = 0 → ¬ (0 ≤ p.1.up ∧ p.1.t.key ≠ noB ∧ hasKey ((itemsL t).take i) p.1.up p.1.t.key) → nodeF aloneT ((itemsL t).take i) p.1 = 0 from fun h0 hk => nodeF_ok HN96.out hdp h0 hk)
          obtain ⟨al, hal⟩ : ∃ al, al = aloneT p.1.t := ⟨_, rfl⟩
          rw [← hal] at CA
          have HALE := Lib.hid hal
          clear hal hdp
          go_wp2_with fail
          refine CA.out.mono ?_
          rintro e w3 ⟨rfl, hb3⟩
          have HB3 := Lib.hid (HB.out.trans (hb3.mono HB.out.size))
          clear hb3 CA HB q0 q1 q2 q3 q4 q5 q6
          by_cases haz : al = 0
          · subst haz
            go_wp2_with fail
            go_loopg [36] i (fun g s36 wr => ∃ k : Nat, s36 = .int .i64 k ∧ k ≤ i ∧ i - k ≤ g ∧ RowKit.Hid (NoHit ps p.1 k) ∧ RowKit.Hid (Below w2.heap.size w2 wr))
            case atStart => exact ⟨0, rfl, by omega, by omega, Lib.hid (fun j hj h => by omega), HB3⟩
            case round =>
              obtain ⟨k, rfl, hk, hg2, HNH, HBk⟩ := hrel
              by_cases hki : k < i
              · have h3 : (k : Int) < (i : Int) := by omega
                have h4 : (k : Int) < (ps.length : Int) := by omega
                obtain ⟨gb', p', hgg, -, hp', hpc'⟩ := irow_at (HROW.out.up HBk.out) hlt
                obtain ⟨gb'', y, hgg', -, hy, hyc⟩ := irow_at (HROW.out.up HBk.out) (show k < ps.length by omega)
                obtain rfl : gb = gb' := by simpa using hgg
                obtain rfl : gb = gb'' := by simpa using hgg'
                obtain rfl : p = p' := by rw [hp']; exact HPP.out
                have hyl : k < ps.length := by omega
                have HYK := Lib.hid hy
                obtain ⟨⟨q0, q1, q2, q3, q4⟩, q5, q6⟩ := hpc'
                obtain ⟨⟨y0, y1, y2, y3, y4⟩, y5, y6⟩ := hyc
                clear hgg hgg' hp' hy q0 q2 q3 q4 q5 y0 y2 y3 y4 y5
                by_cases t1 : 0 ≤ p.1.up
                · have t1' : decide (0 ≤ p.1.up) = true := decide_eq_true t1
                  by_cases t2 : y.1.up = p.1.up
                  · have t2' : (y.1.up == p.1.up) = true := by simpa using t2
                    by_cases t3 : p.1.t.key = noB
                    · have t3' : p.1.t.key.toList.isEmpty = true := isEmpty_noB.2 t3
                      have T3 := Lib.hid t3
                      clear t3
                      have HMS := Lib.hid (show ¬ (0 ≤ p.1.up ∧ ps[k].1.up = p.1.up ∧ p.1.t.key ≠ noB ∧ ps[k].1.t.key = p.1.t.key) from by rw [← HYK.out]; exact fun hh => hh.2.2.1 T3.out)
                      go_wp2_with fail
                      go_quiet (fail)
                      go_wp2_with fail
                      go_roundg (i - (k + 1))
                      case measure => omega
                      case rel => exact ⟨k + 1, by go_num, by omega, by omega, Lib.hid (HNH.out.step hyl HMS.out), Lib.hid (HBk.out.trans (below_drewN _ _ _))⟩
                    · have t3' : p.1.t.key.toList.isEmpty = false := by
                        cases hb : p.1.t.key.toList.isEmpty with
                        | true => exact absurd (isEmpty_noB.1 hb) t3
                        | false => rfl
                      by_cases t4 : y.1.t.key = p.1.t.key
                      · have t4' : (y.1.t.key.toList == p.1.t.key.toList) = true := by rw [eqB]; exact decide_eq_true t4
                        have HHIT := Lib.hid (HTW.out HALE.out.symm ⟨t1, t3, by rw [← HM.out]; exact hit_has hyl hki (by rw [← HYK.out]; exact t2) (by rw [← HYK.out]; exact t4)⟩)
                        clear t2 t3 t4
                        go_wp2_with fail
                        go_quiet (fail)
                        go_wp2_with fail
                        go_ret2
                        exact FAIL.out 10 _ HHIT.out (by decide) (HBk.out.trans (below_drewN _ _ _))
                      · have t4' : (y.1.t.key.toList == p.1.t.key.toList) = false := by rw [eqB]; exact decide_eq_false t4
                        have T4 := Lib.hid t4
                        clear t2 t3 t4
                        have HMS := Lib.hid (show ¬ (0 ≤ p.1.up ∧ ps[k].1.up = p.1.up ∧ p.1.t.key ≠ noB ∧ ps[k].1.t.key = p.1.t.key) from by rw [← HYK.out]; exact fun hh => T4.out hh.2.2.2)
                        go_wp2_with fail
                        go_quiet (fail)
                        go_wp2_with fail
                        go_roundg (i - (k + 1))
                        case measure => omega
                        case rel => exact ⟨k + 1, by go_num, by omega, by omega, Lib.hid (HNH.out.step hyl HMS.out), Lib.hid (HBk.out.trans (below_drewN _ _ _))⟩
                  · have t2' : (y.1.up == p.1.up) = false := by simpa using t2
                    have T2 := Lib.hid t2
                    clear t2
                    have HMS := Lib.hid (show ¬ (0 ≤ p.1.up ∧ ps[k].1.up = p.1.up ∧ p.1.t.key ≠ noB ∧ ps[k].1.t.key = p.1.t.key) from by rw [← HYK.out]; exact fun hh => T2.out hh.2.1)
                    go_wp2_with fail
                    go_quiet (fail)
                    go_wp2_with fail
                    go_roundg (i - (k + 1))
                    case measure => omega
                    case rel => exact ⟨k + 1, by go_num, by omega, by omega, Lib.hid (HNH.out.step hyl HMS.out), Lib.hid (HBk.out.trans (below_drewN _ _ _))⟩
                · have t1' : decide (0 ≤ p.1.up) = false := decide_eq_false t1
                  have T1 := Lib.hid t1
                  clear t1
                  have HMS := Lib.hid (show ¬ (0 ≤ p.1.up ∧ ps[k].1.up = p.1.up ∧ p.1.t.key ≠ noB ∧ ps[k].1.t.key = p.1.t.key) from by rw [← HYK.out]; exact fun hh => T1.out hh.1)
                  go_wp2_with fail
                  go_quiet (fail)
                  go_wp2_with fail
                  go_roundg (i - (k + 1))
                  case measure => omega
                  case rel => exact ⟨k + 1, by go_num, by omega, by omega, Lib.hid (HNH.out.step hyl HMS.out), Lib.hid (HBk.out.trans (below_drewN _ _ _))⟩
              · have h3 : ¬ (k : Int) < (i : Int) := by omega
                have HOK := Lib.hid (HNO.out HALE.out.symm (by rw [← HM.out]; exact NoHit.none (fun j hj hji => HNH.out j hj (by omega))))
                go_wp2_with fail
                go_roundg (ps.length - (i + 1))
                case measure => omega
                case rel => exact ⟨i + 1, by go_num, by omega, by omega, Lib.hid (PASS.out HOK.out), HBk⟩
          · have hz' : (al != 0) = true := by simpa using haz
            have HZ := Lib.hid haz
            clear haz
            go_wp2_with fail
            go_ret2
            exact FAIL.out al _ (HAL.out al HALE.out HZ.out) HZ.out HB3.out
    · have h1 : ¬ (i : Int) < (ps.length : Int) := by omega
      have hml : (itemsL t).length = ps.length := by rw [← HM.out]; simp
      have HML := Lib.hid hml
      clear hml
      go_wp2_with fail
      go_ret2
      exact ⟨0, 0, rfl, .inr ⟨rfl, rfl, fun j hj => HF.out j hj (by have := HML.out; omega)⟩, HB2.out.trans (HB.out.mono HB2.out.size)⟩
end Go.Proofs.YtjnhcoflmechmaaGreatDoor

namespace Go.Proofs.YtjnhcoflmechmaaGreatDoor
open Go.RowKit Go.Sort
set_option linter.unusedVariables false
set_option maxRecDepth 100000
mutual
def sizeT : Tr → Nat
  | .mk _ _ _ _ ks => 1 + sizeK ks
def sizeK : List Tr → Nat
  | [] => 0
  | k :: ks => sizeT k + sizeK ks
end
theorem sizeT_eq (t : Tr) : sizeT t = 1 + sizeK t.kids := by cases t; rw [sizeT]; rfl
theorem sizeK_append (a b : List Tr) : sizeK (a ++ b) = sizeK a + sizeK b := by
  induction a with
  | nil => simp [sizeK]
  | cons k a ih => simp only [List.cons_append, sizeK, ih]; omega
theorem sizeT_pos (t : Tr) : 1 ≤ sizeT t := by rw [sizeT_eq]; omega
theorem sizeK_len (l : List Tr) : l.length ≤ sizeK l := by
  induction l with
  | nil => simp
  | cons k a ih => have := sizeT_pos k; simp only [List.length_cons, sizeK]; omega
theorem sizeK_take {ks : List Tr} {j : Nat} (hj : j < ks.length) : sizeK (ks.take (j + 1)) = sizeK (ks.take j) + sizeT ks[j] := by
  have e : ks.take (j + 1) = ks.take j ++ [ks[j]] := by simp
  rw [e, sizeK_append]; simp [sizeK]
/-- Each text, and each list, is within the reach. -/
inductive FitT : Tr → Prop
  | mk {t : Tr} (h1 : t.tag.size ≤ 140737488355328) (h2 : t.key.size ≤ 140737488355328) (h3 : t.text.size ≤ 140737488355328) (h4 : t.as.length ≤ 140737488355328) (h5 : ∀ x ∈ t.as, x.1.size ≤ 140737488355328 ∧ x.2.size ≤ 140737488355328) (h6 : t.kids.length ≤ 140737488355328) (sub : ∀ k ∈ t.kids, FitT k) : FitT t
theorem FitT.sizes {t : Tr} (h : FitT t) : t.tag.size ≤ 140737488355328 ∧ t.key.size ≤ 140737488355328 ∧ t.text.size ≤ 140737488355328 ∧ t.as.length ≤ 140737488355328 ∧ (∀ x ∈ t.as, x.1.size ≤ 140737488355328 ∧ x.2.size ≤ 140737488355328) ∧ t.kids.length ≤ 140737488355328 := by
  cases h with
  | mk h1 h2 h3 h4 h5 h6 sub => exact ⟨h1, h2, h3, h4, h5, h6⟩
theorem FitT.kid {t : Tr} (h : FitT t) {k : Tr} {j : Nat} (hj : j < t.kids.length) (hk : k = t.kids[j]) : FitT k := by
  cases h with
  | mk h1 h2 h3 h4 h5 h6 sub => rw [hk]; exact sub _ (List.getElem_mem _)
def SeenA (l : List At) (k : Nat) (left0 left : Int) : Prop := left ≤ left0 ∧ left0 - (k : Int) * 68719476736 ≤ left ∧ ∀ j, (hj : j < l.length) → j < k → ((l[j].2.size / 4096 : Nat) : Int) ≤ left0 - left ∧ ((l[j].1.size / 4096 : Nat) : Int) ≤ left0 - left
theorem SeenA.step {l : List At} {k : Nat} {left0 left : Int} (h : SeenA l k left0 left) (hk : k < l.length) (hf : ∀ x ∈ l, x.1.size ≤ 140737488355328 ∧ x.2.size ≤ 140737488355328) : SeenA l (k + 1) left0 (left - ((l[k].2.size / 4096 : Nat) : Int) - ((l[k].1.size / 4096 : Nat) : Int)) := by
  obtain ⟨h1, h2, h3⟩ := h
  obtain ⟨f1, f2⟩ := hf l[k] (List.getElem_mem _)
  refine ⟨by omega, by omega, fun j hj hjk => ?_⟩
  rcases Nat.lt_or_ge j k with h4 | h4
  · have := h3 j hj h4; omega
  · have : j = k := by omega
    subst this
    omega
def WeighPost (t : Tr) (left : Int) (w : World) (e : Ending) (w' : World) : Prop := ∃ r : Int, e = .returned (.int .i64 r) ∧ -1000000000000000 ≤ r ∧ r ≤ left ∧ (0 ≤ r → GoodT t ∧ (sizeT t : Int) ≤ left - r) ∧ Below w.heap.size w w'
set_option maxHeartbeats 8000000 in
set_option maxRecDepth 100000 in
theorem weigh_any : ∀ t : Tr, ∀ (x : NV) (left : Int) (deep : Nat) (w : World), TreeAt w w.heap.size t x → FitT t → 0 ≤ left → left ≤ 5000 → deep ≤ 81 →
    Calls Tryz.prog 31 #[nodeV t x, .int .i64 left, .int .i64 deep] w (WeighPost t left w) := by
  refine tr_ind (fun t ih => ?_)
  intro x left deep w htree hfit hl0 hl1 hdp
  obtain ⟨f1, f2, f3, f4, f5, f6⟩ := hfit.sizes
  obtain ⟨w1, hw1⟩ : ∃ w1, w1 = boxW w t x := ⟨_, rfl⟩
  have hb1 : Below w.heap.size w w1 := by rw [hw1]; exact below_box w t x
  have hbox : KidCells w1 w.heap.size 0 t x := by rw [hw1]; exact box_node w t x
  have ht1 := htree.up hb1
  have hlt1 : w.heap.size < w1.heap.size := hbox.block_lt
  have HIH := Lib.hid ih; have HW := Lib.hid hw1; have HB1 := Lib.hid hb1; have HT1 := Lib.hid ht1; have HFT := Lib.hid hfit; have HBX := Lib.hid hbox; have HF5 := Lib.hid f5
  clear ih hw1 hb1 htree ht1 hfit hbox f5
  have hq : ((t.text.size : Int) + (t.key.size : Int)) / 4096 = (((t.text.size + t.key.size) / 4096 : Nat) : Int) := by omega
  obtain ⟨qn, hqn⟩ : ∃ q : Nat, q = (t.text.size + t.key.size) / 4096 := ⟨_, rfl⟩
  rw [← hqn] at hq
  have hqb : (qn : Int) ≤ 68719476736 := by omega
  have hqk : t.key.size < (qn + 1) * 4096 ∧ t.text.size < (qn + 1) * 4096 := by omega
  have HQK := Lib.hid hqk
  have hw1' : IntKind.i64.wrap ((t.text.size : Int) + (t.key.size : Int)) = (t.text.size : Int) + (t.key.size : Int) := by rw [IntKind.wrap_i64]; omega
  have hw2' : IntKind.i64.wrap (left - 1) = left - 1 := by rw [IntKind.wrap_i64]; omega
  have hw3' : IntKind.i64.wrap (left - 1 - (t.as.length : Int)) = left - 1 - (t.as.length : Int) := by rw [IntKind.wrap_i64]; omega
  have hw4' : IntKind.i64.wrap (left - 1 - (t.as.length : Int) - (qn : Int)) = left - 1 - (t.as.length : Int) - (qn : Int) := by rw [IntKind.wrap_i64]; omega
  clear hqn hqk
  obtain ⟨c0, c1, c2, c3, c4⟩ := HBX.out
  by_cases hneg : left - 1 - (t.as.length : Int) - (qn : Int) < 0
  · go_enter Tryz.func31, Tryz.ntmps31
    go_wp2_with fail
    rw [box_out HW]
    go_ret
    exact ⟨-1, rfl, by omega, by omega, fun h => by omega, HB1.out⟩
  · by_cases hdeep : 80 < deep
    · have hdeep' : (deep : Int) > 80 := by omega
      go_enter Tryz.func31, Tryz.ntmps31
      go_wp2_with fail
      rw [box_out HW]
      go_ret
      exact ⟨-1, rfl, by omega, by omega, fun h => by omega, HB1.out⟩
    · have hdeep' : ¬ (deep : Int) > 80 := by omega
      have r2 : IntKind.i64.wrap ((deep : Int) + 1) = (deep : Int) + 1 := by rw [IntKind.wrap_i64]; omega
      obtain ⟨l1, hl1e⟩ : ∃ l1, l1 = left - 1 - (t.as.length : Int) - (qn : Int) := ⟨_, rfl⟩
      have HL1 := Lib.hid hl1e
      have hl1a : 0 ≤ l1 := by omega
      have hl1b : l1 ≤ 5000 := by omega
      have hasl : t.as.length ≤ 5000 := by omega
      have hqn5 : qn ≤ 5000 := by omega
      go_enter Tryz.func31, Tryz.ntmps31
      go_wp2_with fail
      rw [box_out HW, ← hl1e]
      clear hneg hw1' hw2' hw3' hw4' hq hl1e c0 c1 c2 c3 c4
      go_loopg [1, 33] t.as.length (fun g s1 s33 wr => ∃ (k : Nat) (lf : Int), s33 = .int .i64 k ∧ s1 = .int .i64 lf ∧ k ≤ t.as.length ∧ t.as.length - k ≤ g ∧ -1000000000000000 ≤ lf ∧ lf ≤ l1 ∧ RowKit.Hid (SeenA t.as k l1 lf) ∧ RowKit.Hid (Below w1.heap.size w1 wr))
      case atStart => exact ⟨0, l1, rfl, rfl, by omega, by omega, by omega, by omega, Lib.hid ⟨by omega, by omega, fun j hj h => by omega⟩, Lib.hid (Below.refl _ _)⟩
      case round =>
        obtain ⟨k, lf, rfl, rfl, hk, hg, hlo, hhi, HS, HBr⟩ := hrel
        obtain ⟨c0, c1, c2, c3, c4⟩ := HBX.out.below HBr.out hlt1
        by_cases hlt : k < t.as.length
        · have h1 : (k : Int) < (t.as.length : Int) := by omega
          obtain ⟨b, off, y, hA, hb, hy, a1, a2⟩ := trow_at (HT1.out.att.up HBr.out) hlt
          have HS2 := Lib.hid (SeenA.step HS.out hlt HF5.out)
          obtain ⟨g1, g2⟩ := HF5.out t.as[k] (List.getElem_mem _)
          rw [← hy] at g1 g2
          have hSl := HS2.out.2.1
          rw [← hy] at HS2 hSl
          have hq1 : (y.2.size : Int) / 4096 = ((y.2.size / 4096 : Nat) : Int) := by omega
          have hq2 : (y.1.size : Int) / 4096 = ((y.1.size / 4096 : Nat) : Int) := by omega
          obtain ⟨m1, hm1⟩ : ∃ m : Nat, m = y.2.size / 4096 := ⟨_, rfl⟩
          obtain ⟨m2, hm2⟩ : ∃ m : Nat, m = y.1.size / 4096 := ⟨_, rfl⟩
          rw [← hm1] at hq1 HS2 hSl
          rw [← hm2] at hq2 HS2 hSl
          have hw5 : IntKind.i64.wrap (lf - (m1 : Int)) = lf - (m1 : Int) := by rw [IntKind.wrap_i64]; omega
          have hw6 : IntKind.i64.wrap (lf - (m1 : Int) - (m2 : Int)) = lf - (m1 : Int) - (m2 : Int) := by rw [IntKind.wrap_i64]; omega
          clear hy hm1 hm2
          go_wp2_with fail
          go_quiet (fail)
          go_wp2_with fail
          try rw [← hA]
          go_roundg (t.as.length - (k + 1))
          case measure => omega
          case rel => exact ⟨k + 1, lf - (m1 : Int) - (m2 : Int), by go_num, rfl, by omega, by omega, by omega, by omega, HS2, Lib.hid (HBr.out.trans (below_drewN _ _ _))⟩
        · have h1 : ¬ (k : Int) < (t.as.length : Int) := by omega
          have HSF := Lib.hid (show ∀ y ∈ t.as, 0 ≤ lf → y.1.size ≤ 100000000 ∧ y.2.size ≤ 100000000 from fun y hy h0 => by
            obtain ⟨j, hj, rfl⟩ := List.getElem_of_mem hy
            have := HS.out.2.2 j hj (by omega)
            omega)
          clear HS
          go_wp2_with fail
          go_loopg [1, 59] t.kids.length (fun g s1 s59 wr => ∃ (k : Nat) (lk : Int), s59 = .int .i64 k ∧ s1 = .int .i64 lk ∧ k ≤ t.kids.length ∧ t.kids.length - k ≤ g ∧ -1000000000000000 ≤ lk ∧ lk ≤ lf ∧ RowKit.Hid (0 ≤ lk → (∀ j, (hj : j < t.kids.length) → j < k → GoodT t.kids[j]) ∧ (sizeK (t.kids.take k) : Int) ≤ lf - lk) ∧ RowKit.Hid (Below w1.heap.size w1 wr))
          case atStart => exact ⟨0, lf, rfl, rfl, by omega, by omega, by omega, by omega, Lib.hid (fun _ => ⟨fun j hj h => by omega, by simp [sizeK]⟩), HBr⟩
          case round =>
            clear HBr c0 c1 c2 c3 c4
            obtain ⟨i, lk, rfl, rfl, hi, hg2, hlo2, hhi2, HG, HBr⟩ := hrel
            obtain ⟨c0, c1, c2, c3, c4⟩ := HBX.out.below HBr.out hlt1
            by_cases hlt : i < t.kids.length
            · have h2 : (i : Int) < (t.kids.length : Int) := by omega
              by_cases hln : lk < 0
              · go_wp2_with fail
                go_ret
                exact ⟨-1, rfl, by omega, by omega, fun h => by omega, HB1.out.trans (HBr.out.mono HB1.out.size)⟩
              · obtain ⟨b, off, kd, y, hK, hb, hkd, hkc, hkt⟩ := (HT1.out.up HBr.out).kid hlt
                obtain ⟨q0, q1, q2, q3, q4⟩ := hkc
                have C := HIH.out kd (by rw [hkd]; exact List.getElem_mem _) y lk (deep + 1) wr hkt (HFT.out.kid hlt hkd) (by omega) (by omega) (by omega)
                rw [show ((deep + 1 : Nat) : Int) = (deep : Int) + 1 from rfl] at C
                have HC := Lib.hid C; have HKD := Lib.hid hkd
                clear hkd hkt C
                go_wp2_with fail
                refine HC.out.mono ?_
                rintro e w3 ⟨r, rfl, hr1, hr2, hr3, hb3⟩
                have HB3 := Lib.hid (HBr.out.trans (hb3.mono HBr.out.size))
                have HG3 := Lib.hid (show 0 ≤ r → (∀ j, (hj : j < t.kids.length) → j < i + 1 → GoodT t.kids[j]) ∧ (sizeK (t.kids.take (i + 1)) : Int) ≤ lf - r from fun h0 => by
                  obtain ⟨e1, e2⟩ := hr3 h0
                  obtain ⟨e3, e4⟩ := HG.out (by omega)
                  refine ⟨fun j hj hji => ?_, ?_⟩
                  · rcases Nat.lt_or_ge j i with h5 | h5
                    · exact e3 j hj h5
                    · have : j = i := by omega
                      subst this
                      rw [← HKD.out]; exact e1
                  · rw [sizeK_take hlt, ← HKD.out]; omega)
                clear hr3 hb3 HC q0 q1 q2 q3 q4
                go_wp2_with fail
                try rw [← hK]
                go_roundg (t.kids.length - (i + 1))
                case measure => omega
                case rel => exact ⟨i + 1, r, by go_num, rfl, by omega, by omega, by omega, by omega, HG3, HB3⟩
            · have h2 : ¬ (i : Int) < (t.kids.length : Int) := by omega
              have HGF := Lib.hid (show 0 ≤ lk → GoodT t ∧ (sizeT t : Int) ≤ left - lk from fun h0 => by
                obtain ⟨e3, e4⟩ := HG.out h0
                rw [List.take_of_length_le (by omega)] at e4
                have e5 := sizeK_len t.kids
                have e6 := HQK.out
                have e7 := HL1.out
                refine ⟨.mk (by unfold maxLen; omega) (by omega) (by omega) (by omega) (fun y hy => HSF.out y hy (by omega)) (by omega) (fun k hk => ?_), by rw [sizeT_eq]; omega⟩
                obtain ⟨j, hj, rfl⟩ := List.getElem_of_mem hk
                exact e3 j hj (by omega))
              have hlk : lk ≤ left := by have e7 := HL1.out; omega
              go_wp2_with fail
              go_ret
              exact ⟨lk, rfl, by omega, hlk, HGF.out, HB1.out.trans (HBr.out.mono HB1.out.size)⟩
def FewPost (t : Tr) (most : Nat) (w : World) (e : Ending) (w' : World) : Prop := ∃ b, e = .returned (.bool b) ∧ (b = true → GoodT t ∧ sizeT t ≤ most) ∧ Below w.heap.size w w'
set_option maxHeartbeats 2000000 in
theorem few_any (t : Tr) (x : NV) (most : Nat) (w : World) (h : TreeAt w w.heap.size t x) (hf : FitT t) (hm : most ≤ 5000) : Calls Tryz.prog 11 #[nodeV t x, .int .i64 most] w (FewPost t most w) := by
  obtain ⟨w1, hw1⟩ : ∃ w1, w1 = boxW w t x := ⟨_, rfl⟩
  have hb1 : Below w.heap.size w w1 := by rw [hw1]; exact below_box w t x
  obtain ⟨c0, c1, c2, c3, c4⟩ : KidCells w1 w.heap.size 0 t x := by rw [hw1]; exact box_node w t x
  have C := Lib.hid (weigh_any t x most 0 w1 (h.up hb1) hf (by omega) (by omega) (by omega))
  rw [show ((0 : Nat) : Int) = 0 from rfl] at C
  have HW := Lib.hid hw1; have HB1 := Lib.hid hb1
  clear h hw1 hb1 hf
  go_enter Tryz.func11, Tryz.ntmps11
  go_wp2_with fail
  rw [box_out HW]
  refine C.out.mono ?_
  rintro e w2 ⟨r, rfl, hr1, hr2, hr3, hb2⟩
  have HB2 := Lib.hid (HB1.out.trans (hb2.mono HB1.out.size)); have HR := Lib.hid hr3
  clear hb2 hr3 c0 c1 c2 c3 c4 C
  by_cases h0 : 0 ≤ r
  · have HQ := Lib.hid (HR.out h0)
    go_wp2_with fail
    go_ret
    exact ⟨true, ret_bool (by simp), fun _ => ⟨HQ.out.1, by have := HQ.out.2; omega⟩, HB2.out⟩
  · go_wp2_with fail
    go_ret
    exact ⟨false, ret_bool (by simp; omega), (fun h => by cases h), HB2.out⟩
end Go.Proofs.YtjnhcoflmechmaaGreatDoor

namespace Go.Proofs.YtjnhcoflmechmaaGreatDoor
open Go.RowKit Go.Sort
set_option linter.unusedVariables false
set_option maxRecDepth 100000
def leafNV : NV := ⟨none, 0, none, 0⟩
def TrueB (w : World) (e : Ending) (w' : World) : Prop := e = .returned (.bool true) ∧ Below w.heap.size w w'
theorem ok_len {t : Tr} (h : (seenL aloneT t).2 = 0) : itemsL t = (seenL aloneT t).1 := by
  obtain ⟨h1, h2, h3, h4, h5⟩ := visit_below aloneT t 1 (-1) [] (Clean.nil aloneT)
  exact h4 h
theorem keepS {w1 W W' : World} {b : Nat} {t : Tr} {x : NV} (hb : Below W.heap.size W W')
    (h : W.cell? ⟨b, 0, none⟩ = some (.string t.tag) ∧ W.cell? ⟨b, 1, none⟩ = some (.string t.key) ∧ W.cell? ⟨b, 2, none⟩ = some (.string t.text) ∧ W.cell? ⟨b, 3, none⟩ = some (.slice x.A t.as.length x.ca) ∧ W.cell? ⟨b, 4, none⟩ = some (.slice x.K t.kids.length x.ck) ∧ RowKit.Hid (Below w1.heap.size w1 W)) :
    W'.cell? ⟨b, 0, none⟩ = some (.string t.tag) ∧ W'.cell? ⟨b, 1, none⟩ = some (.string t.key) ∧ W'.cell? ⟨b, 2, none⟩ = some (.string t.text) ∧ W'.cell? ⟨b, 3, none⟩ = some (.slice x.A t.as.length x.ca) ∧ W'.cell? ⟨b, 4, none⟩ = some (.slice x.K t.kids.length x.ck) ∧ RowKit.Hid (Below w1.heap.size w1 W') := by
  have hk := kept_below hb (fun _ => False)
  have nf : ¬ False := fun h => h
  obtain ⟨h0, h1, h2, h3, h4, h5⟩ := h
  exact ⟨hk.cellOf h0 nf, hk.cellOf h1 nf, hk.cellOf h2 nf, hk.cellOf h3 nf, hk.cellOf h4 nf, Lib.hid (h5.out.trans (hb.mono h5.out.size))⟩
end Go.Proofs.YtjnhcoflmechmaaGreatDoor
