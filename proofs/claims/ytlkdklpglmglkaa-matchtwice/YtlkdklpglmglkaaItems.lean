/-
  The reference's items: a slice of nodes with their depth and their parent's number.
-/
import Derived.Test.YtlkdklpglmglkaaSurvey
import Derived.Test.YtlkdklpglmglkaaApp
import Derived.Maps.AppendAt
namespace Go.Proofs.Ytlkdklpglmglkaa
open Go.RowKit Go.Sort
set_option linter.unusedVariables false
set_option maxRecDepth 100000
abbrev IV := It × NV
def encI (p : IV) : List Value := [.string p.1.t.tag, .string p.1.t.key, .string p.1.t.text, .slice p.2.A p.1.t.as.length p.2.ca, .slice p.2.K p.1.t.kids.length p.2.ck, .int .i64 p.1.d, .int .i64 p.1.up]
def its (l : List IV) : List Value := l.flatMap encI
theorem its_append (a b : List IV) : its (a ++ b) = its a ++ its b := by simp [its]
theorem its_length (l : List IV) : (its l).length = l.length * 7 := by
  induction l with
  | nil => rfl
  | cons p ps ih => simp only [its, List.flatMap_cons, List.length_append, List.length_cons, encI, List.length_nil] at ih ⊢; omega
theorem encI_one (p : IV) : ∀ v ∈ encI p, v.oneCell' = true := by
  intro v hv
  simp [encI] at hv
  rcases hv with rfl | rfl | rfl | rfl | rfl | rfl | rfl <;> rfl
theorem its_at : ∀ (l : List IV) (i : Nat) (hi : i < l.length) (r : Nat), r < 7 → (its l)[i * 7 + r]? = (encI l[i])[r]?
  | [], i, h, _, _ => by simp at h
  | p :: ps, 0, h, r, hr => by
    simp only [its, List.flatMap_cons, Nat.zero_mul, Nat.zero_add, List.getElem_cons_zero]
    rw [List.getElem?_append_left (by simp [encI]; omega)]
  | p :: ps, i + 1, h, r, hr => by
    have ih := its_at ps i (by simpa using h) r hr
    simp only [its, List.flatMap_cons] at ih ⊢
    rw [List.getElem?_append_right (by simp [encI]; omega)]
    simp only [encI, List.length_cons, List.length_nil, List.getElem_cons_succ] at ih ⊢
    rw [← ih]
    congr 1
    omega
theorem arr_new (W : World) (C : Array Value) (t : TypeId) (B : Nat) (hB : B = W.heap.size) : ∀ j u, C.toList[j]? = some u → (W.alloc (.cells C t)).cell? ((⟨B, 0, none⟩ : Addr).add j) = some u := by
  subst hB
  intro j u hj
  have e1 : (W.alloc (.cells C t)).cell? ⟨W.heap.size, 0 + j, none⟩ = C[0 + j]? := cell_of_row _ _ _ _ _ (0, 0) (heap_alloc_new W _)
  rw [Addr.add_lit, e1]
  simpa using hj
/-- A row stays in its block, or goes to a new one. -/
def Fresh (w : World) (v v' : Value) : Prop := ∀ k, k < w.heap.size → v'.ownBlock = some k → v.ownBlock = some k
theorem Fresh.refl (w : World) (v : Value) : Fresh w v v := fun _ _ h => h
theorem Fresh.trans {w w1 : World} {a b c : Value} (h : Fresh w a b) (k : Fresh w1 b c) (hs : w.heap.size ≤ w1.heap.size) : Fresh w a c := fun i hi hc => h i hi (k i (by omega) hc)
abbrev OwnB (v : Value) : Nat → Prop := fun b => v.ownBlock = some b
theorem Kept.fresh {w w1 w2 : World} {a b : Value} (h : Kept (OwnB a) w w1) (hf : Fresh w a b) (k : Kept (OwnB b) w1 w2) : Kept (OwnB a) w w2 := h.trans' k (fun i hi hb => hf i hi hb)
/-- append(x, y) for an element of k cells. -/
theorem wpList_appS {P : Program} {w : World} {ops : Array Oper} {rest : List Oper} {o : Oper} {a : Act} {Q : Exit → Act → World → Prop} (hgd : o.guard = none) (s x : Operand) (t : TypeId)
    (ho : o.op = .call { callee := .builtin .append, args := #[s, x], argTypes := #[t, t] })
    (base : Nat) (e : TypeId) (i : TypeInfo) (z : Value) (k bytes : Nat) (ht : P.underlying t = some (.slice e)) (hi : P.info? e = some i) (hz : i.zero = some z)
    (hsize : i.size = k) (hby : i.bytes = bytes) (hzs : z.cells.size = k) (hk : 0 < k) (hbm : bytes ≤ 1000)
    (v : Value) (n : Nat) (xs : List Value) (hs : a.eval s = v) (hown : w.ownsRow base e k v n xs)
    (C : Array Value) (hC : C.size = k) (hone : ∀ u ∈ C.toList, u.oneCell' = true) (B : Nat) (hB : B = w.heap.size) (hx : a.eval x = .slice (some ⟨B, 0, none⟩) 1 1)
    (hbytes : (n + 1) ≤ 10000000) (hbase : base ≤ w.heap.size)
    (h : ∀ v' w', w'.ownsRow base e k v' (n + 1) (xs ++ C.toList) → Below base w w' → Kept (OwnB v) w w' → Fresh w v v' → wpList P ops Q rest (a.put o.dst v') w') : wpList P ops Q (o :: rest) a (w.alloc (.cells C e)) := by
  subst hB
  have hb : (n + 1) * bytes ≤ 10000000 * 1000 := Nat.mul_le_mul hbytes hbm
  refine wpList_append_own_at (w.alloc _) hgd s x t ho base e i z k bytes ht hi hz hsize hby hzs hk v n xs hs (hown.alloc _) ⟨w.heap.size, 0, none⟩ 1 1 C.toList hx (by simp [hC]) (arr_new _ _ _ _ rfl) hone (by simp [maxLen]; omega) (by omega) (by simp; omega) ?_
  intro v' w' hown' hgrow _ hloc
  refine h v' w' hown' (((Below.refl base w).alloc hbase _).grown hgrow (by simp; omega) (fun k hk => (hown.lt k hk).1)) ((kept_alloc w _ _).trans ((kept_grown hgrow).mono (fun b _ hb => hb.symm))) (fun j hj hb => ?_)
  rcases hloc with hl | hl
  · rw [← hl]; exact hb
  · rw [hl] at hb
    simp at hb
    omega
theorem Try.info69 : (Try.prog.info? 69).map (fun i => (i.zero, i.size, i.bytes)) = some (some (.agg #[.string ⟨#[]⟩, .string ⟨#[]⟩, .string ⟨#[]⟩, .slice none 0 0, .slice none 0 0, .int .i64 0, .int .i64 0]), 7, 112) := by kernel_rfl
theorem row_form {w : World} {base e k : Nat} {v : Value} {n : Nat} {xs : List Value} (h : w.ownsRow base e k v n xs) : ∃ A cap, v = .slice A n cap := by
  rcases h.2 with ⟨rfl, rfl⟩ | ⟨g, cap, cur, rfl, _⟩
  · exact ⟨_, _, rfl⟩
  · exact ⟨_, _, rfl⟩
theorem belowK_full {ks : List Tr} {d : Nat} {up : Int} {l : List It} (h : 4096 < l.length) : belowK ks d up l = l := by
  cases ks with
  | nil => rw [belowK]
  | cons k ks => rw [belowK, if_pos h]
theorem belowK_append : ∀ (a b : List Tr) (d : Nat) (up : Int) (l : List It), belowK (a ++ b) d up l = belowK b d up (belowK a d up l)
  | [], b, d, up, l => by simp [belowK]
  | k :: a, b, d, up, l => by
    rw [List.cons_append, belowK, belowK]
    by_cases h : 4096 < l.length
    · rw [if_pos h, if_pos h, belowK_full h]
    · rw [if_neg h, if_neg h]; exact belowK_append a b d up _
theorem belowK_take {ks : List Tr} {j : Nat} (hj : j < ks.length) (d : Nat) (up : Int) (l m : List It) (h : belowK (ks.take j) d up l = m) (hm : ¬ 4096 < m.length) : belowK (ks.take (j + 1)) d up l = belowL ks[j] d up m := by
  have e : ks.take (j + 1) = ks.take j ++ [ks[j]] := by simp
  rw [e, belowK_append, h, belowK, if_neg hm, belowK]
theorem belowK_stop {ks : List Tr} {j : Nat} (d : Nat) (up : Int) (l m : List It) (h : belowK (ks.take j) d up l = m) (hm : 4096 < m.length) : belowK ks d up l = m := by
  have e : ks = ks.take j ++ ks.drop j := by simp
  rw [e, belowK_append, h, belowK_full hm]
theorem own_its {w : World} {base : Nat} {v : Value} {ps : List IV} {n : Nat} {xs : List Value} (h : w.ownsRow base 69 7 v n xs) (hx : xs = its ps) (hn : ps.length = n) : w.ownsRow base 69 7 v ps.length (its ps) := by subst hx; subst hn; exact h
def ItemsPost (n0 base : Nat) (v0 : Value) (w : World) (r : List It) (e : Ending) (w' : World) : Prop :=
  ∃ v ps, e = .returned v ∧ w'.ownsRow base 69 7 v ps.length (its ps) ∧ ps.map Prod.fst = r ∧ (∀ p ∈ ps, TreeAt w' n0 p.1.t p.2) ∧ Below base w w' ∧ Kept (OwnB v0) w w' ∧ Fresh w v0 v
set_option maxHeartbeats 4000000 in
theorem below_any (n0 base : Nat) (hnb : n0 ≤ base) : ∀ t : Tr, ∀ (x : NV) (d : Nat) (up : Int) (v : Value) (ps : List IV) (w : World), TreeAt w n0 t x → (∀ p ∈ ps, TreeAt w n0 p.1.t p.2) → base ≤ w.heap.size → w.ownsRow base 69 7 v ps.length (its ps) → d ≤ 66 →
    Calls Try.prog 61 #[v, nodeV t x, .int .i64 d, .int .i64 up] w (ItemsPost n0 base v w (belowL t d up (ps.map Prod.fst))) := by
  refine tr_ind (fun t ih => ?_)
  intro x d up v ps w htree hall hbase hown hd
  have hkl : t.kids.length ≤ maxLen := Nat.le_trans htree.caps.2.2.2.1 htree.caps.2.2.2.2.1
  obtain ⟨A, cap, rfl⟩ := row_form hown
  obtain ⟨i0, hi, hz0, hz1, hz2⟩ := info_parts Try.info69
  obtain ⟨w1, hw1⟩ : ∃ w1, w1 = boxW w t x := ⟨_, rfl⟩
  have hb1 : Below w.heap.size w w1 := by rw [hw1]; exact below_box w t x
  have hbox : KidCells w1 w.heap.size 0 t x := by rw [hw1]; exact box_node w t x
  have hown1 : w1.ownsRow base 69 7 (.slice A ps.length cap) ps.length (its ps) := by rw [hw1]; exact hown.alloc _
  have hs1 : base ≤ w1.heap.size := Nat.le_trans hbase hb1.size
  have hlt1 : w.heap.size < w1.heap.size := by rw [hw1]; simp
  have ht1 := htree.keepB (hb1.mono (Nat.le_trans hnb hbase))
  have hall1 : ∀ p ∈ ps, TreeAt w1 n0 p.1.t p.2 := fun p hp => (hall p hp).keepB (hb1.mono (Nat.le_trans hnb hbase))
  have HEQ := Lib.hid (belowL_eq t d up (ps.map Prod.fst))
  have hown0 := hown
  have HIH := Lib.hid ih; have HW := Lib.hid hw1; have HB1 := Lib.hid hb1; have HO1 := Lib.hid hown1; have HT1 := Lib.hid ht1; have HA1 := Lib.hid hall1
  have HBX := Lib.hid hbox
  clear ih hw1 hb1 htree hall hown ht1 hall1
  generalize belowL t d up (ps.map Prod.fst) = r at HEQ ⊢
  obtain ⟨c0, c1, c2, c3, c4⟩ := hbox
  unfold maxLen at hkl
  by_cases hfull : 4096 < ps.length
  · have HR := Lib.hid (show r = ps.map Prod.fst by rw [HEQ.out, if_pos (by simpa using hfull)])
    go_enter Try.func61, Try.ntmps61
    go_wp2_with fail
    rw [box_out HW]
    go_ret
    exact ⟨_, ps, rfl, HO1.out, HR.out.symm, HA1.out, HB1.out.mono hbase, kept_below HB1.out _, Fresh.refl _ _⟩
  · have HEQ2 := Lib.hid (show r = if 64 < d then ps.map Prod.fst ++ [⟨t, d, up⟩] else belowK t.kids (d + 1) ps.length (ps.map Prod.fst ++ [⟨t, d, up⟩]) by rw [HEQ.out, if_neg (by simpa using hfull), List.length_map])
    clear HEQ
    have hps : ps.length ≤ 4096 := by omega
    have hraw : (w.alloc (.cells #[.string t.tag, .string t.key, .string t.text, .slice x.A t.as.length x.ca, .slice x.K t.kids.length x.ck] 25)).ownsRow base 69 7 (.slice A ps.length cap) ps.length (its ps) := by rw [box_out HW]; exact HO1.out
    have hrs : base ≤ (w.alloc (.cells #[.string t.tag, .string t.key, .string t.text, .slice x.A t.as.length x.ca, .slice x.K t.kids.length x.ck] 25)).heap.size := by rw [box_out HW]; exact hs1
    have HRAW := Lib.hid hraw
    have HOLT := Lib.hid (show ∀ k, (Value.slice A ps.length cap).ownBlock = some k → k < w.heap.size by
      intro k hk
      exact (hown0.lt k hk).2)
    clear hraw
    by_cases hdeep : 64 < d
    · have hd' : (d : Int) > 64 := by omega
      have HR := Lib.hid (show r = ps.map Prod.fst ++ [⟨t, d, up⟩] by rw [HEQ2.out, if_pos hdeep])
      go_enter Try.func61, Try.ntmps61
      go_wp2_with (at_builtin; refine wpList_appS rfl _ _ 65 rfl base 69 i0 (.agg #[.string ⟨#[]⟩, .string ⟨#[]⟩, .string ⟨#[]⟩, .slice none 0 0, .slice none 0 0, .int .i64 0, .int .i64 0]) 7 112 Try.underlying65 hi hz0 hz1 hz2 rfl (by omega) (by omega) _ ps.length (its ps) rfl HRAW.out #[.string t.tag, .string t.key, .string t.text, .slice x.A t.as.length x.ca, .slice x.K t.kids.length x.ck, .int .i64 d, .int .i64 up] rfl (encI_one (⟨t, d, up⟩, x)) _ (by simp) rfl (by omega) hrs ?_; intro v2 w2 hown2 hb2 hk2 hf2)
      rw [box_out HW] at hb2 hk2 hf2
      go_ret
      refine ⟨v2, ps ++ [(⟨t, d, up⟩, x)], rfl, own_its hown2 (by simp [its, encI]) (by simp), by rw [HR.out]; simp, fun p hp => ?_, (HB1.out.mono hbase).trans hb2, (kept_below HB1.out _).trans hk2, fun k hk hv => hf2 k (by omega) hv⟩
      have hbn := hb2.mono hnb
      rcases List.mem_append.1 hp with hp | hp
      · exact (HA1.out p hp).keepB hbn
      · simp at hp; subst hp; exact HT1.out.keepB hbn
    · have hd' : ¬ (d : Int) > 64 := by omega
      have r2 : IntKind.i64.wrap ((d : Int) + 1) = (d : Int) + 1 := by rw [IntKind.wrap_i64]; omega
      have HR := Lib.hid (show r = belowK t.kids (d + 1) ps.length (ps.map Prod.fst ++ [⟨t, d, up⟩]) by rw [HEQ2.out, if_neg hdeep])
      have hqraw : ∀ w2, Kept (OwnB (.slice A ps.length cap)) (w.alloc (.cells #[.string t.tag, .string t.key, .string t.text, .slice x.A t.as.length x.ca, .slice x.K t.kids.length x.ck] 25)) w2 → w2.cell? ⟨w.heap.size, 0 + 4, none⟩ = some (.slice x.K t.kids.length x.ck) := by
        intro w2 hk
        rw [box_out HW] at hk
        exact hk.cellOf HBX.out.c4 (fun h => absurd (HOLT.out _ h) (Nat.lt_irrefl _))
      have HQ := Lib.hid hqraw
      clear hqraw c0 c1 c2 c3 c4 hown0
      go_enter Try.func61, Try.ntmps61
      go_wp2_with (at_builtin; refine wpList_appS rfl _ _ 65 rfl base 69 i0 (.agg #[.string ⟨#[]⟩, .string ⟨#[]⟩, .string ⟨#[]⟩, .slice none 0 0, .slice none 0 0, .int .i64 0, .int .i64 0]) 7 112 Try.underlying65 hi hz0 hz1 hz2 rfl (by omega) (by omega) _ ps.length (its ps) rfl HRAW.out #[.string t.tag, .string t.key, .string t.text, .slice x.A t.as.length x.ca, .slice x.K t.kids.length x.ck, .int .i64 d, .int .i64 up] rfl (encI_one (⟨t, d, up⟩, x)) _ (by simp) rfl (by omega) hrs ?_; intro v2 w2 hown2 hb2 hk2 hf2; have hq4 := HQ.out w2 hk2)
      clear HQ
      rw [box_out HW] at hb2 hk2 hf2
      have HB2 := Lib.hid ((HB1.out.mono hbase).trans hb2)
      have HK2 := Lib.hid ((kept_below HB1.out _).trans hk2)
      have HF2 := Lib.hid (show Fresh w (.slice A ps.length cap) v2 from fun k hk hv => hf2 k (by omega) hv)
      have HO2 := Lib.hid (own_its (ps := ps ++ [(⟨t, d, up⟩, x)]) hown2 (by simp [its, encI]) (by simp))
      have HA2 := Lib.hid (show ∀ p ∈ ps ++ [(⟨t, d, up⟩, x)], TreeAt w2 n0 p.1.t p.2 from by
        intro p hp
        have hbn := hb2.mono hnb
        rcases List.mem_append.1 hp with hp | hp
        · exact (HA1.out p hp).keepB hbn
        · simp at hp; subst hp; exact HT1.out.keepB hbn)
      have HT2 := Lib.hid (HT1.out.keepB (hb2.mono hnb))
      have HNB := Lib.hid (show ¬ OwnB v2 w.heap.size from fun h => by have := HOLT.out _ (hf2 _ hlt1 h); omega)
      have HBN2 := Lib.hid (show ∀ wr, Kept (OwnB v2) w2 wr → Below n0 w2 wr from fun wr h => h.below (Nat.le_trans (Nat.le_trans hnb hs1) hb2.size) (fun k hk => Nat.le_trans hnb (hown2.lt k hk).1))
      have HBX2 := Lib.hid (HBX.out.kept hk2 (fun h => by have := HOLT.out _ h; omega))
      clear hb2 hk2 hf2 hown2 hq4
      go_loopg [0, 10, 30] t.kids.length (fun g s0 _ s30 wr => ∃ (k : Nat) (qs : List IV), s30 = .int .i64 k ∧ k ≤ t.kids.length ∧ t.kids.length - k ≤ g ∧ RowKit.Hid (qs.map Prod.fst = belowK (t.kids.take k) (d + 1) ps.length (ps.map Prod.fst ++ [⟨t, d, up⟩])) ∧ RowKit.Hid (wr.ownsRow base 69 7 s0 qs.length (its qs)) ∧ RowKit.Hid (∀ p ∈ qs, TreeAt wr n0 p.1.t p.2) ∧ RowKit.Hid (Below base w wr) ∧ RowKit.Hid (Kept (OwnB (.slice A ps.length cap)) w wr) ∧ RowKit.Hid (Fresh w (.slice A ps.length cap) s0) ∧ RowKit.Hid (Kept (OwnB v2) w2 wr) ∧ RowKit.Hid (Fresh w2 v2 s0))
      case atStart => exact ⟨0, ps ++ [(⟨t, d, up⟩, x)], rfl, by omega, by omega, Lib.hid (by simp [belowK]), HO2, HA2, HB2, HK2, HF2, Lib.hid (Kept.refl _ _), Lib.hid (Fresh.refl _ _)⟩
      case round =>
        obtain ⟨k, qs, rfl, hk, hg, HQ, HO, HA, HB, HK, HF, HKK, HFF⟩ := hrel
        obtain ⟨A', cap', hu⟩ := row_form HO.out
        subst hu
        have hq4 := (HBX2.out.kept HKK.out HNB.out).c4
        have hsw : base ≤ wr.heap.size := Nat.le_trans hbase HB.out.size
        by_cases hlt : k < t.kids.length
        · have h1 : (k : Int) < (t.kids.length : Int) := by omega
          by_cases hq : 4096 < qs.length
          · have HST := Lib.hid (belowK_stop (d + 1) ps.length _ _ HQ.out.symm (by simpa using hq))
            clear hlt
            go_wp2_with fail
            go_ret
            exact ⟨_, qs, rfl, HO.out, by rw [HR.out, HST.out], HA.out, HB.out, HK.out, HF.out⟩
          · obtain ⟨b, off, kd, y, hK, hb, hkd, hkc, hkt⟩ := (HT2.out.keepB (HBN2.out wr HKK.out)).kid hlt
            obtain ⟨q0, q1, q2, q3, q4⟩ := hkc
            have HTK := Lib.hid (belowK_take hlt (d + 1) ps.length _ _ HQ.out.symm (by simpa using hq))
            have C := HIH.out kd (by rw [hkd]; exact List.getElem_mem _) y (d + 1) ps.length _ qs wr hkt HA.out hsw HO.out (by omega)
            rw [show ((d + 1 : Nat) : Int) = (d : Int) + 1 from rfl] at C
            have HC := Lib.hid C
            rw [← hkd] at HTK
            clear hkd hkt C
            go_wp2_with fail
            refine HC.out.mono ?_
            rintro e w3 ⟨v3, qs3, rfl, ho3, hm3, ha3, hb3, hk3, hf3⟩
            have HO3 := Lib.hid ho3; have HA3 := Lib.hid ha3; have HB3 := Lib.hid (HB.out.trans hb3)
            have HK3 := Lib.hid (HK.out.fresh HF.out hk3); have HF3 := Lib.hid (HF.out.trans hf3 HB.out.size)
            have HKK3 := Lib.hid (HKK.out.fresh HFF.out hk3); have HFF3 := Lib.hid (HFF.out.trans hf3 HKK.out.size)
            have HM3 := Lib.hid (hm3.trans HTK.out.symm)
            clear ho3 hm3 ha3 hb3 hk3 hf3 HC q0 q1 q2 q3 q4
            go_wp2_with fail
            try rw [← hK]
            go_roundg (t.kids.length - (k + 1))
            case measure => omega
            case rel => exact ⟨k + 1, qs3, by go_num, by omega, by omega, HM3, HO3, HA3, HB3, HK3, HF3, HKK3, HFF3⟩
        · have h1 : ¬ (k : Int) < (t.kids.length : Int) := by omega
          have HVF := Lib.hid (show qs.map Prod.fst = belowK t.kids (d + 1) ps.length (ps.map Prod.fst ++ [⟨t, d, up⟩]) by rw [HQ.out, List.take_of_length_le (by omega)])
          go_wp2_with fail
          go_ret
          exact ⟨_, qs, rfl, HO.out, by rw [HR.out, HVF.out], HA.out, HB.out, HK.out, HF.out⟩
end Go.Proofs.Ytlkdklpglmglkaa
