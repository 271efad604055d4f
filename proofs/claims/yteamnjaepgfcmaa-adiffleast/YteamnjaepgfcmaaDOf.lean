/-
  adiff.Of.
-/
import Derived.Test.YteamnjaepgfcmaaDIter
import Derived.Test.YteamnjaepgfcmaaDNormal
import Derived.Test.YteamnjaepgfcmaaPlain
namespace Go.Proofs.Yteamnjaepgfcmaa
open Go.RowKit Go.Sort Go.Shelf
set_option linter.unusedVariables false
attribute [local go_sem] Oper.semAt_some
theorem eqCh (x y : Ch) : (x.1.toList == y.1.toList && (x.2.1.toList == y.2.1.toList && (x.2.2 == y.2.2))) = decide (x = y) := by
  rw [eqB, eqB, Bool.eq_iff_iff]
  simp [Prod.ext_iff]
theorem eqC (x y : Ch) (w : World) : (Op.equalIn 10000 46 (.agg #[.string x.1, .string x.2.1, .bool x.2.2]) (.agg #[.string y.1, .string y.2.1, .bool y.2.2])).run Try.prog w = .ok (decide (x = y)) w := by
  rw [← eqCh, run_equalIn_struct w 9999 46 _ _ (by kernel_rfl) (by kernel_rfl)]
  have hf : ((Try.prog.fieldsOf 46).toList.map fun f => (f.type, f.offset, f.name == "_")) = [(9, 0, false), (9, 1, false), (4, 2, false)] := by kernel_rfl
  generalize (Try.prog.fieldsOf 46).toList = fs at hf
  rcases fs with _ | ⟨a, _ | ⟨b, _ | ⟨d, _ | ⟨c, r⟩⟩⟩⟩
  · simp at hf
  · simp at hf
  · simp at hf
  · simp at hf
    obtain ⟨⟨h1, h2, h3⟩, ⟨h4, h5, h6⟩, h7, h8, h9⟩ := hf
    have p1 : ∀ (u v : ByteArray) (g : Bool) (w : World), Sem.run Try.prog (part 9 #[.string u, .string v, .bool g] 0) w = .ok (.string u) w := fun u v g w => by kernel_rfl
    have p2 : ∀ (u v : ByteArray) (g : Bool) (w : World), Sem.run Try.prog (part 9 #[.string u, .string v, .bool g] 1) w = .ok (.string v) w := fun u v g w => by kernel_rfl
    have p3 : ∀ (u v : ByteArray) (g : Bool) (w : World), Sem.run Try.prog (part 4 #[.string u, .string v, .bool g] 2) w = .ok (.bool g) w := fun u v g w => by kernel_rfl
    have e1 : ∀ (u v : ByteArray) (w : World), Sem.run Try.prog (Op.equalIn 9999 9 (.string u) (.string v)) w = .ok (u.toList == v.toList) w := fun u v w => run_equalIn_string w 9998 9 u v Try.underlying9
    have e2 : ∀ (u v : Bool) (w : World), Sem.run Try.prog (Op.equalIn 9999 4 (.bool u) (.bool v)) w = .ok (u == v) w := fun u v w => by cases u <;> cases v <;> kernel_rfl
    simp only [Op.eqFields, h1, h2, h4, h5, h7, h8]
    simp [h3, h6, h9]
    rw [p1]; simp only [Result.andThen_ok]
    rw [p1]; simp only [Result.andThen_ok]
    rw [e1]; simp only [Result.andThen_ok]
    cases h7 : (x.1.toList == y.1.toList)
    · simp
    · simp only [Bool.true_eq_false, if_false]
      rw [p2]; simp only [Result.andThen_ok]
      rw [p2]; simp only [Result.andThen_ok]
      rw [e1]; simp only [Result.andThen_ok]
      cases h8 : (x.2.1.toList == y.2.1.toList)
      · simp
      · simp only [Bool.true_eq_false, if_false]
        rw [p3]; simp only [Result.andThen_ok]
        rw [p3]; simp only [Result.andThen_ok]
        rw [e2]; simp only [Result.andThen_ok]
        cases h9 : (x.2.2 == y.2.2) <;> simp
  · simp at hf
theorem neqC (x y : Ch) (w : World) : (binOp .neq 46 (.agg #[.string x.1, .string x.2.1, .bool x.2.2]) (.agg #[.string y.1, .string y.2.1, .bool y.2.2])).run Try.prog w = .ok (.bool (!decide (x = y))) w := by
  rw [run_neq_struct, eqC]; rfl
theorem eqlC (x y : Ch) (w : World) : (binOp .eql 46 (.agg #[.string x.1, .string x.2.1, .bool x.2.2]) (.agg #[.string y.1, .string y.2.1, .bool y.2.2])).run Try.prog w = .ok (.bool (decide (x = y))) w := by
  rw [run_eql_struct, eqC]; rfl
structure Kept (S : Nat → Prop) (w w' : World) : Prop where
  os : w'.os = w.os
  tape : w'.tape = w.tape
  output : w'.output = w.output
  size : w.heap.size ≤ w'.heap.size
  block : ∀ k, k < w.heap.size → ¬ S k → w'.heap[k]? = w.heap[k]?
theorem Kept.refl (S : Nat → Prop) (w : World) : Kept S w w := ⟨rfl, rfl, rfl, Nat.le_refl _, fun _ _ _ => rfl⟩
theorem Kept.trans {S : Nat → Prop} {a b c : World} (h : Kept S a b) (k : Kept S b c) : Kept S a c :=
  ⟨k.os.trans h.os, k.tape.trans h.tape, k.output.trans h.output, Nat.le_trans h.size k.size, fun i hi hs => (k.block i (Nat.lt_of_lt_of_le hi h.size) hs).trans (h.block i hi hs)⟩
theorem Kept.below {S : Nat → Prop} {w w' : World} (h : Kept S w w') {B : Nat} (hB : B ≤ w.heap.size) (hS : ∀ k, S k → B ≤ k) : Below B w w' :=
  ⟨h.os, h.tape, h.output, h.size, fun k hk => h.block k (by omega) (fun hs => by have := hS k hs; omega)⟩
theorem kept_below {w w' : World} (h : Below w.heap.size w w') (S : Nat → Prop) : Kept S w w' := ⟨h.os, h.tape, h.output, h.size, fun k hk _ => h.block k hk⟩
theorem kept_alloc (w : World) (o : Obj) (S : Nat → Prop) : Kept S w (w.alloc o) := kept_below ((Below.refl _ _).alloc (Nat.le_refl _) _) S
theorem kept_setCell (w : World) (b off : Nat) (v : Value) : Kept (· = b) w (w.setCell ⟨b, off, none⟩ v) :=
  ⟨rfl, rfl, rfl, by simp [World.setCell], fun k hk hs => Below.heap_setCell _ _ _ _ hs⟩
/-- What the caller holds between two rounds. -/
def OInv (W0 : World) (Bt : Nat) (pre : List (Ch × Ch)) (W : World) : Prop :=
  (∃ v, Boxed W Bt 40 v ∧ W.ownsRow W0.heap.size 46 3 v (diffP pre).length (cvs (diffP pre)) ∧ True) ∧ Kept (· = Bt) W0 W
theorem oinv_own (W0 : World) (Bt : Nat) : OwnFrom W0.heap.size (OInv W0 Bt) := by
  refine OwnFrom.and (Own.from (holdsRow_own W0.heap.size Bt 40 46 3 (fun pre => (diffP pre).length) (fun pre => cvs (diffP pre)) (fun _ _ => True)) _) ?_
  intro s W W' row hs hg hr
  refine ⟨hg.os.trans hs.os, hg.tape.trans hs.tape, hg.output.trans hs.output, Nat.le_trans hs.size hg.size, fun k hk hS => ?_⟩
  exact (hg.block k (Nat.lt_of_lt_of_le hk hs.size) (fun e => by have := (hr k e.symm).1; omega)).trans (hs.block k hk hS)
theorem own_notBox {W : World} {n₀ B : Nat} {e : TypeId} {size k : Nat} {v : Value} {xs : List Value} (h : W.ownsRow n₀ e size v k xs) (hB : B < n₀) : some B ≠ v.ownBlock := by
  intro hb
  have := (h.lt B hb.symm).1
  omega
theorem own_down {w : World} {b1 b2 : Nat} {e : TypeId} {size : Nat} {v : Value} {k : Nat} {xs : List Value} (h : w.ownsRow b1 e size v k xs) (hb : b2 ≤ b1) : w.ownsRow b2 e size v k xs := by
  refine ⟨h.1, ?_⟩
  rcases h.2 with h1 | ⟨g, cap, cur, he, hg, r⟩
  · exact .inl h1
  · exact .inr ⟨g, cap, cur, he, Nat.le_trans hb hg, r⟩
theorem box_not_row {W : World} {B : Nat} {v : Value} (h : Boxed W B 40 v) (hv : ∀ s, v ≠ .string s) {n0 : Nat} {A : Option Addr} {l : List At} (hr : TRow W n0 A l) : NRow W n0 B A l := by
  refine ⟨hr, fun b off hA h0 e => ?_⟩
  obtain ⟨b', off', hA', hb, hc⟩ := hr h0
  rw [hA] at hA'
  cases hA'
  have h1 := (hc 0 h0).1
  subst e
  have e1 : W.cell? ⟨b, off + 0 * 2, none⟩ = (#[v] : Array Value)[off + 0 * 2]? := cell_of_row _ _ _ _ _ (0, 0) h
  rw [e1] at h1
  rcases Nat.eq_zero_or_pos (off + 0 * 2) with e2 | e2
  · rw [e2] at h1; simp at h1; exact hv _ h1
  · rw [Array.getElem?_eq_none (by simp; omega)] at h1; cases h1
theorem oinv_push {W0 W w1 : World} {Bt : Nat} {pre : List (Ch × Ch)} {x : Ch × Ch} {v : Value} {tmp : Obj} {g cap : Nat} (hBt : Bt < W0.heap.size) (hv : Boxed W Bt 40 v) (hrow : W.ownsRow W0.heap.size 46 3 v (diffP pre).length (cvs (diffP pre))) (hk : Kept (· = Bt) W0 W) (hne : ¬ x.1 = x.2)
    (hown : w1.ownsRow W0.heap.size 46 3 (.slice (some ⟨g, 0, none⟩) ((diffP pre).length + 1) cap) ((diffP pre).length + 1) (cvs (diffP pre) ++ encC x.2)) (hgrow : (W.alloc tmp).grownBy w1 v.ownBlock) :
    Boxed w1 Bt 40 v ∧ OInv W0 Bt (pre ++ [x]) (w1.setCell ⟨Bt, 0, none⟩ (.slice (some ⟨g, 0, none⟩) ((diffP pre).length + 1) cap)) ∧
      KeepsOthers W (w1.setCell ⟨Bt, 0, none⟩ (.slice (some ⟨g, 0, none⟩) ((diffP pre).length + 1) cap)) := by
  have hv1 : Boxed w1 Bt 40 v := (hv.alloc tmp).kept hgrow (own_notBox hrow hBt)
  have ho2 := hown.kept (grownBy_setCell' w1 Bt (.slice (some ⟨g, 0, none⟩) ((diffP pre).length + 1) cap)) (.inr (own_notBox hown hBt).symm)
  have hkw : Kept (· = Bt) W0 w1 := by
    have h1 := hk.trans (kept_alloc W tmp (· = Bt))
    refine ⟨hgrow.os.trans h1.os, hgrow.tape.trans h1.tape, hgrow.output.trans h1.output, Nat.le_trans h1.size hgrow.size, fun k hk' hS => ?_⟩
    exact (hgrow.block k (Nat.lt_of_lt_of_le hk' h1.size) (own_notBox hrow hk')).trans (h1.block k hk' hS)
  have ed : diffP (pre ++ [x]) = diffP pre ++ [x.2] := by rw [diffP_snoc, if_neg hne]
  refine ⟨hv1, ⟨⟨_, hv1.set _, ?_, trivial⟩, hkw.trans (kept_setCell w1 Bt 0 _)⟩, ?_⟩
  · rw [ed, cvs_snoc, List.length_append]
    exact ho2
  · refine ((KeepsOthers.alloc W tmp).trans (KeepsOthers.of_grownBy hgrow fun j o ej hj => ?_)).trans (KeepsOthers.setCell _ _ _)
    rcases (hrow.alloc tmp).2 with ⟨rfl, _⟩ | ⟨g, cap, cur, rfl, _, hgb, _⟩
    · simp [Value.ownBlock] at ej
    · obtain rfl : g = j := by simpa [Value.ownBlock] using ej
      rw [hgb] at hj; cases hj; rfl
theorem oinv_same {W0 W : World} {Bt : Nat} {pre : List (Ch × Ch)} {x : Ch × Ch} (h : OInv W0 Bt pre W) (he : x.1 = x.2) : OInv W0 Bt (pre ++ [x]) W := by
  have ed : diffP (pre ++ [x]) = diffP pre := by rw [diffP_snoc, if_pos he, List.append_nil]
  obtain ⟨⟨v, h1, h2, h3⟩, h4⟩ := h
  exact ⟨⟨v, h1, by rw [ed]; exact h2, h3⟩, h4⟩
theorem oinv_alloc {W0 W : World} {Bt : Nat} {pre : List (Ch × Ch)} (h : OInv W0 Bt pre W) (o : Obj) : OInv W0 Bt pre (W.alloc o) := (oinv_own W0 Bt).alloc o h
theorem keepBut_of {W0 W W' : World} {Bt : Nat} (h1 : Kept (· = Bt) W0 W) (h2 : Kept (· = Bt) W0 W') (hs : W.heap.size ≤ W'.heap.size) : KeepBut W0.heap.size Bt W W' :=
  ⟨hs, fun k hk hne => (h2.block k hk hne).trans (h1.block k hk hne).symm⟩
/-- The frame of a round: the two boxes of the loop's variables. -/
def AxD (T : Nat → Nat → Ch × Ch → Act) (x : Ch × Ch) (a' : Act) (W : World) : Prop := ∃ p6 p7, a' = T p6 p7 x ∧ BoxC W p6 x.1 ∧ BoxC W p7 x.2
theorem boxC_own {W W' : World} {row : Option Nat} {B : Nat} {c : Ch} (h : BoxC W B c) (hg : W.grownBy W' row) (hr : ∀ r, row = some r → ∃ o : Obj, W.heap[r]? = some o ∧ o.isCells = false) : BoxC W' B c := by
  refine (hg.block B h.lt (fun e => ?_)).trans h
  obtain ⟨o, ho, hc⟩ := hr B e.symm
  rw [show W.heap[B]? = _ from h] at ho
  cases ho; cases hc
theorem axD_own (T : Nat → Nat → Ch × Ch → Act) (B : Nat) (x : Ch × Ch) (a' : Act) : OwnFrom B (fun (_ : Unit) W => AxD T x a' W) := by
  rintro s W W' row ⟨p6, p7, rfl, h6, h7⟩ hg hr
  exact ⟨p6, p7, rfl, boxC_own h6 hg (fun r e => (hr r e).2), boxC_own h7 hg (fun r e => (hr r e).2)⟩
set_option maxRecDepth 100000 in
set_option maxHeartbeats 4000000 in
theorem of_go (A A' : Option Addr) (c c' : Nat) (a b : List At) (w : World) (ha : TRow w w.heap.size A a) (hb : TRow w w.heap.size A' b) (la : a.length ≤ 100000) (lb : b.length ≤ 100000) (sa : Short a) (sb : Short b)
    (ca : a.length ≤ c) (cb : b.length ≤ c') (ma : c ≤ maxLen) (mb : c' ≤ maxLen) (na : A = none → c = 0) (nb : A' = none → c' = 0) :
    CallsIn Fence.wide 3 Try.prog 27 #[.slice A a.length c, .slice A' b.length c'] w fun e w' => ∃ v, e = .returned v ∧ w'.ownsRow w.heap.size 46 3 v (diffD a b).length (cvs (diffD a b)) ∧ Below w.heap.size w w' := by
  have hb0 : Below w.heap.size w (w.alloc (.cells #[.slice none 0 0] 40)) := (Below.refl _ _).alloc (Nat.le_refl _) _
  have C1 := Lib.hid (normal_any A c a _ (ha.up hb0) (by omega) sa ca ma na)
  have C2 := Lib.hid (fun wx h => normal_any A' c' b wx h (by omega) sb cb mb nb)
  have HBR := Lib.hid (hb.up hb0)
  obtain ⟨i0, hi, hz0, hz1, hz2⟩ := info_parts Try.info46
  have HB0 := Lib.hid hb0
  clear ha hb sa sb hb0 na nb
  refine callsIn_of_wp_marks Try.func27 rfl trivial ?_ rfl
  simp only [Try.ntmps27, List.size_toArray, List.length_cons, List.length_nil, Nat.reduceAdd, Nat.reduceSub, Array.replicate_succ, Array.replicate_zero, List.push_toArray, List.append_toArray, List.nil_append, List.cons_append]
  gi_wp2_with fail
  refine ⟨trivial, (callsIn_wide.2 C1.out).mono ?_⟩
  rintro e w1 ⟨A1, c1, rfl, r1, k1, m1, -, hb1⟩
  have BT := Lib.hid (show Boxed w1 w.heap.size 40 (.slice none 0 0) from (hb1.block _ (by simp)).trans (Boxed.new w 40 _))
  have HB1 := Lib.hid (HB0.out.trans (hb1.mono HB0.out.size))
  have C2' := Lib.hid (C2.out w1 (HBR.out.up hb1))
  have HR1 := Lib.hid r1
  clear r1 hb1 C1 C2 HBR HB0
  gi_wp2_with fail
  refine ⟨trivial, (callsIn_wide.2 C2'.out).mono ?_⟩
  rintro e w2 ⟨A2, c2, rfl, r2, k2, m2, -, hb2⟩
  have BT2 := Lib.hid (show Boxed w2 w.heap.size 40 (.slice none 0 0) from (hb2.block _ BT.out.lt).trans BT.out)
  have HB2 := Lib.hid (HB1.out.trans (hb2.mono HB1.out.size))
  have HR2 := Lib.hid (And.intro (HR1.out.up hb2) r2)
  clear r2 hb2 C2' HR1 BT HB1
  gi_wp2_with fail
  refine ⟨trivial, (nbn_in _ A1 A2 _ _ c1 c2 w2).mono ?_⟩
  rintro e w4 ⟨rfl, rfl⟩
  have HN2 := Lib.hid HR2.out
  obtain ⟨W0, hW0⟩ : ∃ W0, W0 = (w2.alloc (.cells #[.slice A1 (normL a).length c1] 22)).alloc (.cells #[.slice A2 (normL b).length c2] 22) := ⟨_, rfl⟩
  obtain ⟨Bt, hBt⟩ : ∃ Bt, Bt = w.heap.size := ⟨_, rfl⟩
  obtain ⟨B1, hB1⟩ : ∃ B1, B1 = w2.heap.size := ⟨_, rfl⟩
  have hbw : Below w2.heap.size w2 W0 := by rw [hW0]; exact ((Below.refl _ _).alloc (Nat.le_refl _) _).alloc (by simp) _
  have bT : Boxed W0 Bt 40 (.slice none 0 0) := by rw [hBt]; exact (hbw.block _ BT2.out.lt).trans BT2.out
  have b1 : Boxed W0 B1 22 (.slice A1 (normL a).length c1) := by rw [hW0, hB1]; exact (Boxed.new w2 22 _).alloc _
  have b2 : Boxed W0 (B1 + 1) 22 (.slice A2 (normL b).length c2) := by rw [hW0, hB1]; have := Boxed.new (w2.alloc (.cells #[.slice A1 (normL a).length c1] 22)) 22 (.slice A2 (normL b).length c2); rwa [World.size_alloc] at this
  have hb04 : Below w.heap.size w W0 := HB2.out.trans (hbw.mono HB2.out.size)
  have ra : NRow W0 W0.heap.size Bt A1 (normL a) := box_not_row bT (fun s h => by cases h) (HN2.out.1.up hbw)
  have rb : NRow W0 W0.heap.size Bt A2 (normL b) := box_not_row bT (fun s h => by cases h) (HN2.out.2.up hbw)
  have sta := (norm_facts a).1
  have stb := (norm_facts b).1
  have lna := norm_len a
  have lnb := norm_len b
  have hpl := pairs_length (normL a) (normL b)
  rw [← hW0, ← hB1, ← hBt]
  have hwB : w.heap.size ≤ Bt := by omega
  have hBt0 := bT.lt
  clear hW0 hB1 hBt HN2 HR2 BT2 HB2 hbw
  gi_wp2_with fail
  refine wpIn_rangeFunc_ownH rfl (by omega) (gf := 58) (lb := #[.pointer (some ⟨B1, 0, none⟩), .pointer (some ⟨B1 + 1, 0, none⟩)]) rfl trivial (enters_of Try.func58 (by kernel_rfl) rfl)
    (iter_stops _ (by omega) W0.heap.size Bt B1 (B1 + 1) A1 A2 c1 c2 (normL a) (normL b) W0 (Nat.le_refl _) b1.lt b2.lt b1.cell b2.cell ra rb sta stb ⟨k1, m1⟩ ⟨k2, m2⟩) keepBut_t (keepBut_b (Nat.le_refl _)) (Below.refl _ _) (fun _ => rfl)
    (OInv W0 Bt) (fun _ _ _ => False) (oinv_own W0 Bt) (fun _ _ _ _ _ hs _ _ => hs)
    ⟨⟨_, bT, World.ownsRow_nil _ _ _ _, trivial⟩, Kept.refl _ _⟩
    (AxD (fun p6 p7 x => { tmps := #[.slice A a.length c, .slice A' b.length c', undef, undef, .slice none 0 0, .pointer (some ⟨Bt, 0, none⟩), .pointer (some ⟨p6, 0, none⟩), .pointer (some ⟨p7, 0, none⟩), .slice A a.length c, .slice A1 (normL a).length c1, .slice A' b.length c', .slice A2 (normL b).length c2, .func (.func 58) #[] #[.pointer (some ⟨B1, 0, none⟩), .pointer (some ⟨B1 + 1, 0, none⟩)], .agg #[.string x.1.1, .string x.1.2.1, .bool x.1.2.2], .agg #[.string x.2.1, .string x.2.2.1, .bool x.2.2.2], undef, undef, undef, undef, undef, undef, undef, undef], defers := [] }))
    (axD_own _ _) ?assign ?body ?done ?stop
  case assign =>
    intro l pre x W K hI hK
    have HKO := Lib.hid ((KeepsOthers.alloc W (.cells #[.string x.1.1, .string x.1.2.1, .bool x.1.2.2] 46)).trans (KeepsOthers.alloc _ (.cells #[.string x.2.1, .string x.2.2.1, .bool x.2.2.2] 46)))
    have HII := Lib.hid (oinv_alloc (oinv_alloc hI (.cells #[.string x.1.1, .string x.1.2.1, .bool x.1.2.2] 46)) (.cells #[.string x.2.1, .string x.2.2.1, .bool x.2.2.2] 46))
    have HI := Lib.hid hI
    have hB6 := (BoxC.new W x.1).below ((Below.refl _ _).alloc (Nat.le_refl _) (.cells #[.string x.2.1, .string x.2.2.1, .bool x.2.2.2] 46)) (by simp)
    have hB7 := BoxC.new (W.alloc (.cells #[.string x.1.1, .string x.1.2.1, .bool x.1.2.2] 46)) x.2
    rw [World.size_alloc] at hB7
    have HB6 := Lib.hid hB6; have HB7 := Lib.hid hB7; have HK := Lib.hid hK
    clear hI hB6 hB7 hK
    gi_wp2
    exact HK.out _ _ (HKO.out.from _) (keepBut_of HI.out.2 HII.out.2 HKO.out.size) HII.out ⟨_, _, rfl, HB6.out, HB7.out⟩
  case body =>
    rintro l pre x a' W hl _ ⟨⟨v, hv, hrow, -⟩, hk⟩ ⟨p6, p7, rfl, h6, h7⟩ hlt
    obtain ⟨x0, x1, x2⟩ := h6.cells
    obtain ⟨y0, y1, y2⟩ := h7.cells
    have hc := hv.cell
    have hf := hv.frozen
    have hdl := diffP_len pre
    have hks := hk.size
    have hq : ∀ w : World, Sem.run Try.prog (binOp .neq 46 (.agg #[.string x.1.1, .string x.1.2.1, .bool x.1.2.2]) (.agg #[.string x.2.1, .string x.2.2.1, .bool x.2.2.2])) w = .ok (.bool (!decide (x.1 = x.2))) w := fun w => neqC x.1 x.2 w
    by_cases he : x.1 = x.2
    · have hd : decide (x.1 = x.2) = true := decide_eq_true he
      rw [hd] at hq
      have HO := Lib.hid (oinv_same (W0 := W0) (Bt := Bt) (W := W) (pre := pre) ⟨⟨v, hv, hrow, trivial⟩, hk⟩ he)
      clear he hd
      gi_wp2_with fail
      exact ⟨KeepsFrom.refl _ _, keepBut_of hk hk (Nat.le_refl _), HO.out⟩
    · have hd : decide (x.1 = x.2) = false := decide_eq_false he
      rw [hd] at hq
      have HE := Lib.hid he
      clear he hd
      gi_wp2_with (gi_at_builtin; refine wpListIn_append_own _ rfl _ _ 40 rfl W0.heap.size 46 i0 (.agg #[.string ⟨#[]⟩, .string ⟨#[]⟩, .bool false]) 3 40 Try.underlying40 hi hz0 hz1 hz2 rfl (by decide) _ _ _ rfl (hrow.alloc _) ⟨W.heap.size, 0, none⟩ 1 1 (encC x.2) rfl rfl (three_new _ _ _ _ _ _ rfl) (encC_one _) (by simp [maxLen]; omega) (by omega) (by simp; omega) ?_; intro v' w1 hown' hgrow _; obtain ⟨g', cap', rfl⟩ := ownsRow_succ hown'; obtain ⟨hv1, hP, hKO⟩ := oinv_push hBt0 hv hrow hk HE.out hown' hgrow; have hc1 := hv1.cell; have hf1 := hv1.frozen)
      exact ⟨hKO.from _, keepBut_of hk hP.2 hKO.size, hP⟩
  case done =>
    rintro D ys W hD rfl ⟨⟨v, hv, hrow, -⟩, hk⟩ hK
    have hc := hv.cell
    gi_wp2
    refine ⟨by simp, .inl ⟨_, _, rfl, run_takeDeferred hK, ?_⟩⟩
    have hB : Below w.heap.size w W := hb04.trans (hk.below hb04.size (fun k hS => by omega))
    have hDw : w.heap.size ≤ D := Nat.le_trans hb04.size hD
    exact ⟨_, results_tmp rfl _ _ _, v, rfl, own_down (ownsRow_putObj hrow _ hK rfl) hb04.size, hB.trans (belowK_b (w := w) (Nat.le_refl _) W D _ _ hDw hK rfl rfl)⟩
  case stop =>
    rintro D c pre W _ _ h _
    exact h.elim
theorem of_any (A A' : Option Addr) (c c' : Nat) (a b : List At) (w : World) (ha : TRow w w.heap.size A a) (hb : TRow w w.heap.size A' b) (la : a.length ≤ 100000) (lb : b.length ≤ 100000) (sa : Short a) (sb : Short b)
    (ca : a.length ≤ c) (cb : b.length ≤ c') (ma : c ≤ maxLen) (mb : c' ≤ maxLen) (na : A = none → c = 0) (nb : A' = none → c' = 0) :
    Calls Try.prog 27 #[.slice A a.length c, .slice A' b.length c'] w (MadeX w (diffD a b)) := by
  refine (callsIn_wide.1 (of_go A A' c c' a b w ha hb la lb sa sb ca cb ma mb na nb)).mono ?_
  rintro e w' ⟨v, rfl, ho, hb'⟩
  obtain ⟨A2, c2, rfl, h1, h2, h3⟩ := xrow_own ho
  exact ⟨A2, c2, rfl, h1, h2, h3, hb'⟩
set_option maxHeartbeats 1000000 in
theorem names_any (A A' : Option Addr) (c c' : Nat) (a b : List At) (w : World) (ha : TRow w w.heap.size A a) (hb : TRow w w.heap.size A' b) (la : a.length ≤ 100000) (lb : b.length ≤ 100000) (sa : Short a) (sb : Short b)
    (ca : a.length ≤ c) (cb : b.length ≤ c') (ma : c ≤ maxLen) (mb : c' ≤ maxLen) (na : A = none → c = 0) (nb : A' = none → c' = 0) :
    Calls Try.prog 29 #[.slice A a.length c, .slice A' b.length c'] w fun e w' => e = .returned (.int .i64 ((diffD a b).length : Int)) ∧ Below w.heap.size w w' := by
  have HC := Lib.hid (of_any A A' c c' a b w ha hb la lb sa sb ca cb ma mb na nb)
  clear ha hb sa sb na nb
  go_enter Try.func29, Try.ntmps29
  go_wp2_with fail
  refine HC.out.mono ?_
  rintro e w1 ⟨A2, c2, rfl, h1, h2, h3, h4⟩
  go_wp2_with fail
  go_ret
  exact ⟨rfl, h4⟩
end Go.Proofs.Yteamnjaepgfcmaa
