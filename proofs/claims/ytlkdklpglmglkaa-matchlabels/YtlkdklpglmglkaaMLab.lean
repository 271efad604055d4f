/-
  label.Of: the labels of siblings.
-/
import Derived.Test.YtlkdklpglmglkaaMK
import Derived.Test.YtlkdklpglmglkaaApp
import Derived.Test.YtlkdklpglmglkaaTwin
import Derived.Test.YtlkdklpglmglkaaWeigh
import Derived.Lib.SliceRun
import Derived.Deep.OwnRows
import Derived.Maps.Ext
namespace Go.Proofs.Ytlkdklpglmglkaa
open Go.RowKit Go.Sort Go.Maps
open K (Lab LRow lrow_at labV LWf)
set_option linter.unusedVariables false
set_option maxRecDepth 100000
abbrev noS : ByteArray := noB
def zL : Lab := ⟨noS, noS, 0⟩
theorem isEmpty_noS {k : ByteArray} : k.toList.isEmpty = true ↔ k = noS := by
  rw [Lib.toList_data]
  obtain ⟨⟨l⟩⟩ := k
  cases l <;> simp [noS, noB]
theorem bext {a b : ByteArray} (h : a.data.toList = b.data.toList) : a = b := str_inj h
def encL (x : Lab) : List Value := [.string x.tag, .string x.key, .int .i64 x.n]
def labs (l : List Lab) : List Value := l.flatMap encL
theorem labs_cons (x : Lab) (l : List Lab) : labs (x :: l) = .string x.tag :: .string x.key :: .int .i64 x.n :: labs l := rfl
theorem labs_append (a b : List Lab) : labs (a ++ b) = labs a ++ labs b := by simp [labs]
theorem labs_snoc (a : List Lab) (x : Lab) : labs (a ++ [x]) = labs a ++ [.string x.tag, .string x.key, .int .i64 x.n] := by rw [labs_append]; rfl
theorem labs_length (l : List Lab) : (labs l).length = l.length * 3 := by
  induction l with
  | nil => rfl
  | cons p ps ih => rw [labs_cons]; simp only [List.length_cons, ih]; omega
theorem labs_at : ∀ (l : List Lab) (j : Nat), (hj : j < l.length) → (labs l)[j * 3]? = some (.string l[j].tag) ∧ (labs l)[j * 3 + 1]? = some (.string l[j].key) ∧ (labs l)[j * 3 + 2]? = some (.int .i64 l[j].n)
  | x :: l, 0, _ => ⟨rfl, rfl, rfl⟩
  | x :: l, j + 1, h => by
    have ih := labs_at l j (by simpa using h)
    have e : (j + 1) * 3 = j * 3 + 1 + 1 + 1 := by omega
    rw [labs_cons, e]
    exact ih
theorem labs_set : ∀ (l : List Lab) (i : Nat) (x : Lab), i < l.length → (((labs l).set (i * 3) (.string x.tag)).set (i * 3 + 1) (.string x.key)).set (i * 3 + 2) (.int .i64 x.n) = labs (l.set i x)
  | y :: l, 0, x, _ => rfl
  | y :: l, i + 1, x, h => by
    have ih := labs_set l i x (by simpa using h)
    have e : (i + 1) * 3 = i * 3 + 1 + 1 + 1 := by omega
    rw [List.set_cons_succ, labs_cons, labs_cons, e, ← ih]
    rfl
theorem labs_setn : ∀ (l : List Lab) (i : Nat) (x : Lab) (n : Int), (hi : i < l.length) → l[i] = x → (labs l).set (i * 3 + 2) (.int .i64 n) = labs (l.set i ⟨x.tag, x.key, n⟩)
  | y :: l, 0, x, n, _, h => by cases h; rfl
  | y :: l, i + 1, x, n, h, hx => by
    have ih := labs_setn l i x n (by simpa using h) (by simpa using hx)
    have e : (i + 1) * 3 = i * 3 + 1 + 1 + 1 := by omega
    rw [List.set_cons_succ, labs_cons, labs_cons, e, ← ih]
    rfl
theorem lrow_own {w : World} {base e : Nat} {v : Value} {ls : List Lab} (h : w.ownsRow base e 3 v ls.length (labs ls)) :
    ∃ A cap, v = .slice A ls.length cap ∧ LRow w w.heap.size A ls ∧ ls.length ≤ cap ∧ cap ≤ maxLen := by
  rcases h.2 with ⟨rfl, hn⟩ | ⟨g, cap, cur, rfl, _, hg, hnc, hcm, _, _⟩
  · exact ⟨none, 0, by rw [hn], fun h0 => by omega, by omega, by simp [maxLen]⟩
  · refine ⟨_, cap, rfl, fun _ => ⟨g, 0, rfl, (Array.getElem?_eq_some_iff.1 hg).1, fun j hj => ?_⟩, hnc, hcm⟩
    obtain ⟨a, b, c⟩ := labs_at ls j hj
    rw [Nat.zero_add, World.ownsRow.cellAt h (j * 3) (by omega), World.ownsRow.cellAt h (j * 3 + 1) (by omega), World.ownsRow.cellAt h (j * 3 + 2) (by omega)]
    exact ⟨a, b, c⟩
/-- A slice of labels that the call made. -/
def MadeL (w : World) (ls : List Lab) (e : Ending) (w' : World) : Prop := ∃ A c, e = .returned (.slice A ls.length c) ∧ LRow w' w'.heap.size A ls ∧ ls.length ≤ c ∧ c ≤ maxLen ∧ Below w.heap.size w w'
theorem made_labs (n : Nat) : (madeCells (Value.agg #[.string ⟨#[]⟩, .string ⟨#[]⟩, .int .i64 0]).cells (n * 3)).toList = labs (List.replicate n zL) := by
  have hz : (Value.agg #[.string ⟨#[]⟩, .string ⟨#[]⟩, .int .i64 0]).cells = #[.string ⟨#[]⟩, .string ⟨#[]⟩, .int .i64 0] := rfl
  rw [hz]
  have e : ∀ m, (madeCells #[.string ⟨#[]⟩, .string ⟨#[]⟩, .int .i64 0] m).toList = (List.range m).map (fun j => (#[.string ⟨#[]⟩, .string ⟨#[]⟩, .int .i64 0] : Array Value)[j % 3]!) := fun m => by
    simp [madeCells]
  rw [e]
  induction n with
  | zero => rfl
  | succ n ih =>
    have e2 : (n + 1) * 3 = n * 3 + 1 + 1 + 1 := by omega
    rw [e2, List.range_succ, List.range_succ, List.range_succ, List.map_append, List.map_append, List.map_append, ih, List.replicate_succ', labs_snoc]
    have m0 : n * 3 % 3 = 0 := by omega
    have m1 : (n * 3 + 1) % 3 = 1 := by omega
    have m2 : (n * 3 + 1 + 1) % 3 = 2 := by omega
    simp only [List.map_cons, List.map_nil, m0, m1, m2, List.append_assoc]
    rfl

def free (t : ByteArray) (k : Tr) : Bool := decide (k.key = noS) && decide (k.tag = t)
def cnt (ks : List Tr) (t : ByteArray) : Nat := ks.countP (free t)
def labOf (ks : List Tr) (k : Tr) : Lab := ⟨k.tag, k.key, if k.key = noS then (cnt ks k.tag : Int) else 0⟩
def firstL (ks : List Tr) : Nat → List Lab
  | 0 => []
  | i + 1 => firstL ks i ++ (match ks[i]? with | some k => [labOf (ks.take (i + 1)) k] | none => [])
abbrev labsOf (ks : List Tr) : List Lab := firstL ks ks.length
theorem firstL_succ {ks : List Tr} {i : Nat} {k : Tr} (h : ks[i]? = some k) : firstL ks (i + 1) = firstL ks i ++ [labOf (ks.take (i + 1)) k] := by
  rw [firstL, h]
theorem firstL_length {ks : List Tr} : ∀ {i : Nat}, i ≤ ks.length → (firstL ks i).length = i
  | 0, _ => rfl
  | i + 1, h => by
    rw [firstL_succ (List.getElem?_eq_getElem (by omega)), List.length_append, firstL_length (by omega)]; rfl
theorem firstL_get {ks : List Tr} : ∀ {i j : Nat}, i ≤ ks.length → (h : j < i) → ∀ k, ks[j]? = some k → (firstL ks i)[j]? = some (labOf (ks.take (j + 1)) k)
  | 0, j, _, h, k, _ => by omega
  | i + 1, j, hi, h, k, hk => by
    rw [firstL_succ (List.getElem?_eq_getElem (by omega))]
    rcases Nat.lt_or_ge j i with h1 | h1
    · rw [List.getElem?_append_left (by rw [firstL_length (by omega)]; exact h1)]
      exact firstL_get (by omega) h1 k hk
    · have : j = i := by omega
      subst this
      rw [List.getElem?_append_right (by rw [firstL_length (by omega)]; exact Nat.le_refl _), firstL_length (by omega), Nat.sub_self]
      rw [List.getElem?_eq_getElem (by omega)] at hk
      cases hk; rfl
theorem cnt_succ {ks : List Tr} {i : Nat} {k : Tr} (h : ks[i]? = some k) (t : ByteArray) : cnt (ks.take (i + 1)) t = cnt (ks.take i) t + (if free t k then 1 else 0) := by
  unfold cnt
  rw [List.take_add_one, h, List.countP_append]
  simp [List.countP_cons]
theorem cnt_le (ks : List Tr) (i : Nat) (t : ByteArray) : cnt (ks.take i) t ≤ i := by
  unfold cnt
  have := List.countP_le_length (p := free t) (l := ks.take i)
  rw [List.length_take] at this
  omega
theorem cnt_mono (ks : List Tr) (t : ByteArray) {i j : Nat} (h : i ≤ j) : cnt (ks.take i) t ≤ cnt (ks.take j) t := by
  unfold cnt
  have e : ks.take i = (ks.take j).take i := by rw [List.take_take, Nat.min_eq_left h]
  rw [e]
  exact List.Sublist.countP_le (List.take_sublist _ _)
theorem cnt_pos {ks : List Tr} {i : Nat} {k : Tr} (h : ks[i]? = some k) (hk : k.key = noS) : cnt (ks.take (i + 1)) k.tag = cnt (ks.take i) k.tag + 1 := by
  rw [cnt_succ h, if_pos (by simp [free, hk])]
theorem zero3 (w : World) : (zeroValue 3).run Try.prog w = .ok (.int .i64 0) w := by kernel_rfl
/-- A map that counts: at each tag the number f of it. -/
def Cnt (w : World) (bm N : Nat) (f : ByteArray → Nat) : Prop := ∃ (D : DataW Unit) (n : Nat), n ≤ N ∧ w.ownsMap Try.prog 9 (plainElem Try.prog 3) bm n D ∧ ∀ t : ByteArray, t.size ≤ maxLen → D.atKey (.string t.data.toList) (.lit (.int .i64 0)) = .lit (.int .i64 (f t))
theorem Cnt.lt {w : World} {bm N : Nat} {f : ByteArray → Nat} (h : Cnt w bm N f) : bm < w.heap.size := by obtain ⟨D, n, _, h, _⟩ := h; exact h.lt
theorem Cnt.keep {w w' : World} {bm N : Nat} {f : ByteArray → Nat} (h : Cnt w bm N f) {S : Nat → Prop} (hk : Kept S w w') (hs : ¬ S bm) : Cnt w' bm N f := by
  obtain ⟨D, n, hn, h, hf⟩ := h
  have hlt := h.lt
  obtain ⟨es, clock, hb, F, h1, rfl⟩ := h
  exact ⟨_, n, hn, ⟨es, clock, (hk.block bm hlt hs).trans hb, F, h1, rfl⟩, hf⟩
theorem cnt_made (w : World) : Cnt (w.alloc (.map #[] 0)) w.heap.size 0 (fun _ => 0) := ⟨_, 0, Nat.le_refl _, World.ownsMap_made _ _ _ _, fun _ _ => rfl⟩
theorem Cnt.look {w : World} {bm N : Nat} {f : ByteArray → Nat} (h : Cnt w bm N f) {t : ByteArray} (ht : t.size ≤ maxLen) : (Instr.lookup 120 (.map (some bm)) (.string t) false).run Try.prog w = .ok (.int .i64 (f t)) w := by
  obtain ⟨D, n, hn, h, hf⟩ := h
  obtain ⟨c, hrun, hat, _⟩ := h.lookup_int law9 Try.underlying120 Try.underlying3 (zero3 w) (WideMaps.keyOf_string_mk Try.underlying9 ht)
  rw [hf t ht] at hat
  simp at hat
  rw [hrun, hat]
theorem Cnt.store {w : World} {bm N : Nat} {f : ByteArray → Nat} (h : Cnt w bm N f) {t : ByteArray} (ht : t.size ≤ maxLen) (m : Nat) (hm : m ≤ 1000000) (hN : N ≤ 1000000) :
    ∃ w', (Instr.mapUpdate 120 (.map (some bm)) (.string t) (.int .i64 m)).run Try.prog w = .ok () w' ∧ Cnt w' bm (N + 1) (fun u => if u = t then m else f u) ∧ Kept (· = bm) w w' := by
  obtain ⟨D, n, hn, h, hf⟩ := h
  have hk := WideMaps.keyOf_string_mk Try.underlying9 ht
  have hwf : (Lit.int .i64 (m : Int)).wf = true := by
    simp [Lit.wf, IntKind.min, IntKind.max, IntKind.signed, IntKind.bits]
    omega
  obtain ⟨w', hrun, ho', htt⟩ := h.store law9 Try.underlying120 (by unfold maxLen; omega) hk (plainElem_int Try.underlying3 hwf)
  refine ⟨w', hrun, ⟨_, n + 1, by omega, ho', fun u hu => ?_⟩, ?_⟩
  · by_cases e : u = t
    · subst e
      dsimp only
      rw [if_pos rfl]
      exact atKey_put_same (h.tidy law9).isMap (law9.key hk) _ _
    · dsimp only
      rw [if_neg e, atKey_put_other (fun e' => e (bext (by simpa using e')))]
      exact hf u hu
  · have := kept_grown htt.grown
    exact this.mono (fun k _ hk => by simpa using hk)
theorem Try.info58 : (Try.prog.info? 58).map (fun i => (i.zero, i.size, i.bytes)) = some (some (.agg #[.string ⟨#[]⟩, .string ⟨#[]⟩, .int .i64 0]), 3, 40) := by kernel_rfl
def outL (ks : List Tr) (i : Nat) : List Lab := firstL ks i ++ List.replicate (ks.length - i) zL
theorem outL_length {ks : List Tr} {i : Nat} (h : i ≤ ks.length) : (outL ks i).length = ks.length := by
  unfold outL
  rw [List.length_append, firstL_length h, List.length_replicate]; omega
theorem outL_at {ks : List Tr} {i : Nat} (h : i < ks.length) : (outL ks i)[i]? = some zL := by
  unfold outL
  rw [List.getElem?_append_right (by rw [firstL_length (by omega)]; exact Nat.le_refl _), firstL_length (by omega), Nat.sub_self, List.getElem?_replicate, if_pos (by omega)]
theorem outL_set {ks : List Tr} {i : Nat} {k : Tr} (h : i < ks.length) (hk : ks[i]? = some k) : (outL ks i).set i (labOf (ks.take (i + 1)) k) = outL ks (i + 1) := by
  unfold outL
  rw [List.set_append_right i _ (by rw [firstL_length (by omega)]; exact Nat.le_refl _), firstL_length (by omega), Nat.sub_self, firstL_succ hk, show ks.length - i = (ks.length - (i + 1)) + 1 by omega, List.replicate_succ, List.set_cons_zero, List.append_assoc]
  rfl
theorem outL_full (ks : List Tr) : outL ks ks.length = labsOf ks := by unfold outL; rw [Nat.sub_self]; simp
def putLb (W : World) (b i : Nat) (x : Lab) : World := ((W.setCell ⟨b, i * 3, none⟩ (.string x.tag)).setCell ⟨b, i * 3 + 1, none⟩ (.string x.key)).setCell ⟨b, i * 3 + 2, none⟩ (.int .i64 x.n)
theorem kept_putLb (W : World) (b i : Nat) (x : Lab) : Kept (· = b) W (putLb W b i x) := by
  unfold putLb
  exact ((kept_setCell W ⟨b, i * 3, none⟩ _).trans (kept_setCell _ ⟨b, i * 3 + 1, none⟩ _)).trans (kept_setCell _ ⟨b, i * 3 + 2, none⟩ _)
theorem own_putLb {W : World} {base b n : Nat} {l : List Lab} (h : W.ownsRow base 58 3 (.slice (some ⟨b, 0, none⟩) n n) n (labs l)) (i : Nat) (x : Lab) (hi : i < l.length) : (putLb W b i x).ownsRow base 58 3 (.slice (some ⟨b, 0, none⟩) n n) n (labs (l.set i x)) := by
  rw [← labs_set l i x hi]
  exact (((h.stored (i * 3) _).1.stored (i * 3 + 1) _).1.stored (i * 3 + 2) _).1
theorem own_setn {W : World} {base b n : Nat} {l : List Lab} (h : W.ownsRow base 58 3 (.slice (some ⟨b, 0, none⟩) n n) n (labs l)) (i : Nat) (x : Lab) (m : Int) (hi : i < l.length) (hx : l[i] = x) : (W.setCell ⟨b, i * 3 + 2, none⟩ (.int .i64 m)).ownsRow base 58 3 (.slice (some ⟨b, 0, none⟩) n n) n (labs (l.set i ⟨x.tag, x.key, m⟩)) := by
  rw [← labs_setn l i x m hi hx]
  exact (h.stored (i * 3 + 2) _).1
theorem Cnt.more {w : World} {bm N N' : Nat} {f g : ByteArray → Nat} (h : Cnt w bm N f) (hN : N ≤ N') (hf : ∀ u, f u = g u) : Cnt w bm N' g := by
  obtain ⟨D, n, hn, ho, hd⟩ := h
  exact ⟨D, n, by omega, ho, fun u hu => by rw [← hf u]; exact hd u hu⟩
theorem kept_own {w w' : World} {S : Nat → Prop} {base n : Nat} {v : Value} {xs : List Value} (hk : Kept S w w') (h : w.ownsRow base 58 3 v n xs) (hs : ∀ b, v.ownBlock = some b → ¬ S b) : w'.ownsRow base 58 3 v n xs := by
  refine ⟨h.1, ?_⟩
  rcases h.2 with h2 | ⟨g, cap, cur, hv, hb, hg, rest⟩
  · exact .inl h2
  · exact .inr ⟨g, cap, cur, hv, hb, (hk.block g (Array.getElem?_eq_some_iff.1 hg).1 (hs g (by rw [hv]; rfl))).trans hg, rest⟩
/-- A new slice of labels. -/
def MadeLO (w : World) (ls : List Lab) (e : Ending) (w' : World) : Prop := ∃ A c, e = .returned (.slice A ls.length c) ∧ w'.ownsRow w.heap.size 58 3 (.slice A ls.length c) ls.length (labs ls) ∧ Below w.heap.size w w'
set_option maxRecDepth 100000 in
set_option maxHeartbeats 4000000 in
theorem labOf_any (t : Tr) (x : NV) (w : World) (h : TreeAt w w.heap.size t x) (hg : GoodT t) : Calls Try.prog 79 #[.slice x.K t.kids.length x.ck] w (MadeLO w (labsOf t.kids)) := by
  obtain ⟨i0, hi0, hz0, hz1, hz2⟩ := info_parts Try.info58
  have hmm := @run_makeMap Try.prog
  obtain ⟨n, hn⟩ : ∃ n, n = t.kids.length := ⟨_, rfl⟩
  have hnl : n ≤ 1000000 := by rw [hn]; exact hg.sizes.2.2.2.2.2
  have HBY := Lib.hid (show i0.bytes * n ≤ 281474976710656 by rw [hz2]; omega)
  have HT := Lib.hid h; have HG := Lib.hid hg; have HN := Lib.hid hn
  rw [← hn]
  clear h hg hn
  go_enter Try.func79, Try.ntmps79
  go_wp2_with (at_make; refine wpList_make_full _ rfl (.tmp 8) (.tmp 8) 52 rfl w.heap.size 58 i0 (.agg #[.string ⟨#[]⟩, .string ⟨#[]⟩, .int .i64 0]) 3 Try.underlying52 hi0 hz0 hz1 .i64 .i64 _ _ n rfl rfl rfl rfl HBY.out (by unfold maxLen; omega) (Nat.le_refl _) ?_; intro w1 hown1 hg1; rw [made_labs] at hown1; have HOW1 := Lib.hid hown1; have HG1 := Lib.hid hg1; clear hown1 hg1)
  have hb1 : Below w.heap.size w w1 := (Below.refl _ _).grown HG1.out (Nat.le_refl _) (fun k hk => by cases hk)
  have hlt1 : w.heap.size < w1.heap.size := (HOW1.out.lt w.heap.size rfl).2
  obtain ⟨bm, hbm⟩ : ∃ bm, bm = w1.heap.size := ⟨_, rfl⟩
  have HB1 := Lib.hid hb1
  have HC0 := Lib.hid (cnt_made w1)
  rw [← hbm] at HC0
  rw [← hbm]
  have hbw : w.heap.size < bm := by rw [hbm]; exact hlt1
  go_loopg [13] n (fun g s13 wr => ∃ i : Nat, s13 = .int .i64 i ∧ i ≤ n ∧ n - i ≤ g ∧ RowKit.Hid (wr.ownsRow w.heap.size 58 3 (.slice (some ⟨w.heap.size, 0, none⟩) n n) n (labs (outL t.kids i))) ∧ RowKit.Hid (Cnt wr bm i (cnt (t.kids.take i))) ∧ RowKit.Hid (Below w.heap.size w wr))
  case atStart => exact ⟨0, rfl, by omega, by omega, Lib.hid (by have := HOW1.out.alloc (.map #[] 0); unfold outL; rw [HN.out] at this ⊢; exact this), Lib.hid (by have := HC0.out; exact this), Lib.hid (HB1.out.trans (((Below.refl _ _).alloc (Nat.le_refl _) _).mono HB1.out.size))⟩
  case round =>
    clear hb1 hlt1 hbm HC0 HOW1 HG1 HB1
    obtain ⟨i, rfl, hi, hgi, HOW, HCN, HBE⟩ := hrel
    by_cases hlt : i < n
    · have h1 : (i : Int) < (n : Int) := by omega
      obtain ⟨b, off, kd, y, hK, hb, hkd, hkc, hkt⟩ := (HT.out.up HBE.out).kid (j := i) (by rw [← HN.out]; exact hlt)
      obtain ⟨q0, q1, q2, q3, q4⟩ := hkc
      have HKD := Lib.hid (show t.kids[i]? = some kd by rw [hkd]; exact List.getElem?_eq_getElem _)
      clear hkd hkt
      have hat := outL_at (ks := t.kids) (i := i) (by rw [← HN.out]; exact hlt)
      have hil : i < (outL t.kids i).length := by rw [outL_length (by rw [← HN.out]; exact hi), ← HN.out]; exact hlt
      have e0 := labs_at (outL t.kids i) i hil
      rw [List.getElem?_eq_getElem hil] at hat
      rw [Option.some.inj hat] at e0
      obtain ⟨wb, hwb⟩ : ∃ wb, wb = boxW wr kd y := ⟨_, rfl⟩
      have HKB := Lib.hid (show KidCells wb wr.heap.size 0 kd y by rw [hwb]; exact box_node wr kd y)
      have HBB := Lib.hid (show Below wr.heap.size wr wb by rw [hwb]; exact below_box wr kd y)
      have HOB := Lib.hid (show wb.ownsRow w.heap.size 58 3 (.slice (some ⟨w.heap.size, 0, none⟩) n n) n (labs (outL t.kids i)) by rw [hwb]; exact HOW.out.alloc _)
      have HWB := Lib.hid hwb
      have HCB := Lib.hid (show Cnt wb bm i (cnt (t.kids.take i)) from HCN.out.keep (kept_below HBB.out (fun _ => False)) (fun h => h))
      have p0 : ∀ o, (wr.alloc o).cell? ⟨w.heap.size, i * 3, none⟩ = some (.string zL.tag) := fun o => ((HOW.out.alloc o).cellAt (i * 3) (by omega)).trans e0.1
      have p1 : ∀ o, (wr.alloc o).cell? ⟨w.heap.size, i * 3 + 1, none⟩ = some (.string zL.key) := fun o => ((HOW.out.alloc o).cellAt (i * 3 + 1) (by omega)).trans e0.2.1
      have p2 : ∀ o, (wr.alloc o).cell? ⟨w.heap.size, i * 3 + 2, none⟩ = some (.int .i64 zL.n) := fun o => ((HOW.out.alloc o).cellAt (i * 3 + 2) (by omega)).trans e0.2.2
      have z0 : ∀ o j, (wr.alloc o).frozen? ⟨w.heap.size, j, none⟩ = false := fun o j => (HOW.out.alloc o).frozenAt j
      have hne : w.heap.size ≠ wr.heap.size := fun e => by have := (HOW.out.lt w.heap.size rfl).2; omega
      have hne' := hne.symm
      clear hwb hat e0
      have HTG := Lib.hid (show kd.tag.size ≤ maxLen from (HG.out.kid (j := i) (k := kd) (by rw [← HN.out]; exact hlt) (by
        have := HKD.out; rw [List.getElem?_eq_getElem (by rw [← HN.out]; exact hlt)] at this; exact (Option.some.inj this).symm)).sizes.1)
      have HIL := Lib.hid hil
      have HNE := Lib.hid hne
      have HWN := Lib.hid (show w.heap.size ≤ wr.heap.size from HBE.out.size)
      clear hil
      obtain ⟨wp, hwp⟩ : ∃ wp, wp = putLb wb w.heap.size i ⟨kd.tag, kd.key, 0⟩ := ⟨_, rfl⟩
      have HKP := Lib.hid (show Kept (· = w.heap.size) wb wp by rw [hwp]; exact kept_putLb _ _ _ _)
      have HOP := Lib.hid (show wp.ownsRow w.heap.size 58 3 (.slice (some ⟨w.heap.size, 0, none⟩) n n) n (labs ((outL t.kids i).set i ⟨kd.tag, kd.key, 0⟩)) by rw [hwp]; exact own_putLb HOB.out i _ HIL.out)
      have HWP := Lib.hid hwp
      have HBP := Lib.hid (HBE.out.trans ((HBB.out.mono HWN.out).trans (HKP.out.below (by have := HBB.out.size; have := HWN.out; omega) (fun k hk => by rw [hk]; exact Nat.le_refl _))))
      have HCP := Lib.hid (HCB.out.keep HKP.out (fun h => by have h' : bm = w.heap.size := h; omega))
      clear hwp
      by_cases hke : kd.key = noS
      · have hk' : kd.key.toList.isEmpty = true := isEmpty_noS.2 hke
        have HKE := Lib.hid hke
        clear hke
        obtain ⟨c, hc⟩ : ∃ c, c = cnt (t.kids.take i) kd.tag := ⟨_, rfl⟩
        have hcl : c + 1 ≤ 1000000 := by have := cnt_le t.kids i kd.tag; omega
        have hraw : wp = (((wr.alloc (.cells #[.string kd.tag, .string kd.key, .string kd.text, .slice y.A kd.as.length y.ca, .slice y.K kd.kids.length y.ck] 25)).setCell ⟨w.heap.size, i * 3, none⟩ (.string kd.tag)).setCell ⟨w.heap.size, i * 3 + 1, none⟩ (.string kd.key)).setCell ⟨w.heap.size, i * 3 + 2, none⟩ (.int .i64 0) := by rw [HWP.out, HWB.out]; rfl
        have hlk := HCP.out.look HTG.out
        rw [← hc, hraw] at hlk
        obtain ⟨w5, hst, hc5, hk5⟩ := HCP.out.store HTG.out (c + 1) (by omega) (by omega)
        have hst' : (Instr.mapUpdate 120 (.map (some bm)) (.string kd.tag) (.int .i64 ((c : Int) + 1))).run Try.prog wp = .ok () w5 := hst
        rw [hraw] at hst'
        have hlk5 := hc5.look HTG.out
        rw [if_pos rfl] at hlk5
        have hlk5' : (Instr.lookup 120 (.map (some bm)) (.string kd.tag) false).run Try.prog w5 = .ok (.int .i64 ((c : Int) + 1)) w5 := hlk5
        have hwr : IntKind.i64.wrap ((c : Int) + 1) = (c : Int) + 1 := IntWalk.i64_in _ (by omega)
        have HC5 := Lib.hid (hc5.more (N' := i + 1) (g := cnt (t.kids.take (i + 1))) (Nat.le_refl _) (fun u => by
          rw [cnt_succ HKD.out u]
          by_cases e : u = kd.tag
          · subst e; rw [if_pos rfl, if_pos (by simp [free, HKE.out]), ← hc]
          · rw [if_neg e, if_neg (by simp [free]; exact fun _ h => e h.symm)]; rfl))
        have HO5 := Lib.hid (kept_own hk5 HOP.out (fun b hb h => by cases hb; have h' : w.heap.size = bm := h; omega))
        have HKB5 := Lib.hid ((HKB.out.kept HKP.out (fun h => by have := HNE.out; omega)).kept hk5 (fun h => by
          have h1 := HCN.out.lt; omega))
        have HB5 := Lib.hid (HBP.out.trans (hk5.below HBP.out.size (fun k hk => by rw [show k = bm from hk]; omega)))
        have HLB := Lib.hid (show (labOf (t.kids.take (i + 1)) kd) = ⟨kd.tag, kd.key, (c : Int) + 1⟩ by
          unfold labOf; rw [if_pos HKE.out, cnt_pos HKD.out HKE.out, ← hc]; rfl)
        have p5 : w5.cell? ⟨w.heap.size, i * 3 + 2, none⟩ = some (.int .i64 0) := (HO5.out.cellAt (i * 3 + 2) (by omega)).trans (by
          have hl2 : i < ((outL t.kids i).set i ⟨kd.tag, kd.key, 0⟩).length := by rw [List.length_set]; exact HIL.out
          have := (labs_at _ i hl2).2.2
          rw [List.getElem_set_self] at this
          exact this)
        have z2 := HO5.out.frozenAt (i * 3 + 2)
        obtain ⟨r0, r1, r2, r3, r4⟩ := HKB5.out
        clear hst hc5 hk5 hlk5 hc hraw
        go_wp2_with fail
        try rw [← hK]
        go_roundg (n - (i + 1))
        case measure => omega
        case rel =>
          refine ⟨i + 1, by go_num, by omega, by omega, Lib.hid ?_, Lib.hid (HC5.out.keep (kept_setCell _ _ _) (fun h => by simp at h; omega)), Lib.hid (HB5.out.setCell (p := ⟨w.heap.size, i * 3 + 2, none⟩) (Nat.le_refl _) _)⟩
          have hl2 : i < ((outL t.kids i).set i ⟨kd.tag, kd.key, 0⟩).length := by rw [List.length_set]; exact HIL.out
          have := own_setn HO5.out i ⟨kd.tag, kd.key, 0⟩ ((c : Int) + 1) hl2 (List.getElem_set_self _)
          rw [List.set_set, ← HLB.out, outL_set (by rw [← HN.out]; exact hlt) HKD.out] at this
          exact this
      · have hk' : kd.key.toList.isEmpty = false := by
          cases hb : kd.key.toList.isEmpty with
          | true => exact absurd (isEmpty_noS.1 hb) hke
          | false => rfl
        have HKE := Lib.hid hke
        clear hke
        go_wp2_with fail
        rw [box_out HWB]
        rw [show ((wb.setCell ⟨w.heap.size, i * 3, none⟩ (.string kd.tag)).setCell ⟨w.heap.size, i * 3 + 1, none⟩ (.string kd.key)).setCell ⟨w.heap.size, i * 3 + 2, none⟩ (.int .i64 0) = wp from HWP.out.symm]
        try rw [← hK]
        go_roundg (n - (i + 1))
        case measure => omega
        case rel =>
          refine ⟨i + 1, by go_num, by omega, by omega, Lib.hid ?_, Lib.hid (HCP.out.more (Nat.le_succ _) (fun u => by rw [cnt_succ HKD.out u, if_neg (by simp [free, HKE.out])]; rfl)), HBP⟩
          have := HOP.out
          rw [show (⟨kd.tag, kd.key, 0⟩ : Lab) = labOf (t.kids.take (i + 1)) kd by unfold labOf; rw [if_neg HKE.out], outL_set (by rw [← HN.out]; exact hlt) HKD.out] at this
          exact this
    · have h1 : ¬ (i : Int) < (n : Int) := by omega
      obtain rfl : i = n := by omega
      have HF := Lib.hid (show wr.ownsRow w.heap.size 58 3 (.slice (some ⟨w.heap.size, 0, none⟩) i i) (labsOf t.kids).length (labs (labsOf t.kids)) by
        have := HOW.out
        rw [firstL_length (Nat.le_refl _), ← HN.out]
        rw [show outL t.kids i = labsOf t.kids by rw [HN.out]; exact outL_full _] at this
        exact this)
      go_wp2_with fail
      go_ret
      have hle : (labsOf t.kids).length = i := by rw [firstL_length (Nat.le_refl _), HN.out]
      have HF2 := HF.out
      refine ⟨some ⟨w.heap.size, 0, none⟩, i, by rw [hle]; rfl, ?_, HBE.out⟩
      rw [hle] at HF2 ⊢
      exact HF2
end Go.Proofs.Ytlkdklpglmglkaa
