/-
  What came in: a tree, its texts and lists within the reach.
-/
import Derived.Test.YtjnhcoflmechmaaGreatDoorICheck
import Derived.OpenShut
import Derived.ChangeArms
import Derived.SizedLaws
import Derived.WideShapes
import Derived.Deep.Slices
import Derived.ChangeSame
namespace Go.Proofs.YtjnhcoflmechmaaGreatDoor.M
open Go.ChangeShapes Go.WideShapes Go.Deep
set_option linter.unusedVariables false
set_option maxRecDepth 100000
theorem sized_any {H : Type} {ts : List TypeId} {ds : List (DataW H)} (h : (DataW.weightsEach Tryz.prog ts ds).all (· ≤ reachBytes) = true) {j : Nat} {t : TypeId} {d : DataW H} (ht : ts[j]? = some t) (hd : ds[j]? = some d) : ∀ n ∈ d.weights Tryz.prog t, n ≤ 140737488351232 := by
  intro n hn
  have e : reachBytes = 140737488351232 := by decide
  have := List.all_eq_true.1 h _ (DataW.weights_mem_each ht hd n hn)
  rw [e] at this
  simpa using this
theorem cells9 : Tryz.prog.cellsOf 9 = 1 := by kernel_rfl
theorem cells63 : Tryz.prog.cellsOf 63 = 2 := by kernel_rfl
theorem choose_list {α : Type} (d : α) (Q : Nat → α → Prop) : ∀ n : Nat, (∀ i, i < n → ∃ x, Q i x) → ∃ l : List α, l.length = n ∧ ∀ i, (hi : i < l.length) → Q i l[i] := by
  intro n
  induction n with
  | zero => intro _; exact ⟨[], rfl, fun i hi => by simp at hi⟩
  | succ n ih =>
    intro h
    obtain ⟨l, hl, hq⟩ := ih (fun i hi => h i (by omega))
    obtain ⟨x, hx⟩ := h n (by omega)
    refine ⟨l ++ [x], by simp [hl], fun i hi => ?_⟩
    rcases Nat.lt_or_ge i n with hlt | hge
    · rw [List.getElem_append_left (by omega)]; exact hq i (by omega)
    · have : i = n := by simp at hi; omega
      subst this
      rw [List.getElem_append_right (by omega)]
      simpa using hx
theorem add_at (b off j : Nat) : (⟨b, off, none⟩ : Addr).add j = ⟨b, off + j, none⟩ := by unfold Addr.add; split <;> simp_all
section
variable {H : Type} {enc : TypeId × Value → H} {w : World} {base : Nat} {spare : Nat → Bool} {held : Bool}
def atD (L : At) : DataW H := .agg [.lit (.string L.1.data.toList), .lit (.string L.2.data.toList)]
theorem at_cells {fuel : Nat} {cs : List Value} {x : DataW H × List MemPlace} (h : DataW.trod enc Tryz.prog w base spare held fuel 63 cs = some x) :
    ∃ L : At, cs = [.string L.1, .string L.2] ∧ x.1 = atD L := by
  obtain ⟨xs, n, -, hx, hl, hxl, hf⟩ := DataW.trod_struct Tryz.underlying63 h
  rw [cells63] at hl
  match cs, hl with
  | [v0, v1], _ =>
    match xs, hxl with
    | [y0, y1], _ =>
      have g0 := hf 0 _ rfl
      have g1 := hf 1 _ rfl
      obtain ⟨s0, e0, f0, m0⟩ := DataW.trod_string Tryz.underlying9 g0
      obtain ⟨s1, e1, f1, m1⟩ := DataW.trod_string Tryz.underlying9 g1
      have e0' : v0 = .string s0 := by simpa [cells9] using e0
      have e1' : v1 = .string s1 := by simpa [cells9] using e1
      subst e0' e1'
      refine ⟨(s0, s1), rfl, ?_⟩
      rw [hx]
      simp [atD, f0, f1]
theorem ats_in {fuel : Nat} {A : Option Addr} {len cap : Nat} {x : DataW H × List MemPlace} (h : DataW.trod enc Tryz.prog w base spare held fuel 22 [.slice A len cap] = some x) :
    ∃ ls : List At, ls.length = len ∧ TRow w w.heap.size A ls ∧ ls.length ≤ cap ∧ cap ≤ maxLen ∧ (A = none → cap = 0) ∧ (∀ L ∈ ls, ∃ es sp, x.1 = .slice es sp ∧ atD L ∈ es) ∧ (ls = [] ∨ ∃ es sp, x.1 = .slice es sp ∧ es.length = ls.length) := by
  rcases open_slice Tryz.underlying22 h with ⟨hcs, -⟩ | ⟨a, len', cap', m, n, D, Pl, hcs, hb, hl, hm, hmm, hx, hi⟩
  · simp at hcs
    obtain ⟨rfl, rfl, rfl⟩ := hcs
    exact ⟨[], rfl, fun h => by simp at h, by simp, by simp [maxLen], fun _ => rfl, fun L hL => (by simp at hL), .inl rfl⟩
  · simp at hcs
    obtain ⟨rfl, rfl, rfl⟩ := hcs
    rw [cells63] at hi
    have hml : len ≤ m := by rw [hmm]; split <;> omega
    have key : ∀ i, i < len → ∃ L : At, D i = atD L ∧ w.cell? ((a.add (i * 2)).add 0) = some (.string L.1) ∧ w.cell? ((a.add (i * 2)).add 1) = some (.string L.2) := by
      intro i hil
      obtain ⟨cs', hc, ht'⟩ := hi i (by omega)
      obtain ⟨_, hcl, hat⟩ := World.cells?_some hc
      obtain ⟨L, rfl, hLd⟩ := at_cells ht'
      exact ⟨L, hLd, hat 0 (by omega), hat 1 (by omega)⟩
    rcases Nat.eq_zero_or_pos len with h0 | h0
    · subst h0
      exact ⟨[], rfl, fun h => by simp at h, by simp, hm, (fun h => by cases h), (fun L hL => by simp at hL), .inl rfl⟩
    · obtain ⟨b, off, spot⟩ := a
      have hspot : spot = none := by
        obtain ⟨x, -, k0, -⟩ := key 0 h0
        simpa [Addr.add] using World.cell?_spot k0
      subst hspot
      obtain ⟨ls, hpl, hq⟩ := choose_list (d := noAt) (fun i (L : At) => D i = atD L ∧ w.cell? ⟨b, off + i * 2, none⟩ = some (.string L.1) ∧ w.cell? ⟨b, off + i * 2 + 1, none⟩ = some (.string L.2)) len (by
        intro i hi
        obtain ⟨x, hw, k0, k1⟩ := key i hi
        simp only [add_at, Nat.add_zero] at k0 k1
        exact ⟨x, hw, k0, k1⟩)
      refine ⟨ls, hpl, fun _ => ⟨b, off, rfl, ?_, fun j hj => (hq j hj).2⟩, by omega, hm, (fun h => by cases h), fun L hL => ?_, .inr ⟨_, _, by rw [hx], by simp [hpl]⟩⟩
      · obtain ⟨x, -, k0, -⟩ := key 0 h0
        simpa [Addr.add] using World.block_lt_of_cell? w _ k0
      · obtain ⟨j, hj, rfl⟩ := List.mem_iff_getElem.1 hL
        refine ⟨_, _, by rw [hx], ?_⟩
        rw [← (hq j hj).1]
        exact List.mem_map.2 ⟨j, List.mem_range.2 (by omega), rfl⟩
end
theorem mem_weightsAll {H : Type} {e : TypeId} {d : DataW H} {n : Nat} (hn : n ∈ d.weights Tryz.prog e) : ∀ {es : List (DataW H)}, d ∈ es → n ∈ DataW.weightsAll Tryz.prog e es
  | x :: r, hd => by
    simp only [DataW.weightsAll, List.mem_append]
    rcases List.mem_cons.1 hd with rfl | hd
    · exact .inl hn
    · exact .inr (mem_weightsAll hn hd)
theorem cells25 : Tryz.prog.cellsOf 25 = 5 := by kernel_rfl
theorem cells22 : Tryz.prog.cellsOf 22 = 1 := by kernel_rfl
theorem cells23 : Tryz.prog.cellsOf 23 = 1 := by kernel_rfl
theorem bytes25 : Tryz.prog.bytesOf 25 = 96 := by kernel_rfl
theorem bytes63 : Tryz.prog.bytesOf 63 = 32 := by kernel_rfl
section
variable {H : Type} {enc : TypeId × Value → H} {w : World} {base : Nat} {spare : Nat → Bool} {held : Bool}
theorem slice_one {t e : TypeId} {fuel : Nat} {v : Value} {x : DataW H × List MemPlace} (ht : Tryz.prog.underlying t = some (.slice e)) (h : DataW.trod enc Tryz.prog w base spare held fuel t [v] = some x) : ∃ A len cap, v = .slice A len cap := by
  rcases open_slice ht h with ⟨hcs, -⟩ | ⟨a, len, cap, m, n, D, Pl, hcs, _⟩
  · simp at hcs; exact ⟨_, _, _, hcs⟩
  · simp at hcs; exact ⟨_, _, _, hcs⟩
theorem tree_cells : ∀ (N : Nat) (fuel : Nat) (cs : List Value) (x : DataW H × List MemPlace), SizeOf.sizeOf x.1 ≤ N → DataW.trod enc Tryz.prog w base spare held fuel 25 cs = some x →
    ∃ t nv, cs = nodeCells t nv ∧ TreeAt w w.heap.size t nv ∧ ((∀ n ∈ x.1.weights Tryz.prog 25, n ≤ 140737488351232) → FitT t) := by
  intro N
  induction N with
  | zero =>
    intro fuel cs x hN h
    obtain ⟨xs, n, -, hx, hl, hxl, hf⟩ := DataW.trod_struct Tryz.underlying25 h
    rw [hx] at hN
    simp at hN
  | succ N ih =>
    intro fuel cs x hN h
    obtain ⟨xs, n, -, hx, hl, hxl, hf⟩ := DataW.trod_struct Tryz.underlying25 h
    rw [cells25] at hl
    match cs, hl with
    | [v0, v1, v2, v3, v4], _ =>
      match xs, hxl with
      | [y0, y1, y2, y3, y4], _ =>
        have g0 := hf 0 _ rfl
        have g1 := hf 1 _ rfl
        have g2 := hf 2 _ rfl
        have g3 := hf 3 _ rfl
        have g4 := hf 4 _ rfl
        obtain ⟨s0, e0, f0, m0⟩ := DataW.trod_string Tryz.underlying9 g0
        obtain ⟨s1, e1, f1, m1⟩ := DataW.trod_string Tryz.underlying9 g1
        obtain ⟨s2, e2, f2, m2⟩ := DataW.trod_string Tryz.underlying9 g2
        have e0' : v0 = .string s0 := by simpa [cells9] using e0
        have e1' : v1 = .string s1 := by simpa [cells9] using e1
        have e2' : v2 = .string s2 := by simpa [cells9] using e2
        subst e0' e1' e2'
        simp [cells22] at g3
        simp [cells23] at g4
        obtain ⟨A, alen, ca, rfl⟩ := slice_one Tryz.underlying22 g3
        obtain ⟨K, klen, ck, rfl⟩ := slice_one Tryz.underlying23 g4
        obtain ⟨ls, rfl, hrow, hc1, hc2, hc3, hd, hdl⟩ := ats_in g3
        have hw : ∀ (P : Prop), ((∀ n ∈ (DataW.lit (H := H) (.string s0.data.toList)).weights Tryz.prog 9, n ≤ 140737488351232) → (∀ n ∈ (DataW.lit (H := H) (.string s1.data.toList)).weights Tryz.prog 9, n ≤ 140737488351232) → (∀ n ∈ (DataW.lit (H := H) (.string s2.data.toList)).weights Tryz.prog 9, n ≤ 140737488351232) → (∀ n ∈ y3.1.weights Tryz.prog 22, n ≤ 140737488351232) → (∀ n ∈ y4.1.weights Tryz.prog 23, n ≤ 140737488351232) → P) → (∀ n ∈ x.1.weights Tryz.prog 25, n ≤ 140737488351232) → P := by
          intro P hP hall
          rw [hx] at hall
          simp only [List.map_cons, List.map_nil, DataW.weights, Tryz.underlying25, DataW.weightsEach, f0, f1, f2] at hall
          refine hP (fun n hn => hall n ?_) (fun n hn => hall n ?_) (fun n hn => hall n ?_) (fun n hn => hall n ?_) (fun n hn => hall n ?_)
          · simp [DataW.weights] at hn; subst hn; simp
          · simp [DataW.weights] at hn; subst hn; simp
          · simp [DataW.weights] at hn; subst hn; simp
          · simp [hn]
          · simp [hn]
        have hs : ∀ (P : Prop), (s0.size ≤ 140737488355328 → s1.size ≤ 140737488355328 → s2.size ≤ 140737488355328 → ls.length ≤ 140737488355328 → (∀ z ∈ ls, z.1.size ≤ 140737488355328 ∧ z.2.size ≤ 140737488355328) → (∀ n ∈ y4.1.weights Tryz.prog 23, n ≤ 140737488351232) → P) → (∀ n ∈ x.1.weights Tryz.prog 25, n ≤ 140737488351232) → P := by
          intro P hP
          refine hw P (fun a0 a1 a2 a3 a4 => hP ?_ ?_ ?_ ?_ ?_ a4)
          · have := a0 s0.size (by simp [DataW.weights]); omega
          · have := a1 s1.size (by simp [DataW.weights]); omega
          · have := a2 s2.size (by simp [DataW.weights]); omega
          · rcases hdl with rfl | ⟨es, sp, he, hel⟩
            · simp
            · rw [he] at a3
              have := a3 ((es.length + sp.length) * 32) (by simp [DataW.weights, Tryz.underlying22, bytes63])
              omega
          · intro z hz
            obtain ⟨es, sp, he, hme⟩ := hd z hz
            rw [he] at a3
            have w1 : z.1.size ∈ (atD (H := H) z).weights Tryz.prog 63 := by simp [atD, DataW.weights, Tryz.underlying63, DataW.weightsEach]
            have w2 : z.2.size ∈ (atD (H := H) z).weights Tryz.prog 63 := by simp [atD, DataW.weights, Tryz.underlying63, DataW.weightsEach]
            have b1 := a3 z.1.size (by simp only [DataW.weights, Tryz.underlying22]; exact List.mem_cons_of_mem _ (List.mem_append.2 (.inl (mem_weightsAll w1 hme))))
            have b2 := a3 z.2.size (by simp only [DataW.weights, Tryz.underlying22]; exact List.mem_cons_of_mem _ (List.mem_append.2 (.inl (mem_weightsAll w2 hme))))
            omega
        have hsz : SizeOf.sizeOf y4.1 < SizeOf.sizeOf x.1 := by
          rw [hx]
          simp
          omega
        rcases open_slice Tryz.underlying23 g4 with ⟨hcs, -⟩ | ⟨a, len', cap', m, n', D, Pl, hcs, hb, hl', hm, hmm, hx4, hi⟩
        · simp at hcs
          obtain ⟨rfl, rfl, rfl⟩ := hcs
          refine ⟨.mk s0 s1 s2 ls [], ⟨A, ca, none, 0⟩, rfl, .mk (fun _ => leafNV) hrow hc1 hc2 hc3 (Nat.le_refl _) (by simp [maxLen]) (fun _ => rfl) (fun h => by simp [Tr.kids] at h) (fun j h => by simp [Tr.kids] at h), hs _ (fun b0 b1 b2 b3 b4 b5 => .mk b0 b1 b2 b3 b4 (by simp [Tr.kids]) (fun k hk => by simp [Tr.kids] at hk))⟩
        · simp at hcs
          obtain ⟨rfl, rfl, rfl⟩ := hcs
          rw [cells25] at hi
          have hml : klen ≤ m := by rw [hmm]; split <;> omega
          have key : ∀ i, i < klen → ∃ q : Tr × NV, (∀ j, j < 5 → w.cell? ((a.add (i * 5)).add j) = (nodeCells q.1 q.2)[j]?) ∧ TreeAt w w.heap.size q.1 q.2 ∧ ((∀ n ∈ (D i).weights Tryz.prog 25, n ≤ 140737488351232) → FitT q.1) := by
            intro i hil
            obtain ⟨cs', hc, ht'⟩ := hi i (by omega)
            obtain ⟨_, hcl, hat⟩ := World.cells?_some hc
            have hlt : SizeOf.sizeOf (D i) < SizeOf.sizeOf y4.1 := by
              rw [hx4]
              have hmem : D i ∈ (List.range klen).map D := List.mem_map.2 ⟨i, List.mem_range.2 hil, rfl⟩
              have := List.sizeOf_lt_of_mem hmem
              simp
              omega
            obtain ⟨t, nv, rfl, htr, hft⟩ := ih n' cs' (D i, Pl i) (by show SizeOf.sizeOf (D i) ≤ N; omega) ht'
            exact ⟨(t, nv), fun j hj => by rw [hat j (by omega)], htr, hft⟩
          obtain ⟨qs, hql, hq⟩ := choose_list (d := ((.mk s0 s1 s2 [] [] : Tr), leafNV)) (fun i (q : Tr × NV) => (∀ j, j < 5 → w.cell? ((a.add (i * 5)).add j) = (nodeCells q.1 q.2)[j]?) ∧ TreeAt w w.heap.size q.1 q.2 ∧ ((∀ n ∈ (D i).weights Tryz.prog 25, n ≤ 140737488351232) → FitT q.1)) klen key
          refine ⟨.mk s0 s1 s2 ls (qs.map Prod.fst), ⟨A, ca, some a, ck⟩, by simp [nodeCells, Tr.tag, Tr.key, Tr.text, Tr.as, Tr.kids, hql], .mk (fun j => (qs.getD j (.mk s0 s1 s2 [] [], leafNV)).2) hrow hc1 hc2 hc3 (by simp [Tr.kids, hql]; exact hl') hm (fun h => by cases h) (fun h0 => ?_) (fun j hj => ?_), hs _ (fun b0 b1 b2 b3 b4 b5 => .mk b0 b1 b2 b3 b4 ?_ (fun k hk => ?_))⟩
          · have h0' : 0 < qs.length := by simpa [Tr.kids] using h0
            obtain ⟨b, off, spot⟩ := a
            have hspot : spot = none := by
              have k0 := (hq 0 h0').1 0 (by omega)
              have : w.cell? ((⟨b, off, spot⟩ : Addr).add (0 * 5) |>.add 0) = some (.string qs[0].1.tag) := k0
              simpa [Addr.add] using World.cell?_spot this
            subst hspot
            refine ⟨b, off, rfl, ?_, fun j hj => ?_⟩
            · have k0 := (hq 0 h0').1 0 (by omega)
              have : w.cell? ((⟨b, off, none⟩ : Addr).add (0 * 5) |>.add 0) = some (.string qs[0].1.tag) := k0
              simpa [Addr.add] using World.block_lt_of_cell? w _ this
            · have hj' : j < qs.length := by simpa [Tr.kids] using hj
              have kk := (hq j hj').1
              have e1 : (Tr.mk s0 s1 s2 ls (qs.map Prod.fst)).kids[j] = qs[j].1 := by simp [Tr.kids]
              have e2 : (qs.getD j (.mk s0 s1 s2 [] [], leafNV)).2 = qs[j].2 := by simp [List.getD_eq_getElem?_getD, hj']
              rw [e1, e2]
              simp only [add_at] at kk
              exact ⟨kk 0 (by omega), kk 1 (by omega), kk 2 (by omega), kk 3 (by omega), kk 4 (by omega)⟩
          · have hj' : j < qs.length := by simpa [Tr.kids] using hj
            have e1 : (Tr.mk s0 s1 s2 ls (qs.map Prod.fst)).kids[j] = qs[j].1 := by simp [Tr.kids]
            have e2 : (qs.getD j (.mk s0 s1 s2 [] [], leafNV)).2 = qs[j].2 := by simp [List.getD_eq_getElem?_getD, hj']
            rw [e1, e2]
            exact (hq j hj').2.1
          · rw [hx4] at b5
            have := b5 (((List.range klen).map D).length * 96 + ((List.range (m - klen)).map fun j => D (klen + j)).length * 96) (by simp [DataW.weights, Tryz.underlying23, bytes25, Nat.add_mul])
            simp [Tr.kids, hql] at this ⊢
            omega
          · have hk' : k ∈ qs.map Prod.fst := hk
            obtain ⟨q, hqm, rfl⟩ := List.mem_map.1 hk'
            obtain ⟨j, hj, rfl⟩ := List.getElem_of_mem hqm
            refine (hq j hj).2.2 (fun n hn => b5 n ?_)
            rw [hx4]
            simp only [DataW.weights, Tryz.underlying23]
            exact List.mem_cons_of_mem _ (List.mem_append.2 (.inl (mem_weightsAll hn (List.mem_map.2 ⟨j, List.mem_range.2 (by omega), rfl⟩))))
theorem tree_in {v : Value} {d : DataW H} {p : List MemPlace} {W : World} {r : Reach} {b0 : Nat} (hok : Value.okWide Tryz.prog W r b0 25 v) (h : DataW.Trod enc Tryz.prog w base spare held 25 v d p) :
    ∃ t nv, v = nodeV t nv ∧ TreeAt w w.heap.size t nv ∧ ((∀ n ∈ d.weights Tryz.prog 25, n ≤ 140737488351232) → FitT t) := by
  obtain ⟨cs, rfl, hcs⟩ := okWide_struct Tryz.underlying25 hok
  obtain ⟨fuel, hf⟩ := h
  obtain ⟨t, nv, h1, h2, h3⟩ := tree_cells _ fuel _ _ (Nat.le_refl _) hf
  refine ⟨t, nv, ?_, h2, h3⟩
  have : cs.toList = nodeCells t nv := by simpa [Value.cells] using h1
  have e : cs = #[.string t.tag, .string t.key, .string t.text, .slice nv.A t.as.length nv.ca, .slice nv.K t.kids.length nv.ck] := by
    apply Array.ext'
    rw [this]; rfl
  rw [e]
end
theorem sized_tree {H : Type} {ts : List TypeId} {ds : List (DataW H)} (h : (DataW.weightsEach Tryz.prog ts ds).all (· ≤ reachBytes) = true) {j : Nat} {d : DataW H} (ht : ts[j]? = some 25) (hd : ds[j]? = some d) : ∀ n ∈ d.weights Tryz.prog 25, n ≤ 140737488351232 := by
  intro n hn
  have e : reachBytes = 140737488351232 := by decide
  have := List.all_eq_true.1 h _ (DataW.weights_mem_each ht hd n hn)
  rw [e] at this
  simpa using this
end Go.Proofs.YtjnhcoflmechmaaGreatDoor.M
