/-
  Slices of nodes in a slice, as flat.assemble has them: what is still written, and what is done.
-/
import Derived.Test.YtlkdklpglmglkaaFRev
import Derived.Test.YtlkdklpglmglkaaFCheck
import Derived.Test.YtlkdklpglmglkaaDup
namespace Go.Proofs.Ytlkdklpglmglkaa
open Go.RowKit Go.Sort Go.Lib
set_option linter.unusedVariables false
set_option maxRecDepth 100000
abbrev nilV : Value := .slice none 0 0
structure AW (w : World) (n0 g m h : Nat) (V : List Value) (L : Nat → List KV) (P : Nat → Prop) : Prop where
  row : w.ownsRow g 23 1 (.slice (some ⟨g, 0, none⟩) m m) m V
  own : ∀ j, j ≤ h → w.ownsRow (g + 1) 25 5 (V.getD j nilV) (L j).length (nds (L j))
  apart : ∀ i j, i ≤ h → j ≤ h → i ≠ j → ∀ b, (V.getD i nilV).ownBlock = some b → ¬ (V.getD j nilV).ownBlock = some b
  pin : ∀ b, P b → b < w.heap.size ∧ (b < n0 ∨ g < b) ∧ ∀ j, j ≤ h → ¬ (V.getD j nilV).ownBlock = some b
  tree : ∀ j, j ≤ h → ∀ p ∈ L j, TreeIn w P p.1 p.2
  base : n0 ≤ g
  hm : h < m
  old : ∀ b, b < n0 → P b
theorem AW.len {w : World} {n0 g m h : Nat} {V : List Value} {L : Nat → List KV} {P : Nat → Prop} (a : AW w n0 g m h V L P) : V.length = m := by have := a.row.1; omega
theorem AW.lt {w : World} {n0 g m h : Nat} {V : List Value} {L : Nat → List KV} {P : Nat → Prop} (a : AW w n0 g m h V L P) {j : Nat} (hj : j ≤ h) {b : Nat} (hb : (V.getD j nilV).ownBlock = some b) : g < b ∧ b < w.heap.size := by
  have := (a.own j hj).lt b hb
  exact ⟨by omega, this.2⟩
theorem AW.g_lt {w : World} {n0 g m h : Nat} {V : List Value} {L : Nat → List KV} {P : Nat → Prop} (a : AW w n0 g m h V L P) : g < w.heap.size := (a.row.lt g rfl).2
theorem AW.keep {w w' : World} {n0 g m h : Nat} {V : List Value} {L : Nat → List KV} {P : Nat → Prop} (a : AW w n0 g m h V L P) {S : Nat → Prop} (hk : Kept S w w') (hg : ¬ S g) (ho : ∀ j, j ≤ h → ∀ b, (V.getD j nilV).ownBlock = some b → ¬ S b) (hp : ∀ b, P b → ¬ S b) : AW w' n0 g m h V L P :=
  ⟨hk.own a.row (fun b hb => by have : g = b := by simpa [Value.ownBlock] using hb
                                subst this; exact hg), fun j hj => hk.own (a.own j hj) (ho j hj), a.apart, fun b hb => ⟨Nat.lt_of_lt_of_le (a.pin b hb).1 hk.size, (a.pin b hb).2⟩, fun j hj p hp' => (a.tree j hj p hp').kept hk hp (fun _ h => h), a.base, a.hm, a.old⟩
theorem AW.up {w w' : World} {n0 g m h : Nat} {V : List Value} {L : Nat → List KV} {P : Nat → Prop} (a : AW w n0 g m h V L P) (hb : Below w.heap.size w w') : AW w' n0 g m h V L P := a.keep (kept_below hb (fun _ => False)) (fun h => h) (fun _ _ _ _ h => h) (fun _ _ h => h)
theorem AW.cell {w : World} {n0 g m h : Nat} {V : List Value} {L : Nat → List KV} {P : Nat → Prop} (a : AW w n0 g m h V L P) {j : Nat} (hj : j ≤ h) : ∃ A c, V.getD j nilV = .slice A (L j).length c ∧ w.cell? ⟨g, j, none⟩ = some (.slice A (L j).length c) ∧ (L j).length ≤ c := by
  obtain ⟨A, c, hv⟩ := row_form (a.own j hj)
  have hlen := a.len
  have hm := a.hm
  refine ⟨A, c, hv, ?_, ?_⟩
  · rw [a.row.cellAt j (by omega), ← hv]
    simp [show j < V.length by omega]
  · rcases (a.own j hj).2 with ⟨hn, h0⟩ | ⟨g', c', cur, he, _, _, hnc, _⟩
    · rw [h0]; omega
    · rw [hv] at he
      simp at he
      omega
theorem getD_setV (V : List Value) (p j : Nat) (x : Value) (hp : p < V.length) : (V.set p x).getD j nilV = if p = j then x else V.getD j nilV := by
  rw [List.getD_eq_getElem?_getD, List.getElem?_set, List.getD_eq_getElem?_getD]
  by_cases h : p = j
  · subst h; simp [hp]
  · simp [h]
/-- The last of those still written is done. -/
theorem AW.drop {w w' : World} {n0 g m h : Nat} {V : List Value} {L : Nat → List KV} {P : Nat → Prop} (a : AW w n0 g m (h + 1) V L P) (hk : Kept (OwnB (V.getD (h + 1) nilV)) w w') : AW w' n0 g m h V L (fun b => P b ∨ OwnB (V.getD (h + 1) nilV) b) ∧ ∀ p ∈ L (h + 1), TreeIn w' (fun b => P b ∨ OwnB (V.getD (h + 1) nilV) b) p.1 p.2 := by
  have hpk : ∀ b, P b → ¬ OwnB (V.getD (h + 1) nilV) b := fun b hb ho => (a.pin b hb).2.2 (h + 1) (Nat.le_refl _) ho
  refine ⟨⟨hk.own a.row (fun b hb ho => ?_), fun j hj => hk.own (a.own j (by omega)) (fun b hb ho => a.apart j (h + 1) (by omega) (Nat.le_refl _) (by omega) b hb ho), fun i j hi hj => a.apart i j (by omega) (by omega), fun b hb => ?_, fun j hj p hp => (a.tree j (by omega) p hp).kept hk hpk (fun b hb => .inl hb), a.base, by have := a.hm; omega, fun b hb => .inl (a.old b hb)⟩, fun p hp => (a.tree (h + 1) (Nat.le_refl _) p hp).kept hk hpk (fun b hb => .inl hb)⟩
  · have e : g = b := by simpa [Value.ownBlock] using hb
    subst e
    have := (a.lt (Nat.le_refl _) ho).1
    omega
  · rcases hb with hb | hb
    · exact ⟨Nat.lt_of_lt_of_le (a.pin b hb).1 hk.size, (a.pin b hb).2.1, fun j hj => (a.pin b hb).2.2 j (by omega)⟩
    · have := a.lt (Nat.le_refl _) hb
      exact ⟨Nat.lt_of_lt_of_le this.2 hk.size, .inr this.1, fun j hj ho => a.apart j (h + 1) (by omega) (Nat.le_refl _) (by omega) b ho hb⟩
/-- One node more in one of them. -/
theorem AW.step {w w' : World} {n0 g m h u : Nat} {V : List Value} {L : Nat → List KV} {P : Nat → Prop} {v' : Value} {t : Tr} {x : NV} (a : AW w n0 g m h V L P) (hu : u ≤ h) (ho : w'.ownsRow (g + 1) 25 5 v' (L u ++ [(t, x)]).length (nds (L u ++ [(t, x)]))) (hk : Kept (OwnB (V.getD u nilV)) w w') (hf : Fresh w (V.getD u nilV) v') (ht : TreeIn w P t x) :
    AW (w'.setCell ⟨g, u, none⟩ v') n0 g m h (V.set u v') (fun j => if u = j then L j ++ [(t, x)] else L j) P := by
  have hlen := a.len
  have hm := a.hm
  have hpk : ∀ b, P b → ¬ OwnB (V.getD u nilV) b := fun b hb ho => (a.pin b hb).2.2 u hu ho
  have hgk : ¬ OwnB (V.getD u nilV) g := fun e => by have := (a.lt hu e).1; omega
  have hrow : w'.ownsRow g 23 1 (.slice (some ⟨g, 0, none⟩) m m) m V := hk.own a.row (fun b hb => by have e : g = b := by simpa [Value.ownBlock] using hb
                                                                                                     subst e; exact hgk)
  have hks := kept_setCell w' ⟨g, u, none⟩ v'
  have hnew : ∀ b, v'.ownBlock = some b → g < b ∧ b < w'.heap.size := fun b hb => by have := ho.lt b hb; exact ⟨by omega, this.2⟩
  have hsz : (w'.setCell ⟨g, u, none⟩ v').heap.size = w'.heap.size := by simp
  have hfr : ∀ b, v'.ownBlock = some b → (V.getD u nilV).ownBlock = some b ∨ w.heap.size ≤ b := fun b hb => by
    rcases Nat.lt_or_ge b w.heap.size with h1 | h1
    · exact .inl (hf b h1 hb)
    · exact .inr h1
  refine ⟨(hrow.stored u v').1, fun j hj => ?_, fun i j hi hj hij b hb => ?_, fun b hb => ⟨?_, (a.pin b hb).2.1, fun j hj => ?_⟩, fun j hj p hp => ?_, a.base, a.hm, a.old⟩
  · rw [getD_setV _ _ _ _ (by omega)]
    by_cases huj : u = j
    · simp only [huj, if_true]
      subst huj
      exact hks.own ho (fun b hb e => by have := (hnew b hb).1; have e' : b = g := e; omega)
    · simp only [huj, if_false]
      refine hks.own (hk.own (a.own j hj) (fun b hb e => a.apart u j hu hj huj b e hb)) (fun b hb e => by have := (a.lt hj hb).1; have e' : b = g := e; omega)
  · rw [getD_setV _ _ _ _ (by omega)] at hb ⊢
    by_cases hui : u = i
    · rw [if_pos hui] at hb
      rw [if_neg (by omega)]
      intro e
      rcases hfr b hb with h1 | h1
      · exact a.apart u j hu hj (by omega) b h1 e
      · have := (a.lt hj e).2; omega
    · rw [if_neg hui] at hb
      by_cases huj : u = j
      · rw [if_pos huj]
        intro e
        rcases hfr b e with h1 | h1
        · exact a.apart u i hu hi hui b h1 hb
        · have := (a.lt hi hb).2; omega
      · rw [if_neg huj]
        exact a.apart i j hi hj hij b hb
  · rw [hsz]; exact Nat.lt_of_lt_of_le (a.pin b hb).1 hk.size
  · rw [getD_setV _ _ _ _ (by omega)]
    by_cases huj : u = j
    · rw [if_pos huj]
      intro e
      rcases hfr b e with h1 | h1
      · exact hpk b hb h1
      · have := (a.pin b hb).1; omega
    · rw [if_neg huj]
      exact (a.pin b hb).2.2 j hj
  · have hpg : ∀ b, P b → ¬ b = g := fun b hb e => by have := (a.pin b hb).2.1; have := a.base; omega
    have key : ∀ q : KV, TreeIn w P q.1 q.2 → TreeIn (w'.setCell ⟨g, u, none⟩ v') P q.1 q.2 := fun q hq => (hq.kept hk hpk (fun _ h => h)).kept hks (fun b hb e => hpg b hb e) (fun _ h => h)
    by_cases huj : u = j
    · simp only [huj, if_true] at hp
      rcases List.mem_append.1 hp with hp | hp
      · exact key p (a.tree j hj p hp)
      · simp at hp; subst hp; exact key (t, x) ht
    · simp only [huj, if_false] at hp
      exact key p (a.tree j hj p hp)
/-- One node of one of them is written anew. -/
theorem AW.put {w : World} {n0 g m h u k gv n cap : Nat} {V : List Value} {L : Nat → List KV} {P : Nat → Prop} {t : Tr} {x : NV} (a : AW w n0 g m h V L P) (hu : u ≤ h) (hv : V.getD u nilV = .slice (some ⟨gv, 0, none⟩) n cap) (hn : (L u).length = n) (hk : k < (L u).length) (ht : TreeIn w P t x) :
    AW (putK w gv (k * 5) t x) n0 g m h V (fun j => if u = j then (L j).set k (t, x) else L j) P := by
  have hown := a.own u hu
  rw [hv, hn] at hown
  have hob : (V.getD u nilV).ownBlock = some gv := by rw [hv]; rfl
  have hkp := kept_putK w gv (k * 5) t x
  have hg : ¬ g = gv := by have := (a.lt hu hob).1; omega
  have hpp : ∀ b, P b → ¬ b = gv := fun b hb e => (a.pin b hb).2.2 u hu (by rw [hob, e])
  refine ⟨hkp.own a.row (fun b hb e => hg (by have e1 : g = b := by simpa [Value.ownBlock] using hb
                                              have e2 : b = gv := e
                                              omega)), fun j hj => ?_, a.apart, fun b hb => ⟨Nat.lt_of_lt_of_le (a.pin b hb).1 hkp.size, (a.pin b hb).2⟩, fun j hj p hp => ?_, a.base, a.hm, a.old⟩
  · by_cases huj : u = j
    · subst huj
      simp only [if_true]
      have := own_putK hown hn k hk t x
      rw [hv, List.length_set, hn]
      exact this
    · simp only [huj, if_false]
      exact hkp.own (a.own j hj) (fun b hb e => a.apart u j hu hj huj b (by rw [hob]; exact congrArg some (show gv = b from (show b = gv from e).symm)) hb)
  · have key : ∀ q : KV, TreeIn w P q.1 q.2 → TreeIn (putK w gv (k * 5) t x) P q.1 q.2 := fun q hq => hq.kept hkp hpp (fun _ h => h)
    by_cases huj : u = j
    · subst huj
      simp only [if_true] at hp
      rcases List.mem_or_eq_of_mem_set hp with hp | rfl
      · exact key p (a.tree u hj p hp)
      · exact key (t, x) ht
    · simp only [huj, if_false] at hp
      exact key p (a.tree j hj p hp)
theorem AW.congr {w : World} {n0 g m h : Nat} {V : List Value} {L L' : Nat → List KV} {P : Nat → Prop} (a : AW w n0 g m h V L P) (he : ∀ j, j ≤ h → L j = L' j) : AW w n0 g m h V L' P := ⟨a.row, fun j hj => he j hj ▸ a.own j hj, a.apart, a.pin, fun j hj => he j hj ▸ a.tree j hj, a.base, a.hm, a.old⟩
/-- A tree from the row of its kids. -/
theorem tree_of_krow {w : World} {P : Nat → Prop} (t : Tr) (ps : List KV) {A' Av : Option Addr} {ca' cv : Nat} (hkr : 0 < ps.length → ∃ g, Av = some ⟨g, 0, none⟩ ∧ P g ∧ ∀ j, (h : j < ps.length) → KidCells w g (0 + j * 5) ps[j].1 ps[j].2) (hpm : ps.map Prod.fst = t.kids) (hti : ∀ p ∈ ps, TreeIn w P p.1 p.2)
    (hatt : TRowP w P A' t.as) (hA1 : t.as.length ≤ ca') (hA2 : ca' ≤ maxLen) (hA3 : A' = none → ca' = 0) (hc1 : t.kids.length ≤ cv) (hc2 : cv ≤ maxLen) (hc3 : Av = none → cv = 0) : TreeIn w P t ⟨A', ca', Av, cv⟩ := by
  have hpl : ps.length = t.kids.length := by rw [← hpm]; simp
  have hkid : ∀ j, (h : j < t.kids.length) → ∃ h' : j < ps.length, t.kids[j] = ps[j].1 := fun j h => ⟨by omega, by simp only [← hpm]; rw [List.getElem_map]⟩
  refine .mk (fun j => (ps.getD j (t, ⟨none, 0, none, 0⟩)).2) hatt hA1 hA2 hA3 hc1 hc2 hc3 (fun h0 => ?_) (fun j hj => ?_)
  · obtain ⟨g, hg, hp, hc⟩ := hkr (by omega)
    refine ⟨g, 0, hg, hp, fun j hj => ?_⟩
    obtain ⟨h', e⟩ := hkid j hj
    have e2 : (ps.getD j (t, ⟨none, 0, none, 0⟩)).2 = ps[j].2 := by simp [List.getD_eq_getElem?_getD, h']
    rw [e, e2]
    exact hc j h'
  · obtain ⟨h', e⟩ := hkid j hj
    have e2 : (ps.getD j (t, ⟨none, 0, none, 0⟩)).2 = ps[j].2 := by simp [List.getD_eq_getElem?_getD, h']
    rw [e, e2]
    exact hti _ (List.getElem_mem _)
theorem nil_tree (w : World) (P : Nat → Prop) : TreeIn w P (.mk noB noB noB [] []) ⟨none, 0, none, 0⟩ := .mk (fun _ => ⟨none, 0, none, 0⟩) (fun h => by simp [Tr.as] at h) (Nat.le_refl _) (by simp [maxLen]) (fun _ => rfl) (Nat.le_refl _) (by simp [maxLen]) (fun _ => rfl) (fun h => by simp [Tr.kids] at h) (fun j h => by simp [Tr.kids] at h)
theorem Try.info23 : (Try.prog.info? 23).map (fun i => (i.zero, i.size, i.bytes)) = some (some (.slice none 0 0), 1, 24) := by kernel_rfl
theorem made_nils (n : Nat) : (madeCells (Value.slice none 0 0).cells (n * 1)).toList = List.replicate n nilV := by
  have : (Value.slice none 0 0).cells = #[.slice none 0 0] := rfl
  rw [this, toList_madeCells_one]; simp
theorem AW.new {w w' : World} {n0 m h : Nat} (hrow : w'.ownsRow w.heap.size 23 1 (.slice (some ⟨w.heap.size, 0, none⟩) m m) m (List.replicate m nilV)) (hn : n0 ≤ w.heap.size) (hh : h < m) : AW w' n0 w.heap.size m h (List.replicate m nilV) (fun _ => []) (fun b => b < n0) := by
  have hs : w.heap.size < w'.heap.size := (hrow.lt _ rfl).2
  have e : ∀ j, (List.replicate m nilV).getD j nilV = nilV := fun j => by
    rw [List.getD_eq_getElem?_getD]
    rcases Nat.lt_or_ge j m with h1 | h1
    · simp [h1]
    · simp [h1]
  refine ⟨hrow, fun j hj => by rw [e]; exact World.ownsRow_nil _ _ _ _, fun i j hi hj hij b hb => ?_, fun b hb => ⟨by omega, .inl hb, fun j hj ho => ?_⟩, fun j hj p hp => by simp at hp, hn, hh, fun b hb => hb⟩
  · rw [e] at hb; simp [Value.ownBlock] at hb
  · rw [e] at ho; simp [Value.ownBlock] at ho
end Go.Proofs.Ytlkdklpglmglkaa
