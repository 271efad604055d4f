/-
  Slices of nodes in a slice, as flat.assemble has them: what is still written, and what is done. | flat.assemble: what one round of its loop does to its lists.
-/
import Derived.Test.YtlkdklpglmglkaaFRev
import Derived.Test.YtlkdklpglmglkaaFCheck
import Derived.Test.YtlkdklpglmglkaaDup
namespace Go.Proofs.Ytlkdklpglmglkaa
open Go.RowKit Go.Sort Go.Lib
set_option linter.unusedVariables false
set_option maxRecDepth 100000
abbrev nilV : Value := .slice none 0 0
structure AW (w : World) (n0 g m h : Nat) (V : List Value) (L : Nat → List KV) (P : Nat → Prop) : Prop where
  row : w.ownsRow g 23 1 (.slice (some ⟨g, 0, none⟩) m m) m V
  own : ∀ j, j ≤ h → w.ownsRow (g + 1) 25 5 (V.getD j nilV) (L j).length (nds (L j))
  apart : ∀ i j, i ≤ h → j ≤ h → i ≠ j → ∀ b, (V.getD i nilV).ownBlock = some b → ¬ (V.getD j nilV).ownBlock = some b
  pin : ∀ b, P b → b < w.heap.size ∧ (b < n0 ∨ g < b) ∧ ∀ j, j ≤ h → ¬ (V.getD j nilV).ownBlock = some b
  tree : ∀ j, j ≤ h → ∀ p ∈ L j, TreeIn w P p.1 p.2
  base : n0 ≤ g
  hm : h < m
  old : ∀ b, b < n0 → P b
theorem AW.len {w : World} {n0 g m h : Nat} {V : List Value} {L : Nat → List KV} {P : Nat → Prop} (a : AW w n0 g m h V L P) : V.length = m := by have := a.row.1; omega
theorem AW.lt {w : World} {n0 g m h : Nat} {V : List Value} {L : Nat → List KV} {P : Nat → Prop} (a : AW w n0 g m h V L P) {j : Nat} (hj : j ≤ h) {b : Nat} (hb : (V.getD j nilV).ownBlock = some b) : g < b ∧ b < w.heap.size := by
  have := (a.own j hj).lt b hb
  exact ⟨by omega, this.2⟩
theorem AW.g_lt {w : World} {n0 g m h : Nat} {V : List Value} {L : Nat → List KV} {P : Nat → Prop} (a : AW w n0 g m h V L P) : g < w.heap.size := (a.row.lt g rfl).2
theorem AW.keep {w w' : World} {n0 g m h : Nat} {V : List Value} {L : Nat → List KV} {P : Nat → Prop} (a : AW w n0 g m h V L P) {S : Nat → Prop} (hk : Kept S w w') (hg : ¬ S g) (ho : ∀ j, j ≤ h → ∀ b, (V.getD j nilV).ownBlock = some b → ¬ S b) (hp : ∀ b, P b → ¬ S b) : AW w' n0 g m h V L P :=
  ⟨hk.own a.row (fun b hb => by have : g = b := by simpa [Value.ownBlock] using hb
                                subst this; exact hg), fun j hj => hk.own (a.own j hj) (ho j hj), a.apart, fun b hb => ⟨Nat.lt_of_lt_of_le (a.pin b hb).1 hk.size, (a.pin b hb).2⟩, fun j hj p hp' => (a.tree j hj p hp').kept hk hp (fun _ h => h), a.base, a.hm, a.old⟩
theorem AW.up {w w' : World} {n0 g m h : Nat} {V : List Value} {L : Nat → List KV} {P : Nat → Prop} (a : AW w n0 g m h V L P) (hb : Below w.heap.size w w') : AW w' n0 g m h V L P := a.keep (kept_below hb (fun _ => False)) (fun h => h) (fun _ _ _ _ h => h) (fun _ _ h => h)
theorem AW.cell {w : World} {n0 g m h : Nat} {V : List Value} {L : Nat → List KV} {P : Nat → Prop} (a : AW w n0 g m h V L P) {j : Nat} (hj : j ≤ h) : ∃ A c, V.getD j nilV = .slice A (L j).length c ∧ w.cell? ⟨g, j, none⟩ = some (.slice A (L j).length c) ∧ (L j).length ≤ c := by
  obtain ⟨A, c, hv⟩ := row_form (a.own j hj)
  have hlen := a.len
  have hm := a.hm
  refine ⟨A, c, hv, ?_, ?_⟩
  · rw [a.row.cellAt j (by omega), ← hv]
    simp [show j < V.length by omega]
  · rcases (a.own j hj).2 with ⟨hn, h0⟩ | ⟨g', c', cur, he, _, _, hnc, _⟩
    · rw [h0]; omega
    · rw [hv] at he
      simp at he
      omega
theorem getD_setV (V : List Value) (p j : Nat) (x : Value) (hp : p < V.length) : (V.set p x).getD j nilV = if p = j then x else V.getD j nilV := by
  rw [List.getD_eq_getElem?_getD, List.getElem?_set, List.getD_eq_getElem?_getD]
  by_cases h : p = j
  · subst h; simp [hp]
  · simp [h]
/-- The last of those still written is done. -/
theorem AW.drop {w w' : World} {n0 g m h : Nat} {V : List Value} {L : Nat → List KV} {P : Nat → Prop} (a : AW w n0 g m (h + 1) V L P) (hk : Kept (OwnB (V.getD (h + 1) nilV)) w w') : AW w' n0 g m h V L (fun b => P b ∨ OwnB (V.getD (h + 1) nilV) b) ∧ ∀ p ∈ L (h + 1), TreeIn w' (fun b => P b ∨ OwnB (V.getD (h + 1) nilV) b) p.1 p.2 := by
  have hpk : ∀ b, P b → ¬ OwnB (V.getD (h + 1) nilV) b := fun b hb ho => (a.pin b hb).2.2 (h + 1) (Nat.le_refl _) ho
  refine ⟨⟨hk.own a.row (fun b hb ho => ?_), fun j hj => hk.own (a.own j (by omega)) (fun b hb ho => a.apart j (h + 1) (by omega) (Nat.le_refl _) (by omega) b hb ho), fun i j hi hj => a.apart i j (by omega) (by omega), fun b hb => ?_, fun j hj p hp => (a.tree j (by omega) p hp).kept hk hpk (fun b hb => .inl hb), a.base, by have := a.hm; omega, fun b hb => .inl (a.old b hb)⟩, fun p hp => (a.tree (h + 1) (Nat.le_refl _) p hp).kept hk hpk (fun b hb => .inl hb)⟩
  · have e : g = b := by simpa [Value.ownBlock] using hb
    subst e
    have := (a.lt (Nat.le_refl _) ho).1
    omega
  · rcases hb with hb | hb
    · exact ⟨Nat.lt_of_lt_of_le (a.pin b hb).1 hk.size, (a.pin b hb).2.1, fun j hj => (a.pin b hb).2.2 j (by omega)⟩
    · have := a.lt (Nat.le_refl _) hb
      exact ⟨Nat.lt_of_lt_of_le this.2 hk.size, .inr this.1, fun j hj ho => a.apart j (h + 1) (by omega) (Nat.le_refl _) (by omega) b ho hb⟩
/-- One node more in one of them. -/
theorem AW.step {w w' : World} {n0 g m h u : Nat} {V : List Value} {L : Nat → List KV} {P : Nat → Prop} {v' : Value} {t : Tr} {x : NV} (a : AW w n0 g m h V L P) (hu : u ≤ h) (ho : w'.ownsRow (g + 1) 25 5 v' (L u ++ [(t, x)]).length (nds (L u ++ [(t, x)]))) (hk : Kept (OwnB (V.getD u nilV)) w w') (hf : Fresh w (V.getD u nilV) v') (ht : TreeIn w P t x) :
    AW (w'.setCell ⟨g, u, none⟩ v') n0 g m h (V.set u v') (fun j => if u = j then L j ++ [(t, x)] else L j) P := by
  have hlen := a.len
  have hm := a.hm
  have hpk : ∀ b, P b → ¬ OwnB (V.getD u nilV) b := fun b hb ho => (a.pin b hb).2.2 u hu ho
  have hgk : ¬ OwnB (V.getD u nilV) g := fun e => by have := (a.lt hu e).1; omega
  have hrow : w'.ownsRow g 23 1 (.slice (some ⟨g, 0, none⟩) m m) m V := hk.own a.row (fun b hb => by have e : g = b := by simpa [Value.ownBlock] using hb
                                                                                                     subst e; exact hgk)
  have hks := kept_setCell w' ⟨g, u, none⟩ v'
  have hnew : ∀ b, v'.ownBlock = some b → g < b ∧ b < w'.heap.size := fun b hb => by have := ho.lt b hb; exact ⟨by omega, this.2⟩
  have hsz : (w'.setCell ⟨g, u, none⟩ v').heap.size = w'.heap.size := by simp
  have hfr : ∀ b, v'.ownBlock = some b → (V.getD u nilV).ownBlock = some b ∨ w.heap.size ≤ b := fun b hb => by
    rcases Nat.lt_or_ge b w.heap.size with h1 | h1
    · exact .inl (hf b h1 hb)
    · exact .inr h1
  refine ⟨(hrow.stored u v').1, fun j hj => ?_, fun i j hi hj hij b hb => ?_, fun b hb => ⟨?_, (a.pin b hb).2.1, fun j hj => ?_⟩, fun j hj p hp => ?_, a.base, a.hm, a.old⟩
  · rw [getD_setV _ _ _ _ (by omega)]
    by_cases huj : u = j
    · simp only [huj, if_true]
      subst huj
      exact hks.own ho (fun b hb e => by have := (hnew b hb).1; have e' : b = g := e; omega)
    · simp only [huj, if_false]
      refine hks.own (hk.own (a.own j hj) (fun b hb e => a.apart u j hu hj huj b e hb)) (fun b hb e => by have := (a.lt hj hb).1; have e' : b = g := e; omega)
  · rw [getD_setV _ _ _ _ (by omega)] at hb ⊢
    by_cases hui : u = i
    · rw [if_pos hui] at hb
      rw [if_neg (by omega)]
      intro e
      rcases hfr b hb with h1 | h1
      · exact a.apart u j hu hj (by omega) b h1 e
      · have := (a.lt hj e).2; omega
    · rw [if_neg hui] at hb
      by_cases huj : u = j
      · rw [if_pos huj]
        intro e
        rcases hfr b e with h1 | h1
        · exact a.apart u i hu hi hui b h1 hb
        · have := (a.lt hi hb).2; omega
      · rw [if_neg huj]
        exact a.apart i j hi hj hij b hb
  · rw [hsz]; exact Nat.lt_of_lt_of_le (a.pin b hb).1 hk.size
  · rw [getD_setV _ _ _ _ (by omega)]
    by_cases huj : u = j
    · rw [if_pos huj]
      intro e
      rcases hfr b e with h1 | h1
      · exact hpk b hb h1
      · have := (a.pin b hb).1; omega
    · rw [if_neg huj]
      exact (a.pin b hb).2.2 j hj
  · have hpg : ∀ b, P b → ¬ b = g := fun b hb e => by have := (a.pin b hb).2.1; have := a.base; omega
    have key : ∀ q : KV, TreeIn w P q.1 q.2 → TreeIn (w'.setCell ⟨g, u, none⟩ v') P q.1 q.2 := fun q hq => (hq.kept hk hpk (fun _ h => h)).kept hks (fun b hb e => hpg b hb e) (fun _ h => h)
    by_cases huj : u = j
    · simp only [huj, if_true] at hp
      rcases List.mem_append.1 hp with hp | hp
      · exact key p (a.tree j hj p hp)
      · simp at hp; subst hp; exact key (t, x) ht
    · simp only [huj, if_false] at hp
      exact key p (a.tree j hj p hp)
/-- One node of one of them is written anew. -/
theorem AW.put {w : World} {n0 g m h u k gv n cap : Nat} {V : List Value} {L : Nat → List KV} {P : Nat → Prop} {t : Tr} {x : NV} (a : AW w n0 g m h V L P) (hu : u ≤ h) (hv : V.getD u nilV = .slice (some ⟨gv, 0, none⟩) n cap) (hn : (L u).length = n) (hk : k < (L u).length) (ht : TreeIn w P t x) :
    AW (putK w gv (k * 5) t x) n0 g m h V (fun j => if u = j then (L j).set k (t, x) else L j) P := by
  have hown := a.own u hu
  rw [hv, hn] at hown
  have hob : (V.getD u nilV).ownBlock = some gv := by rw [hv]; rfl
  have hkp := kept_putK w gv (k * 5) t x
  have hg : ¬ g = gv := by have := (a.lt hu hob).1; omega
  have hpp : ∀ b, P b → ¬ b = gv := fun b hb e => (a.pin b hb).2.2 u hu (by rw [hob, e])
  refine ⟨hkp.own a.row (fun b hb e => hg (by have e1 : g = b := by simpa [Value.ownBlock] using hb
                                              have e2 : b = gv := e
                                              omega)), fun j hj => ?_, a.apart, fun b hb => ⟨Nat.lt_of_lt_of_le (a.pin b hb).1 hkp.size, (a.pin b hb).2⟩, fun j hj p hp => ?_, a.base, a.hm, a.old⟩
  · by_cases huj : u = j
    · subst huj
      simp only [if_true]
      have := own_putK hown hn k hk t x
      rw [hv, List.length_set, hn]
      exact this
    · simp only [huj, if_false]
      exact hkp.own (a.own j hj) (fun b hb e => a.apart u j hu hj huj b (by rw [hob]; exact congrArg some (show gv = b from (show b = gv from e).symm)) hb)
  · have key : ∀ q : KV, TreeIn w P q.1 q.2 → TreeIn (putK w gv (k * 5) t x) P q.1 q.2 := fun q hq => hq.kept hkp hpp (fun _ h => h)
    by_cases huj : u = j
    · subst huj
      simp only [if_true] at hp
      rcases List.mem_or_eq_of_mem_set hp with hp | rfl
      · exact key p (a.tree u hj p hp)
      · exact key (t, x) ht
    · simp only [huj, if_false] at hp
      exact key p (a.tree j hj p hp)
theorem AW.congr {w : World} {n0 g m h : Nat} {V : List Value} {L L' : Nat → List KV} {P : Nat → Prop} (a : AW w n0 g m h V L P) (he : ∀ j, j ≤ h → L j = L' j) : AW w n0 g m h V L' P := ⟨a.row, fun j hj => he j hj ▸ a.own j hj, a.apart, a.pin, fun j hj => he j hj ▸ a.tree j hj, a.base, a.hm, a.old⟩
/-- A tree from the row of its kids. -/
theorem tree_of_krow {w : World} {P : Nat → Prop} (t : Tr) (ps : List KV) {A' Av : Option Addr} {ca' cv : Nat} (hkr : 0 < ps.length → ∃ g, Av = some ⟨g, 0, none⟩ ∧ P g ∧ ∀ j, (h : j < ps.length) → KidCells w g (0 + j * 5) ps[j].1 ps[j].2) (hpm : ps.map Prod.fst = t.kids) (hti : ∀ p ∈ ps, TreeIn w P p.1 p.2)
    (hatt : TRowP w P A' t.as) (hA1 : t.as.length ≤ ca') (hA2 : ca' ≤ maxLen) (hA3 : A' = none → ca' = 0) (hc1 : t.kids.length ≤ cv) (hc2 : cv ≤ maxLen) (hc3 : Av = none → cv = 0) : TreeIn w P t ⟨A', ca', Av, cv⟩ := by
  have hpl : ps.length = t.kids.length := by rw [← hpm]; simp
  have hkid : ∀ j, (h : j < t.kids.length) → ∃ h' : j < ps.length, t.kids[j] = ps[j].1 := fun j h => ⟨by omega, by simp only [← hpm]; rw [List.getElem_map]⟩
  refine .mk (fun j => (ps.getD j (t, ⟨none, 0, none, 0⟩)).2) hatt hA1 hA2 hA3 hc1 hc2 hc3 (fun h0 => ?_) (fun j hj => ?_)
  · obtain ⟨g, hg, hp, hc⟩ := hkr (by omega)
    refine ⟨g, 0, hg, hp, fun j hj => ?_⟩
    obtain ⟨h', e⟩ := hkid j hj
    have e2 : (ps.getD j (t, ⟨none, 0, none, 0⟩)).2 = ps[j].2 := by simp [List.getD_eq_getElem?_getD, h']
    rw [e, e2]
    exact hc j h'
  · obtain ⟨h', e⟩ := hkid j hj
    have e2 : (ps.getD j (t, ⟨none, 0, none, 0⟩)).2 = ps[j].2 := by simp [List.getD_eq_getElem?_getD, h']
    rw [e, e2]
    exact hti _ (List.getElem_mem _)
theorem nil_tree (w : World) (P : Nat → Prop) : TreeIn w P (.mk noB noB noB [] []) ⟨none, 0, none, 0⟩ := .mk (fun _ => ⟨none, 0, none, 0⟩) (fun h => by simp [Tr.as] at h) (Nat.le_refl _) (by simp [maxLen]) (fun _ => rfl) (Nat.le_refl _) (by simp [maxLen]) (fun _ => rfl) (fun h => by simp [Tr.kids] at h) (fun j h => by simp [Tr.kids] at h)
theorem Try.info23 : (Try.prog.info? 23).map (fun i => (i.zero, i.size, i.bytes)) = some (some (.slice none 0 0), 1, 24) := by kernel_rfl
theorem made_nils (n : Nat) : (madeCells (Value.slice none 0 0).cells (n * 1)).toList = List.replicate n nilV := by
  have : (Value.slice none 0 0).cells = #[.slice none 0 0] := rfl
  rw [this, toList_madeCells_one]; simp
theorem AW.new {w w' : World} {n0 m h : Nat} (hrow : w'.ownsRow w.heap.size 23 1 (.slice (some ⟨w.heap.size, 0, none⟩) m m) m (List.replicate m nilV)) (hn : n0 ≤ w.heap.size) (hh : h < m) : AW w' n0 w.heap.size m h (List.replicate m nilV) (fun _ => []) (fun b => b < n0) := by
  have hs : w.heap.size < w'.heap.size := (hrow.lt _ rfl).2
  have e : ∀ j, (List.replicate m nilV).getD j nilV = nilV := fun j => by
    rw [List.getD_eq_getElem?_getD]
    rcases Nat.lt_or_ge j m with h1 | h1
    · simp [h1]
    · simp [h1]
  refine ⟨hrow, fun j hj => by rw [e]; exact World.ownsRow_nil _ _ _ _, fun i j hi hj hij b hb => ?_, fun b hb => ⟨by omega, .inl hb, fun j hj ho => ?_⟩, fun j hj p hp => by simp at hp, hn, hh, fun b hb => hb⟩
  · rw [e] at hb; simp [Value.ownBlock] at hb
  · rw [e] at ho; simp [Value.ownBlock] at ho
end Go.Proofs.Ytlkdklpglmglkaa

namespace Go.Proofs.Ytlkdklpglmglkaa
open Go.RowKit Go.Sort Go.Lib
set_option linter.unusedVariables false
set_option maxRecDepth 100000
theorem rev_both (base : Nat) (A : Option Addr) (n cap : Nat) (ps : List KV) (w : World) (h : w.ownsRow base 25 5 (.slice A n cap) ps.length (nds ps)) (hn : ps.length = n) (hl : ps.length ≤ 1000000) :
    Calls Try.prog 75 #[.slice A n cap] w fun e w' => e = .returned (.tuple #[]) ∧ (0 < ps.reverse.length → ∃ g, A = some ⟨g, 0, none⟩ ∧ ∀ j, (h : j < ps.reverse.length) → KidCells w' g (0 + j * 5) ps.reverse[j].1 ps.reverse[j].2) ∧ Kept (OwnB (.slice A n cap)) w w' := by
  subst hn
  by_cases h0 : ps = []
  · subst h0
    refine (revN_none A cap w).mono ?_
    rintro e w' ⟨rfl, rfl⟩
    exact ⟨rfl, fun h => by simp at h, Kept.refl _ _⟩
  · obtain ⟨g, hg⟩ : ∃ g, A = some ⟨g, 0, none⟩ := by
      rcases h.2 with ⟨he, hn⟩ | ⟨g, c, cur, he, _⟩
      · exact absurd (List.eq_nil_of_length_eq_zero hn) h0
      · simp at he; exact ⟨g, he.1⟩
    subst hg
    refine (revN_any base g cap ps w h hl).mono ?_
    rintro e w' ⟨rfl, h1, h2⟩
    exact ⟨rfl, fun _ => ⟨g, rfl, h1⟩, h2.mono (fun k _ hk => by simp [OwnB, Value.ownBlock, hk])⟩
theorem results_tree63 (tmps : Array Value) (w : World) (B : Nat) (v0 v1 v2 v3 v4 : Value) (hp : tmps.getD 2 undef = .pointer (some ⟨B, 0, none⟩)) (hg : BoxN w B v0 v1 v2 v3 v4) :
    (results Try.f63 tmps).run Try.prog w = .ok (.agg #[v0, v1, v2, v3, v4]) w := by
  exact results_cell_row rfl tmps w B 25 _ (0, 0) _ hp hg Try.underlying25 rfl (by kernel_rfl)
def OldNew (n0 : Nat) (w w' : World) : Nat → Prop := fun b => (b < n0 ∨ w.heap.size ≤ b) ∧ b < w'.heap.size
def AsmPost (n0 : Nat) (rs : List Rw) (w : World) (e : Ending) (w' : World) : Prop := ∃ x, e = .returned (nodeV (treeR rs 1) x) ∧ TreeIn w' (OldNew n0 w w') (treeR rs 1) x ∧ Below w.heap.size w w'
abbrev zboxW (w : World) : World := w.alloc (.cells #[.string ⟨#[]⟩, .string ⟨#[]⟩, .string ⟨#[]⟩, .slice none 0 0, .slice none 0 0] 25)
theorem kidsTo_len (l : List Rw) (h : Int) : ∀ n, (kidsTo l h n).length ≤ n
  | 0 => by simp [kidsTo]
  | n + 1 => by
    rw [kidsTo]
    have := kidsTo_len l h n
    split
    · simp; omega
    · omega
theorem trow_p {w : World} {P : Nat → Prop} {n0 : Nat} {A : Option Addr} {l : List At} (h : TRow w n0 A l) (hp : ∀ b, b < n0 → P b) : TRowP w P A l := fun h0 => by
  obtain ⟨b, off, hA, hlt, hc⟩ := h h0
  exact ⟨b, off, hA, hp b hlt, hc⟩
/-- What the lists hold when the rows above h are done. -/
def Lis (rs : List Rw) (h : Nat) (L : Nat → List KV) : Prop := ∀ j, j ≤ h → (L j).map Prod.fst = ((kidsAf rs j h).map (treeR rs)).reverse
theorem Lis.next {rs : List Rw} {h' u : Nat} {L : Nat → List KV} {x : NV} (hl : Lis rs (h' + 1) L) (hlt : h' < rs.length) (hup : (rwAt rs h').up = (u : Int)) : Lis rs h' (fun j => if u = j then L j ++ [(treeR rs (h' + 1), x)] else L j) := by
  intro j hj
  have e := hl j (by omega)
  rw [kidsAf_step hlt]
  by_cases huj : u = j
  · subst huj
    simp only [if_true]
    rw [if_pos hup, List.map_append, e]
    simp
  · simp only [huj, if_false]
    rw [if_neg (by rw [hup]; omega), e]; rfl
structure AR (n0 : Nat) (rs : List Rw) (w w1 wr : World) (g h : Nat) (V : List Value) (L : Nat → List KV) (P : Nat → Prop) : Prop where
  aw : AW wr n0 g (rs.length + 1) h V L P
  lis : Lis rs h L
  box : BoxN wr w.heap.size (.string ⟨#[]⟩) (.string ⟨#[]⟩) (.string ⟨#[]⟩) (.slice none 0 0) (.slice none 0 0)
  bel : Below w.heap.size w wr
  hn : n0 ≤ w.heap.size
theorem lis_len {rs : List Rw} {h : Nat} {L : Nat → List KV} (hl : Lis rs h L) {j : Nat} (hj : j ≤ h) : (L j).length ≤ rs.length := by
  have h1 := congrArg List.length (hl j hj)
  simp only [List.length_map, List.length_reverse] at h1
  rw [h1]
  exact Nat.le_trans (List.length_filter_le _ _) (kidsTo_len rs j rs.length)
/-- Ahead of the call of Reverse. -/
theorem asm_ahead {n0 : Nat} {rs : List Rw} {w w1 wr : World} {g h : Nat} {V : List Value} {L : Nat → List KV} {P : Nat → Prop} (a : AR n0 rs w w1 wr g h V L P) (r : Rw) (x : AV) :
    ∃ Ah ch nh ps w5, w5 = rboxW wr r x ∧ ps = L h ∧ nh = ps.length ∧ ps.length ≤ rs.length ∧ V.getD h nilV = .slice Ah nh ch ∧ wr.cell? ⟨g, h, none⟩ = some (.slice Ah nh ch) ∧ nh ≤ ch ∧ w5.ownsRow (g + 1) 25 5 (.slice Ah nh ch) ps.length (nds ps) := by
  obtain ⟨Ah, ch, hvh, hch, hcc⟩ := a.aw.cell (Nat.le_refl h)
  have hown5 := (a.aw.up (below_rbox wr r x)).own h (Nat.le_refl h)
  rw [hvh] at hown5
  exact ⟨Ah, ch, _, _, _, rfl, rfl, rfl, lis_len a.lis (Nat.le_refl h), hvh, hch, hcc, hown5⟩
/-- What stands when the node is made, and until it is appended. -/
structure Mid (n0 : Nat) (rs : List Rw) (w W : World) (g h' : Nat) (V : List Value) (L : Nat → List KV) (P : Nat → Prop) (t : Tr) (y : NV) (r : Rw) (x : AV) (B5 : Nat) : Prop where
  aw : AW W n0 g (rs.length + 1) h' V L P
  ti : TreeIn W P t y
  rc : RCells W B5 0 r x
  bx : BoxN W w.heap.size (.string ⟨#[]⟩) (.string ⟨#[]⟩) (.string ⟨#[]⟩) (.slice none 0 0) (.slice none 0 0)
  bl : Below w.heap.size w W
  fr : ∀ j, j ≤ h' → ∀ b, (V.getD j nilV).ownBlock = some b → b < B5
  hn : n0 ≤ w.heap.size
theorem Mid.up {n0 : Nat} {rs : List Rw} {w W W' : World} {g h' : Nat} {V : List Value} {L : Nat → List KV} {P : Nat → Prop} {t : Tr} {y : NV} {r : Rw} {x : AV} {B5 : Nat} (m : Mid n0 rs w W g h' V L P t y r x B5) (hb : Below W.heap.size W W') : Mid n0 rs w W' g h' V L P t y r x B5 :=
  ⟨m.aw.up hb, m.ti.kept (kept_below hb (fun _ => False)) (fun _ _ h => h) (fun _ h => h), m.rc.kept (kept_below hb (fun _ => False)) (fun h => h), m.bx.kept (kept_below hb (fun _ => False)) (fun h => h), m.bl.trans (hb.mono m.bl.size), m.fr, m.hn⟩
/-- Behind the call of Reverse. -/
theorem asm_mid {n0 : Nat} {rs : List Rw} {w w1 wr w5 w6 : World} {g h h' nh ch : Nat} {V : List Value} {L : Nat → List KV} {P : Nat → Prop} (a : AR n0 rs w w1 wr g h V L P) (hf : FormTo rs rs.length) (hg : g = w.heap.size + 1) (hhe : h = h' + 1) {r : Rw} {x : AV} (hr : rwAt rs h' = r) (hat : AtR wr n0 r x) {Ah : Option Addr} {ps : List KV} (hw5 : w5 = rboxW wr r x) (hps : ps = L h) (hnh : nh = ps.length) (hvh : V.getD h nilV = .slice Ah nh ch)
    (hkr : 0 < ps.reverse.length → ∃ g, Ah = some ⟨g, 0, none⟩ ∧ ∀ j, (h : j < ps.reverse.length) → KidCells w6 g (0 + j * 5) ps.reverse[j].1 ps.reverse[j].2) (hk6 : Kept (OwnB (.slice Ah nh ch)) w5 w6) :
    ∃ P6, Mid n0 rs w w6 g h' V L P6 (treeR rs (h' + 1)) ⟨x.A, x.ca, Ah, ch⟩ r x wr.heap.size ∧ w6.cell? ⟨g, h, none⟩ = some (.slice Ah nh ch) ∧ (treeR rs (h' + 1)).tag = r.tag ∧ (treeR rs (h' + 1)).key = r.key ∧ (treeR rs (h' + 1)).text = r.text ∧ (treeR rs (h' + 1)).as = r.as ∧ (treeR rs (h' + 1)).kids.length = nh ∧ wr.heap.size < w6.heap.size := by
  subst hhe
  have nf : ¬ (False : Prop) := fun h => h
  have hsw := a.bel.size
  have hb5 : Below wr.heap.size wr w5 := by rw [hw5]; exact below_rbox _ _ _
  have hrb5 : RCells w5 wr.heap.size 0 r x := by rw [hw5]; exact rbox_cells _ _ _
  have aw5 := a.aw.up hb5
  obtain ⟨aw6, htr6⟩ := aw5.drop (w' := w6) (by rw [hvh]; exact hk6)
  rw [hvh] at aw6 htr6
  rw [← hps] at htr6
  have hown : ∀ b, OwnB (.slice Ah nh ch) b → g < b ∧ b < wr.heap.size := fun b hb => a.aw.lt (Nat.le_refl _) (by rw [hvh]; exact hb)
  have hkids : (treeR rs (h' + 1)).kids = ps.reverse.map Prod.fst := by
    rw [treeR_eq hf]
    have e1 := a.lis (h' + 1) (Nat.le_refl _)
    rw [← hps, kids_all hf] at e1
    show (kidsH rs ((h' + 1 : Nat) : Int)).map (treeR rs) = _
    rw [List.map_reverse, e1, List.reverse_reverse]
  have hflds : (treeR rs (h' + 1)).tag = r.tag ∧ (treeR rs (h' + 1)).key = r.key ∧ (treeR rs (h' + 1)).text = r.text ∧ (treeR rs (h' + 1)).as = r.as := by
    rw [treeR_eq hf]
    show (rwAt rs h').tag = _ ∧ (rwAt rs h').key = _ ∧ (rwAt rs h').text = _ ∧ (rwAt rs h').as = _
    rw [hr]; exact ⟨rfl, rfl, rfl, rfl⟩
  have hcap := aw5.own (h' + 1) (Nat.le_refl _)
  rw [hvh, ← hps] at hcap
  have hcv : ch ≤ maxLen ∧ (Ah = none → ch = 0) ∧ nh ≤ ch := by
    rcases hcap.2 with ⟨he, hn⟩ | ⟨g', c', cur, he, _, _, k1, k2, _⟩
    · simp at he
      obtain ⟨e1, e2, e3⟩ := he
      exact ⟨by rw [e3]; simp [maxLen], fun _ => e3, by omega⟩
    · simp at he
      obtain ⟨e1, e2, e3⟩ := he
      exact ⟨by rw [e3]; exact k2, (fun e => by rw [e1] at e; cases e), by omega⟩
  have hlow : ∀ b, OwnB (.slice Ah nh ch) b → w.heap.size ≤ b := fun b hb => by have := (hown b hb).1; omega
  have hb56 : Below w.heap.size wr w6 := (hb5.mono hsw).trans (hk6.below (Nat.le_trans hsw hb5.size) hlow)
  have hnb : ¬ OwnB (.slice Ah nh ch) wr.heap.size := fun e => by have := (hown _ e).2; omega
  have hrc := hrb5.kept hk6 hnb
  refine ⟨_, ⟨aw6, ?_, hrc, (a.box.kept (kept_below hb5 (fun _ => False)) nf).kept hk6 (fun e => by have := (hown w.heap.size e).1; omega), a.bel.trans hb56, fun j hj b hb => (a.aw.lt (show j ≤ h' + 1 by omega) hb).2, a.hn⟩, ?_, hflds.1, hflds.2.1, hflds.2.2.1, hflds.2.2.2, by rw [hkids, hnh]; simp, World.block_lt_of_cell? w6 _ hrc.c0⟩
  · refine tree_of_krow _ ps.reverse (fun h0 => ?_) hkids.symm (fun p hp => htr6 p (by simpa using hp)) (trow_p (n0 := n0) (by rw [hflds.2.2.2]; exact hat.row.below (hb56.mono a.hn)) aw6.old) (by rw [hflds.2.2.2]; exact hat.le) hat.cap hat.nil (by rw [hkids]; have := hcv.2.2; simp; omega) hcv.1 hcv.2.1
    obtain ⟨g', e1, e2⟩ := hkr h0
    exact ⟨g', e1, .inr (by rw [e1]; rfl), e2⟩
  · obtain ⟨A2, c2, e1, e2, _⟩ := aw5.cell (Nat.le_refl (h' + 1))
    rw [hvh] at e1
    rw [← e1] at e2
    exact hk6.cellOf e2 (fun e => by have := (hown g e).1; omega)
/-- The node appended in one go. -/
theorem asm_app {n0 : Nat} {rs : List Rw} {w w1 W : World} {g h' u B5 B6 nh ch : Nat} {V : List Value} {L : Nat → List KV} {P : Nat → Prop} {r : Rw} {x : AV} {Ah : Option Addr} (m : Mid n0 rs w W g h' V L P (treeR rs (h' + 1)) ⟨x.A, x.ca, Ah, ch⟩ r x B5) (hg : g = w.heap.size + 1) (hlis : Lis rs (h' + 1) L) (hlt : h' < rs.length) (hup : (rwAt rs h').up = (u : Int)) (huh : u ≤ h') (hl : rs.length ≤ 1000)
    (ht : (treeR rs (h' + 1)).tag = r.tag ∧ (treeR rs (h' + 1)).key = r.key ∧ (treeR rs (h' + 1)).text = r.text ∧ (treeR rs (h' + 1)).as = r.as ∧ (treeR rs (h' + 1)).kids.length = nh) (hru : r.up = (u : Int)) (hnb : BoxN W B6 (.string r.tag) (.string r.key) (.string r.text) (.slice x.A r.as.length x.ca) (.slice Ah nh ch)) (h56 : B5 ≤ B6) :
    ∃ Au nu cu A9 c9 w9, nu ≤ 1000 ∧ nu ≤ cu ∧ W.cell? ⟨g, u, none⟩ = some (.slice Au nu cu) ∧ W.cell? ⟨B5, 1, none⟩ = some (.int .i64 u) ∧ w9.cell? ⟨B5, 1, none⟩ = some (.int .i64 u) ∧ w9.cell? ⟨g, u, none⟩ = some (.slice Au nu cu) ∧ w9.frozen? ⟨g, u, none⟩ = false ∧
      RowKit.Hid ((Builtin.append_ #[23, 23] 23 #[.slice Au nu cu, .slice (some ⟨W.heap.size, 0, none⟩) 1 1]).run Try.prog ((W.alloc (.cells #[.string r.tag, .string r.key, .string r.text, .slice x.A r.as.length x.ca, .slice Ah nh ch] 25)).drew) = .ok (.slice A9 (nu + 1) c9) w9) ∧
      BoxN w9 B6 (.string r.tag) (.string r.key) (.string r.text) (.slice x.A r.as.length x.ca) (.slice Ah nh ch) ∧
      RowKit.Hid (AR n0 rs w w1 (w9.setCell ⟨g, u, none⟩ (.slice A9 (nu + 1) c9)) g h' (V.set u (.slice A9 (nu + 1) c9)) (fun j => if u = j then L j ++ [(treeR rs (h' + 1), ⟨x.A, x.ca, Ah, ch⟩)] else L j) P) := by
  obtain ⟨Au, cu, hvu, hcu, hcuc⟩ := m.aw.cell huh
  have hLu := lis_len hlis (show u ≤ h' + 1 by omega)
  have hown8 := m.aw.own u huh
  rw [hvu] at hown8
  have hgl := m.aw.g_lt
  have hfr := m.fr u huh
  rw [hvu] at hfr
  have hng : ¬ OwnB (.slice Au (L u).length cu) g := fun e => by have := (m.aw.lt huh (by rw [hvu]; exact e)).1; omega
  obtain ⟨A9, c9, w9, hr9, ho9, hk9, hf9⟩ := twin_app W.drew (treeR rs (h' + 1)) ⟨x.A, x.ca, Ah, ch⟩ Au (L u).length cu (L u) hown8 rfl (by omega) hgl
  rw [ht.1, ht.2.1, ht.2.2.1, ht.2.2.2.1, ht.2.2.2.2] at hr9
  have hk89 : Kept (OwnB (.slice Au (L u).length cu)) W w9 := ⟨hk9.os, hk9.tape, hk9.output, hk9.size, hk9.block⟩
  have e1 : W.cell? ⟨B5, 1, none⟩ = some (.int .i64 u) := by have := m.rc.c1; rw [hru] at this; simpa using this
  have hstep := m.aw.step (v' := .slice A9 ((L u).length + 1) c9) (t := treeR rs (h' + 1)) (x := ⟨x.A, x.ca, Ah, ch⟩) huh ho9 (by rw [hvu]; exact hk89) (by rw [hvu]; exact hf9) m.ti
  have hlow : ∀ k, OwnB (.slice Au (L u).length cu) k → g < k := fun k hk => (m.aw.lt huh (by rw [hvu]; exact hk)).1
  refine ⟨Au, (L u).length, cu, A9, c9, w9, by omega, hcuc, hcu, e1, hk89.cellOf e1 (fun e => by have := hfr B5 e; omega), hk89.cellOf hcu hng, (hk89.frozen (a := ⟨g, u, none⟩) hgl hng).trans (m.aw.row.frozenAt u), Lib.hid hr9, hnb.kept hk89 (fun e => by have := hfr B6 e; omega), Lib.hid ⟨hstep, hlis.next hlt hup, (m.bx.kept hk89 (fun e => by have := hlow _ e; omega)).kept (kept_setCell w9 ⟨g, u, none⟩ _) (by show ¬ w.heap.size = g; omega), (m.bl.trans (hk89.below m.bl.size (fun k hk => by have := hlow k hk; omega))).setCell (by show w.heap.size ≤ g; omega) _, m.hn⟩⟩
/-- The node appended as an empty one, and then written. -/
theorem asm_app0 {n0 : Nat} {rs : List Rw} {w w1 W : World} {g h' u B5 B6 nh ch : Nat} {V : List Value} {L : Nat → List KV} {P : Nat → Prop} {r : Rw} {x : AV} {Ah : Option Addr} (m : Mid n0 rs w W g h' V L P (treeR rs (h' + 1)) ⟨x.A, x.ca, Ah, ch⟩ r x B5) (hg : g = w.heap.size + 1) (hlis : Lis rs (h' + 1) L) (hlt : h' < rs.length) (hup : (rwAt rs h').up = (u : Int)) (huh : u ≤ h') (hl : rs.length ≤ 1000)
    (ht : (treeR rs (h' + 1)).tag = r.tag ∧ (treeR rs (h' + 1)).key = r.key ∧ (treeR rs (h' + 1)).text = r.text ∧ (treeR rs (h' + 1)).as = r.as ∧ (treeR rs (h' + 1)).kids.length = nh) (hru : r.up = (u : Int)) (hnb : BoxN W B6 (.string r.tag) (.string r.key) (.string r.text) (.slice x.A r.as.length x.ca) (.slice Ah nh ch)) (h56 : B5 ≤ B6) :
    ∃ Au nu cu gv c9 w9 w10, nu ≤ 1000 ∧ nu ≤ cu ∧ W.cell? ⟨g, u, none⟩ = some (.slice Au nu cu) ∧ W.cell? ⟨B5, 1, none⟩ = some (.int .i64 u) ∧ w9.cell? ⟨B5, 1, none⟩ = some (.int .i64 u) ∧ w9.cell? ⟨g, u, none⟩ = some (.slice Au nu cu) ∧ w9.frozen? ⟨g, u, none⟩ = false ∧
      RowKit.Hid ((Builtin.append_ #[23, 23] 23 #[.slice Au nu cu, .slice (some ⟨W.heap.size, 0, none⟩) 1 1]).run Try.prog ((W.alloc (.cells #[.string ⟨#[]⟩, .string ⟨#[]⟩, .string ⟨#[]⟩, .slice none 0 0, .slice none 0 0] 25)).drew) = .ok (.slice (some ⟨gv, 0, none⟩) (nu + 1) c9) w9) ∧
      BoxN w9 B6 (.string r.tag) (.string r.key) (.string r.text) (.slice x.A r.as.length x.ca) (.slice Ah nh ch) ∧
      RowKit.Hid (w10 = w9.setCell ⟨g, u, none⟩ (.slice (some ⟨gv, 0, none⟩) (nu + 1) c9)) ∧
      (w10.cell? ⟨gv, nu * 5, none⟩ = some (.string noB) ∧ w10.cell? ⟨gv, nu * 5 + 1, none⟩ = some (.string noB) ∧ w10.cell? ⟨gv, nu * 5 + 2, none⟩ = some (.string noB) ∧ w10.cell? ⟨gv, nu * 5 + 3, none⟩ = some (.slice none 0 0) ∧ w10.cell? ⟨gv, nu * 5 + 4, none⟩ = some (.slice none 0 0)) ∧ (∀ j, w10.frozen? ⟨gv, j, none⟩ = false) ∧
      RowKit.Hid (AR n0 rs w w1 (((((w10.setCell ⟨gv, nu * 5, none⟩ (.string r.tag)).setCell ⟨gv, nu * 5 + 1, none⟩ (.string r.key)).setCell ⟨gv, nu * 5 + 2, none⟩ (.string r.text)).setCell ⟨gv, nu * 5 + 3, none⟩ (.slice x.A r.as.length x.ca)).setCell ⟨gv, nu * 5 + 4, none⟩ (.slice Ah nh ch)) g h' (V.set u (.slice (some ⟨gv, 0, none⟩) (nu + 1) c9)) (fun j => if u = j then L j ++ [(treeR rs (h' + 1), ⟨x.A, x.ca, Ah, ch⟩)] else L j) P) := by
  obtain ⟨Au, cu, hvu, hcu, hcuc⟩ := m.aw.cell huh
  have hLu := lis_len hlis (show u ≤ h' + 1 by omega)
  have hown8 := m.aw.own u huh
  rw [hvu] at hown8
  have hgl := m.aw.g_lt
  have hfr := m.fr u huh
  rw [hvu] at hfr
  have hng : ¬ OwnB (.slice Au (L u).length cu) g := fun e => by have := (m.aw.lt huh (by rw [hvu]; exact e)).1; omega
  obtain ⟨A9, c9, w9, hr9, ho9, hk9, hf9⟩ := twin_app W.drew (.mk noB noB noB [] []) ⟨none, 0, none, 0⟩ Au (L u).length cu (L u) hown8 rfl (by omega) hgl
  obtain ⟨gv, hgv⟩ : ∃ gv, A9 = some ⟨gv, 0, none⟩ := by
    rcases ho9.2 with ⟨he, hn⟩ | ⟨g', c', cur, he, _⟩
    · simp at hn
    · simp at he; exact ⟨g', he.1⟩
  subst hgv
  have hk89 : Kept (OwnB (.slice Au (L u).length cu)) W w9 := ⟨hk9.os, hk9.tape, hk9.output, hk9.size, hk9.block⟩
  have e1 : W.cell? ⟨B5, 1, none⟩ = some (.int .i64 u) := by have := m.rc.c1; rw [hru] at this; simpa using this
  have hstep := m.aw.step (v' := .slice (some ⟨gv, 0, none⟩) ((L u).length + 1) c9) (t := .mk noB noB noB [] []) (x := ⟨none, 0, none, 0⟩) huh ho9 (by rw [hvu]; exact hk89) (by rw [hvu]; exact hf9) (nil_tree _ _)
  have hlow : ∀ k, OwnB (.slice Au (L u).length cu) k → g < k := fun k hk => (m.aw.lt huh (by rw [hvu]; exact hk)).1
  have hgvg : g < gv := by have := (ho9.lt gv rfl).1; omega
  obtain ⟨w10, hw10⟩ : ∃ w10, w10 = w9.setCell ⟨g, u, none⟩ (.slice (some ⟨gv, 0, none⟩) ((L u).length + 1) c9) := ⟨_, rfl⟩
  have hbel : Below w.heap.size w w10 := by rw [hw10]; exact (m.bl.trans (hk89.below m.bl.size (fun k hk => by have := hlow k hk; omega))).setCell (by show w.heap.size ≤ g; omega) _
  have hbox : BoxN w10 w.heap.size (.string ⟨#[]⟩) (.string ⟨#[]⟩) (.string ⟨#[]⟩) (.slice none 0 0) (.slice none 0 0) := by rw [hw10]; exact (m.bx.kept hk89 (fun e => by have := hlow _ e; omega)).kept (kept_setCell w9 ⟨g, u, none⟩ _) (by show ¬ w.heap.size = g; omega)
  have hti : TreeIn w10 P (treeR rs (h' + 1)) ⟨x.A, x.ca, Ah, ch⟩ := by
    rw [hw10]
    exact (m.ti.kept hk89 (fun b hb ho => (m.aw.pin b hb).2.2 u huh (by rw [hvu]; exact ho)) (fun _ h => h)).kept (kept_setCell w9 ⟨g, u, none⟩ _) (fun b hb e => by have h1 := (m.aw.pin b hb).2.1; have e' : b = g := e; have := m.hn; omega) (fun _ h => h)
  rw [← hw10] at hstep
  have hVl := m.aw.len
  have hgu : (V.set u (.slice (some ⟨gv, 0, none⟩) ((L u).length + 1) c9)).getD u nilV = .slice (some ⟨gv, 0, none⟩) ((L u).length + 1) c9 := by rw [getD_setV _ _ _ _ (by rw [hVl]; omega), if_pos rfl]
  have hput := hstep.put (u := u) (k := (L u).length) (gv := gv) (n := (L u).length + 1) (cap := c9) (t := treeR rs (h' + 1)) (x := ⟨x.A, x.ca, Ah, ch⟩) huh hgu (by simp) (by simp) hti
  have hcg := hput.congr (L' := fun j => if u = j then L j ++ [(treeR rs (h' + 1), ⟨x.A, x.ca, Ah, ch⟩)] else L j) (fun j hj => by
    by_cases huj : u = j
    · subst huj
      simp only [if_true]
      rw [List.set_append_right _ _ (by omega)]
      simp
    · simp only [huj, if_false])
  have hkp := kept_putK w10 gv ((L u).length * 5) (treeR rs (h' + 1)) ⟨x.A, x.ca, Ah, ch⟩
  have how : w10.ownsRow (g + 1) 25 5 (.slice (some ⟨gv, 0, none⟩) ((L u).length + 1) c9) ((L u).length + 1) (nds (L u ++ [((.mk noB noB noB [] [] : Tr), (⟨none, 0, none, 0⟩ : NV))])) := by
    have := hstep.own u huh
    rw [hgu] at this
    simpa using this
  have hnext : AR n0 rs w w1 (putK w10 gv ((L u).length * 5) (treeR rs (h' + 1)) ⟨x.A, x.ca, Ah, ch⟩) g h' (V.set u (.slice (some ⟨gv, 0, none⟩) ((L u).length + 1) c9)) (fun j => if u = j then L j ++ [(treeR rs (h' + 1), ⟨x.A, x.ca, Ah, ch⟩)] else L j) P := ⟨hcg, hlis.next hlt hup, hbox.kept hkp (fun e => by have e' : w.heap.size = gv := e; omega), hbel.trans (hkp.below hbel.size (fun k hk => by have e' : k = gv := hk; omega)), m.hn⟩
  unfold putK at hnext
  rw [ht.1, ht.2.1, ht.2.2.1, ht.2.2.2.1, ht.2.2.2.2] at hnext
  have key : ∀ q, q < 5 → w10.cell? ⟨gv, (L u).length * 5 + q, none⟩ = (nodeCells (.mk noB noB noB [] []) ⟨none, 0, none, 0⟩)[q]? := fun q hq => by
    rw [how.cellAt ((L u).length * 5 + q) (by omega), nds_at _ (L u).length (by simp) q hq]
    simp
  refine ⟨Au, (L u).length, cu, gv, c9, w9, w10, by omega, hcuc, hcu, e1, hk89.cellOf e1 (fun e => by have := hfr B5 e; omega), hk89.cellOf hcu hng, (hk89.frozen (a := ⟨g, u, none⟩) hgl hng).trans (m.aw.row.frozenAt u), Lib.hid hr9, hnb.kept hk89 (fun e => by have := hfr B6 e; omega), Lib.hid hw10, ⟨key 0 (by omega), key 1 (by omega), key 2 (by omega), key 3 (by omega), key 4 (by omega)⟩, fun j => how.frozenAt j, Lib.hid hnext⟩
/-- The end: the root lies in the list of the holder. -/
theorem asm_end {n0 : Nat} {rs : List Rw} {w w1 wr : World} {g : Nat} {V : List Value} {L : Nat → List KV} {P : Nat → Prop} (a : AR n0 rs w w1 wr g 0 V L P) (hf : FormTo rs rs.length) (h0 : 0 < rs.length) (hg : g = w.heap.size + 1) :
    ∃ (x : NV) (A0 : Nat) (c0 : Nat) (b0 : wr.cell? ⟨g, 0, none⟩ = some (.slice (some ⟨A0, 0, none⟩) 1 c0)), wr.cell? ⟨A0, 0, none⟩ = some (.string (treeR rs 1).tag) ∧ wr.cell? ⟨A0, 1, none⟩ = some (.string (treeR rs 1).key) ∧ wr.cell? ⟨A0, 2, none⟩ = some (.string (treeR rs 1).text) ∧ wr.cell? ⟨A0, 3, none⟩ = some (.slice x.A (treeR rs 1).as.length x.ca) ∧ wr.cell? ⟨A0, 4, none⟩ = some (.slice x.K (treeR rs 1).kids.length x.ck) ∧ 1 ≤ c0 ∧
      BoxN wr w.heap.size (.string ⟨#[]⟩) (.string ⟨#[]⟩) (.string ⟨#[]⟩) (.slice none 0 0) (.slice none 0 0) ∧
      RowKit.Hid (TreeIn (putN wr w.heap.size (.string (treeR rs 1).tag) (.string (treeR rs 1).key) (.string (treeR rs 1).text) (.slice x.A (treeR rs 1).as.length x.ca) (.slice x.K (treeR rs 1).kids.length x.ck)) (OldNew n0 w (putN wr w.heap.size (.string (treeR rs 1).tag) (.string (treeR rs 1).key) (.string (treeR rs 1).text) (.slice x.A (treeR rs 1).as.length x.ca) (.slice x.K (treeR rs 1).kids.length x.ck))) (treeR rs 1) x ∧
        Below w.heap.size w (putN wr w.heap.size (.string (treeR rs 1).tag) (.string (treeR rs 1).key) (.string (treeR rs 1).text) (.slice x.A (treeR rs 1).as.length x.ca) (.slice x.K (treeR rs 1).kids.length x.ck))) := by
  have e := a.lis 0 (Nat.le_refl _)
  rw [kids_zero hf h0] at e
  obtain ⟨p, hp⟩ : ∃ p, L 0 = [p] := by
    cases hL : L 0 with
    | nil => rw [hL] at e; simp at e
    | cons p r =>
      rw [hL] at e
      cases r with
      | nil => exact ⟨p, rfl⟩
      | cons q r => simp at e
  rw [hp] at e
  have hp1 : p.1 = treeR rs 1 := by simpa using e
  obtain ⟨A, c, hv, hc, hcc⟩ := a.aw.cell (Nat.le_refl 0)
  have hown := a.aw.own 0 (Nat.le_refl 0)
  have ht := a.aw.tree 0 (Nat.le_refl 0) p (by rw [hp]; simp)
  rw [hv, hp] at hown
  rw [hp] at hc hcc
  simp only [List.length_cons, List.length_nil, Nat.zero_add] at hown hc hcc
  obtain ⟨A0, hA0⟩ : ∃ A0, A = some ⟨A0, 0, none⟩ := by
    rcases hown.2 with ⟨he, hn⟩ | ⟨g', c', cur, he, _⟩
    · simp at hn
    · simp at he; exact ⟨g', he.1⟩
  subst hA0
  obtain ⟨k0, k1, k2, k3, k4⟩ := own_kid (ps := [p]) hown (j := 0) (by simp)
  simp only [List.getElem_cons_zero, hp1] at k0 k1 k2 k3 k4
  have hkp := kept_putN wr w.heap.size (.string (treeR rs 1).tag) (.string (treeR rs 1).key) (.string (treeR rs 1).text) (.slice p.2.A (treeR rs 1).as.length p.2.ca) (.slice p.2.K (treeR rs 1).kids.length p.2.ck)
  refine ⟨p.2, A0, c, hc, k0, k1, k2, k3, k4, hcc, a.box, Lib.hid ⟨?_, a.bel.trans (hkp.below a.bel.size (fun k hk => by have : k = w.heap.size := hk; omega))⟩⟩
  rw [hp1] at ht
  exact ht.kept hkp (fun b hb e => by have h1 := (a.aw.pin b hb).2.1; have e' : b = w.heap.size := e; have := a.hn; omega) (fun b hb => ⟨by have h1 := (a.aw.pin b hb).2.1; omega, Nat.lt_of_lt_of_le (a.aw.pin b hb).1 hkp.size⟩)
end Go.Proofs.Ytlkdklpglmglkaa
