/-
  The state of a survey: what has been passed, how deep it went, the keys of the siblings.
-/
import Derived.Test.YtlkdklpglmglkaaFault
namespace Go.Proofs.Ytlkdklpglmglkaa
open Go.RowKit Go.Sort
set_option linter.unusedVariables false
set_option maxRecDepth 100000
structure VS (w : World) (bp bd bv : Nat) (l : List It) : Prop where
  p : w.cell? ⟨bp, 0, none⟩ = some (.int .i64 l.length)
  d : w.cell? ⟨bd, 0, none⟩ = some (.int .i64 (maxD l))
  v : w.cell? ⟨bv, 0, none⟩ = some (.func (.func 72) #[] #[.pointer (some ⟨bp, 0, none⟩), .pointer (some ⟨bd, 0, none⟩), .pointer (some ⟨bv, 0, none⟩)])
  fp : w.frozen? ⟨bp, 0, none⟩ = false
  fd : w.frozen? ⟨bd, 0, none⟩ = false
structure Apart (n0 bp bd bv bm : Nat) : Prop where
  pd : ¬ bp = bd
  pv : ¬ bp = bv
  dv : ¬ bd = bv
  mp : ¬ bm = bp
  md : ¬ bm = bd
  mv : ¬ bm = bv
  lp : n0 ≤ bp
  ld : n0 ≤ bd
  lv : n0 ≤ bv
  lm : n0 ≤ bm
theorem VS.keep {w w' : World} {bp bd bv : Nat} {l : List It} (h : VS w bp bd bv l) {S : Nat → Prop} (hk : Kept S w w') (h1 : ¬ S bp) (h2 : ¬ S bd) (h3 : ¬ S bv) : VS w' bp bd bv l :=
  ⟨hk.cellOf h.p h1, hk.cellOf h.d h2, hk.cellOf h.v h3, (hk.frozen (a := ⟨bp, 0, none⟩) (World.block_lt_of_cell? w _ h.p) h1).trans h.fp, (hk.frozen (a := ⟨bd, 0, none⟩) (World.block_lt_of_cell? w _ h.d) h2).trans h.fd⟩
theorem VS.lt {w : World} {bp bd bv : Nat} {l : List It} (h : VS w bp bd bv l) : bp < w.heap.size ∧ bd < w.heap.size ∧ bv < w.heap.size := ⟨World.block_lt_of_cell? w _ h.p, World.block_lt_of_cell? w _ h.d, World.block_lt_of_cell? w _ h.v⟩
/-- The two counters moved on by one node. -/
abbrev setW (w : World) (bp bd : Nat) (a b : Int) : World := (w.setCell ⟨bp, 0, none⟩ (.int .i64 a)).setCell ⟨bd, 0, none⟩ (.int .i64 b)
theorem kept_setW (w : World) (bp bd : Nat) (a b : Int) : Kept (fun k => k = bp ∨ k = bd) w (setW w bp bd a b) :=
  ((kept_setCell w ⟨bp, 0, none⟩ _).mono (fun _ _ h => .inl h)).trans ((kept_setCell _ ⟨bd, 0, none⟩ _).mono (fun _ _ h => .inr h))
theorem VS.step {w : World} {bp bd bv : Nat} {l : List It} (h : VS w bp bd bv l) (h1 : ¬ bp = bd) (h2 : ¬ bp = bv) (h3 : ¬ bd = bv) (x : It) {a b : Int} (ha : a = l.length + 1) (hb : b = max (maxD l : Int) (x.d : Int)) : VS (setW w bp bd a b) bp bd bv (l ++ [x]) := by
  have hk := kept_setW w bp bd a b
  refine ⟨?_, ?_, hk.cellOf h.v (fun e => e.elim (fun e => h2 e.symm) (fun e => h3 e.symm)), ?_, ?_⟩
  · rw [(kept_setCell _ ⟨bd, 0, none⟩ _).cellOf (World.cell?_setCell_same _ _ _ h.p) h1, ha]; simp
  · have h4 : (w.setCell ⟨bp, 0, none⟩ (.int .i64 a)).cell? ⟨bd, 0, none⟩ = some (.int .i64 (maxD l)) := (kept_setCell _ ⟨bp, 0, none⟩ _).cellOf h.d (fun e => h1 e.symm)
    have e : ((max (maxD l) x.d : Nat) : Int) = max (maxD l : Int) (x.d : Int) := by omega
    rw [World.cell?_setCell_same _ _ _ h4, hb, maxD_snoc, e]
  · simp [h.fp]
  · simp [h.fd]
theorem nodeF_place {t : Tr} {d : Nat} {up : Int} {l : List It} (h : placeF l.length d ≠ 0) : nodeF aloneT l ⟨t, d, up⟩ = placeF l.length d := by
  unfold placeF at h ⊢
  unfold nodeF
  by_cases h1 : l.length = 4096
  · simp [h1]
  · by_cases h2 : 64 < d
    · simp [h1, h2]
    · simp [h1, h2] at h
theorem nodeF_node {t : Tr} {d : Nat} {up : Int} {l : List It} {f : Int} (h : placeF l.length d = 0) (hu : 0 ≤ up ∨ l = []) (hp : NodeP t (fun k => k ≠ noB ∧ hasKey l up k) f) : nodeF aloneT l ⟨t, d, up⟩ = f := by
  unfold placeF at h
  have h1 : ¬ l.length = 4096 := fun e => by rw [if_pos e] at h; cases h
  have h2 : ¬ 64 < d := fun e => by rw [if_neg h1, if_pos e] at h; cases h
  unfold nodeF
  rw [if_neg h1, if_neg h2]
  rcases hp with ⟨ha, rfl⟩ | ⟨ha, hs, rfl⟩ | ⟨ha, hs, rfl⟩
  · rw [if_pos ha]
  · rw [if_neg (by simpa using ha), if_pos]
    refine ⟨?_, hs.1, hs.2⟩
    rcases hu with hu | hu
    · exact hu
    · subst hu
      obtain ⟨x, hx, _⟩ := hs.2
      simp at hx
  · rw [if_neg (by simpa using ha), if_neg]
    exact fun h => hs ⟨h.2.1, h.2.2⟩
theorem visitK_append (al : Tr → Int) : ∀ (a b : List Tr) (d : Nat) (up : Int) (l : List It), visitK al (a ++ b) d up l = if (visitK al a d up l).2 = 0 then visitK al b d up (visitK al a d up l).1 else visitK al a d up l
  | [], b, d, up, l => by simp [visitK]
  | k :: a, b, d, up, l => by
    rw [List.cons_append, visitK, visitK]
    by_cases h : (visitL al k d up l).2 = 0
    · rw [if_pos h, if_pos h]; exact visitK_append al a b d up _
    · rw [if_neg h, if_neg h, if_neg h]
theorem visitK_one (al : Tr → Int) (k : Tr) (d : Nat) (up : Int) (l : List It) : visitK al [k] d up l = visitL al k d up l := by
  rw [visitK]
  by_cases h : (visitL al k d up l).2 = 0
  · rw [if_pos h, visitK]; exact Prod.ext rfl h.symm
  · rw [if_neg h]
theorem visitK_take (al : Tr → Int) {ks : List Tr} {j : Nat} (hj : j < ks.length) (d : Nat) (up : Int) (l lk : List It) (h : visitK al (ks.take j) d up l = (lk, 0)) : visitK al (ks.take (j + 1)) d up l = visitL al ks[j] d up lk := by
  have e : ks.take (j + 1) = ks.take j ++ [ks[j]] := by simp
  rw [e, visitK_append, h, if_pos rfl, visitK_one]
theorem visitK_fail (al : Tr → Int) {ks : List Tr} {j : Nat} (hj : j < ks.length) (d : Nat) (up : Int) (l lk : List It) (h : visitK al (ks.take j) d up l = (lk, 0)) (hf : (visitL al ks[j] d up lk).2 ≠ 0) : visitK al ks d up l = visitL al ks[j] d up lk := by
  have e : ks = ks.take (j + 1) ++ ks.drop (j + 1) := by simp
  conv => lhs; rw [e]
  rw [visitK_append, visitK_take al hj d up l lk h, if_neg hf]
end Go.Proofs.Ytlkdklpglmglkaa
