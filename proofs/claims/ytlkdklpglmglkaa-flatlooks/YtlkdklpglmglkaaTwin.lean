/-
  tendrillaw11.twin: a tree laid anew.
-/
import Derived.Test.YtlkdklpglmglkaaBoxN
namespace Go.Proofs.Ytlkdklpglmglkaa
open Go.RowKit Go.Sort Go.Lib
set_option linter.unusedVariables false
set_option maxRecDepth 100000
def TwinPost (t : Tr) (w : World) (e : Ending) (w' : World) : Prop := ∃ x', e = .returned (nodeV t x') ∧ TreeIn w' (NewIn w w') t x' ∧ Below w.heap.size w w'
theorem Kept.own {S : Nat → Prop} {w w' : World} (h : Kept S w w') {base : Nat} {e : TypeId} {size : Nat} {v : Value} {n : Nat} {xs : List Value} (ho : w.ownsRow base e size v n xs) (hs : ∀ k, v.ownBlock = some k → ¬ S k) : w'.ownsRow base e size v n xs := by
  refine ⟨ho.1, ?_⟩
  rcases ho.2 with hn | ⟨g, cap, cur, rfl, hg, hh, r⟩
  · exact .inl hn
  · exact .inr ⟨g, cap, cur, rfl, hg, (h.block g (Array.getElem?_eq_some_iff.1 hh).1 (hs g rfl)).trans hh, r⟩
theorem twin_app {rb : Nat} (w6 : World) (kd : Tr) (x6 : NV) (Av : Option Addr) (k cv : Nat) (ps : List KV) (hown : w6.ownsRow rb 25 5 (.slice Av k cv) ps.length (nds ps)) (hpl : ps.length = k) (hk : k ≤ 1000000) (hrb : rb ≤ w6.heap.size) :
    ∃ A7 c7 w7, (Builtin.append_ #[23, 23] 23 #[.slice Av k cv, .slice (some ⟨w6.heap.size, 0, none⟩) 1 1]).run Try.prog (w6.alloc (.cells #[.string kd.tag, .string kd.key, .string kd.text, .slice x6.A kd.as.length x6.ca, .slice x6.K kd.kids.length x6.ck] 25)) = .ok (.slice A7 (k + 1) c7) w7 ∧
      w7.ownsRow rb 25 5 (.slice A7 (k + 1) c7) (ps ++ [(kd, x6)]).length (nds (ps ++ [(kd, x6)])) ∧ Kept (OwnB (.slice Av k cv)) w6 w7 ∧ Fresh w6 (.slice Av k cv) (.slice A7 (k + 1) c7) := by
  obtain ⟨i0, hi, hz0, hz1, hz2⟩ := info_parts Try.info25
  have hown' : (w6.alloc (.cells #[.string kd.tag, .string kd.key, .string kd.text, .slice x6.A kd.as.length x6.ca, .slice x6.K kd.kids.length x6.ck] 25)).ownsRow rb 25 5 (.slice Av k cv) k (nds ps) := by
    have := hown.alloc (.cells #[.string kd.tag, .string kd.key, .string kd.text, .slice x6.A kd.as.length x6.ca, .slice x6.K kd.kids.length x6.ck] 25)
    rw [hpl] at this
    exact this
  obtain ⟨v7, w7, hrun, ho, hgr, _, hloc⟩ := run_append_own_at (P := Try.prog) (w6.alloc (.cells #[.string kd.tag, .string kd.key, .string kd.text, .slice x6.A kd.as.length x6.ca, .slice x6.K kd.kids.length x6.ck] 25)) rb 23 23 25 i0 _ 5 96 Try.underlying23 hi hz0 hz1 hz2 rfl (by omega) (.slice Av k cv) k (nds ps) hown' ⟨w6.heap.size, 0, none⟩ 1 1 (nodeCells kd x6) (by simp [nodeCells]) (arr_new _ _ _ _ rfl) (nodeCells_one kd x6) (by unfold maxLen; omega) (by omega) (by simp; omega)
  obtain ⟨A7, c7, rfl⟩ := row_form ho
  refine ⟨A7, c7, w7, hrun, ?_, (kept_alloc w6 _ _).trans ((kept_grown hgr).mono (fun b _ hb => hb.symm)), fun j hj hb => ?_⟩
  · rw [nds_append]
    simpa [nds, hpl] using ho
  · rcases hloc with hl | hl
    · rw [← hl]; exact hb
    · rw [hl] at hb
      simp at hb
      omega
/-- A tree from its two rows. -/
theorem tree_of_rows {w : World} {P : Nat → Prop} {rb : Nat} (t : Tr) (ps : List KV) {A' Av : Option Addr} {ca' cv : Nat} (how : w.ownsRow rb 25 5 (.slice Av t.kids.length cv) ps.length (nds ps)) (hpl : ps.length = t.kids.length) (hpm : ps.map Prod.fst = t.kids) (hti : ∀ p ∈ ps, TreeIn w P p.1 p.2)
    (hatt : TRowP w P A' t.as) (hA1 : t.as.length ≤ ca') (hA2 : ca' ≤ maxLen) (hA3 : A' = none → ca' = 0) (hown : ∀ b, OwnB (.slice Av t.kids.length cv) b → P b) : TreeIn w P t ⟨A', ca', Av, cv⟩ := by
  have hkid : ∀ j, (h : j < t.kids.length) → ∃ h' : j < ps.length, t.kids[j] = ps[j].1 := fun j h => ⟨by omega, by simp only [← hpm]; rw [List.getElem_map]⟩
  have hcap : t.kids.length ≤ cv ∧ cv ≤ maxLen ∧ (Av = none → cv = 0) := by
    rcases how.2 with ⟨he, hn⟩ | ⟨g, c, cur, he, _, _, h1, h2, _⟩
    · simp at he
      obtain ⟨h1, h2, h3⟩ := he
      exact ⟨by omega, by rw [h3]; simp [maxLen], fun _ => h3⟩
    · simp at he
      obtain ⟨h3, h4, h5⟩ := he
      rw [hpl] at h1
      exact ⟨by omega, by omega, fun h => by rw [h3] at h; cases h⟩
  refine .mk (fun j => (ps.getD j (t, ⟨none, 0, none, 0⟩)).2) hatt hA1 hA2 hA3 hcap.1 hcap.2.1 hcap.2.2 (fun h0 => ?_) (fun j hj => ?_)
  · rcases how.2 with ⟨he, hn⟩ | ⟨g, c, cur, he, hr⟩
    · omega
    · simp at he
      obtain ⟨rfl, h4, rfl⟩ := he
      refine ⟨g, 0, rfl, hown g rfl, fun j hj => ?_⟩
      obtain ⟨h', e⟩ := hkid j hj
      have e2 : (ps.getD j (t, ⟨none, 0, none, 0⟩)).2 = ps[j].2 := by simp [List.getD_eq_getElem?_getD, h']
      rw [e, e2]
      exact own_kid how h'
  · obtain ⟨h', e⟩ := hkid j hj
    have e2 : (ps.getD j (t, ⟨none, 0, none, 0⟩)).2 = ps[j].2 := by simp [List.getD_eq_getElem?_getD, h']
    rw [e, e2]
    exact hti _ (List.getElem_mem _)
/-- What is new, above the three boxes, and not in the row that is still written. -/
def NewOut (n3 : Nat) (v : Value) (w' : World) : Nat → Prop := fun b => n3 ≤ b ∧ b < w'.heap.size ∧ ¬ OwnB v b
theorem NewOut.step {n3 : Nat} {v v' : Value} {w w' : World} (hf : Fresh w v v') (hs : w.heap.size ≤ w'.heap.size) {b : Nat} (h : NewOut n3 v w b) : NewOut n3 v' w' b := ⟨h.1, Nat.lt_of_lt_of_le h.2.1 hs, fun hb => h.2.2 (hf b h.2.1 hb)⟩
end Go.Proofs.Ytlkdklpglmglkaa
