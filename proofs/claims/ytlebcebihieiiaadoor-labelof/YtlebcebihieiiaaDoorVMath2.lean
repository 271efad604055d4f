/-
  Plain: a valid tree, from its parts.
-/
import Derived.Test.YtlebcebihieiiaaDoorRight
namespace Go.Proofs.YtlebcebihieiiaaDoor
set_option linter.unusedVariables false
mutual
def depT : Tr → Nat
  | .mk _ _ _ _ ks => 1 + depK ks
def depK : List Tr → Nat
  | [] => 0
  | k :: ks => max (depT k) (depK ks)
end
theorem depT_eq (t : Tr) : depT t = 1 + depK t.kids := by cases t; rw [depT]; rfl
theorem depK_append (a b : List Tr) : depK (a ++ b) = max (depK a) (depK b) := by
  induction a with
  | nil => simp [depK]
  | cons k a ih => simp only [List.cons_append, depK, ih]; omega
theorem depK_take {ks : List Tr} {j : Nat} (hj : j < ks.length) : depK (ks.take (j + 1)) = max (depK (ks.take j)) (depT ks[j]) := by
  have e : ks.take (j + 1) = ks.take j ++ [ks[j]] := by simp
  rw [e, depK_append]; simp [depK]
theorem depK_le {ks : List Tr} {k : Tr} (h : k ∈ ks) : depT k ≤ depK ks := by
  induction ks with
  | nil => simp at h
  | cons a r ih =>
    rw [depK]
    rcases List.mem_cons.1 h with rfl | h
    · omega
    · have := ih h; omega
def KeysOk : (ByteArray → Prop) → List Tr → Prop
  | _, [] => True
  | S, k :: ks => ¬ (k.key ≠ noB ∧ S k.key) ∧ KeysOk (fun q => S q ∨ k.key = q) ks
theorem keysOk_congr : ∀ {ks : List Tr} {S S' : ByteArray → Prop}, (∀ q, S q ↔ S' q) → (KeysOk S ks ↔ KeysOk S' ks)
  | [], _, _, _ => Iff.rfl
  | k :: ks, S, S', h => by
    rw [KeysOk, KeysOk, h k.key, keysOk_congr (fun q => by rw [h q])]
theorem keysOk_iff : ∀ {ks : List Tr} {S : ByteArray → Prop}, KeysOk S ks ↔ ∀ i, (hi : i < ks.length) → ks[i].key = noB ∨ (¬ S ks[i].key ∧ ∀ j, (hj : j < i) → ks[j].key ≠ ks[i].key)
  | [], S => by simp [KeysOk]
  | k :: ks, S => by
    rw [KeysOk, keysOk_iff]
    constructor
    · rintro ⟨h1, h2⟩ i hi
      match i, hi with
      | 0, _ =>
        by_cases hk : k.key = noB
        · exact .inl hk
        · exact .inr ⟨fun hs => h1 ⟨hk, hs⟩, fun j hj => by omega⟩
      | i + 1, hi =>
        rcases h2 i (by simpa using hi) with h | ⟨h3, h4⟩
        · exact .inl h
        · refine .inr ⟨fun hs => h3 (.inl hs), fun j hj => ?_⟩
          match j, hj with
          | 0, _ => exact fun e => h3 (.inr e)
          | j + 1, hj => exact h4 j (by omega)
    · intro h
      refine ⟨fun ⟨h1, h2⟩ => ?_, fun i hi => ?_⟩
      · rcases h 0 (by simp) with h3 | ⟨h3, _⟩
        · exact h1 h3
        · exact h3 h2
      · rcases h (i + 1) (by simpa using hi) with h3 | ⟨h3, h4⟩
        · exact .inl h3
        · exact .inr ⟨fun hs => hs.elim h3 (h4 0 (by omega)), fun j hj => h4 (j + 1) (by omega)⟩
inductive GoodV : Tr → Prop
  | mk {t : Tr} (h1 : aloneT t = 0) (h2 : KeysOk (fun _ => False) t.kids) (h3 : ∀ k ∈ t.kids, GoodV k) : GoodV t
theorem goodV_iff {t : Tr} : GoodV t ↔ aloneT t = 0 ∧ KeysOk (fun _ => False) t.kids ∧ ∀ k ∈ t.kids, GoodV k := by
  constructor
  · intro h
    cases h with
    | mk h1 h2 h3 => exact ⟨h1, h2, h3⟩
  · rintro ⟨h1, h2, h3⟩
    exact .mk h1 h2 h3
theorem nodeF_zero {al : Tr → Int} {l : List It} {x : It} : nodeF al l x = 0 ↔ l.length ≠ 4096 ∧ x.d ≤ 64 ∧ al x.t = 0 ∧ ¬ (0 ≤ x.up ∧ x.t.key ≠ noB ∧ hasKey l x.up x.t.key) := by
  by_cases h1 : l.length = 4096
  · rw [nodeF_many h1]; simp [h1]
  · by_cases h2 : 64 < x.d
    · rw [nodeF_deep h1 h2]
      constructor
      · intro h; cases h
      · rintro ⟨_, h, _⟩; omega
    · by_cases h3 : al x.t = 0
      · by_cases h4 : 0 ≤ x.up ∧ x.t.key ≠ noB ∧ hasKey l x.up x.t.key
        · rw [nodeF_twice h1 h2 h3 h4]
          constructor
          · intro h; cases h
          · rintro ⟨_, _, _, h⟩; exact absurd h4 h
        · rw [nodeF_ok h1 h2 h3 h4]
          exact ⟨fun _ => ⟨h1, by omega, h3, h4⟩, fun _ => rfl⟩
      · rw [nodeF_al h1 h2 h3]
        constructor
        · intro h; exact absurd h h3
        · rintro ⟨_, _, h, _⟩; exact absurd h h3
mutual
theorem vis_char : ∀ (t : Tr) (d : Nat) (up : Int) (l : List It), Ups l → up < l.length → l.length ≤ 4096 → 1 ≤ d →
    ((visitL aloneT t d up l).2 = 0 ↔ GoodV t ∧ d + depT t ≤ 65 ∧ l.length + sizeT t ≤ 4096 ∧ ¬ (0 ≤ up ∧ t.key ≠ noB ∧ hasKey l up t.key)) ∧
    ((visitL aloneT t d up l).2 = 0 → (visitL aloneT t d up l).1.length = l.length + sizeT t ∧ maxD (visitL aloneT t d up l).1 = max (maxD l) (d + depT t - 1))
  | .mk a b c s ks, d, up, l, hu, hup, hl, hd1 => by
    have hsz : sizeT (.mk a b c s ks) = 1 + sizeK ks := by rw [sizeT]
    have hdp : depT (.mk a b c s ks) = 1 + depK ks := by rw [depT]
    have hz := nodeF_zero (al := aloneT) (l := l) (x := ⟨.mk a b c s ks, d, up⟩)
    rw [visitL]
    by_cases h0 : nodeF aloneT l ⟨.mk a b c s ks, d, up⟩ = 0
    · rw [if_pos h0]
      obtain ⟨z1, z2, z3, z4⟩ := hz.1 h0
      have z2' : d ≤ 64 := z2
      obtain ⟨k1, k2⟩ := visK_char ks (d + 1) l.length (l ++ [⟨.mk a b c s ks, d, up⟩]) (hu.snoc hup) (by omega) (by simp; omega) (by simp; omega) (by omega) (by omega) (by rw [maxD_snoc]; simp only; omega)
      have hk : KeysOk (hasKey (l ++ [⟨.mk a b c s ks, d, up⟩]) l.length) ks ↔ KeysOk (fun _ => False) ks := keysOk_congr (fun q => ⟨fun h => hasKey_new hu hup q h, fun h => h.elim⟩)
      rw [hk] at k1
      simp only [List.length_append, List.length_cons, List.length_nil] at k1 k2
      refine ⟨k1.trans ⟨fun ⟨e1, e2, e3, e4⟩ => ⟨.mk z3 e4 e1, by rw [hdp]; omega, by rw [hsz]; omega, z4⟩, fun ⟨e1, e2, e3, e4⟩ => ?_⟩, fun h => ?_⟩
      · obtain ⟨g1, g2, g3⟩ := goodV_iff.1 e1
        rw [hdp] at e2
        rw [hsz] at e3
        exact ⟨g3, by omega, by omega, g2⟩
      · obtain ⟨e1, e2⟩ := k2 h
        rw [maxD_snoc] at e2
        simp only at e2
        rw [hdp, hsz]
        exact ⟨by omega, by rw [e2]; omega⟩
    · rw [if_neg h0]
      refine ⟨⟨fun h => absurd h h0, fun ⟨e1, e2, e3, e4⟩ => ?_⟩, fun h => absurd h h0⟩
      refine absurd (hz.2 ⟨?_, ?_, (goodV_iff.1 e1).1, e4⟩) h0
      · rw [hsz] at e3; omega
      · rw [hdp] at e2; show d ≤ 64; omega
theorem visK_char : ∀ (ks : List Tr) (d : Nat) (up : Int) (l : List It), Ups l → 0 ≤ up → up < l.length → l.length ≤ 4096 → 1 ≤ d → d ≤ 65 → d ≤ maxD l + 1 →
    ((visitK aloneT ks d up l).2 = 0 ↔ (∀ k ∈ ks, GoodV k) ∧ d + depK ks ≤ 65 ∧ l.length + sizeK ks ≤ 4096 ∧ KeysOk (hasKey l up) ks) ∧
    ((visitK aloneT ks d up l).2 = 0 → (visitK aloneT ks d up l).1.length = l.length + sizeK ks ∧ maxD (visitK aloneT ks d up l).1 = max (maxD l) (d + depK ks - 1))
  | [], d, up, l, hu, h0, hup, hl, hd1, hd, hm => by
    rw [visitK]
    refine ⟨⟨fun _ => ⟨fun k hk => by simp at hk, by rw [depK]; omega, by rw [sizeK]; omega, by rw [KeysOk]; trivial⟩, fun _ => rfl⟩, fun _ => ⟨by rw [sizeK]; rfl, ?_⟩⟩
    rw [depK]; show maxD l = _; omega
  | k :: ks, d, up, l, hu, h0, hup, hl, hd1, hd, hm => by
    obtain ⟨a1, a2⟩ := vis_char k d up l hu hup hl (by omega)
    rw [visitK]
    by_cases hz : (visitL aloneT k d up l).2 = 0
    · rw [if_pos hz]
      obtain ⟨g1, g2, g3, g4⟩ := a1.1 hz
      obtain ⟨e1, e2⟩ := a2 hz
      obtain ⟨x1, x2⟩ := visit_ext aloneT k d up l hu hup
      obtain ⟨ext, he, hx⟩ := x2 hz
      obtain ⟨b1, b2⟩ := visK_char ks d up (visitL aloneT k d up l).1 x1 h0 (by rw [e1]; omega) (by rw [e1]; exact g3) hd1 hd (by rw [e2]; omega)
      have hkk : KeysOk (hasKey (visitL aloneT k d up l).1 up) ks ↔ KeysOk (fun q => hasKey l up q ∨ k.key = q) ks := keysOk_congr (fun q => by rw [he]; exact hasKey_up hup hx q)
      rw [hkk, e1] at b1
      rw [e1, e2] at b2
      refine ⟨b1.trans ⟨fun ⟨c1, c2, c3, c4⟩ => ⟨fun y hy => ?_, by rw [depK]; omega, by rw [sizeK]; omega, by rw [KeysOk]; exact ⟨fun h => g4 ⟨h0, h.1, h.2⟩, c4⟩⟩, fun ⟨c1, c2, c3, c4⟩ => ?_⟩, fun h => ?_⟩
      · rcases List.mem_cons.1 hy with rfl | hy
        · exact g1
        · exact c1 y hy
      · rw [depK] at c2
        rw [sizeK] at c3
        rw [KeysOk] at c4
        exact ⟨fun y hy => c1 y (List.mem_cons_of_mem _ hy), by omega, by omega, c4.2⟩
      · obtain ⟨c1, c2⟩ := b2 h
        rw [depK, sizeK]
        exact ⟨by omega, by rw [c2]; omega⟩
    · rw [if_neg hz]
      refine ⟨⟨fun h => absurd h hz, fun ⟨c1, c2, c3, c4⟩ => ?_⟩, fun h => absurd h hz⟩
      rw [depK] at c2
      rw [sizeK] at c3
      rw [KeysOk] at c4
      exact absurd (a1.2 ⟨c1 k List.mem_cons_self, by omega, by omega, fun h => c4.1 ⟨h.2.1, h.2.2⟩⟩) hz
end
end Go.Proofs.YtlebcebihieiiaaDoor
