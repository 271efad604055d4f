/-
  All: the labels of an index, collected from its map and sorted.
-/
import Derived.Test.YtlhhfcnagkhllaaKEq
import Derived.Test.YtlhhfcnagkhllaaShelf
import Derived.Maps.RangeWalk
import Derived.Maps.AppendAt
import Derived.OwnWalk
namespace Go.Proofs.Ytlhhfcnagkhllaa
open Go.RowKit Go.Maps
set_option linter.unusedVariables false

theorem key_inv {key : Value} {kl : Lit} (h : keyOf Try.prog 30 key = some kl) : ∃ L : Lab, key = labV L ∧ LWf L ∧ kl = klOf L := by
  have h0 := h
  obtain ⟨m, hm⟩ := types_size
  unfold keyOf at h
  rw [hm] at h
  simp only [Try.underlying30, keyType30, Bool.true_and] at h
  split at h
  · rename_i hf
    cases key <;> simp [Value.formed, Try.underlying30] at hf
    rename_i cs
    rw [cells30] at hf
    obtain ⟨lc, hlc⟩ : ∃ lc, lc = cs.toList := ⟨_, rfl⟩
    have hl3 : lc.length = 3 := by rw [hlc]; simpa using hf
    match lc, hl3, hlc with
    | [v0, v1, v2], _, hlc =>
      have hcs : cs = #[v0, v1, v2] := by apply Array.ext'; rw [← hlc]
      subst hcs
      clear hlc
      cases v0 with
      | string s0 =>
        cases v1 with
        | string s1 =>
          cases v2 with
          | int q n2 =>
            by_cases h1 : s0.size ≤ maxLen
            · by_cases h2 : s1.size ≤ maxLen
              · by_cases h3 : q = .i64 ∧ (Lit.int .i64 n2).wf = true
                · obtain ⟨rfl, h3⟩ := h3
                  have hw : LWf ⟨s0, s1, n2⟩ := ⟨h1, h2, h3⟩
                  refine ⟨⟨s0, s1, n2⟩, rfl, hw, ?_⟩
                  have := kl_of hw
                  rw [h0] at this
                  simpa using this
                · exfalso
                  simp [Program.keyLits, Try.underlying30, cells30, Value.cells, Try.underlying9, Try.underlying3, cells9, cells3, h1, h2, h3] at h
              · exfalso
                simp [Program.keyLits, Try.underlying30, cells30, Value.cells, Try.underlying9, Try.underlying3, cells9, cells3, h1, h2] at h
            · exfalso
              simp [Program.keyLits, Try.underlying30, cells30, Value.cells, Try.underlying9, Try.underlying3, cells9, cells3, h1] at h
          | _ => simp [Program.keyLits, Try.underlying30, cells30, Value.cells, Try.underlying9, Try.underlying3, cells9, cells3] at h
        | _ => simp [Program.keyLits, Try.underlying30, cells30, Value.cells, Try.underlying9, Try.underlying3, cells9, cells3] at h
      | _ => simp [Program.keyLits, Try.underlying30, cells30, Value.cells, Try.underlying9, Try.underlying3, cells9, cells3] at h
  · cases h

structure Coll (es : List (Lab × Int)) (left : Lit → Bool) (ss : List Lab) : Prop where
  nodup : ss.Nodup
  wf : ∀ L ∈ ss, LWf L
  mem : ∀ L, LWf L → (L ∈ ss ↔ (L ∈ es.map Prod.fst ∧ left (klOf L) = false))
theorem Coll.start {D : DataW Unit} {es : List (Lab × Int)} (h : Agree D es) : Coll es (Maps.has D) [] := by
  refine ⟨List.nodup_nil, fun L hL => by simp at hL, fun L hL => ?_⟩
  rw [h.has L hL]
  constructor
  · intro h1; simp at h1
  · rintro ⟨h1, h2⟩; rw [decide_eq_true h1] at h2; cases h2
theorem kl_same {L M : Lab} (hL : LWf L) (hM : LWf M) : (klOf M).sameKey (klOf L) = decide (M = L) := by
  by_cases h : M = L
  · subst h; rw [WideAt.sameKey_self (kl_lit hM)]; simp
  · rw [sameKey_ne (fun e => h (kl_inj hM hL e))]; simp [h]
theorem Coll.step {D : DataW Unit} {es : List (Lab × Int)} {left : Lit → Bool} {ss : List Lab} (h : Coll es left ss) (ha : Agree D es) {L : Lab} (hL : LWf L) (hlk : left (klOf L) = true) {y : DataW Unit} (hat : ∀ zd, D.atKey (klOf L) zd = y) :
    Coll es (fun z => left z && !z.sameKey (klOf L)) (ss ++ [L]) := by
  have hmem : L ∈ es.map Prod.fst := by
    have h1 := has_true_of_atKey hat
    rw [ha.has L hL] at h1
    simpa using h1
  have hnew : L ∉ ss := fun hx => by have := ((h.mem L hL).1 hx).2; rw [hlk] at this; cases this
  refine ⟨List.nodup_append.2 ⟨h.nodup, by simp, fun a ha b hb => by simp at hb; subst hb; exact fun e => hnew (e ▸ ha)⟩, fun M hM => ?_, fun M hM => ?_⟩
  · rcases List.mem_append.1 hM with h1 | h1
    · exact h.wf M h1
    · simp at h1; rw [h1]; exact hL
  · rw [List.mem_append, List.mem_singleton, h.mem M hM]
    show _ ↔ (_ ∧ (left (klOf M) && !(klOf M).sameKey (klOf L)) = false)
    rw [kl_same hL hM]
    by_cases e : M = L
    · subst e; simp [hmem]
    · simp [e]
theorem Coll.perm {es : List (Lab × Int)} {left : Lit → Bool} {ss : List Lab} (h : Coll es left ss) (hn : (es.map Prod.fst).Nodup) (hw : ∀ p ∈ es, LWf p.1) (hl : ∀ kl, left kl = false) : ss.Perm (es.map Prod.fst) := by
  refine (List.perm_ext_iff_of_nodup h.nodup hn).2 fun L => ?_
  constructor
  · intro h1; exact ((h.mem L (h.wf L h1)).1 h1).1
  · intro h1
    obtain ⟨p, hp, rfl⟩ := List.mem_map.1 h1
    exact (h.mem _ (hw p hp)).2 ⟨h1, hl _⟩

/-- Labels, as cells. -/
def encL (L : Lab) : List Value := [.string L.tag, .string L.key, .int .i64 L.n]
def labs (ss : List Lab) : List Value := ss.flatMap encL
theorem labs_snoc (ss : List Lab) (L : Lab) : labs (ss ++ [L]) = labs ss ++ encL L := by simp [labs]
theorem labs_length (ss : List Lab) : (labs ss).length = ss.length * 3 := by
  induction ss with
  | nil => rfl
  | cons p ps ih => simp only [labs, List.flatMap_cons, List.length_append, List.length_cons, encL, List.length_nil] at ih ⊢; omega
theorem Try.info30 : (Try.prog.info? 30).map (fun i => (i.zero, i.size, i.bytes)) = some (some (.agg #[.string ⟨#[]⟩, .string ⟨#[]⟩, .int .i64 0]), 3, 40) := by kernel_rfl
end Go.Proofs.Ytlhhfcnagkhllaa
