/-
  How markup is read without recursion: the open nodes as a stack. The mathematics.
-/
import Derived.Test.YtjnhcoflmechmaaGreatDoorMBack
namespace Go.Proofs.YtjnhcoflmechmaaGreatDoor.M
open Go.RowKit
set_option linter.unusedVariables false
/-- What is read of a node ahead of its kids; does it have an end of its own? -/
def startP (l : Bytes) : Rd (Bool × Tr) := bnd (headP l) fun h l1 => match preP [47, 62] l1 with
  | .ok _ l2 => .ok (false, .mk h.1 h.2.1 noB h.2.2 []) l2
  | .bad _ _ => bnd (preP [62] l1) fun _ l2 => bnd (txtP l2) fun t l3 => if t = noB ∧ kidC l3 = false then .bad l3.length 2 else .ok (true, .mk h.1 h.2.1 t h.2.2 []) l3
def addK : Tr → Tr → Tr
  | .mk tag key text atz kids, k => .mk tag key text atz (kids ++ [k])
def addKs : Tr → List Tr → Tr
  | .mk tag key text atz kids, ks => .mk tag key text atz (kids ++ ks)
theorem addKs_tag (f : Tr) (ks : List Tr) : (addKs f ks).tag = f.tag := by cases f; rfl
theorem addKs_kids (f : Tr) (ks : List Tr) : (addKs f ks).kids = f.kids ++ ks := by cases f; rfl
theorem addKs_text (f : Tr) (ks : List Tr) : (addKs f ks).text = f.text := by cases f; rfl
theorem addKs_nil (f : Tr) : addKs f [] = f := by cases f; simp [addKs]
theorem addKs_cons (f k : Tr) (ks : List Tr) : addKs f (k :: ks) = addKs (addK f k) ks := by cases f; simp [addKs, addK]
theorem addK_kids (f k : Tr) : (addK f k).kids = f.kids ++ [k] := by cases f; rfl
theorem addK_text (f k : Tr) : (addK f k).text = f.text := by cases f; rfl
/-- The rest of an open node, behind what was read of it. -/
noncomputable def restF (f : Tr) (l : Bytes) : Rd Tr := bnd (kidsP l) fun ks l4 => if (addKs f ks).text = noB ∧ (addKs f ks).kids = [] then .bad l4.length 2 else endP (addKs f ks) l4
theorem bnd_assoc {α β γ : Type} (x : Rd α) (f : α → Bytes → Rd β) (g : β → Bytes → Rd γ) : bnd (bnd x f) g = bnd x fun a l => bnd (f a l) g := by cases x <;> rfl
theorem bnd_okR {α : Type} (x : Rd α) : (bnd x fun a l => .ok a l) = x := by cases x <;> rfl
theorem node_start (l : Bytes) : nodeP l = bnd (startP l) fun p l' => if p.1 then restF p.2 l' else .ok p.2 l' := by
  rw [nodeP_eq]
  unfold startP
  cases headP l with
  | bad n e => rfl
  | ok h l1 =>
    show (match preP [47, 62] l1 with | .ok _ l2 => _ | .bad _ _ => _) = bnd (match preP [47, 62] l1 with | .ok _ l2 => _ | .bad _ _ => _) _
    cases preP [47, 62] l1 with
    | ok u l2 => rfl
    | bad n e =>
      show bnd (preP [62] l1) _ = bnd (bnd (preP [62] l1) _) _
      cases preP [62] l1 with
      | bad n e => rfl
      | ok u l2 =>
        show bnd (txtP l2) _ = bnd (bnd (txtP l2) _) _
        cases txtP l2 with
        | bad n e => rfl
        | ok t l3 =>
          show (bnd (kidsP l3) _) = bnd (if t = noB ∧ kidC l3 = false then (Rd.bad l3.length 2 : Rd (Bool × Tr)) else Rd.ok (true, Tr.mk h.1 h.2.1 t h.2.2 []) l3) _
          by_cases hc : t = noB ∧ kidC l3 = false
          · rw [if_pos hc, kidsP_eq, if_neg (by rw [hc.2]; decide)]
            show (if t = noB ∧ ([] : List Tr) = [] then Rd.bad l3.length 2 else _) = _
            rw [if_pos ⟨hc.1, rfl⟩]
            rfl
          · rw [if_neg hc]
            show _ = restF (.mk h.1 h.2.1 t h.2.2 []) l3
            unfold restF
            cases kidsP l3 with
            | bad n e => rfl
            | ok ks l4 =>
              show _ = (if (addKs (.mk h.1 h.2.1 t h.2.2 []) ks).text = noB ∧ (addKs (.mk h.1 h.2.1 t h.2.2 []) ks).kids = [] then Rd.bad l4.length 2 else endP (addKs (.mk h.1 h.2.1 t h.2.2 []) ks) l4)
              rw [show addKs (.mk h.1 h.2.1 t h.2.2 []) ks = .mk h.1 h.2.1 t h.2.2 ks from rfl]
              rfl
theorem rest_kid {f : Tr} {l : Bytes} (h : kidC l = true) : restF f l = bnd (nodeP l) fun k l1 => restF (addK f k) l1 := by
  unfold restF
  rw [kidsP_eq, if_pos h]
  cases nodeP l with
  | bad n e => rfl
  | ok k l1 =>
    simp only [bnd]
    cases kidsP l1 with
    | bad n e => rfl
    | ok ks l2 => simp only [addKs_cons]
theorem rest_end {f : Tr} {l : Bytes} (h : kidC l = false) (hf : f.text ≠ noB ∨ f.kids ≠ []) : restF f l = endP f l := by
  unfold restF
  rw [kidsP_eq, if_neg (by rw [h]; decide)]
  show (if (addKs f []).text = noB ∧ (addKs f []).kids = [] then Rd.bad l.length 2 else endP (addKs f []) l) = _
  rw [addKs_nil, if_neg (fun e => hf.elim (fun h => h e.1) (fun h => h e.2))]
/-- What the whole says, from what the node says that is being read. -/
noncomputable def unwind : List Tr → Rd Tr → Rd Tr
  | [], R => R
  | f :: fs, R => unwind fs (bnd R fun k l => restF (addK f k) l)
theorem unwind_bad (fs : List Tr) (n : Nat) (e : Int) : unwind fs (.bad n e) = .bad n e := by
  induction fs with
  | nil => rfl
  | cons f fs ih => exact ih
theorem unwind_kid {f : Tr} {fs : List Tr} {l : Bytes} (h : kidC l = true) : unwind fs (restF f l) = unwind (f :: fs) (nodeP l) := by
  rw [rest_kid h]; rfl
theorem unwind_leaf {fs : List Tr} {l l' : Bytes} {t : Tr} (h : startP l = .ok (false, t) l') : unwind fs (nodeP l) = unwind fs (.ok t l') := by
  rw [node_start, h]; rfl
theorem unwind_open {fs : List Tr} {l l' : Bytes} {t : Tr} (h : startP l = .ok (true, t) l') : unwind fs (nodeP l) = unwind fs (restF t l') := by
  rw [node_start, h]; rfl
theorem unwind_fail {fs : List Tr} {l : Bytes} {n : Nat} {e : Int} (h : startP l = .bad n e) : unwind fs (nodeP l) = .bad n e := by
  rw [node_start, h]; exact unwind_bad fs n e
theorem unwind_ok {f : Tr} {fs : List Tr} {l : Bytes} {t : Tr} : unwind (f :: fs) (.ok t l) = unwind fs (restF (addK f t) l) := rfl
theorem start_ok {l l' : Bytes} {p : Bool × Tr} (h : startP l = .ok p l') : l'.length + 2 ≤ l.length ∧ p.2.kids = [] ∧ (p.1 = true → p.2.text ≠ noB ∨ kidC l' = true) := by
  obtain ⟨hd, l1, h1, h⟩ := bnd_ok h
  have s1 := (headP_suf h1).2
  split at h
  · rename_i u l2 h2
    cases h
    have := (preP_suf h2).2
    exact ⟨by omega, rfl, fun h => by cases h⟩
  · obtain ⟨u, l2, h2, h⟩ := bnd_ok h
    obtain ⟨t, l3, h3, h⟩ := bnd_ok h
    have s2 := (preP_suf h2).2
    have s3 := (txtP_suf h3).2
    split at h
    · cases h
    · rename_i hc
      cases h
      refine ⟨by omega, rfl, fun _ => ?_⟩
      by_cases ht : t = noB
      · refine .inr ?_
        cases hk : kidC l' with
        | true => rfl
        | false => exact absurd ⟨ht, hk⟩ hc
      · exact .inl ht
end Go.Proofs.YtjnhcoflmechmaaGreatDoor.M
