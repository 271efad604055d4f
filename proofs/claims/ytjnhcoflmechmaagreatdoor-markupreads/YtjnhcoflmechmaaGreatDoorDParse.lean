/-
  Data values: which are right, their texts and their order: the mathematics. | How the text of a data value is read: the mathematics. | What is read of a data value's text is the value, and what is read is written just so: the mathematics.
-/
import Derived.Test.YtjnhcoflmechmaaGreatDoorTMath
import Derived.Test.YtjnhcoflmechmaaGreatDoorESpanM
import Derived.Lib.ItoaNum
import Derived.Test.YtjnhcoflmechmaaGreatDoorCNumMath
namespace Go.Proofs.YtjnhcoflmechmaaGreatDoor
open Go
set_option linter.unusedVariables false
abbrev Bytes := List UInt8
inductive Dt where
  | mk (kind num : Int) (text : ByteArray) (names : List ByteArray) (list : List Dt) : Dt
namespace Dt
def kind : Dt → Int | .mk a _ _ _ _ => a
def num : Dt → Int | .mk _ a _ _ _ => a
def text : Dt → ByteArray | .mk _ _ a _ _ => a
def names : Dt → List ByteArray | .mk _ _ _ a _ => a
def list : Dt → List Dt | .mk _ _ _ _ a => a
end Dt
theorem dt_ext {a b : Dt} (h1 : a.kind = b.kind) (h2 : a.num = b.num) (h3 : a.text = b.text) (h4 : a.names = b.names) (h5 : a.list = b.list) : a = b := by
  cases a; cases b; simp only [Dt.kind, Dt.num, Dt.text, Dt.names, Dt.list] at h1 h2 h3 h4 h5; subst h1 h2 h3 h4 h5; rfl
theorem dt_ind {P : Dt → Prop} (h : ∀ d, (∀ k ∈ d.list, P k) → P d) : ∀ d, P d
  | .mk a b c s ks => h _ (fun k hk => dt_ind h k)
decreasing_by
  simp_wf
  have := List.sizeOf_lt_of_mem hk
  simp only [Dt.list] at this
  omega
def strB (l : List UInt8) : ByteArray := ⟨l.toArray⟩
theorem strB_data (l : List UInt8) : (strB l).data.toList = l := rfl
def lowC (c : UInt8) : Bool := decide (97 ≤ c.toNat) && decide (c.toNat ≤ 122)
def numC (c : UInt8) : Bool := (decide (48 ≤ c.toNat) && decide (c.toNat ≤ 57)) || c.toNat == 45
def nameC (c : UInt8) : Bool := lowC c || numC c || c.toNat == 58 || c.toNat == 46
/-- A name, as the document has it. -/
def nmB (s : ByteArray) : Bool := decide (1 ≤ s.size) && decide (s.size ≤ 32) && lowC (s.data.toList.getD 0 0) && s.data.toList.all nameC
def PlainP (d : Dt) : Prop := (0 ≤ d.kind ∧ d.kind ≤ 5) ∧ (d.kind ≠ 3 → d.text = noB) ∧ (d.kind ≠ 1 → d.kind ≠ 2 → d.num = 0) ∧ (d.kind ≠ 5 → d.names = []) ∧ (d.kind < 4 → d.list = []) ∧ (d.kind = 1 → d.num = 0 ∨ d.num = 1) ∧ (d.kind = 5 → d.names.length = d.list.length) ∧ d.text.size ≤ 65536
def NamesP (l : List ByteArray) : Prop := ∀ i, (h : i < l.length) → nmB l[i] = true ∧ ∀ h0 : 0 < i, cmpN l[i - 1] l[i] < 0
/-- What is wrong with a value by itself, with so many left and so many open. -/
def OwnP (d : Dt) (left : Int) (op : Nat) : Prop := 1 ≤ left ∧ PlainP d ∧ ¬ (3 < d.kind ∧ op = 16) ∧ (d.names.length : Int) ≤ left - 1 ∧ NamesP d.names
open Classical in
mutual
noncomputable def wghD : Dt → Int → Nat → Int
  | .mk a b c n l, left, op => if OwnP (.mk a b c n l) left op then wghL l (left - 1) (op + 1) else -1
noncomputable def wghL : List Dt → Int → Nat → Int
  | [], left, _ => left
  | x :: r, left, op => if wghD x left op < 0 then -1 else wghL r (wghD x left op) op
end
theorem wghD_ok {d : Dt} {left : Int} {op : Nat} (h : OwnP d left op) : wghD d left op = wghL d.list (left - 1) (op + 1) := by
  cases d; rw [wghD, if_pos h]; rfl
theorem wghD_no {d : Dt} {left : Int} {op : Nat} (h : ¬ OwnP d left op) : wghD d left op = -1 := by
  cases d; rw [wghD, if_neg h]
theorem wgh_le : ∀ d : Dt, ∀ (left : Int) (op : Nat), 0 ≤ wghD d left op → wghD d left op ≤ left - 1 ∧ 1 ≤ left := by
  refine dt_ind fun d ih => ?_
  have key : ∀ l : List Dt, (∀ x ∈ l, x ∈ d.list) → ∀ (left : Int) (op : Nat), 0 ≤ wghL l left op → wghL l left op ≤ left - l.length := by
    intro l
    induction l with
    | nil => intro _ left op h; simp [wghL]
    | cons x r ihr =>
      intro hm left op h
      rw [wghL] at h ⊢
      by_cases hx : wghD x left op < 0
      · rw [if_pos hx] at h; omega
      · rw [if_neg hx] at h ⊢
        have h1 := ih x (hm x (by simp)) left op (by omega)
        have h2 := ihr (fun y hy => hm y (by simp [hy])) _ op h
        simp only [List.length_cons]
        omega
  intro left op h
  by_cases ho : OwnP d left op
  · rw [wghD_ok ho] at h ⊢
    have := key d.list (fun _ h => h) _ _ h
    exact ⟨by omega, ho.1⟩
  · rw [wghD_no ho] at h; omega
theorem wghL_le : ∀ (l : List Dt) (left : Int) (op : Nat), 0 ≤ wghL l left op → wghL l left op ≤ left - l.length
  | [], left, op, h => by simp [wghL]
  | x :: r, left, op, h => by
    rw [wghL] at h ⊢
    by_cases hx : wghD x left op < 0
    · rw [if_pos hx] at h; omega
    · rw [if_neg hx] at h ⊢
      have h1 := wgh_le x left op (by omega)
      have h2 := wghL_le r _ op h
      simp only [List.length_cons]
      omega
theorem wghL_take {l : List Dt} {j : Nat} (hj : j < l.length) (left m : Int) (op : Nat) (h : wghL (l.take j) left op = m) (hm : 0 ≤ m) : wghL (l.take (j + 1)) left op = (if wghD l[j] m op < 0 then -1 else wghD l[j] m op) := by
  induction l generalizing j left with
  | nil => simp at hj
  | cons x r ih =>
    cases j with
    | zero => simp [wghL] at h; subst h; simp [wghL]
    | succ j =>
      simp only [List.take_succ_cons, wghL] at h ⊢
      by_cases hx : wghD x left op < 0
      · rw [if_pos hx] at h; omega
      · rw [if_neg hx] at h ⊢
        have := ih (j := j) (by simpa using hj) _ h
        simpa using this
theorem wghL_fail {l : List Dt} {j : Nat} (left : Int) (op : Nat) (h : wghL (l.take j) left op < 0) : wghL l left op < 0 := by
  induction l generalizing j left with
  | nil => simpa using h
  | cons x r ih =>
    cases j with
    | zero => simp [wghL] at h; rcases Int.lt_or_le (wghL (x :: r) left op) 0 with h1 | h1
              · exact h1
              · have := wghL_le _ _ _ h1; omega
    | succ j =>
      simp only [List.take_succ_cons, wghL] at h ⊢
      by_cases hx : wghD x left op < 0
      · rw [if_pos hx]; omega
      · rw [if_neg hx] at h ⊢
        exact ih _ h
def RightP (d : Dt) : Prop := 0 ≤ wghD d 2000 0
/-- Its value, or within, what is right. -/
theorem wgh_own {d : Dt} {left : Int} {op : Nat} (h : 0 ≤ wghD d left op) : OwnP d left op := by
  by_cases ho : OwnP d left op
  · exact ho
  · rw [wghD_no ho] at h; omega
/-- A value that is right but for how many and how deep. -/
inductive FineD : Dt → Prop
  | mk {d : Dt} (own : PlainP d) (nm : NamesP d.names) (sub : ∀ k ∈ d.list, FineD k) : FineD d
theorem fine_of : ∀ d : Dt, ∀ (left : Int) (op : Nat), 0 ≤ wghD d left op → FineD d := by
  refine dt_ind fun d ih left op h => ?_
  have ho := wgh_own h
  rw [wghD_ok ho] at h
  refine .mk ho.2.1 ho.2.2.2.2 (fun k hk => ?_)
  have key : ∀ l : List Dt, (∀ x ∈ l, x ∈ d.list) → ∀ (left : Int) (op : Nat), 0 ≤ wghL l left op → ∀ k ∈ l, FineD k := by
    intro l
    induction l with
    | nil => intro _ _ _ _ k hk; simp at hk
    | cons x r ihr =>
      intro hm left op h k hk
      rw [wghL] at h
      by_cases hx : wghD x left op < 0
      · rw [if_pos hx] at h; omega
      · rw [if_neg hx] at h
        rcases List.mem_cons.1 hk with rfl | hk
        · exact ih _ (hm _ (by simp)) left op (by omega)
        · exact ihr (fun y hy => hm y (by simp [hy])) _ op h k hk
  exact key d.list (fun _ h => h) _ _ h k hk
-- the texts
mutual
def textD : Dt → Bytes
  | .mk kind num text names list =>
    if kind = 0 then [110, 111, 110, 101] else if kind = 1 then (if num = 1 then [121, 101, 115] else [110, 111]) else if kind = 2 then Lib.itoa num
    else if kind = 3 then 34 :: (E.escL text.data.toList ++ [34])
    else (if kind = 5 then 123 else 91) :: (textL (kind == 5) names true list ++ [if kind = 5 then 125 else 93])
def textL (k5 : Bool) (names : List ByteArray) (first : Bool) : List Dt → Bytes
  | [] => []
  | x :: r => (if first then [] else [44]) ++ (if k5 then (names.headD noB).data.toList ++ [61] else []) ++ textD x ++ textL k5 names.tail false r
end
/-- What is written up to one of the values. -/
def pieceD (d : Dt) (i : Nat) (t : Bytes) : Bytes := (if i = 0 then [] else [44]) ++ (if d.kind = 5 then (d.names.getD i noB).data.toList ++ [61] else []) ++ t
def uptoD (d : Dt) : Nat → Bytes
  | 0 => []
  | k + 1 => uptoD d k ++ pieceD d k (textD (d.list.getD k (.mk 0 0 noB [] [])))
theorem textL_upto (d : Dt) : ∀ (l : List Dt) (i : Nat), d.list.drop i = l → uptoD d i ++ textL (d.kind == 5) (d.names.drop i) (i == 0) l = uptoD d (i + l.length)
  | [], i, h => by simp [textL]
  | x :: r, i, h => by
    have hi : i < d.list.length := by
      rcases Nat.lt_or_ge i d.list.length with h1 | h1
      · exact h1
      · rw [List.drop_eq_nil_of_le h1] at h; cases h
    have hx : d.list.getD i (.mk 0 0 noB [] []) = x := by
      rw [List.drop_eq_getElem_cons hi] at h
      rw [List.getD_eq_getElem?_getD, List.getElem?_eq_getElem hi]
      exact (List.cons.inj h).1
    have hr : d.list.drop (i + 1) = r := by
      rw [List.drop_eq_getElem_cons hi] at h
      exact (List.cons.inj h).2
    have ih := textL_upto d r (i + 1) hr
    rw [textL, List.length_cons, show i + (r.length + 1) = i + 1 + r.length by omega, ← ih]
    have e1 : (d.names.drop i).tail = d.names.drop (i + 1) := by simp
    have e2 : (d.names.drop i).headD noB = d.names.getD i noB := by simp [List.getD_eq_getElem?_getD, List.headD_eq_head?_getD]
    rw [e1, e2, uptoD, pieceD, hx]
    have e3 : (i + 1 == 0) = false := by simp
    rw [e3]
    by_cases h0 : i = 0
    · subst h0; by_cases h5 : d.kind = 5 <;> simp [h5]
    · by_cases h5 : d.kind = 5 <;> simp [h0, h5]
theorem textD_group {d : Dt} (h : 4 ≤ d.kind) : textD d = (if d.kind = 5 then 123 else 91) :: (uptoD d d.list.length ++ [if d.kind = 5 then 125 else 93]) := by
  have := textL_upto d d.list 0 rfl
  cases d with
  | mk kind num text names list =>
    simp only [uptoD, List.drop_zero, List.nil_append, Nat.zero_add, Dt.kind, Dt.list, Dt.names] at this h ⊢
    rw [textD, if_neg (by omega), if_neg (by omega), if_neg (by omega), if_neg (by omega)]
    rw [← this]
    rfl
-- the order
def cmpI (a b : Int) : Int := if a < b then -1 else if b < a then 1 else 0
def cmpNL : List ByteArray → List ByteArray → Int
  | [], [] => 0
  | [], _ :: _ => -1
  | _ :: _, [] => 1
  | x :: r, y :: s => if cmpN x y ≠ 0 then cmpN x y else cmpNL r s
def orI (a b : Int) : Int := if a ≠ 0 then a else b
mutual
def cmpD : Dt → Dt → Int
  | .mk k n t nm l, .mk k' n' t' nm' l' => orI (cmpI k k') (orI (cmpI n n') (orI (cmpN t t') (orI (cmpNL nm nm') (cmpDL l l'))))
def cmpDL : List Dt → List Dt → Int
  | [], [] => 0
  | [], _ :: _ => -1
  | _ :: _, [] => 1
  | x :: r, y :: s => orI (cmpD x y) (cmpDL r s)
end
theorem cmpD_eq (a b : Dt) : cmpD a b = orI (cmpI a.kind b.kind) (orI (cmpI a.num b.num) (orI (cmpN a.text b.text) (orI (cmpNL a.names b.names) (cmpDL a.list b.list)))) := by
  cases a; cases b; rw [cmpD]; rfl
theorem orI_zero {x y : Int} : orI x y = 0 ↔ x = 0 ∧ y = 0 := by unfold orI; split <;> omega
theorem orI_neg (x y : Int) : orI (-x) (-y) = - orI x y := by unfold orI; split <;> split <;> omega
theorem orI_bnd {x y : Int} (hx : -1 ≤ x ∧ x ≤ 1) (hy : -1 ≤ y ∧ y ≤ 1) : -1 ≤ orI x y ∧ orI x y ≤ 1 := by unfold orI; split <;> omega
def Tr3 (p q r : Int) : Prop := p ≤ 0 → q ≤ 0 → r ≤ 0 ∧ (p < 0 ∨ q < 0 → r < 0)
theorem orI_l {x : Int} (h : x ≠ 0) (y : Int) : orI x y = x := by unfold orI; rw [if_pos h]
theorem orI_r {x : Int} (h : x = 0) (y : Int) : orI x y = y := by unfold orI; rw [if_neg (fun k => k h)]
theorem tr_or {p1 q1 r1 p2 q2 r2 : Int} (t1 : Tr3 p1 q1 r1) (e1 : p1 = 0 → q1 = r1) (e2 : q1 = 0 → p1 = r1) (t2 : p1 = 0 → q1 = 0 → Tr3 p2 q2 r2) : Tr3 (orI p1 p2) (orI q1 q2) (orI r1 r2) := by
  intro h1 h2
  by_cases hp : p1 = 0
  · by_cases hq : q1 = 0
    · have hr : r1 = 0 := by rw [← e1 hp]; exact hq
      rw [orI_r hp] at h1 ⊢
      rw [orI_r hq] at h2 ⊢
      rw [orI_r hr]
      exact t2 hp hq h1 h2
    · have hr := e1 hp
      rw [orI_l hq] at h2 ⊢
      rw [orI_l (by omega)]
      exact ⟨by omega, fun _ => by omega⟩
  · rw [orI_l hp] at h1 ⊢
    by_cases hq : q1 = 0
    · have hr := e2 hq
      rw [orI_l (by omega)]
      exact ⟨by omega, fun _ => by omega⟩
    · rw [orI_l hq] at h2 ⊢
      have := (t1 h1 h2).2 (by omega)
      rw [orI_l (by omega)]
      exact ⟨by omega, fun _ => this⟩
theorem cmpI_zero {a b : Int} : cmpI a b = 0 ↔ a = b := by unfold cmpI; split <;> (try split) <;> omega
theorem cmpI_neg (a b : Int) : cmpI b a = - cmpI a b := by unfold cmpI; split <;> (try split) <;> (try split) <;> omega
theorem cmpI_bnd (a b : Int) : -1 ≤ cmpI a b ∧ cmpI a b ≤ 1 := by unfold cmpI; split <;> (try split) <;> omega
theorem cmpI_tr (a b c : Int) : Tr3 (cmpI a b) (cmpI b c) (cmpI a c) := by
  intro h1 h2
  unfold cmpI at *
  split at h1 <;> (try split at h1) <;> split at h2 <;> (try split at h2) <;> split <;> (try split) <;> omega
theorem cmpN_zero' {a b : ByteArray} : cmpN a b = 0 ↔ a = b := ⟨cmpN_zero, fun h => by rw [h, cmpN_self]⟩
theorem cmpN_tr (a b c : ByteArray) : Tr3 (cmpN a b) (cmpN b c) (cmpN a c) := by
  intro h1 h2
  rcases cmpN_total a b with h | rfl | h
  · rcases cmpN_total b c with k | rfl | k
    · have := cmpN_trans h k; exact ⟨by omega, fun _ => this⟩
    · exact ⟨by omega, fun _ => h⟩
    · rw [cmpN_neg] at k; omega
  · refine ⟨h2, fun h => ?_⟩
    rcases h with h | h
    · rw [cmpN_self] at h; omega
    · exact h
  · rw [cmpN_neg] at h; omega
theorem cmpNL_cons (x y : ByteArray) (r s : List ByteArray) : cmpNL (x :: r) (y :: s) = orI (cmpN x y) (cmpNL r s) := rfl
theorem cmpNL_zero : ∀ {a b : List ByteArray}, cmpNL a b = 0 ↔ a = b
  | [], [] => by simp [cmpNL]
  | [], _ :: _ => by simp [cmpNL]
  | _ :: _, [] => by simp [cmpNL]
  | x :: r, y :: s => by rw [cmpNL_cons, orI_zero, cmpN_zero', cmpNL_zero, List.cons.injEq]
theorem cmpNL_neg : ∀ (a b : List ByteArray), cmpNL b a = - cmpNL a b
  | [], [] => by simp [cmpNL]
  | [], _ :: _ => by simp [cmpNL]
  | _ :: _, [] => by simp [cmpNL]
  | x :: r, y :: s => by rw [cmpNL_cons, cmpNL_cons, cmpN_neg, cmpNL_neg r s, orI_neg]
theorem cmpNL_bnd : ∀ (a b : List ByteArray), -1 ≤ cmpNL a b ∧ cmpNL a b ≤ 1
  | [], [] => by simp [cmpNL]
  | [], _ :: _ => by simp [cmpNL]
  | _ :: _, [] => by simp [cmpNL]
  | x :: r, y :: s => by rw [cmpNL_cons]; exact orI_bnd (cmpN_bounds _ _) (cmpNL_bnd r s)
theorem cmpNL_tr : ∀ (a b c : List ByteArray), Tr3 (cmpNL a b) (cmpNL b c) (cmpNL a c)
  | [], [], [] => by simp [cmpNL, Tr3]
  | [], [], _ :: _ => by simp [cmpNL, Tr3]
  | [], _ :: _, [] => by simp [cmpNL, Tr3]
  | [], _ :: _, _ :: _ => by simp [cmpNL, Tr3]
  | _ :: _, [], _ => by simp [cmpNL, Tr3]
  | _ :: _, _ :: _, [] => by simp [cmpNL, Tr3]
  | x :: r, y :: s, z :: t => by
    rw [cmpNL_cons, cmpNL_cons, cmpNL_cons]
    exact tr_or (cmpN_tr x y z) (fun h => by rw [cmpN_zero h]) (fun h => by rw [cmpN_zero h]) (fun _ _ => cmpNL_tr r s t)
theorem cmpDL_cons (x y : Dt) (r s : List Dt) : cmpDL (x :: r) (y :: s) = orI (cmpD x y) (cmpDL r s) := by rw [cmpDL]
theorem cmpDL_nil : cmpDL [] [] = 0 := by rw [cmpDL]
theorem cmpDL_lt (y : Dt) (s : List Dt) : cmpDL [] (y :: s) = -1 := by rw [cmpDL]
theorem cmpDL_gt (y : Dt) (s : List Dt) : cmpDL (y :: s) [] = 1 := by rw [cmpDL]
theorem cmpD_zero : ∀ a b : Dt, cmpD a b = 0 ↔ a = b := by
  refine dt_ind fun a ih b => ?_
  have key : ∀ l : List Dt, (∀ x ∈ l, x ∈ a.list) → ∀ m, cmpDL l m = 0 ↔ l = m := by
    intro l
    induction l with
    | nil => intro _ m; cases m <;> simp [cmpDL_nil, cmpDL_lt]
    | cons x r ihr =>
      intro hl m
      cases m with
      | nil => simp [cmpDL_gt]
      | cons y s => rw [cmpDL_cons, orI_zero, ih x (hl x (by simp)) y, ihr (fun z hz => hl z (by simp [hz])) s, List.cons.injEq]
  rw [cmpD_eq, orI_zero, orI_zero, orI_zero, orI_zero, cmpI_zero, cmpI_zero, cmpN_zero', cmpNL_zero, key a.list (fun _ h => h)]
  exact ⟨fun ⟨h1, h2, h3, h4, h5⟩ => dt_ext h1 h2 h3 h4 h5, fun h => by subst h; exact ⟨rfl, rfl, rfl, rfl, rfl⟩⟩
theorem cmpDL_zero : ∀ l m : List Dt, cmpDL l m = 0 ↔ l = m
  | [], [] => by simp [cmpDL_nil]
  | [], _ :: _ => by simp [cmpDL_lt]
  | _ :: _, [] => by simp [cmpDL_gt]
  | x :: r, y :: s => by rw [cmpDL_cons, orI_zero, cmpD_zero, cmpDL_zero r s, List.cons.injEq]
theorem cmpD_neg : ∀ a b : Dt, cmpD b a = - cmpD a b := by
  refine dt_ind fun a ih b => ?_
  have key : ∀ l : List Dt, (∀ x ∈ l, x ∈ a.list) → ∀ m, cmpDL m l = - cmpDL l m := by
    intro l
    induction l with
    | nil => intro _ m; cases m <;> simp [cmpDL_nil, cmpDL_lt, cmpDL_gt]
    | cons x r ihr =>
      intro hl m
      cases m with
      | nil => simp [cmpDL_gt, cmpDL_lt]
      | cons y s => rw [cmpDL_cons, cmpDL_cons, ih x (hl x (by simp)) y, ihr (fun z hz => hl z (by simp [hz])) s, orI_neg]
  rw [cmpD_eq, cmpD_eq, cmpI_neg a.kind, cmpI_neg a.num, cmpN_neg a.text, cmpNL_neg a.names, key a.list (fun _ h => h), orI_neg, orI_neg, orI_neg, orI_neg]
theorem cmpD_bnd : ∀ a b : Dt, -1 ≤ cmpD a b ∧ cmpD a b ≤ 1 := by
  refine dt_ind fun a ih b => ?_
  have key : ∀ l : List Dt, (∀ x ∈ l, x ∈ a.list) → ∀ m, -1 ≤ cmpDL l m ∧ cmpDL l m ≤ 1 := by
    intro l
    induction l with
    | nil => intro _ m; cases m <;> simp [cmpDL_nil, cmpDL_lt]
    | cons x r ihr =>
      intro hl m
      cases m with
      | nil => simp [cmpDL_gt]
      | cons y s => rw [cmpDL_cons]; exact orI_bnd (ih x (hl x (by simp)) y) (ihr (fun z hz => hl z (by simp [hz])) s)
  rw [cmpD_eq]
  exact orI_bnd (cmpI_bnd _ _) (orI_bnd (cmpI_bnd _ _) (orI_bnd (cmpN_bounds _ _) (orI_bnd (cmpNL_bnd _ _) (key a.list (fun _ h => h) _))))
theorem cmpD_tr : ∀ a b c : Dt, Tr3 (cmpD a b) (cmpD b c) (cmpD a c) := by
  refine dt_ind fun a ih b c => ?_
  have key : ∀ l : List Dt, (∀ x ∈ l, x ∈ a.list) → ∀ m n, Tr3 (cmpDL l m) (cmpDL m n) (cmpDL l n) := by
    intro l
    induction l with
    | nil =>
      intro _ m n
      cases m with
      | nil => cases n <;> simp [cmpDL_nil, cmpDL_lt, Tr3]
      | cons y s => cases n <;> simp [cmpDL_nil, cmpDL_lt, cmpDL_gt, Tr3]
    | cons x r ihr =>
      intro hl m n
      cases m with
      | nil => simp [cmpDL_gt, Tr3]
      | cons y s =>
        cases n with
        | nil => intro h1 h2; rw [cmpDL_gt] at h2; omega
        | cons z t =>
          rw [cmpDL_cons, cmpDL_cons, cmpDL_cons]
          exact tr_or (ih x (hl x (by simp)) y z) (fun h => by rw [(cmpD_zero x y).1 h]) (fun h => by rw [(cmpD_zero y z).1 h]) (fun _ _ => ihr (fun w hw => hl w (by simp [hw])) s t)
  rw [cmpD_eq, cmpD_eq b c, cmpD_eq a c]
  refine tr_or (cmpI_tr _ _ _) (fun h => by rw [cmpI_zero.1 h]) (fun h => by rw [cmpI_zero.1 h]) fun _ _ => ?_
  refine tr_or (cmpI_tr _ _ _) (fun h => by rw [cmpI_zero.1 h]) (fun h => by rw [cmpI_zero.1 h]) fun _ _ => ?_
  refine tr_or (cmpN_tr _ _ _) (fun h => by rw [cmpN_zero h]) (fun h => by rw [cmpN_zero h]) fun _ _ => ?_
  exact tr_or (cmpNL_tr _ _ _) (fun h => by rw [cmpNL_zero.1 h]) (fun h => by rw [cmpNL_zero.1 h]) (fun _ _ => key a.list (fun _ h => h) _ _)
end Go.Proofs.YtjnhcoflmechmaaGreatDoor

namespace Go.Proofs.YtjnhcoflmechmaaGreatDoor
open Go.RowKit
set_option linter.unusedVariables false
/-- What a reader says: a thing and what remains; or how many bytes remain at the error, and which it is. -/
inductive Rd (α : Type) where
  | ok (x : α) (l : Bytes) : Rd α
  | bad (n : Nat) (e : Int) : Rd α
abbrev zeroD : Dt := .mk 0 0 noB [] []
def constD (w : Bytes) : Option Dt := if w = [110, 111, 110, 101] then some zeroD else if w = [110, 111] then some (.mk 1 0 noB [] []) else if w = [121, 101, 115] then some (.mk 1 1 noB [] []) else none
/-- One byte that must be there. -/
def byteP (c : UInt8) : Bytes → Rd Unit
  | [] => .bad 0 2
  | d :: r => if d = c then .ok () r else .bad (r.length + 1) 2
theorem byteP_ok {c : UInt8} {l l' : Bytes} {x : Unit} (h : byteP c l = .ok x l') : l = c :: l' := by
  cases l with
  | nil => simp [byteP] at h
  | cons d r => simp only [byteP] at h; split at h
                · rename_i e; cases h; rw [e]
                · cases h
theorem byteP_cons (c : UInt8) (r : Bytes) : byteP c (c :: r) = .ok () r := by simp [byteP]
def textP (r : Bytes) : Rd Dt :=
  if (E.unesc (r.take (E.spanN r))).2.2 ≠ 0 then .bad (r.length - (E.unesc (r.take (E.spanN r))).2.1) 2
  else match byteP 34 (r.drop (E.spanN r)) with
    | .ok _ l => .ok (.mk 3 0 (strB (E.unesc (r.take (E.spanN r))).1) [] []) l
    | .bad n e => .bad n e
def nameP (k5 : Bool) (l : Bytes) : Rd (List ByteArray) :=
  if k5 then (if nmB (strB (l.takeWhile nameC)) then (match byteP 61 (l.dropWhile nameC) with | .ok _ l' => .ok [strB (l.takeWhile nameC)] l' | .bad n e => .bad n e) else .bad l.length 2) else .ok [] l
def closeC (k5 : Bool) : UInt8 := if k5 then 125 else 93
mutual
noncomputable def valP (op : Nat) (l : Bytes) : Rd Dt :=
  match l with
  | [] => .bad 0 2
  | c :: r =>
    if lowC c then (match constD ((c :: r).takeWhile lowC) with | some d => .ok d ((c :: r).dropWhile lowC) | none => .bad (r.length + 1) 2)
    else if numC c then (if (C.whN ((c :: r).takeWhile numC)).2 then .ok (.mk 2 (C.whN ((c :: r).takeWhile numC)).1 noB [] []) ((c :: r).dropWhile numC) else .bad (r.length + 1) 2)
    else if c = 34 then textP r
    else if c = 91 ∨ c = 123 then
      (if op = 16 then .bad (r.length + 1) 11
      else match byteP (closeC (c == 123)) r with
        | .ok _ l' => .ok (.mk (if c = 123 then 5 else 4) 0 noB [] []) l'
        | .bad _ _ => match elemsP (c == 123) (op + 1) r with
          | .ok p l' => .ok (.mk (if c = 123 then 5 else 4) 0 noB p.1 p.2) l'
          | .bad n e => .bad n e)
    else .bad (r.length + 1) 2
termination_by 2 * l.length
noncomputable def elemsP (k5 : Bool) (op : Nat) (l : Bytes) : Rd (List ByteArray × List Dt) :=
  match nameP k5 l with
  | .bad n e => .bad n e
  | .ok ns l1 =>
    if l1.length ≤ l.length then
      (match valP op l1 with
      | .bad n e => .bad n e
      | .ok x l2 =>
        match byteP (closeC k5) l2 with
        | .ok _ l3 => .ok (ns, [x]) l3
        | .bad _ _ => match byteP 44 l2 with
          | .bad n e => .bad n e
          | .ok _ l3 =>
            if l3.length < l.length then
              (match elemsP k5 op l3 with
              | .ok p l4 => .ok (ns ++ p.1, x :: p.2) l4
              | .bad n e => .bad n e)
            else .bad 0 0)
    else .bad 0 0
termination_by 2 * l.length + 1
end
theorem nameP_ok {k5 : Bool} {l l' : Bytes} {ns : List ByteArray} (h : nameP k5 l = .ok ns l') : l' <:+ l ∧ ((k5 = false ∧ ns = [] ∧ l' = l) ∨ (k5 = true ∧ ∃ n, ns = [n] ∧ nmB n = true ∧ l = n.data.toList ++ 61 :: l')) := by
  unfold nameP at h
  cases k5 with
  | false => simp at h; obtain ⟨rfl, rfl⟩ := h; exact ⟨List.suffix_refl _, .inl ⟨rfl, rfl, rfl⟩⟩
  | true =>
    simp only [if_true] at h
    split at h
    · rename_i hn
      split at h
      · rename_i x l1 hb
        cases h
        have e := byteP_ok hb
        have e2 : l = l.takeWhile nameC ++ 61 :: l' := by rw [← e, List.takeWhile_append_dropWhile]
        refine ⟨⟨l.takeWhile nameC ++ [61], by rw [List.append_assoc]; exact e2.symm⟩, .inr ⟨rfl, _, rfl, hn, e2⟩⟩
      · cases h
    · cases h
theorem drop_suf (p : UInt8 → Bool) (l : Bytes) : l.dropWhile p <:+ l := List.dropWhile_suffix _
theorem textP_ok {r l : Bytes} {d : Dt} (h : textP r = .ok d l) : l <:+ r ∧ l.length < r.length ∧ ∃ t : Bytes, d = .mk 3 0 (strB t) [] [] ∧ r = E.escL t ++ 34 :: l := by
  unfold textP at h
  split at h
  · cases h
  · rename_i h0
    split at h
    · rename_i x l1 hb
      cases h
      have e := byteP_ok hb
      have e2 : r = r.take (E.spanN r) ++ 34 :: l := by rw [← e, List.take_append_drop]
      have hu : E.escL (E.unesc (r.take (E.spanN r))).1 = r.take (E.spanN r) := by
        rcases E.unesc_only (r.take (E.spanN r)) with ⟨_, _, h3⟩ | ⟨h3, _⟩
        · exact h3
        · rw [h3] at h0; exact absurd (by decide) h0
      have hl : (34 :: l) <:+ r := ⟨_, e2.symm⟩
      have hl1 := hl.length_le
      simp only [List.length_cons] at hl1
      exact ⟨(List.suffix_cons 34 l).trans hl, by omega, _, rfl, by rw [hu]; exact e2⟩
    · cases h
theorem dropWhile_lt {p : UInt8 → Bool} {c : UInt8} {r : Bytes} (h : p c = true) : ((c :: r).dropWhile p).length < r.length + 1 := by
  simp only [List.dropWhile_cons, h, if_true]
  have := (drop_suf p r).length_le
  omega
theorem read_suf : ∀ n : Nat, (∀ (op : Nat) (l l' : Bytes) (d : Dt), l.length ≤ n → valP op l = .ok d l' → l' <:+ l ∧ l'.length < l.length) ∧ (∀ (k5 : Bool) (op : Nat) (l l' : Bytes) (p : List ByteArray × List Dt), l.length ≤ n → elemsP k5 op l = .ok p l' → l' <:+ l ∧ l'.length < l.length) := by
  intro n
  induction n with
  | zero =>
    refine ⟨fun op l l' d hl h => ?_, fun k5 op l l' p hl h => ?_⟩
    · have : l = [] := List.length_eq_zero_iff.1 (by omega)
      subst this; rw [valP] at h; cases h
    · have : l = [] := List.length_eq_zero_iff.1 (by omega)
      subst this
      rw [elemsP] at h
      split at h
      · cases h
      · rename_i ns l1 hn
        have := (nameP_ok hn).1.length_le
        rw [if_pos this] at h
        have : l1 = [] := List.length_eq_zero_iff.1 (by simpa using this)
        subst this
        rw [valP] at h
        cases h
  | succ n ih =>
    have hv : ∀ (op : Nat) (l l' : Bytes) (d : Dt), l.length ≤ n + 1 → valP op l = .ok d l' → l' <:+ l ∧ l'.length < l.length := by
      intro op l l' d hl h
      cases l with
      | nil => rw [valP] at h; cases h
      | cons c r =>
        rw [valP] at h
        split at h
        · rename_i hc
          split at h
          · cases h; exact ⟨drop_suf _ _, by simpa using dropWhile_lt hc⟩
          · cases h
        · split at h
          · rename_i hc
            split at h
            · cases h; exact ⟨drop_suf _ _, by simpa using dropWhile_lt hc⟩
            · cases h
          · split at h
            · have := textP_ok h
              exact ⟨this.1.trans (List.suffix_cons c r), by simp only [List.length_cons]; omega⟩
            · split at h
              · split at h
                · cases h
                · split at h
                  · rename_i x l1 hb
                    cases h
                    have e := byteP_ok hb
                    subst e
                    exact ⟨(List.suffix_cons _ _).trans (List.suffix_cons _ _), by simp only [List.length_cons]; omega⟩
                  · split at h
                    · rename_i p l1 he
                      cases h
                      have := ih.2 _ _ _ _ _ (by simpa using hl) he
                      exact ⟨this.1.trans (List.suffix_cons _ _), by simp only [List.length_cons]; omega⟩
                    · cases h
              · cases h
    refine ⟨hv, fun k5 op l l' p hl h => ?_⟩
    rw [elemsP] at h
    split at h
    · cases h
    · rename_i ns l1 hn
      have hs := (nameP_ok hn).1
      rw [if_pos hs.length_le] at h
      split at h
      · cases h
      · rename_i x l2 hx
        have h2 := hv _ _ _ _ (by have := hs.length_le; omega) hx
        have hle := hs.length_le
        split at h
        · rename_i y l3 hb
          cases h
          have e := byteP_ok hb
          subst e
          refine ⟨(List.suffix_cons _ _).trans (h2.1.trans hs), ?_⟩
          have := h2.2
          simp only [List.length_cons] at this
          omega
        · split at h
          · cases h
          · rename_i y l3 hb
            have e := byteP_ok hb
            subst e
            have h2l := h2.2
            simp only [List.length_cons] at h2l
            rw [if_pos (by omega)] at h
            split at h
            · rename_i p2 l4 he
              cases h
              have := ih.2 _ _ _ _ _ (by omega) he
              exact ⟨this.1.trans ((List.suffix_cons _ _).trans (h2.1.trans hs)), by omega⟩
            · cases h
theorem val_suf {op : Nat} {l l' : Bytes} {d : Dt} (h : valP op l = .ok d l') : l' <:+ l ∧ l'.length < l.length := (read_suf l.length).1 op l l' d (Nat.le_refl _) h
theorem elems_suf {k5 : Bool} {op : Nat} {l l' : Bytes} {p : List ByteArray × List Dt} (h : elemsP k5 op l = .ok p l') : l' <:+ l ∧ l'.length < l.length := (read_suf l.length).2 k5 op l l' p (Nat.le_refl _) h
/-- What an element's end is followed by. -/
noncomputable def restP (k5 : Bool) (op : Nat) (ns : List ByteArray) (x : Dt) (l2 : Bytes) : Rd (List ByteArray × List Dt) :=
  match byteP (closeC k5) l2 with
  | .ok _ l3 => .ok (ns, [x]) l3
  | .bad _ _ => match byteP 44 l2 with
    | .bad n e => .bad n e
    | .ok _ l3 => match elemsP k5 op l3 with
      | .ok p l4 => .ok (ns ++ p.1, x :: p.2) l4
      | .bad n e => .bad n e
theorem elemsP_eq (k5 : Bool) (op : Nat) (l : Bytes) : elemsP k5 op l = match nameP k5 l with
    | .bad n e => .bad n e
    | .ok ns l1 => match valP op l1 with
      | .bad n e => .bad n e
      | .ok x l2 => restP k5 op ns x l2 := by
  rw [elemsP]
  cases hn : nameP k5 l with
  | bad n e => rfl
  | ok ns l1 =>
    have hs := (nameP_ok hn).1.length_le
    simp only
    rw [if_pos hs]
    cases hx : valP op l1 with
    | bad n e => rfl
    | ok x l2 =>
      simp only
      unfold restP
      have h2 := (val_suf hx).2
      cases hb : byteP (closeC k5) l2 with
      | ok y l3 => rfl
      | bad n e =>
        simp only
        cases hc : byteP 44 l2 with
        | bad n e => rfl
        | ok y l3 =>
          have e := byteP_ok hc
          subst e
          simp only [List.length_cons] at h2
          simp only
          rw [if_pos (by omega)]
end Go.Proofs.YtjnhcoflmechmaaGreatDoor

namespace Go.Proofs.YtjnhcoflmechmaaGreatDoor
open Go.RowKit
set_option linter.unusedVariables false
theorem sign_free_b : ((List.range 256).all fun i => (E.form (UInt8.ofNat i)).all fun c => !(E.signs.contains c)) = true := by decide +kernel
theorem form_signs (c : UInt8) : ∀ x ∈ E.form c, E.signs.contains x = false := by
  have h := E.byte_all (p := fun c => (E.form c).all fun x => !(E.signs.contains x)) sign_free_b c
  intro x hx
  have := List.all_eq_true.1 h x hx
  simpa using this
theorem escL_signs (l : Bytes) : ∀ x ∈ E.escL l, E.signs.contains x = false := by
  intro x hx
  unfold E.escL at hx
  obtain ⟨c, _, hc⟩ := List.mem_flatMap.1 hx
  exact form_signs c x hc
theorem spanN_free : ∀ (a : Bytes) (c : UInt8) (r : Bytes), (∀ x ∈ a, E.signs.contains x = false) → E.signs.contains c = true → E.spanN (a ++ c :: r) = a.length
  | [], c, r, _, hc => by show (if E.signs.contains c = true then 0 else E.spanN r + 1) = 0; rw [if_pos hc]
  | b :: l, c, r, h, hc => by
    have hb := h b (by simp)
    show (if E.signs.contains b = true then 0 else E.spanN (l ++ c :: r) + 1) = l.length + 1
    rw [if_neg (by rw [hb]; simp), spanN_free l c r (fun x hx => h x (by simp [hx])) hc]
theorem textP_esc (t r : Bytes) : textP (E.escL t ++ 34 :: r) = .ok (.mk 3 0 (strB t) [] []) r := by
  unfold textP
  have hs : E.spanN (E.escL t ++ 34 :: r) = (E.escL t).length := spanN_free _ _ _ (escL_signs t) (by decide)
  rw [hs, List.take_left, List.drop_left, E.unesc_esc, byteP_cons]
  simp
theorem takeWhile_stop {p : UInt8 → Bool} {a r : Bytes} (h : ∀ x ∈ a, p x = true) (hr : ∀ c l, r = c :: l → p c = false) : (a ++ r).takeWhile p = a ∧ (a ++ r).dropWhile p = r := by
  induction a with
  | nil =>
    cases r with
    | nil => simp
    | cons c l => simp [hr c l rfl]
  | cons b a ih =>
    have := ih (fun x hx => h x (by simp [hx]))
    simp [h b (by simp), this]
/-- What may follow a value: no letter, digit or sign of a number. -/
def Stops (r : Bytes) : Prop := ∀ c l, r = c :: l → lowC c = false ∧ numC c = false
theorem stops_cons {c : UInt8} {l : Bytes} (h1 : lowC c = false) (h2 : numC c = false) : Stops (c :: l) := fun d m e => by cases e; exact ⟨h1, h2⟩
theorem stops_nil : Stops [] := fun c l e => by cases e
theorem digit_numC {c : UInt8} (h : C.Digit c) : numC c = true := by
  unfold numC; obtain ⟨h1, h2⟩ := h; simp; omega
theorem itoa_num (n : Int) (h : C.I64 n) : (∀ c ∈ Lib.itoa n, numC c = true) ∧ Lib.itoa n ≠ [] := by
  obtain ⟨h1, h2, h3, h4, h5, h6, h7⟩ := C.isNum_facts (l := Lib.itoa n) (v := n) ⟨h, rfl⟩
  have hne : Lib.itoa n ≠ [] := by
    intro e
    rw [e] at h3
    simp [C.tail_] at h3
  refine ⟨fun c hc => ?_, hne⟩
  by_cases ht : 1 < (Lib.itoa n).length ∧ (Lib.itoa n).getD 0 0 = 45
  · have e : C.tail_ (Lib.itoa n) = (Lib.itoa n).drop 1 := by unfold C.tail_; rw [if_pos ht]
    rw [e] at h1
    cases hl : Lib.itoa n with
    | nil => exact absurd hl hne
    | cons a r =>
      rw [hl] at hc h1 ht
      simp only [List.drop_succ_cons, List.drop_zero] at h1
      rcases List.mem_cons.1 hc with rfl | hc
      · have := ht.2; simp at this; subst this; decide
      · exact digit_numC (h1 c hc)
  · have e : C.tail_ (Lib.itoa n) = Lib.itoa n := by unfold C.tail_; rw [if_neg ht]
    rw [e] at h1
    exact digit_numC (h1 c hc)
theorem num_low {c : UInt8} (h : numC c = true) : lowC c = false := by
  unfold numC at h; unfold lowC; simp at h ⊢; omega
/-- All its numbers are numbers of the machine. -/
inductive NumsD : Dt → Prop
  | mk {d : Dt} (h1 : C.I64 d.kind) (h2 : C.I64 d.num) (sub : ∀ k ∈ d.list, NumsD k) : NumsD d
theorem NumsD.own {d : Dt} (h : NumsD d) : C.I64 d.kind ∧ C.I64 d.num ∧ ∀ k ∈ d.list, NumsD k := by cases h; exact ⟨by assumption, by assumption, by assumption⟩
/-- The first byte of a value's text closes nothing. -/
theorem textD_head (d : Dt) (h : PlainP d) (hn : C.I64 d.num) : ∃ c r, textD d = c :: r ∧ c ≠ 93 ∧ c ≠ 125 := by
  obtain ⟨⟨k0, k5⟩, h1, h2, h3, h4, h5, h6, h7⟩ := h
  cases d with
  | mk kind num text names list =>
    simp only [Dt.kind, Dt.num] at k0 k5 h5 hn
    rw [textD]
    by_cases e0 : kind = 0
    · rw [if_pos e0]; exact ⟨_, _, rfl, by decide, by decide⟩
    · by_cases e1 : kind = 1
      · rw [if_neg e0, if_pos e1]; split <;> exact ⟨_, _, rfl, by decide, by decide⟩
      · by_cases e2 : kind = 2
        · rw [if_neg e0, if_neg e1, if_pos e2]
          obtain ⟨g1, g2⟩ := itoa_num num hn
          cases hl : Lib.itoa num with
          | nil => exact absurd hl g2
          | cons a r =>
            rw [hl] at g1
            have := g1 a (by simp)
            refine ⟨a, r, rfl, ?_, ?_⟩ <;> · rintro rfl; revert this; decide
        · by_cases e3 : kind = 3
          · rw [if_neg e0, if_neg e1, if_neg e2, if_pos e3]; exact ⟨_, _, rfl, by decide, by decide⟩
          · rw [if_neg e0, if_neg e1, if_neg e2, if_neg e3]
            by_cases e5 : kind = 5
            · rw [if_pos e5]; exact ⟨_, _, rfl, by decide, by decide⟩
            · rw [if_neg e5]; exact ⟨_, _, rfl, by decide, by decide⟩
theorem wghL_all : ∀ {l : List Dt} {left : Int} {op : Nat}, 0 ≤ wghL l left op → ∀ x ∈ l, ∃ l', 0 ≤ wghD x l' op
  | [], _, _, _, x, hx => by simp at hx
  | y :: r, left, op, h, x, hx => by
    rw [wghL] at h
    by_cases hy : wghD y left op < 0
    · rw [if_pos hy] at h; omega
    · rw [if_neg hy] at h
      rcases List.mem_cons.1 hx with rfl | hx
      · exact ⟨left, by omega⟩
      · exact wghL_all h x hx
theorem byteP_no {c d : UInt8} {r : Bytes} (h : d ≠ c) : byteP c (d :: r) = .bad (r.length + 1) 2 := by simp [byteP, h]
theorem nmB_all {n : ByteArray} (h : nmB n = true) : (∀ c ∈ n.data.toList, nameC c = true) ∧ ∃ c r, n.data.toList = c :: r ∧ lowC c = true := by
  unfold nmB at h
  simp only [Bool.and_eq_true, decide_eq_true_eq] at h
  obtain ⟨⟨⟨h1, h2⟩, h3⟩, h4⟩ := h
  refine ⟨fun c hc => List.all_eq_true.1 h4 c hc, ?_⟩
  cases hl : n.data.toList with
  | nil => have : n.size = 0 := by rw [← size_list, hl]; rfl
           omega
  | cons a r => rw [hl] at h3; exact ⟨a, r, rfl, by simpa using h3⟩
theorem strB_eq (s : ByteArray) : strB s.data.toList = s := by obtain ⟨⟨l⟩⟩ := s; rfl
theorem nameP_of {n : ByteArray} (h : nmB n = true) (r : Bytes) : nameP true (n.data.toList ++ 61 :: r) = .ok [n] r := by
  obtain ⟨h1, h2⟩ := nmB_all h
  obtain ⟨e1, e2⟩ := takeWhile_stop (p := nameC) (a := n.data.toList) (r := 61 :: r) h1 (fun c l e => by cases e; decide)
  unfold nameP
  rw [if_pos rfl, e1, e2, strB_eq, if_pos h, byteP_cons]
theorem closeC_stops (k5 : Bool) (r : Bytes) : Stops (closeC k5 :: r) := by
  cases k5 <;> exact stops_cons (by decide) (by decide)
theorem elems_text (k5 : Bool) (op : Nat) (rest : Bytes) (P : Dt → Prop) (hP : ∀ x, P x → ∀ r, Stops r → valP op (textD x ++ r) = .ok x r) :
    ∀ (xs : List Dt) (ns : List ByteArray), xs ≠ [] → (∀ x ∈ xs, P x) → (k5 = true → ns.length = xs.length ∧ ∀ n ∈ ns, nmB n = true) → (k5 = false → ns = []) →
      elemsP k5 op (textL k5 ns true xs ++ closeC k5 :: rest) = .ok (ns, xs) rest
  | [], ns, h, _, _, _ => absurd rfl h
  | x :: r, ns, _, hx, h5, h4 => by
    rw [elemsP_eq, textL]
    obtain ⟨tl, htl⟩ : ∃ tl, tl = textL k5 ns.tail false r ++ closeC k5 :: rest := ⟨_, rfl⟩
    have hst : Stops tl := by
      rw [htl]
      cases r with
      | nil => rw [textL]; exact closeC_stops _ _
      | cons y s => rw [textL]; exact stops_cons (by decide) (by decide)
    have hname : nameP k5 (((if true then [] else [44]) ++ (if k5 then (ns.headD noB).data.toList ++ [61] else []) ++ textD x ++ textL k5 ns.tail false r) ++ closeC k5 :: rest) = .ok (if k5 then [ns.headD noB] else []) (textD x ++ tl) := by
      cases k5 with
      | false => simp [nameP, htl]
      | true =>
        obtain ⟨hl, hn⟩ := h5 rfl
        cases ns with
        | nil => simp at hl
        | cons n ns =>
          have := nameP_of (hn n (by simp)) (textD x ++ tl)
          simp only [if_true, List.nil_append, List.headD_cons, List.tail_cons, List.append_assoc, List.cons_append] at this htl ⊢
          rw [← htl]
          exact this
    rw [hname]
    simp only
    rw [hP x (hx x (by simp)) tl hst]
    simp only
    unfold restP
    cases r with
    | nil =>
      rw [textL, List.nil_append] at htl
      rw [htl, byteP_cons]
      cases k5 with
      | false => rw [h4 rfl]; rfl
      | true =>
        obtain ⟨hl, hn⟩ := h5 rfl
        match ns, hl with
        | [n], _ => rfl
    | cons y s =>
      have ih := elems_text k5 op rest P hP (y :: s) ns.tail (by simp) (fun z hz => hx z (by simp [hz])) (fun h => by
        obtain ⟨hl, hn⟩ := h5 h
        cases ns with
        | nil => simp at hl
        | cons n ns => exact ⟨by simpa using hl, fun z hz => hn z (by simp at hz; simp [hz])⟩) (fun h => by rw [h4 h]; rfl)
      have e44 : tl = 44 :: (textL k5 ns.tail true (y :: s) ++ closeC k5 :: rest) := by rw [htl, textL, textL]; simp
      rw [e44, byteP_no (by cases k5 <;> decide), byteP_cons]
      simp only
      rw [ih]
      cases k5 with
      | false => rw [h4 rfl]; rfl
      | true =>
        obtain ⟨hl, hn⟩ := h5 rfl
        cases ns with
        | nil => simp at hl
        | cons n ns => rfl
theorem val_text : ∀ d : Dt, NumsD d → ∀ (left : Int) (op : Nat), 0 ≤ wghD d left op → ∀ rest : Bytes, Stops rest → valP op (textD d ++ rest) = .ok d rest := by
  refine dt_ind fun d ih hn left op hw rest hr => ?_
  have ho := wgh_own hw
  rw [wghD_ok ho] at hw
  obtain ⟨hleft, hp, hdeep, hnl, hnm⟩ := ho
  obtain ⟨i1, i2, i3⟩ := hn.own
  obtain ⟨c0, r0, hh, _, _⟩ := textD_head d hp i2
  obtain ⟨⟨k0, k5⟩, h1, h2, h3, h4, h5, h6, h7⟩ := hp
  cases d with
  | mk kind num text names list =>
    simp only [Dt.kind, Dt.num, Dt.text, Dt.names, Dt.list] at *
    rw [textD] at hh ⊢
    by_cases e0 : kind = 0
    · rw [if_pos e0]
      obtain ⟨t1, t2⟩ := takeWhile_stop (p := lowC) (a := [110, 111, 110, 101]) (r := rest) (by decide) (fun c l e => (hr c l e).1)
      rw [show ([110, 111, 110, 101] : Bytes) ++ rest = 110 :: ([111, 110, 101] ++ rest) from rfl] at *
      rw [valP, if_pos (by decide), t1, t2]
      subst e0
      rw [h1 (by omega), h2 (by omega) (by omega), h3 (by omega), h4 (by omega)]
      rfl
    · by_cases e1 : kind = 1
      · rw [if_neg e0, if_pos e1]
        subst e1
        have e2 := h1 (by omega); have e3 := h3 (by omega); have e4 := h4 (by omega)
        subst e2 e3 e4
        rcases h5 rfl with rfl | rfl
        · obtain ⟨t1, t2⟩ := takeWhile_stop (p := lowC) (a := [110, 111]) (r := rest) (by decide) (fun c l e => (hr c l e).1)
          rw [if_neg (by decide)]
          rw [show ([110, 111] : Bytes) ++ rest = 110 :: ([111] ++ rest) from rfl] at *
          rw [valP, if_pos (by decide), t1, t2]
          rfl
        · obtain ⟨t1, t2⟩ := takeWhile_stop (p := lowC) (a := [121, 101, 115]) (r := rest) (by decide) (fun c l e => (hr c l e).1)
          rw [if_pos rfl]
          rw [show ([121, 101, 115] : Bytes) ++ rest = 121 :: ([101, 115] ++ rest) from rfl] at *
          rw [valP, if_pos (by decide), t1, t2]
          rfl
      · by_cases e2 : kind = 2
        · rw [if_neg e0, if_neg e1, if_pos e2] at hh ⊢
          subst e2
          have g1 := h1 (by omega); have g3 := h3 (by omega); have g4 := h4 (by omega)
          subst g1 g3 g4
          obtain ⟨n1, n2⟩ := itoa_num num i2
          obtain ⟨t1, t2⟩ := takeWhile_stop (p := numC) (a := Lib.itoa num) (r := rest) n1 (fun c l e => (hr c l e).2)
          have hw2 := C.whN_num (l := Lib.itoa num) (v := num) ⟨i2, rfl⟩
          rw [hh] at *
          rw [List.cons_append] at *
          have hc := n1 c0 (by simp)
          rw [valP, if_neg (by rw [num_low hc]; simp), if_pos hc, t1, t2, hw2]
          rfl
        · by_cases e3 : kind = 3
          · rw [if_neg e0, if_neg e1, if_neg e2, if_pos e3]
            subst e3
            have g2 := h2 (by omega) (by omega); have g3 := h3 (by omega); have g4 := h4 (by omega)
            subst g2 g3 g4
            rw [List.cons_append, valP, if_neg (by decide), if_neg (by decide), if_pos rfl, List.append_assoc]
            have := textP_esc text.data.toList rest
            rw [strB_eq] at this
            exact this
          · rw [if_neg e0, if_neg e1, if_neg e2, if_neg e3]
            have g1 := h1 e3; have g2 := h2 e1 e2
            subst g1 g2
            have hop : ¬ op = 16 := fun e => hdeep ⟨by omega, e⟩
            obtain ⟨q, hq⟩ : ∃ q : Bool, q = (kind == 5) := ⟨_, rfl⟩
            have hq5 : q = true ↔ kind = 5 := by rw [hq]; simp
            have hcl : (if kind = 5 then (125 : UInt8) else 93) = closeC q := by unfold closeC; by_cases e5 : kind = 5 <;> simp [hq, e5]
            have hc : (if kind = 5 then (123 : UInt8) else 91) = (if q then 123 else 91) := by by_cases e5 : kind = 5 <;> simp [hq, e5]
            have hkq : kind = if q then 5 else 4 := by by_cases e5 : kind = 5 <;> simp [hq, e5]; omega
            rw [hcl, hc, ← hq, List.cons_append, List.append_assoc, List.cons_append, List.nil_append]
            have hns : q = false → names = [] := fun e => h3 (fun e5 => by rw [hq5.2 e5] at e; cases e)
            have hnl5 : q = true → names.length = list.length := fun e => h6 (hq5.1 e)
            have hnmb : ∀ n ∈ names, nmB n = true := fun n hn => by
              obtain ⟨i, hi, rfl⟩ := List.getElem_of_mem hn
              exact (hnm i hi).1
            have hres : valP op ((if q then 123 else 91) :: (textL q names true list ++ closeC q :: rest)) = .ok (.mk (if q then 5 else 4) 0 noB names list) rest := by
              have hb : ((if q then (123 : UInt8) else 91) == 123) = q := by cases q <;> decide
              have hk : (if (if q then (123 : UInt8) else 91) = 123 then (5 : Int) else 4) = if q then 5 else 4 := by cases q <;> rfl
              rw [valP, if_neg (by cases q <;> decide), if_neg (by cases q <;> decide), if_neg (by cases q <;> decide), if_pos (by cases q <;> decide), if_neg hop, hb, hk]
              by_cases hl0 : list = []
              · subst hl0
                rw [textL, List.nil_append, byteP_cons]
                have : names = [] := by
                  cases q with
                  | false => exact hns rfl
                  | true => exact List.length_eq_zero_iff.1 (hnl5 rfl)
                rw [this]
              · have hel := elems_text q (op + 1) rest (fun x => x ∈ list ∧ ∃ l', 0 ≤ wghD x l' (op + 1)) (fun y hy r hr => ih y hy.1 (i3 y hy.1) _ _ hy.2.choose_spec r hr) list names hl0 (fun x hx => ⟨hx, wghL_all hw x hx⟩) (fun e => ⟨hnl5 e, hnmb⟩) hns
                obtain ⟨c1, r1, hc1, hne1⟩ : ∃ c r, textL q names true list ++ closeC q :: rest = c :: r ∧ c ≠ closeC q := by
                  cases list with
                  | nil => exact absurd rfl hl0
                  | cons x xs =>
                    cases q with
                    | false =>
                      obtain ⟨l', hl'⟩ := wghL_all hw x (by simp)
                      obtain ⟨c, r, hcr, g1, g2⟩ := textD_head x (wgh_own hl').2.1 (i3 x (by simp)).own.2.1
                      exact ⟨c, _, by rw [textL, hcr]; rfl, g1⟩
                    | true =>
                      cases names with
                      | nil => have := hnl5 rfl; simp at this
                      | cons n ns =>
                        obtain ⟨g1, c, r, hcr, g2⟩ := nmB_all (hnmb n (by simp))
                        refine ⟨c, _, by rw [textL, List.headD_cons, hcr]; rfl, ?_⟩
                        rintro rfl
                        revert g2; decide
                rw [hc1, byteP_no hne1]
                rw [← hc1, hel]
            rw [hres, ← hkq]
theorem constD_ok {w : Bytes} {d : Dt} (h : constD w = some d) : textD d = w := by
  unfold constD at h
  split at h
  · rename_i e; cases h; rw [e]; rw [textD]; rfl
  · split at h
    · rename_i e; cases h; rw [e]; rw [textD]; rfl
    · split at h
      · rename_i e; cases h; rw [e]; rw [textD]; rfl
      · cases h
theorem whN_ok {w : Bytes} (h : (C.whN w).2 = true) : Lib.itoa (C.whN w).1 = w := by
  unfold C.whN C.wholeN at h ⊢
  split
  · rename_i h1; rw [if_pos h1] at h; cases h
  · rename_i h1
    rw [if_neg h1] at h
    split
    · rename_i v hv
      rw [hv] at h
      simp only at h
      split
      · rename_i e; exact e
      · rename_i e; rw [if_neg e] at h; cases h
    · rename_i hv
      split at h
      · rename_i v hv'; exact absurd hv' (hv v)
      · cases h
theorem read_text : ∀ n : Nat, (∀ (op : Nat) (l l' : Bytes) (d : Dt), l.length ≤ n → valP op l = .ok d l' → l = textD d ++ l') ∧ (∀ (k5 : Bool) (op : Nat) (l l' : Bytes) (p : List ByteArray × List Dt), l.length ≤ n → elemsP k5 op l = .ok p l' → p.2 ≠ [] ∧ l = textL k5 p.1 true p.2 ++ closeC k5 :: l' ∧ (k5 = true → p.1.length = p.2.length) ∧ (k5 = false → p.1 = [])) := by
  intro n
  induction n with
  | zero =>
    refine ⟨fun op l l' d hl h => ?_, fun k5 op l l' p hl h => ?_⟩
    · have := (val_suf h).2; omega
    · have := (elems_suf h).2; omega
  | succ n ih =>
    have hv : ∀ (op : Nat) (l l' : Bytes) (d : Dt), l.length ≤ n + 1 → valP op l = .ok d l' → l = textD d ++ l' := by
      intro op l l' d hl h
      cases l with
      | nil => rw [valP] at h; cases h
      | cons c r =>
        rw [valP] at h
        split at h
        · rename_i hc
          split at h
          · rename_i d' hd
            cases h
            rw [constD_ok hd, List.takeWhile_append_dropWhile]
          · cases h
        · split at h
          · rename_i hc
            split at h
            · rename_i hw
              cases h
              rw [textD, if_neg (by decide), if_neg (by decide), if_pos rfl, whN_ok hw, List.takeWhile_append_dropWhile]
            · cases h
          · split at h
            · rename_i e
              subst e
              obtain ⟨h1, h2, t, rfl, e⟩ := textP_ok h
              rw [textD, if_neg (by decide), if_neg (by decide), if_neg (by decide), if_pos rfl, strB_data, e]
              simp
            · split at h
              · rename_i hc
                have hq : (c == 123) = true ∧ c = 123 ∨ (c == 123) = false ∧ c = 91 := by
                  rcases hc with e | e
                  · right; subst e; decide
                  · left; subst e; decide
                split at h
                · cases h
                · split at h
                  · rename_i x l1 hb
                    cases h
                    have e := byteP_ok hb
                    rw [e]
                    rcases hq with ⟨q1, rfl⟩ | ⟨q1, rfl⟩
                    · rw [if_pos rfl, textD, textL]; rfl
                    · rw [if_neg (by decide), textD, textL]; rfl
                  · split at h
                    · rename_i p l1 he
                      cases h
                      obtain ⟨g1, g2, g3, g4⟩ := ih.2 _ _ _ _ _ (by simpa using hl) he
                      rcases hq with ⟨q1, rfl⟩ | ⟨q1, rfl⟩
                      · rw [if_pos rfl, textD, if_neg (by decide), if_neg (by decide), if_neg (by decide), if_neg (by decide)]
                        rw [g2, q1]
                        simp [closeC]
                      · rw [if_neg (by decide), textD, if_neg (by decide), if_neg (by decide), if_neg (by decide), if_neg (by decide)]
                        rw [g2, q1]
                        simp [closeC]
                    · cases h
              · cases h
    refine ⟨hv, fun k5 op l l' p hl h => ?_⟩
    rw [elemsP_eq] at h
    split at h
    · cases h
    · rename_i ns l1 hn
      obtain ⟨hs, hnm⟩ := nameP_ok hn
      split at h
      · cases h
      · rename_i x l2 hx
        have hle := hs.length_le
        have h2 := hv _ _ _ _ (by omega) hx
        have h2s := val_suf hx
        unfold restP at h
        split at h
        · rename_i y l3 hb
          cases h
          have e := byteP_ok hb
          subst e
          rcases hnm with ⟨rfl, rfl, rfl⟩ | ⟨rfl, m, rfl, hm, e5⟩
          · refine ⟨by simp, ?_, by simp, fun _ => rfl⟩
            rw [h2]; simp [textL]
          · refine ⟨by simp, ?_, fun _ => rfl, by simp⟩
            rw [e5, h2]; simp [textL]
        · split at h
          · cases h
          · rename_i y l3 hb
            have e := byteP_ok hb
            subst e
            split at h
            · rename_i q l4 he
              cases h
              have hl2 := h2s.2
              simp only [List.length_cons] at hl2
              obtain ⟨g1, g2, g3, g4⟩ := ih.2 _ _ _ _ _ (by omega) he
              cases hq : q.2 with
              | nil => exact absurd hq g1
              | cons z zs =>
                rw [hq] at g2 g3
                rcases hnm with ⟨rfl, rfl, rfl⟩ | ⟨rfl, m, rfl, hm, e5⟩
                · refine ⟨by simp, ?_, by simp, fun _ => by rw [g4 rfl]; rfl⟩
                  rw [h2, g2, g4 rfl]
                  simp [textL]
                · refine ⟨by simp, ?_, fun _ => by have := g3 rfl; simp at this ⊢; omega, by simp⟩
                  rw [e5, h2, g2]
                  simp [textL]
            · cases h
theorem val_exact {op : Nat} {l l' : Bytes} {d : Dt} (h : valP op l = .ok d l') : l = textD d ++ l' := (read_text l.length).1 op l l' d (Nat.le_refl _) h
end Go.Proofs.YtjnhcoflmechmaaGreatDoor
