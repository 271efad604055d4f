/-
  wire's Reader: what its functions do.
-/
import Derived.Test.YtkdmhcllnpiakaaText
import Derived.Test.YtkdmhcllnpiakaaBackMath
namespace Go.Proofs.Ytkdmhcllnpiakaa
open Go.RowKit
set_option linter.unusedVariables false

/-- A reader lies at block q, has the bytes bs left, and keeps the error err. -/
structure Rd (w : World) (q B : Nat) (A : Option Addr) (c : Nat) (bs : List Int) (err : Int) : Prop where
  rest : w.cell? ⟨q, 0, none⟩ = some (.slice A bs.length c)
  error : w.cell? ⟨q, 1, none⟩ = some (.int .i64 err)
  fr0 : w.frozen? ⟨q, 0, none⟩ = false
  fr1 : w.frozen? ⟨q, 1, none⟩ = false
  row : Row .u8 w B A bs
  cap : bs.length ≤ c
  capm : c ≤ maxLen
  nil : A = none → c = 0
  byte : Bytes bs
  few : bs.length ≤ 1000000000
  low : B ≤ q

theorem Rd.lt {w : World} {q B : Nat} {A : Option Addr} {c : Nat} {bs : List Int} {err : Int} (h : Rd w q B A c bs err) : q < w.heap.size := World.block_lt_of_cell? w _ h.rest
theorem Rd.kept {w w' : World} {q B : Nat} {A : Option Addr} {c : Nat} {bs : List Int} {err : Int} (h : Rd w q B A c bs err) {S : Nat → Prop} (hk : Kept S w w') (hS : ∀ j, j < B ∨ j = q → ¬ S j) : Rd w' q B A c bs err :=
  ⟨hk.cellOf h.rest (hS q (.inr rfl)), hk.cellOf h.error (hS q (.inr rfl)), (hk.frozen h.lt (hS q (.inr rfl))).trans h.fr0, (hk.frozen h.lt (hS q (.inr rfl))).trans h.fr1, hk.row h.row (fun j hj => hS j (.inl hj)), h.cap, h.capm, h.nil, h.byte, h.few, h.low⟩
theorem Rd.setErr {w : World} {q B : Nat} {A : Option Addr} {c : Nat} {bs : List Int} {err : Int} (h : Rd w q B A c bs err) (e : Int) : Rd (w.setCell ⟨q, 1, none⟩ (.int .i64 e)) q B A c bs e :=
  ⟨(World.cell?_setCell_other _ _ _ _ (by simp)).trans h.rest, World.cell?_setCell_same _ _ _ h.error, (World.frozen?_setCell _ _ _ _).trans h.fr0, (World.frozen?_setCell _ _ _ _).trans h.fr1,
    (kept_setCell w ⟨q, 1, none⟩ _).row h.row (fun j hj => by have := h.low; simp; omega), h.cap, h.capm, h.nil, h.byte, h.few, h.low⟩
theorem Rd.setRest {w : World} {q B : Nat} {A : Option Addr} {c : Nat} {bs : List Int} {err : Int} (h : Rd w q B A c bs err) {A' : Option Addr} {c' : Nat} {bs' : List Int} (hr : Row .u8 w B A' bs') (h1 : bs'.length ≤ c') (h2 : c' ≤ maxLen) (h3 : A' = none → c' = 0) (h4 : Bytes bs') (h5 : bs'.length ≤ 1000000000) :
    Rd (w.setCell ⟨q, 0, none⟩ (.slice A' bs'.length c')) q B A' c' bs' err :=
  ⟨World.cell?_setCell_same _ _ _ h.rest, (World.cell?_setCell_other _ _ _ _ (by simp)).trans h.error, (World.frozen?_setCell _ _ _ _).trans h.fr0, (World.frozen?_setCell _ _ _ _).trans h.fr1,
    (kept_setCell w ⟨q, 0, none⟩ _).row hr (fun j hj => by have := h.low; simp; omega), h1, h2, h3, h4, h5, h.low⟩
theorem Rd.drew {w : World} {q B : Nat} {A : Option Addr} {c : Nat} {bs : List Int} {err : Int} (h : Rd w q B A c bs err) (n : Nat) : Rd (w.drewN n) q B A c bs err := h.kept (S := Never) ⟨rfl, rfl, rfl, Nat.le_refl _, fun _ _ _ => rfl⟩ (fun _ _ h => h)
theorem kept_drewN (w : World) (n : Nat) (S : Nat → Prop) : Kept S w (w.drewN n) := ⟨rfl, rfl, rfl, Nat.le_refl _, fun _ _ _ => rfl⟩

theorem fail_any (w : World) (q : Nat) (x err : Int) (hc : w.cell? ⟨q, 1, none⟩ = some (.int .i64 x)) (hf : w.frozen? ⟨q, 1, none⟩ = false) :
    Calls Try.prog 27 #[.pointer (some ⟨q, 0, none⟩), .int .i64 err] w fun e w' => e = .returned (.int .i64 err) ∧ w.setCell ⟨q, 1, none⟩ (.int .i64 err) = w' := by
  go_enter Try.func27, Try.ntmps27
  go_wp2
  go_ret
  exact ⟨rfl, rfl⟩

theorem left_any (w : World) (q B : Nat) (A : Option Addr) (c : Nat) (bs : List Int) (err : Int) (h : Rd w q B A c bs err) :
    Calls Try.prog 15 #[.pointer (some ⟨q, 0, none⟩)] w fun e w' => e = .returned (.int .i64 bs.length) ∧ w = w' := by
  obtain ⟨h0, h1, f0, f1, hr, hc, hm, hn, hb, hfew, hlow⟩ := h
  go_enter Try.func15, Try.ntmps15
  go_wp2
  go_ret
  exact ⟨rfl, rfl⟩

/-- What End answers. -/
def rEnd (bs : List Int) (err : Int) : Int := if err = 0 ∧ 0 < bs.length then 2 else err
theorem end_any (w : World) (q B : Nat) (A : Option Addr) (c : Nat) (bs : List Int) (err : Int) (h : Rd w q B A c bs err) :
    Calls Try.prog 16 #[.pointer (some ⟨q, 0, none⟩)] w fun e w' => e = .returned (.int .i64 (rEnd bs err)) ∧ w = w' := by
  obtain ⟨h0, h1, f0, f1, hr, hc, hm, hn, hb, hfew, hlow⟩ := h
  by_cases he : err = 0
  · subst he
    by_cases hl : 0 < bs.length
    · have hl' : (0 : Int) < bs.length := by omega
      go_enter Try.func16, Try.ntmps16
      go_wp2
      go_ret
      refine ⟨ret_int ?_, rfl⟩
      unfold rEnd; rw [if_pos ⟨rfl, hl⟩]
    · have hl' : decide (0 < bs.length) = false := by simpa using hl
      go_enter Try.func16, Try.ntmps16
      go_wp2
      go_ret
      refine ⟨ret_int ?_, rfl⟩
      unfold rEnd; rw [if_neg (by omega)]
  · have he' : (err == 0) = false := by simpa using he
    go_enter Try.func16, Try.ntmps16
    go_wp2
    go_ret
    refine ⟨ret_int ?_, rfl⟩
    unfold rEnd; rw [if_neg (by omega)]

def ReadPost (w : World) (bs : List Int) (e : Ending) (w' : World) : Prop :=
  ∃ q A c, e = .returned (.pointer (some ⟨q, 0, none⟩)) ∧ w.heap.size ≤ q ∧ q + 1 = w'.heap.size ∧ Rd w' q q A c bs 0 ∧ Below w.heap.size w w'
theorem read_any (A : Option Addr) (c B : Nat) (bs : List Int) (w : World) (hr : Row .u8 w B A bs) (hc0 : A = none → c = 0) (hb : Bytes bs) (hl : bs.length ≤ 1000000000) :
    Calls Try.prog 14 #[.slice A bs.length c] w (ReadPost w bs) := by
  go_enter Try.func14, Try.ntmps14
  go_wp2_with fail
  refine (clone_any A c B bs w hr hc0 (by omega)).mono ?_
  rintro e w1 ⟨v, rfl, ho, hb1⟩
  obtain ⟨A1, c1, hv, hr1, hcap, hcm⟩ := row_own ho
  obtain ⟨A2, c2, hv2, hn⟩ := own_slice ho
  obtain ⟨rfl, rfl⟩ : A2 = A1 ∧ c2 = c1 := by rw [hv] at hv2; simp at hv2; exact ⟨hv2.1.symm, hv2.2.symm⟩
  subst hv
  clear ho hv2
  go_wp2
  go_ret
  refine ⟨w1.heap.size, A2, c2, rfl, hb1.size, by simp, ⟨?_, ?_, ?_, ?_, ?_, hcap, hcm, hn, hb, hl, Nat.le_refl _⟩, hb1.alloc hb1.size _⟩
  · simp
  · simp
  · simp
  · simp
  · exact row_below hr1 ((Below.refl _ _).alloc (Nat.le_refl _) _)
end Go.Proofs.Ytkdmhcllnpiakaa
