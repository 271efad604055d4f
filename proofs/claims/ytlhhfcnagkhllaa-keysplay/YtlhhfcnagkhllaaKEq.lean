/-
  Labels compared by == and !=.
-/
import Derived.Test.YtlhhfcnagkhllaaKOf
namespace Go.Proofs.Ytlhhfcnagkhllaa
open Go.RowKit
set_option linter.unusedVariables false

def sameL (a b : Lab) : Bool := decide (a = b)
theorem eq_lab {a b : Lab} (ha : LWf a) (hb : LWf b) (w : World) : (Op.equal 30 (labV a) (labV b)).run Try.prog w = .ok (sameL a b) w := by
  obtain ⟨r, hr, hi⟩ := run_equal_deep (P := Try.prog) w (m := 3) (by omega) (k := 30) (by kernel_rfl) wide30 (kl_of ha) (kl_of hb)
  rw [hr]
  have : r = sameL a b := by
    unfold sameL
    by_cases h : a = b
    · subst h; rw [decide_eq_true rfl]; exact hi.2 rfl
    · rw [decide_eq_false h]
      cases r with
      | false => rfl
      | true => exact absurd (kl_inj ha hb (hi.1 rfl)) h
  rw [this]
theorem eql_lab {a b : Lab} (ha : LWf a) (hb : LWf b) (w : World) : (binOp .eql 30 (.agg #[.string a.tag, .string a.key, .int .i64 a.n]) (.agg #[.string b.tag, .string b.key, .int .i64 b.n])).run Try.prog w = .ok (.bool (sameL a b)) w := by
  rw [run_eql_struct]
  have := eq_lab ha hb w
  change (Op.equalIn 10000 30 _ _).run Try.prog w = _ at this
  rw [this]; rfl
theorem neq_lab {a b : Lab} (ha : LWf a) (hb : LWf b) (w : World) : (binOp .neq 30 (.agg #[.string a.tag, .string a.key, .int .i64 a.n]) (.agg #[.string b.tag, .string b.key, .int .i64 b.n])).run Try.prog w = .ok (.bool (!sameL a b)) w := by
  have := eq_lab ha hb w
  change (Op.equalIn 10000 30 _ _).run Try.prog w = _ at this
  rw [run_neq_struct, this]; rfl
end Go.Proofs.Ytlhhfcnagkhllaa
