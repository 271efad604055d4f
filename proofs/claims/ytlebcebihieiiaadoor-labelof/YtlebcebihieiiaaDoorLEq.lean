/-
  Two labels, compared.
-/
import Derived.Test.YtlebcebihieiiaaDoorLRow
namespace Go.Proofs.YtlebcebihieiiaaDoor
open Go.RowKit Go.Sort
set_option linter.unusedVariables false
theorem eqBa (a b : ByteArray) : (a.toList == b.toList) = decide (a = b) := by
  rw [Bool.eq_iff_iff, beq_iff_eq, decide_eq_true_eq]
  refine ⟨fun h => bext ?_, fun h => by rw [h]⟩
  rw [C.str_list, C.str_list] at h
  exact h
theorem eqLab (x y : Lab) : (x.tag.toList == y.tag.toList && (x.key.toList == y.key.toList && (x.n == y.n))) = decide (x = y) := by
  rw [eqBa, eqBa, Bool.eq_iff_iff]
  cases x; cases y
  simp
theorem eqL (x y : Lab) (w : World) : (Op.equalIn 10000 33 (.agg #[.string x.tag, .string x.key, .int .i64 x.n]) (.agg #[.string y.tag, .string y.key, .int .i64 y.n])).run Tryd.prog w = .ok (decide (x = y)) w := by
  rw [← eqLab, run_equalIn_struct w 9999 33 _ _ (by kernel_rfl) (by kernel_rfl)]
  have hf : ((Tryd.prog.fieldsOf 33).toList.map fun f => (f.type, f.offset, f.name == "_")) = [(9, 0, false), (9, 1, false), (3, 2, false)] := by kernel_rfl
  generalize (Tryd.prog.fieldsOf 33).toList = fs at hf
  rcases fs with _ | ⟨a, _ | ⟨b, _ | ⟨d, _ | ⟨c, r⟩⟩⟩⟩
  · simp at hf
  · simp at hf
  · simp at hf
  · simp at hf
    obtain ⟨⟨h1, h2, h3⟩, ⟨h4, h5, h6⟩, h7, h8, h9⟩ := hf
    have p1 : ∀ (u v : ByteArray) (g : Int) (w : World), Sem.run Tryd.prog (part 9 #[.string u, .string v, .int .i64 g] 0) w = .ok (.string u) w := fun u v g w => by kernel_rfl
    have p2 : ∀ (u v : ByteArray) (g : Int) (w : World), Sem.run Tryd.prog (part 9 #[.string u, .string v, .int .i64 g] 1) w = .ok (.string v) w := fun u v g w => by kernel_rfl
    have p3 : ∀ (u v : ByteArray) (g : Int) (w : World), Sem.run Tryd.prog (part 3 #[.string u, .string v, .int .i64 g] 2) w = .ok (.int .i64 g) w := fun u v g w => by kernel_rfl
    have e1 : ∀ (u v : ByteArray) (w : World), Sem.run Tryd.prog (Op.equalIn 9999 9 (.string u) (.string v)) w = .ok (u.toList == v.toList) w := fun u v w => run_equalIn_string w 9998 9 u v Tryd.underlying9
    have e2 : ∀ (u v : Int) (w : World), Sem.run Tryd.prog (Op.equalIn 9999 3 (.int .i64 u) (.int .i64 v)) w = .ok (u == v) w := fun u v w => run_equalIn_int w 9998 3 .i64 .i64 u v Tryd.underlying3
    simp only [Op.eqFields, h1, h2, h4, h5, h7, h8]
    simp [h3, h6, h9]
    rw [p1]; simp only [Result.andThen_ok]
    rw [p1]; simp only [Result.andThen_ok]
    rw [e1]; simp only [Result.andThen_ok]
    cases h7 : (x.tag.toList == y.tag.toList)
    · simp
    · simp only [Bool.true_eq_false, if_false]
      rw [p2]; simp only [Result.andThen_ok]
      rw [p2]; simp only [Result.andThen_ok]
      rw [e1]; simp only [Result.andThen_ok]
      cases h8 : (x.key.toList == y.key.toList)
      · simp
      · simp only [Bool.true_eq_false, if_false]
        rw [p3]; simp only [Result.andThen_ok]
        rw [p3]; simp only [Result.andThen_ok]
        rw [e2]; simp only [Result.andThen_ok]
        cases h9 : (x.n == y.n) <;> simp
  · simp at hf
end Go.Proofs.YtlebcebihieiiaaDoor
