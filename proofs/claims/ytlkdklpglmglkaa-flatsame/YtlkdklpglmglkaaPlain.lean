/-
  Lists held against each other: tendrilplain.Attrs, attrs.Same.
-/
import Derived.Test.YtlkdklpglmglkaaCheck
import Derived.Test.YtlkdklpglmglkaaRow
import Derived.ChangeKeysEq
namespace Go.Proofs.Ytlkdklpglmglkaa
open Go.RowKit Go.Sort Go.Lib
set_option linter.unusedVariables false
set_option maxRecDepth 100000
theorem eqAt (x y : At) : (x.1.toList == y.1.toList && x.2.toList == y.2.toList) = decide (x = y) := by
  rw [eqB, eqB, Bool.eq_iff_iff]
  simp [Prod.ext_iff]
theorem eqA (x y : At) (w : World) : (Op.equalIn 10000 74 (.agg #[.string x.1, .string x.2]) (.agg #[.string y.1, .string y.2])).run Try.prog w = .ok (decide (x = y)) w := by
  rw [← eqAt, run_equalIn_struct w 9999 74 _ _ (by kernel_rfl) (by kernel_rfl)]
  have hf : ((Try.prog.fieldsOf 74).toList.map fun f => (f.type, f.offset, f.name == "_")) = [(9, 0, false), (9, 1, false)] := by kernel_rfl
  generalize (Try.prog.fieldsOf 74).toList = fs at hf
  rcases fs with _ | ⟨a, _ | ⟨b, _ | ⟨c, r⟩⟩⟩
  · simp at hf
  · simp at hf
  · simp at hf
    obtain ⟨⟨h1, h2, h3⟩, h4, h5, h6⟩ := hf
    have p1 : ∀ (u v : ByteArray) (w : World), Sem.run Try.prog (part 9 #[.string u, .string v] 0) w = .ok (.string u) w := fun u v w => by kernel_rfl
    have p2 : ∀ (u v : ByteArray) (w : World), Sem.run Try.prog (part 9 #[.string u, .string v] 1) w = .ok (.string v) w := fun u v w => by kernel_rfl
    have e1 : ∀ (u v : ByteArray) (w : World), Sem.run Try.prog (Op.equalIn 9999 9 (.string u) (.string v)) w = .ok (u.toList == v.toList) w := fun u v w => run_equalIn_string w 9998 9 u v Try.underlying9
    simp only [Op.eqFields, h1, h2, h4, h5]
    simp [h3, h6]
    rw [p1]; simp only [Result.andThen_ok]
    rw [p1]; simp only [Result.andThen_ok]
    rw [e1]; simp only [Result.andThen_ok]
    cases h7 : (x.1.toList == y.1.toList)
    · simp
    · simp only [Bool.true_eq_false, if_false]
      rw [p2]; simp only [Result.andThen_ok]
      rw [p2]; simp only [Result.andThen_ok]
      rw [e1]; simp only [Result.andThen_ok]
      cases h8 : (x.2.toList == y.2.toList) <;> simp
  · simp at hf
theorem neqA (x y : At) (w : World) : (binOp .neq 74 (.agg #[.string x.1, .string x.2]) (.agg #[.string y.1, .string y.2])).run Try.prog w = .ok (.bool (!decide (x = y))) w := by
  rw [run_neq_struct, eqA]; rfl
def SameTo (l m : List At) (k : Nat) : Prop := ∀ j, (h1 : j < l.length) → (h2 : j < m.length) → j < k → l[j] = m[j]
set_option maxHeartbeats 1000000 in
theorem attrs_any (A A' : Option Addr) (c c' : Nat) (l m : List At) (w : World) (h : TRow w w.heap.size A l) (h' : TRow w w.heap.size A' m) (hl : l.length ≤ 1000000) (hm : m.length ≤ 1000000) :
    Calls Try.prog 49 #[.slice A l.length c, .slice A' m.length c'] w fun e w' => e = .returned (.bool (decide (l = m))) ∧ ∃ q, w' = w.drewN q := by
  have H := Lib.hid h; have H' := Lib.hid h'
  clear h h'
  by_cases hlm : l.length = m.length
  · have hq : ((l.length : Int) != (m.length : Int)) = false := by simp [hlm]
    have hq2 : (l.length != m.length) = false := by simp [hlm]
    have HLM := Lib.hid hlm
    have hml : m.length ≤ l.length := by omega
    have hlm' : l.length ≤ m.length := by omega
    clear hlm
    go_enter Try.func49, Try.ntmps49
    go_wp2
    go_loopg [5, 13] l.length (fun g _ s13 wr => ∃ k q : Nat, s13 = .int .i64 k ∧ k ≤ l.length ∧ l.length - k ≤ g ∧ RowKit.Hid (SameTo l m k) ∧ RowKit.Hid (wr = w.drewN q))
    case atStart => exact ⟨0, 0, rfl, by omega, by omega, Lib.hid (fun j _ _ hj => by omega), Lib.hid rfl⟩
    case round =>
      obtain ⟨k, q, rfl, hk, hg, HS, HW⟩ := hrel
      by_cases hlt : k < l.length
      · have h1 : (k : Int) < (l.length : Int) := by omega
        have h2 : (k : Int) < (m.length : Int) := by omega
        have hltm : k < m.length := by omega
        obtain ⟨b, off, x, rfl, hb, hx, c1, c2⟩ := trow_at (show TRow wr wr.heap.size A l by rw [HW.out]; exact H.out) hlt
        obtain ⟨b', off', y, rfl, hb', hy, d1, d2⟩ := trow_at (show TRow wr wr.heap.size A' m by rw [HW.out]; exact H'.out) hltm
        have HX := Lib.hid hx; have HY := Lib.hid hy
        clear hx hy
        have hne : ∀ w : World, Sem.run Try.prog (binOp .neq 74 (.agg #[.string x.1, .string x.2]) (.agg #[.string y.1, .string y.2])) w = .ok (.bool (!decide (x = y))) w := fun w => neqA x y w
        by_cases hxy : x = y
        · have HXY := Lib.hid hxy
          rw [decide_eq_true hxy] at hne
          clear hxy
          go_wp2_with fail
          go_quiet (fail)
          go_wp2_with fail
          go_roundg (l.length - (k + 1))
          case measure => omega
          case rel =>
            refine ⟨k + 1, q + nq, by go_num, by omega, by omega, Lib.hid (fun j h3 h4 h5 => ?_), Lib.hid (by rw [HW.out, World.drewN_drewN])⟩
            rcases Nat.lt_or_ge j k with h6 | h6
            · exact HS.out j h3 h4 h6
            · have : j = k := by omega
              subst this
              rw [← HX.out, ← HY.out]; exact HXY.out
        · have HXY := Lib.hid hxy
          rw [decide_eq_false hxy] at hne
          clear hxy
          go_wp2_with fail
          go_quiet (fail)
          go_wp2_with fail
          go_ret
          refine ⟨ret_bool (decide_eq_false (fun e => HXY.out ?_)).symm, q + nq, by rw [HW.out, World.drewN_drewN]⟩
          have h3 := HX.out; have h4 := HY.out
          subst e
          rw [h3, h4]
      · have h1 : ¬ (k : Int) < (l.length : Int) := by omega
        go_wp2_with fail
        go_ret
        refine ⟨ret_bool (decide_eq_true ?_).symm, q, HW.out⟩
        exact List.ext_getElem HLM.out (fun i h3 h4 => HS.out i h3 h4 (by omega))
  · have hq : ((l.length : Int) != (m.length : Int)) = true := by simp; omega
    have HLM := Lib.hid hlm
    clear hlm
    go_enter Try.func49, Try.ntmps49
    go_wp2
    go_ret
    exact ⟨ret_bool (decide_eq_false (fun e => HLM.out (by rw [e]))).symm, 0, rfl⟩
end Go.Proofs.Ytlkdklpglmglkaa
