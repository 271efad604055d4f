/-
  chars.Words and tendrilplain.Texts: what they answer.
-/
import Derived.Test.YtmobnjcjpjeflaaDoorPairs
import Derived.Test.YtmobnjcjpjeflaaDoorWordsMath
import Derived.Deep.LoopGhost
import Derived.WalkMore
namespace Go.Proofs.YtmobnjcjpjeflaaDoor
open Go.RowKit
set_option linter.unusedVariables false

theorem wpList_app1 {P : Program} {w : World} {ops : Array Oper} {rest : List Oper} {o : Oper} {a : Act} {Q : Exit → Act → World → Prop} (hgd : o.guard = none) (s x : Operand) (t : TypeId)
    (ho : o.op = .call { callee := .builtin .append, args := #[s, x], argTypes := #[t, t] })
    (base : Nat) (e : TypeId) (i : TypeInfo) (z : Value) (bytes : Nat) (ht : P.underlying t = some (.slice e)) (hi : P.info? e = some i) (hz : i.zero = some z)
    (hsize : i.size = 1) (hby : i.bytes = bytes) (hzs : z.cells.size = 1)
    (v : Value) (n : Nat) (xs : List Value) (hs : a.eval s = v) (hown : w.ownsRow base e 1 v n xs)
    (u : Value) (hx : a.eval x = .slice (some ⟨w.heap.size, 0, none⟩) 1 1) (h1 : u.oneCell' = true)
    (hbytes : (n + 1) * bytes ≤ 140737488355328) (h63 : n + 1 ≤ maxLen) (hbase : base ≤ w.heap.size)
    (h : ∀ v' w', w'.ownsRow base e 1 v' (n + 1) (xs ++ [u]) → Below base w w' → wpList P ops Q rest (a.put o.dst v') w') : wpList P ops Q (o :: rest) a (w.alloc (.cells #[u] e)) := by
  refine wpList_append_own (w.alloc (.cells #[u] e)) hgd s x t ho base e i z 1 bytes ht hi hz hsize hby hzs (by omega) v n xs hs (hown.alloc _) ⟨w.heap.size, 0, none⟩ 1 1 [u] hx rfl ?_ ?_ h63 hbytes (by simp; omega) ?_
  · intro j y hj
    match j, hj with
    | 0, hj => simp at hj; subst hj; simp [Addr.add]
  · intro y hy; simp at hy; subst hy; exact h1
  · intro v' w' hown' hgrow _
    exact h v' w' hown' (((Below.refl base w).alloc hbase _).grown hgrow (by simp; omega) (fun k hk => (hown.lt k hk).1))

theorem Tryd.info9 : (Tryd.prog.info? 9).map (fun i => (i.zero, i.size, i.bytes)) = some (some (.string ByteArray.empty), 1, 16) := by kernel_rfl

def OwnS (w : World) (base : Nat) (v : Value) (ws : List ByteArray) : Prop := w.ownsRow base 9 1 v ws.length (ws.map Value.string)
def WordsPost (w : World) (l : List UInt8) (e : Ending) (w' : World) : Prop :=
  ∃ v ws, e = .returned (.tuple #[v, .bool (okW l).2]) ∧ ws.map (·.data.toList) = (okW l).1 ∧ OwnS w' w.heap.size v ws ∧ Below w.heap.size w w'
theorem wordsPost_mk {w w' : World} {l : List UInt8} {v : Value} {ws : List ByteArray} {b : Bool} (h : okW l = (ws.map (·.data.toList), b)) (hown : OwnS w' w.heap.size v ws) (hb : Below w.heap.size w w') :
    WordsPost w l (.returned (.tuple #[v, .bool b])) w' := ⟨v, ws, by rw [h], by rw [h], hown, hb⟩
def WRel (w : World) (l : List UInt8) (g : Nat) (out rest : Value) (wr : World) : Prop :=
  ∃ (ws : List ByteArray) (r : ByteArray), rest = .string r ∧ r.size = g ∧ WInv l ws r ∧ OwnS wr w.heap.size out ws ∧ Below w.heap.size w wr

theorem str_list (r : ByteArray) : r.toList = r.data.toList := by obtain ⟨⟨l⟩⟩ := r; simp
theorem str_nil {r : ByteArray} (h : r.size = 0) : r.toList = [] := by rw [str_list]; exact List.eq_nil_of_length_eq_zero (by rw [size_list]; exact h)
theorem str_ne {r : ByteArray} (h : r.size ≠ 0) : r.toList ≠ [] := by rw [str_list]; intro e; exact h (by have := congrArg List.length e; rw [size_list] at this; simpa using this)

set_option maxHeartbeats 2000000 in
theorem words_any (s : ByteArray) (w : World) (hs : s.size ≤ 100000) : Calls Tryd.prog 16 #[.string s] w (WordsPost w s.data.toList) := by
  obtain ⟨i0, hi, hz0, hz1, hz2⟩ := info_parts Tryd.info9
  have hl : s.data.toList.length ≤ 100000 := by rw [size_list]; exact hs
  generalize hll : s.data.toList = l at *
  have HLL := Lib.hid hll; clear hll
  go_enter Tryd.func16, Tryd.ntmps16
  go_wp2
  go_step3
  go_wp2
  go_step3
  go_wp2
  go_loopg [4, 5] s.size (fun g out rest wr => WRel w l g out rest wr)
  case atStart => exact ⟨[], s, rfl, rfl, HLL.out ▸ winv_start s, World.ownsRow_nil _ _ _ _, Below.refl _ _⟩
  case round =>
    obtain ⟨ws, r, rfl, hg, hinv, hown, hbel⟩ := hrel
    have HG := Lib.hid hg; clear hg
    have HI := Lib.hid hinv
    have hsum := hinv.2.2.2.2
    clear hinv
    by_cases h0 : r.size = 0
    · have hf := winv_nil HI.out h0
      have HF := Lib.hid hf; clear hf
      have hr : r.toList = [] := str_nil h0
      go_wp2
      try rw [Exit.noGoto_ret]
      go_ret2
      have e := HF.out.2
      subst e
      exact wordsPost_mk (ws := []) HF.out.1 (World.ownsRow_nil _ _ _ _) hbel
    · have hr : r.toList ≠ [] := str_ne h0
      have hr' : (!r.toList.isEmpty) = true := by simpa using hr
      have hr2 : r.toList.isEmpty = false := by simpa using hr
      have hbr : r.size ≤ 100000 := by omega
      clear hr
      go_wp2_with fail
      go_loopg [4, 5, 12] r.size (fun g2 o4 o5 i wy => ∃ k : Nat, k + g2 = r.size ∧ o4 = u4 ∧ o5 = .string r ∧ i = .int .i64 k ∧ NoSp r.data.toList k ∧ wr = wy)
      case atStart => exact ⟨0, by omega, rfl, rfl, rfl, fun j hj => by omega, rfl⟩
      case round =>
        obtain ⟨k, hkg, rfl, rfl, rfl, hn, rfl⟩ := hrel
        have HN := Lib.hid hn; clear hn
        have hk : k ≤ r.size := by omega
        have HKG := Lib.hid hkg; clear hkg
        by_cases hlt : k < r.size
        · have hb := byte_eq r k hlt
          by_cases h32 : byte r k = 32
          · by_cases h01 : k = 0 ∨ k = r.size - 1
            · have hf := winv_false HI.out hlt h01 HN.out ((getD_byte r k).2 h32)
              have HF := Lib.hid hf; clear hf
              have h32b : (byte r k != 32) = false := by simp [h32]
              have hx : k = 0 ∨ ((k : Int) == 0) = false ∧ ((k : Int) == (r.size : Int) - 1) = true := by simp; omega
              rcases hx with rfl | ⟨hx1, hx2⟩
              all_goals
                go_wp2
                try rw [Exit.noGoto_ret]
                go_ret2
                exact wordsPost_mk (ws := []) HF.out (World.ownsRow_nil _ _ _ _) hbel
            · have hinv := winv_step HI.out hlt (by omega) (by omega) HN.out ((getD_byte r k).2 h32)
              have HV := Lib.hid hinv; clear hinv
              have h32b : (byte r k != 32) = false := by simp [h32]
              have hx1 : ((k : Int) == 0) = false := by simp; omega
              have hx2 : ((k : Int) == (r.size : Int) - 1) = false := by simp; omega
              have hsz := hbel.size
              unfold OwnS at hown
              have hwl : ws.length ≤ 100000 := by omega
              have hk1 : k + 1 ≤ r.size := by omega
              go_wp2_with (at_builtin; refine wpList_app1 rfl _ _ 29 rfl w.heap.size 9 i0 (.string ByteArray.empty) 16 Tryd.underlying29 hi hz0 hz1 hz2 rfl _ _ _ rfl hown (.string (r.extract 0 k)) rfl rfl (by omega) (by simp only [maxLen]; omega) (by omega) ?_; intro v' w1 hown1 hbel1)
              go_roundg ((r.extract (k + 1) r.size).size)
              case measure => rw [← HG.out]; simp; omega
              case rel => exact ⟨ws ++ [r.extract 0 k], r.extract (k + 1) r.size, rfl, rfl, HV.out, by unfold OwnS; simpa using hown1, hbel.trans hbel1⟩
          · have h32b : (byte r k != 32) = true := by simpa using h32
            go_wp2
            go_roundg (gk - 1)
            case measure => have := HKG.out; omega
            case rel => exact ⟨k + 1, by have := HKG.out; omega, rfl, rfl, by go_num, noSp_succ HN.out (fun e => h32 ((getD_byte r k).1 e)), rfl⟩
        · have hke : k = r.size := by omega
          have hf := winv_end HI.out h0 (hke ▸ HN.out)
          have HF := Lib.hid hf; clear hf
          have hsz := hbel.size
          unfold OwnS at hown
          have hwl : ws.length ≤ 100000 := by omega
          clear hke
          go_wp2_with (at_builtin; refine wpList_app1 rfl _ _ 29 rfl w.heap.size 9 i0 (.string ByteArray.empty) 16 Tryd.underlying29 hi hz0 hz1 hz2 rfl _ _ _ rfl hown (.string r) rfl rfl (by omega) (by simp only [maxLen]; omega) (by omega) ?_; intro v' w1 hown1 hbel1)
          try rw [Exit.noGoto_ret]
          go_ret2
          exact wordsPost_mk HF.out (by unfold OwnS; simpa using hown1) (hbel.trans hbel1)

/-- A slice that reads as the strings ss, lying below block B; nil let in where there are none. -/
def RowS (w : World) (B : Nat) (A : Option Addr) (ss : List ByteArray) : Prop :=
  0 < ss.length → ∃ b off, A = some ⟨b, off, none⟩ ∧ b < B ∧ ∀ j, j < ss.length → w.cell? ⟨b, off + j, none⟩ = some (.string (ss.getD j ByteArray.empty))
theorem rowS_at {w : World} {B : Nat} {A : Option Addr} {ss : List ByteArray} (h : RowS w B A ss) {j : Nat} (hj : j < ss.length) :
    ∃ b off x, A = some ⟨b, off, none⟩ ∧ b < B ∧ x = ss.getD j ByteArray.empty ∧ w.cell? ⟨b, off + j, none⟩ = some (.string x) := by
  obtain ⟨b, off, hA, hb, hc⟩ := h (by omega)
  exact ⟨b, off, _, hA, hb, rfl, hc j hj⟩
theorem rowS_below {w w' : World} {B : Nat} {A : Option Addr} {ss : List ByteArray} (h : RowS w B A ss) (hb : Below B w w') : RowS w' B A ss := by
  intro h0
  obtain ⟨b, off, hA, hlt, hc⟩ := h h0
  exact ⟨b, off, hA, hlt, fun j hj => (hb.cell (p := ⟨b, off + j, none⟩) hlt).trans (hc j hj)⟩
theorem rowS_more {w : World} {B B' : Nat} {A : Option Addr} {ss : List ByteArray} (h : RowS w B A ss) (hB : B ≤ B') : RowS w B' A ss := by
  intro h0
  obtain ⟨b, off, hA, hlt, hc⟩ := h h0
  exact ⟨b, off, hA, by omega, hc⟩
theorem rowS_own {w : World} {base : Nat} {v : Value} {ss : List ByteArray} (h : OwnS w base v ss) :
    ∃ A cap, v = .slice A ss.length cap ∧ RowS w w.heap.size A ss ∧ ss.length ≤ cap := by
  rcases h.2 with ⟨rfl, hn⟩ | ⟨g, cap, cur, rfl, _, hg, hnc, hcm, _, _⟩
  · exact ⟨none, 0, by rw [hn], fun h0 => by omega, by omega⟩
  · refine ⟨_, cap, rfl, fun _ => ⟨g, 0, rfl, (Array.getElem?_eq_some_iff.1 hg).1, fun j hj => ?_⟩, hnc⟩
    unfold OwnS at h
    rw [Nat.zero_add, h.cellAt j (by omega)]
    simp [List.getD_eq_getElem?_getD, List.getElem?_eq_getElem hj]

set_option maxHeartbeats 1000000 in
theorem texts_any (A C : Option Addr) (capA capC : Nat) (ss : List ByteArray) (B : Nat) (w : World) (ha : RowS w B A ss) (hc : RowS w B C ss) (hl : ss.length ≤ 1000000) :
    Calls Tryd.prog 18 #[.slice A ss.length capA, .slice C ss.length capC] w fun e w' => e = .returned (.bool true) ∧ ∃ n, w' = w.drewN n := by
  go_enter Tryd.func18, Tryd.ntmps18
  go_wp2
  go_loopw [13] (fun i wr => ∃ k n : Nat, k ≤ ss.length ∧ i = .int .i64 k ∧ wr = w.drewN n) (fun i _ => ss.length - (intOf i).toNat)
  case atStart => exact ⟨0, 0, by omega, rfl, rfl⟩
  case round =>
    obtain ⟨k, n, hk, rfl, rfl⟩ := hrel
    by_cases hlt : k < ss.length
    · obtain ⟨b, off, x, rfl, hb, hx, hcx⟩ := rowS_at ha hlt
      obtain ⟨b', off', x', rfl, hb', hx', hcx'⟩ := rowS_at hc hlt
      obtain rfl : x' = x := by rw [hx, hx']
      clear hx hx' ha hc
      go_wp2
      go_quiet (fail)
      go_wp2
      exact ⟨⟨k + 1, n + nq, by omega, by go_num, rfl⟩, by simp [intOf]; omega⟩
    · go_wp2
      go_ret
      exact ⟨rfl, n, rfl⟩
end Go.Proofs.YtmobnjcjpjeflaaDoor
