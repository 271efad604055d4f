/-
  octet.All and tendrilref01.All and tendrilref01.Same: what they answer.
-/
import Derived.Test.YtghnaabjplkheaaRef
namespace Go.Proofs.Ytghnaabjplkheaa
open Go.RowKit
set_option linter.unusedVariables false

def allGo : Nat → List Int → List Int → List Int × Int
  | 0, ns, _ => (ns, 0)
  | f + 1, ns, bs => if bs.length = 0 then (ns, 0) else if tkErr bs = 0 then allGo f (ns ++ [tkNum bs]) (bs.drop (tkLen bs).toNat) else ([], tkErr bs)
def all (bs : List Int) : List Int × Int := allGo bs.length [] bs

theorem tkLen_ok {bs : List Int} (h : tkErr bs = 0) : ∃ t : Nat, tkLen bs = t ∧ 1 ≤ t ∧ t ≤ bs.length := by
  have h1 := (tk_ok h).2
  have h2 := lead_le_len 10 bs
  have h3 : lead 10 bs ≠ bs.length := by
    intro e
    unfold tkErr at h
    rw [e] at h
    split at h
    · omega
    · rw [if_pos rfl] at h; omega
  exact ⟨lead 10 bs + 1, by omega, by omega, by omega⟩
theorem allGo_nil (f : Nat) (ns bs : List Int) (h : bs.length = 0) : allGo f ns bs = (ns, 0) := by cases f <;> simp [allGo, h]
theorem allGo_err (f : Nat) (ns bs : List Int) (h : 0 < bs.length) (hf : bs.length ≤ f) (he : tkErr bs ≠ 0) : allGo f ns bs = ([], tkErr bs) := by
  cases f with
  | zero => omega
  | succ f => simp only [allGo, he]; rw [if_neg (by omega)]; simp
theorem allGo_ok (f : Nat) (ns bs : List Int) (h : 0 < bs.length) (hf : bs.length ≤ f + 1) (he : tkErr bs = 0) : allGo (f + 1) ns bs = allGo f (ns ++ [tkNum bs]) (bs.drop (tkLen bs).toNat) := by
  simp only [allGo, he]; rw [if_neg (by omega)]; simp
theorem bytes_drop {bs : List Int} (h : Bytes bs) (k : Nat) : Bytes (bs.drop k) := by
  intro j hj
  have := h (k + j) (by simp at hj; omega)
  simpa [List.getD_eq_getElem?_getD, List.getElem?_drop] using this
theorem row_below {k : IntKind} {w w' : World} {B : Nat} {A : Option Addr} {zs : List Int} (h : Row k w B A zs) (hb : Below B w w') : Row k w' B A zs := by
  intro h0
  obtain ⟨b, off, hA, hlt, hc⟩ := h h0
  exact ⟨b, off, hA, hlt, fun j hj => (hb.cell (p := ⟨b, off + j, none⟩) hlt).trans (hc j hj)⟩
theorem row_cut {k : IntKind} {w : World} {B b off cap : Nat} {zs : List Int} (h : Row k w B (some ⟨b, off, none⟩) zs) (t : Nat) (hc : zs.length ≤ cap) :
    Row k w B (if cap = t then some ⟨b, off, none⟩ else some ⟨b, off + t, none⟩) (zs.drop t) := by
  intro h0
  have hlt : t < zs.length := by simp at h0; omega
  obtain ⟨b', off', hA, hb, hcell⟩ := h (by omega)
  obtain ⟨rfl, rfl⟩ : b = b' ∧ off = off' := by simpa using hA
  rw [if_neg (by omega)]
  refine ⟨b, off + t, rfl, hb, fun j hj => ?_⟩
  have := hcell (t + j) (by simp at hj; omega)
  rw [Nat.add_assoc, this]
  simp [List.getD_eq_getElem?_getD, List.getElem?_drop]

theorem Try.info24 : (Try.prog.info? 24).map (fun i => (i.zero, i.size, i.bytes)) = some (some (.int .u64 0), 1, 8) := by kernel_rfl

def sliceLen : Value → Nat | .slice _ n _ => n | _ => 0
def AllRel (w : World) (B : Nat) (bs : List Int) (b out : Value) (wr : World) : Prop :=
  ∃ (rest ns : List Int) (f : Nat) (A : Option Addr) (cap : Nat), b = .slice A rest.length cap ∧ Row .u8 w B A rest ∧ Bytes rest ∧ rest.length ≤ cap ∧ cap ≤ maxLen ∧ rest.length + ns.length ≤ bs.length ∧
    wr.ownsRow w.heap.size 24 1 out ns.length (ns.map (Value.int .u64)) ∧ Below w.heap.size w wr ∧ rest.length ≤ f ∧ allGo f ns rest = all bs

def AllPost (w : World) (bs : List Int) (e : Ending) (w' : World) : Prop :=
  ∃ v, e = .returned (.tuple #[v, .int .i64 (all bs).2]) ∧ w'.ownsRow w.heap.size 24 1 v (all bs).1.length ((all bs).1.map (Value.int .u64)) ∧ Below w.heap.size w w'

theorem allPost_mk {w w' : World} {bs ns : List Int} {v : Value} {err : Int} (h : (ns, err) = all bs) (hown : w'.ownsRow w.heap.size 24 1 v ns.length (ns.map (Value.int .u64))) (hbel : Below w.heap.size w w') :
    AllPost w bs (.returned (.tuple #[v, .int .i64 err])) w' := by
  unfold AllPost
  rw [← h]
  exact ⟨v, rfl, hown, hbel⟩

set_option maxHeartbeats 1000000 in
theorem all_any (A : Option Addr) (cap : Nat) (bs : List Int) (B : Nat) (w : World) (hB : B ≤ w.heap.size) (hrow : Row .u8 w B A bs) (hby : Bytes bs) (hcap : bs.length ≤ cap) (hcm : cap ≤ maxLen) (hl : bs.length ≤ 1000000) :
    Calls Try.prog 9 #[.slice A bs.length cap] w (AllPost w bs) := by
  obtain ⟨i0, hi, hz0, hz1, hz2⟩ := info_parts Try.info24
  go_enter Try.func9, Try.ntmps9
  go_wp2
  go_loopw [0, 4] (AllRel w B bs) (fun b _ _ => sliceLen b)
  case atStart => exact ⟨bs, [], bs.length, A, cap, rfl, hrow, hby, hcap, hcm, by simp, World.ownsRow_nil _ _ _ _, Below.refl _ _, Nat.le_refl _, rfl⟩
  case round =>
    obtain ⟨rest, ns, f, A', cap', rfl, hr, hb, hrc, hrm, hsum, hown, hbel, hf, heq⟩ := hrel
    have HEQ := Lib.hid heq; clear heq
    by_cases h0 : rest.length = 0
    · have hfin := (allGo_nil f ns rest h0).symm.trans HEQ.out
      have HF := Lib.hid hfin; clear hfin
      go_wp2_with fail
      go_ret2
      exact allPost_mk HF.out hown hbel
    · obtain ⟨b, off, rfl, hbB, -⟩ := hr (by omega)
      have ct := take_any (some ⟨b, off, none⟩) cap' rest B wr (row_below hr (hbel.mono hB)) hb (by omega)
      by_cases he : tkErr rest = 0
      · obtain ⟨t, ht, ht1, ht2⟩ := tkLen_ok he
        rw [he, ht] at ct
        have CT := Lib.hid ct; clear ct
        obtain ⟨f, rfl⟩ : ∃ g, f = g + 1 := ⟨f - 1, by omega⟩
        have hstep := (allGo_ok f ns rest (by omega) hf he).symm.trans HEQ.out
        rw [ht] at hstep
        have HS := Lib.hid hstep
        have HT := Lib.hid ht; clear hstep ht he
        go_wp2_with (first
          | (go_at_call 7; refine CT.out.mono ?_; rintro e w' ⟨rfl, rfl⟩)
          | (at_builtin; refine wpList_append_own _ rfl _ _ 30 rfl w.heap.size 24 i0 (.int .u64 0) 1 8 Try.underlying30 hi hz0 hz1 hz2 rfl (by decide) _ _ _ rfl (hown.alloc _) ⟨wr.heap.size, 0, none⟩ 1 1 [.int .u64 (tkNum rest)] rfl rfl ?c1 ?c2 ?c3 ?c4 ?c5 ?_))
        case c1 =>
          intro j u hj
          match j, hj with
          | 0, hj => simp at hj; subst hj; simp [Addr.add]
        case c2 => intro u hu; simp at hu; subst hu; rfl
        case c3 => unfold maxLen; omega
        case c4 => omega
        case c5 => have := hbel.size; simp; omega
        · intro v' w1 hown' hgrow _
          have hbel' := (hbel.alloc hbel.size (.cells #[.int .u64 (tkNum rest)] 24)).grown hgrow (by have := hbel.size; simp; omega) (fun k hk => (hown.lt k hk).1)
          go_wp2_with fail
          refine ⟨⟨rest.drop t, ns ++ [tkNum rest], f, _, _, by rw [List.length_drop], row_cut hr t hrc, bytes_drop hb t, by simp; omega, by omega, by simp; omega, ?_, hbel', by simp; omega, ?_⟩, by simp [sliceLen]; omega⟩
          · simpa using hown'
          · simpa using HS.out
      · have hfin := (allGo_err f ns rest (by omega) hf he).symm.trans HEQ.out
        have HF := Lib.hid hfin
        have heb : (tkErr rest != 0) = true := by simpa using he
        have CT := Lib.hid ct; clear hfin ct he
        go_wp2_with (go_at_call 7; refine CT.out.mono ?_; rintro e w' ⟨rfl, rfl⟩)
        go_ret2
        exact allPost_mk HF.out (World.ownsRow_nil _ _ _ _) hbel

def RefAllRel (w : World) (bs : List Int) (out at_ : Value) (wr : World) : Prop :=
  ∃ (p : Nat) (ns : List Int) (f : Nat), at_ = .int .i64 p ∧ p ≤ bs.length ∧ ns.length ≤ p ∧
    wr.ownsRow w.heap.size 24 1 out ns.length (ns.map (Value.int .u64)) ∧ Below w.heap.size w wr ∧ bs.length ≤ f + p ∧ allGo f ns (bs.drop p) = all bs

set_option maxHeartbeats 1000000 in
theorem refAll_any (A : Option Addr) (cap : Nat) (bs : List Int) (B : Nat) (w : World) (hB : B ≤ w.heap.size) (hrow : Row .u8 w B A bs) (hby : Bytes bs) (hcap : bs.length ≤ cap) (hcm : cap ≤ maxLen) (hl : bs.length ≤ 1000000) :
    Calls Try.prog 10 #[.slice A bs.length cap] w (AllPost w bs) := by
  obtain ⟨i0, hi, hz0, hz1, hz2⟩ := info_parts Try.info24
  go_enter Try.func10, Try.ntmps10
  go_wp2
  go_loopw [4, 5] (RefAllRel w bs) (fun _ i _ => bs.length - (intOf i).toNat)
  case atStart => exact ⟨0, [], bs.length, rfl, by simp, by simp, World.ownsRow_nil _ _ _ _, Below.refl _ _, by simp, rfl⟩
  case round =>
    obtain ⟨p, ns, f, rfl, hp, hns, hown, hbel, hf, heq⟩ := hrel
    have HEQ := Lib.hid heq; clear heq
    by_cases h0 : p = bs.length
    · have hfin := (allGo_nil f ns (bs.drop p) (by simp; omega)).symm.trans HEQ.out
      have HF := Lib.hid hfin; clear hfin
      obtain rfl := h0
      go_wp2_with fail
      go_ret2
      exact allPost_mk HF.out hown hbel
    · obtain ⟨b, off, rfl, hbB, -⟩ := hrow (by omega)
      have hr := row_cut hrow p hcap
      rw [if_neg (by omega)] at hr
      have hb := bytes_drop hby p
      have hrl : (bs.drop p).length = bs.length - p := List.length_drop
      have ct := refTake_any _ (cap - p) (bs.drop p) B wr (row_below hr (hbel.mono hB)) hb (by omega)
      have hlt : p < bs.length := by omega
      by_cases he : tkErr (bs.drop p) = 0
      · obtain ⟨t, ht, ht1, ht2⟩ := tkLen_ok he
        rw [he, ht, hrl] at ct
        have CT := Lib.hid ct; clear ct
        obtain ⟨f, rfl⟩ : ∃ g, f = g + 1 := ⟨f - 1, by omega⟩
        have hstep := (allGo_ok f ns (bs.drop p) (by omega) (by omega) he).symm.trans HEQ.out
        rw [ht] at hstep
        have HS := Lib.hid hstep
        have htl : p + t ≤ bs.length := by omega
        have HT := Lib.hid ht; clear hstep ht he hrl h0
        go_wp2_with (first
          | (go_at_call 8; refine CT.out.mono ?_; rintro e w' ⟨rfl, rfl⟩)
          | (at_builtin; refine wpList_append_own _ rfl _ _ 30 rfl w.heap.size 24 i0 (.int .u64 0) 1 8 Try.underlying30 hi hz0 hz1 hz2 rfl (by decide) _ _ _ rfl (hown.alloc _) ⟨wr.heap.size, 0, none⟩ 1 1 [.int .u64 (tkNum (bs.drop p))] rfl rfl ?c1 ?c2 ?c3 ?c4 ?c5 ?_))
        case c1 =>
          intro j u hj
          match j, hj with
          | 0, hj => simp at hj; subst hj; simp [Addr.add]
        case c2 => intro u hu; simp at hu; subst hu; rfl
        case c3 => unfold maxLen; omega
        case c4 => omega
        case c5 => have := hbel.size; simp; omega
        · intro v' w1 hown' hgrow _
          have hbel' := (hbel.alloc hbel.size (.cells #[.int .u64 (tkNum (bs.drop p))] 24)).grown hgrow (by have := hbel.size; simp; omega) (fun k hk => (hown.lt k hk).1)
          go_wp2_with fail
          refine ⟨⟨p + t, ns ++ [tkNum (bs.drop p)], f, by go_num, htl, by simp; omega, ?_, hbel', by omega, ?_⟩, by simp [intOf]; omega⟩
          · simpa using hown'
          · simpa [List.drop_drop] using HS.out
      · have hfin := (allGo_err f ns (bs.drop p) (by omega) (by omega) he).symm.trans HEQ.out
        have HF := Lib.hid hfin
        have heb : (tkErr (bs.drop p) != 0) = true := by simpa using he
        rw [hrl] at ct
        have CT := Lib.hid ct; clear hfin ct he hrl h0
        go_wp2_with (go_at_call 8; refine CT.out.mono ?_; rintro e w' ⟨rfl, rfl⟩)
        go_ret2
        exact allPost_mk HF.out (World.ownsRow_nil _ _ _ _) hbel

/-- What an owned row of numbers is as a slice. -/
theorem row_own {k : IntKind} {w : World} {base : Nat} {e : TypeId} {v : Value} {zs : List Int} (h : w.ownsRow base e 1 v zs.length (zs.map (Value.int k))) :
    ∃ A cap, v = .slice A zs.length cap ∧ Row k w w.heap.size A zs ∧ zs.length ≤ cap ∧ cap ≤ maxLen := by
  rcases h.2 with ⟨rfl, hn⟩ | ⟨g, cap, cur, rfl, _, hg, hnc, hcm, _, _⟩
  · exact ⟨none, 0, by rw [hn], fun h0 => by omega, by omega, by simp [maxLen]⟩
  · refine ⟨_, cap, rfl, fun _ => ⟨g, 0, rfl, (Array.getElem?_eq_some_iff.1 hg).1, fun j hj => ?_⟩, hnc, hcm⟩
    rw [Nat.zero_add, h.cellAt j (by omega)]
    simp [List.getD_eq_getElem?_getD, List.getElem?_eq_getElem hj]

set_option maxHeartbeats 1000000 in
theorem same_any (A C : Option Addr) (capA capC : Nat) (zs : List Int) (B : Nat) (w : World) (ha : Row .u64 w B A zs) (hc : Row .u64 w B C zs) (hl : zs.length ≤ 1000000) :
    Calls Try.prog 11 #[.slice A zs.length capA, .slice C zs.length capC] w fun e w' => e = .returned (.bool true) ∧ ∃ n, w' = w.drewN n := by
  go_enter Try.func11, Try.ntmps11
  go_wp2
  go_loopw [13] (fun i wr => ∃ k n : Nat, k ≤ zs.length ∧ i = .int .i64 k ∧ wr = w.drewN n) (fun i _ => zs.length - (intOf i).toNat)
  case atStart => exact ⟨0, 0, by omega, rfl, rfl⟩
  case round =>
    obtain ⟨k, n, hk, rfl, rfl⟩ := hrel
    by_cases hlt : k < zs.length
    · obtain ⟨b, off, x, rfl, hb, hx, hcx⟩ := row_at ha hlt
      obtain ⟨b', off', x', rfl, hb', hx', hcx'⟩ := row_at hc hlt
      obtain rfl : x' = x := by rw [hx, hx']
      clear hx hx' ha hc
      go_wp2
      go_quiet (fail)
      go_wp2
      exact ⟨⟨k + 1, n + nq, by omega, by go_num, rfl⟩, by simp [intOf]; omega⟩
    · go_wp2
      go_ret
      exact ⟨rfl, n, rfl⟩
end Go.Proofs.Ytghnaabjplkheaa
