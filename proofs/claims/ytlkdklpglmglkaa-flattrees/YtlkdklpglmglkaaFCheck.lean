/-
  tendrilref13.Check tells what is wrong with rows.
-/
import Derived.Test.YtlkdklpglmglkaaFLook
import Derived.Test.YtlkdklpglmglkaaICheck
import Derived.Deep.RegionHeld3
namespace Go.Proofs.Ytlkdklpglmglkaa
open Go.RowKit Go.Sort Go.Lib
set_option linter.unusedVariables false
set_option maxRecDepth 100000
open Classical in
/-- What is wrong with rows, 0 of none. -/
noncomputable def errR (rs : List Rw) : Int := if ¬ FormTo rs rs.length then 2 else if rs = [] then 0 else (seenL aloneT (treeR rs 1)).2
theorem errR_bad {rs : List Rw} (h : ¬ FormTo rs rs.length) : errR rs = 2 := by rw [errR, if_pos h]
theorem errR_nil : errR [] = 0 := by rw [errR, if_neg (by simp [FormTo]), if_pos rfl]
theorem errR_ok {rs : List Rw} (h : FormTo rs rs.length) (h0 : rs ≠ []) : errR rs = (seenL aloneT (treeR rs 1)).2 := by rw [errR, if_neg (by simpa using h), if_neg h0]
theorem errR_first {rs : List Rw} (h : FormTo rs rs.length) {a f : Int} (hf : FirstF aloneT (itsR rs rs.length) a f) : f = errR rs := by
  by_cases h0 : rs = []
  · subst h0
    rw [errR_nil]
    rcases hf with ⟨i, hi, _⟩ | ⟨_, h1, _⟩
    · simp [itsR] at hi
    · exact h1
  · have hl : 0 < rs.length := List.length_pos_iff.2 h0
    have h2 := seen_all aloneT (treeR rs 1)
    rw [all_rows h hl] at h2
    rw [errR_ok h h0]
    exact (firstF_unique hf h2).2
theorem alone_node (r : Rw) (ks : List Tr) : aloneT (r.node ks) = aloneT (r.node []) := rfl
theorem itsR_take (rs : List Rw) {i n : Nat} (h : i ≤ n) : (itsR rs n).take i = itsR rs i := by
  unfold itsR
  rw [← List.map_take, List.take_range, Nat.min_eq_left h]
theorem itsR_get (rs : List Rw) {i n : Nat} (h : i < (itsR rs n).length) : (itsR rs n)[i] = itR rs i := by simp [itsR]
theorem treeR_key {rs : List Rw} (hf : FormTo rs rs.length) (i : Nat) : (treeR rs (i + 1)).key = (rwAt rs i).key := by rw [treeR_eq hf]; rfl
theorem hasKey_its {rs : List Rw} (hf : FormTo rs rs.length) {i : Nat} {u : Int} {k : ByteArray} : hasKey (itsR rs i) (u - 1) k ↔ ∃ j, j < i ∧ (rwAt rs j).up = u ∧ (rwAt rs j).key = k := by
  unfold hasKey itsR
  constructor
  · rintro ⟨x, hx, h1, h2⟩
    obtain ⟨j, hj, rfl⟩ := List.mem_map.1 hx
    refine ⟨j, by simpa using hj, ?_, ?_⟩
    · have : (rwAt rs j).up - 1 = u - 1 := h1
      omega
    · rw [← treeR_key hf]; exact h2
  · rintro ⟨j, hj, h1, h2⟩
    refine ⟨itR rs j, List.mem_map.2 ⟨j, by simpa using hj, rfl⟩, ?_, ?_⟩
    · show (rwAt rs j).up - 1 = u - 1; omega
    · show (treeR rs (j + 1)).key = k; rw [treeR_key hf]; exact h2
/-- No row ahead has the same key below the same handle. -/
def NoTwin (rs : List Rw) (r : Rw) (k : Nat) : Prop := ∀ j, j < k → ¬ (r.key ≠ noB ∧ (rwAt rs j).up = r.up ∧ (rwAt rs j).key = r.key)
theorem NoTwin.step {rs : List Rw} {r : Rw} {k : Nat} (h : NoTwin rs r k) (hn : ¬ (r.key ≠ noB ∧ (rwAt rs k).up = r.up ∧ (rwAt rs k).key = r.key)) : NoTwin rs r (k + 1) := by
  intro j hj
  rcases Nat.lt_or_ge j k with h1 | h1
  · exact h j h1
  · have : j = k := by omega
    subst this; exact hn
theorem row_ok {rs : List Rw} (hf : FormTo rs rs.length) {i : Nat} (hi : i < rs.length) (h96 : i < 4096) (hd : ¬ 64 < (chain rs (i + 1)).length) (ha : aloneT ((rwAt rs i).node []) = 0) (hn : NoTwin rs (rwAt rs i) i) : nodeF aloneT (itsR rs i) (itR rs i) = 0 := by
  refine nodeF_ok (by rw [itsR_length]; omega) hd ?_ ?_
  · show aloneT (treeR rs (i + 1)) = 0
    rw [treeR_eq hf]; exact ha
  · rintro ⟨h1, h2, h3⟩
    have h2' : (treeR rs (i + 1)).key ≠ noB := h2
    rw [treeR_key hf] at h2'
    have h3' : hasKey (itsR rs i) ((rwAt rs i).up - 1) (treeR rs (i + 1)).key := h3
    rw [treeR_key hf] at h3'
    obtain ⟨j, hj, h4, h5⟩ := (hasKey_its hf).1 h3'
    exact hn j hj ⟨h2', h4, h5⟩
theorem row_twin {rs : List Rw} (hf : FormTo rs rs.length) {i : Nat} (hi : i < rs.length) (h96 : i < 4096) (hd : ¬ 64 < (chain rs (i + 1)).length) (ha : aloneT ((rwAt rs i).node []) = 0) {j : Nat} (hj : j < i) (h : (rwAt rs i).key ≠ noB ∧ (rwAt rs j).up = (rwAt rs i).up ∧ (rwAt rs j).key = (rwAt rs i).key) : nodeF aloneT (itsR rs i) (itR rs i) = 10 := by
  refine nodeF_twice (by rw [itsR_length]; omega) hd ?_ ⟨?_, ?_, ?_⟩
  · show aloneT (treeR rs (i + 1)) = 0
    rw [treeR_eq hf]; exact ha
  · show 0 ≤ (rwAt rs i).up - 1
    have := (okAt_mem (hf i hi) (by omega)).1
    omega
  · show (treeR rs (i + 1)).key ≠ noB
    rw [treeR_key hf]; exact h.1
  · show hasKey (itsR rs i) ((rwAt rs i).up - 1) (treeR rs (i + 1)).key
    rw [treeR_key hf]
    exact (hasKey_its hf).2 ⟨j, hj, h.2.1, h.2.2⟩
theorem GoodR.node {r : Rw} (h : GoodR r) : GoodT (r.node []) := .mk (by have := h.tag; show r.tag.size ≤ maxLen; unfold maxLen; omega) h.key h.text h.len h.short (by simp [Rw.node, Tr.kids]) (fun k hk => by simp [Rw.node, Tr.kids] at hk)
def ErrPost (rs : List Rw) (w : World) (e : Ending) (w' : World) : Prop := e = .returned (.int .i64 (errR rs)) ∧ Below w.heap.size w w'
set_option maxHeartbeats 8000000 in
theorem rcheck_any (A : Option Addr) (c : Nat) (rs : List Rw) (w : World) (H : RRow w w.heap.size A rs) (G : GoodRs rs) (hl : rs.length ≤ 1000) :
    Calls Try.prog 19 #[.slice A rs.length c] w (ErrPost rs w) := by
  have HR := Lib.hid H; have HG := Lib.hid G
  have CF := Lib.hid (formed_any A c rs w H (by omega))
  clear H G
  go_enter Try.func19, Try.ntmps19
  go_wp2_with fail
  refine CF.out.mono ?_
  rintro e w1 ⟨q, rfl, hq, rfl⟩
  clear CF
  cases q with
  | false =>
    have HE := Lib.hid (errR_bad (fun h => by have := hq.2 h; cases this))
    clear hq
    go_wp2_with fail
    go_ret
    exact ⟨ret_int HE.out.symm, Below.refl _ _⟩
  | true =>
    have HF := Lib.hid (hq.1 rfl)
    clear hq
    go_wp2_with fail
    go_loopg [3, 4, 5, 11] rs.length (fun g _ _ _ s11 wr => ∃ i : Nat, s11 = .int .i64 i ∧ i ≤ rs.length ∧ rs.length - i ≤ g ∧ RowKit.Hid (∀ j, j < i → nodeF aloneT (itsR rs j) (itR rs j) = 0) ∧ RowKit.Hid (Below w.heap.size w wr))
    case atStart => exact ⟨0, rfl, by omega, by omega, Lib.hid (fun j h => by omega), Lib.hid (Below.refl _ _)⟩
    case round =>
      obtain ⟨i, rfl, hi, hg, HP, HB⟩ := hrel
      by_cases hlt : i < rs.length
      · have h1 : (i : Int) < (rs.length : Int) := by omega
        have h96' : ((i : Int) == 4096) = false := by rw [beq_eq_false_iff_ne]; omega
        have hrow := HR.out.up HB.out
        have HROW := Lib.hid hrow
        obtain ⟨b, off, r, x, hA, hb, hr, hc, hat⟩ := rrow_at hrow hlt
        obtain ⟨c0, c1, c2, c3, c4, c5⟩ := hc
        have hr' : rwAt rs i = r := by rw [rwAt_eq hlt, hr]
        have HRR := Lib.hid hr'
        have hgr := HG.out r (by rw [hr]; exact List.getElem_mem _)
        have FAIL := Lib.hid (show ∀ (f : Int) (W : World), nodeF aloneT (itsR rs i) (itR rs i) = f → f ≠ 0 → Below w.heap.size w W → ErrPost rs w (.returned (.int .i64 f)) W from fun f W hf h0 hW => ⟨ret_int (errR_first HF.out (a := i) (.inl ⟨i, by rw [itsR_length]; exact hlt, rfl, by rw [itsR_take rs (by omega), itsR_get]; exact hf.symm, h0, fun j hj hji => by rw [itsR_take rs (by omega), itsR_get]; exact HP.out j hji⟩)), hW⟩)
        have PASS := Lib.hid (show nodeF aloneT (itsR rs i) (itR rs i) = 0 → ∀ j, j < i + 1 → nodeF aloneT (itsR rs j) (itR rs j) = 0 from fun h0 j hji => by
          rcases Nat.lt_or_ge j i with h2 | h2
          · exact HP.out j h2
          · have : j = i := by omega
            subst this; exact h0)
        have hw1 : IntKind.i64.wrap ((i : Int) + 1) = ((i + 1 : Nat) : Int) := by rw [IntKind.wrap_i64]; omega
        have CD := Lib.hid (depth_any A c rs (i + 1) wr hrow (HF.out.mono hlt) hlt (by omega))
        have CA := Lib.hid (alone_any (r.node []) ⟨x.A, x.ca, none, 0⟩ wr.drew (hat.row.below (below_drewN _ wr 1)) hgr.node)
        rw [show nodeV (r.node []) ⟨x.A, x.ca, none, 0⟩ = .agg #[.string r.tag, .string r.key, .string r.text, .slice x.A r.as.length x.ca, .slice none 0 0] from rfl] at CA
        have hdb := chain_len rs (i + 1)
        rw [hA] at CD
        obtain ⟨dn, hdn⟩ : ∃ d, d = (chain rs (i + 1)).length := ⟨_, rfl⟩
        rw [← hdn] at CD hdb
        obtain ⟨al, hal⟩ : ∃ a, a = aloneT (r.node []) := ⟨_, rfl⟩
        rw [← hal] at CA
        have HDN := Lib.hid hdn; have HAL := Lib.hid hal; have HAT := Lib.hid hat
        clear hr hr' hgr hrow hdn hal hat
        go_wp2_with fail
        refine CD.out.mono ?_
        rintro e w2 ⟨rfl, rfl⟩
        clear CD
        by_cases hd : 64 < dn
        · have hd' : (dn : Int) > 64 := by omega
          have HX := Lib.hid (FAIL.out 11 wr (nodeF_deep (by rw [itsR_length]; omega) (by show 64 < (chain rs (i + 1)).length; rw [← HDN.out]; exact hd)) (by decide) HB.out)
          go_wp2_with fail
          go_ret
          exact HX.out
        · have hd' : ¬ (dn : Int) > 64 := by omega
          have HND := Lib.hid (show ¬ 64 < (chain rs (i + 1)).length by rw [← HDN.out]; exact hd)
          go_wp2_with fail
          go_region_held3 (fun W => W.cell? ⟨b, off + i * 6 + 2, none⟩ = some (.string r.tag) ∧ W.cell? ⟨b, off + i * 6 + 3, none⟩ = some (.string r.key) ∧ W.cell? ⟨b, off + i * 6 + 4, none⟩ = some (.string r.text) ∧ W.cell? ⟨b, off + i * 6 + 5, none⟩ = some (.slice x.A r.as.length x.ca))
            (first
              | go_keep
              | (go_split_ands
                 exact ⟨(hb3.cell (p := ⟨b, off + i * 6 + 2, none⟩) hb).trans c2, (hb3.cell (p := ⟨b, off + i * 6 + 3, none⟩) hb).trans c3, (hb3.cell (p := ⟨b, off + i * 6 + 4, none⟩) hb).trans c4, (hb3.cell (p := ⟨b, off + i * 6 + 5, none⟩) hb).trans c5⟩))
            ((go_at_call 52; refine CA.out.mono ?_; rintro e w3 ⟨rfl, hb3⟩))
          have HB3 := Lib.hid (HB.out.trans (((below_drewN _ wr 1).trans hb3).mono HB.out.size))
          have HB33 := Lib.hid (show Below wr.heap.size wr w3 from (below_drewN _ wr 1).trans hb3)
          clear hb3 CA c0 c1 c2 c3 c4 c5
          by_cases haz : al = 0
          · have hz' : (al != 0) = false := by simpa using haz
            have HAZ := Lib.hid (show aloneT ((rwAt rs i).node []) = 0 by rw [HRR.out, ← HAL.out]; exact haz)
            have HTW := Lib.hid (fun (j : Nat) (hj : j < i) (h : (rwAt rs i).key ≠ noB ∧ (rwAt rs j).up = (rwAt rs i).up ∧ (rwAt rs j).key = (rwAt rs i).key) => row_twin HF.out hlt (by omega) HND.out HAZ.out hj h)
            have HNO := Lib.hid (fun h : NoTwin rs (rwAt rs i) i => row_ok HF.out hlt (by omega) HND.out HAZ.out h)
            clear haz
            have hrow3 := (HROW.out.up HB33.out)
            have HROW3 := Lib.hid hrow3
            clear hrow3
            go_wp2_with fail
            go_loopg [5, 47] i (fun g _ s47 wk => ∃ k : Nat, s47 = .int .i64 k ∧ k ≤ i ∧ i - k ≤ g ∧ RowKit.Hid (NoTwin rs (rwAt rs i) k) ∧ RowKit.Hid (Below w3.heap.size w3 wk))
            case atStart => exact ⟨0, rfl, by omega, by omega, Lib.hid (fun j h => by omega), Lib.hid (Below.refl _ _)⟩
            case round =>
              obtain ⟨k, rfl, hk, hg2, HNT, HBk⟩ := hrel
              by_cases hki : k < i
              · have h2 : (k : Int) < (i : Int) := by omega
                have hkl : k < rs.length := by omega
                obtain ⟨b', off', r2, x2, s, y, hA', hb', hr2, hs, hc2, hd2, -, -⟩ := rrow_two (HROW3.out.up HBk.out) hlt hkl
                rw [hA] at hA'
                obtain ⟨rfl, rfl⟩ : b = b' ∧ off = off' := by simpa using hA'
                obtain rfl : r2 = r := by rw [hr2, ← HRR.out, rwAt_eq hlt]
                obtain ⟨p0, p1, p2, p3, p4, p5⟩ := hc2
                obtain ⟨q0, q1, q2, q3, q4, q5⟩ := hd2
                have HS := Lib.hid (show rwAt rs k = s by rw [rwAt_eq hkl, hs])
                have HBq := fun q => Lib.hid (HBk.out.trans (below_drewN w3.heap.size _ q))
                clear hr2 hs
                by_cases t1 : r2.key = noB
                · have t1' : (!r2.key.toList.isEmpty) = false := by
                    rw [Bool.not_eq_false']; exact isEmpty_noB.2 t1
                  have t1'' : r2.key.toList.isEmpty = true := isEmpty_noB.2 t1
                  have HMS := Lib.hid (show ¬ ((rwAt rs i).key ≠ noB ∧ (rwAt rs k).up = (rwAt rs i).up ∧ (rwAt rs k).key = (rwAt rs i).key) from fun h => h.1 (by rw [HRR.out]; exact t1))
                  clear t1
                  go_wp2_with fail
                  go_quiet (fail)
                  go_wp2_with fail
                  go_roundg (i - (k + 1))
                  case measure => omega
                  case rel => exact ⟨k + 1, by go_num, by omega, by omega, Lib.hid (HNT.out.step HMS.out), HBq _⟩
                · have t1'' : r2.key.toList.isEmpty = false := by
                    cases h : r2.key.toList.isEmpty with
                    | true => exact absurd (isEmpty_noB.1 h) t1
                    | false => rfl
                  have HT1 := Lib.hid t1
                  clear t1
                  by_cases t2 : s.up = r2.up
                  · have t2' : (s.up == r2.up) = true := by simpa using t2
                    have HT2 := Lib.hid t2
                    clear t2
                    by_cases t3 : s.key = r2.key
                    · have t3' : (s.key.toList == r2.key.toList) = true := by rw [eqB]; exact decide_eq_true t3
                      have HX := Lib.hid (FAIL.out 10 · (HTW.out k hki ⟨by rw [HRR.out]; exact HT1.out, by rw [HS.out, HRR.out]; exact HT2.out, by rw [HS.out, HRR.out]; exact t3⟩) (by decide))
                      clear t3
                      go_wp2_with fail
                      go_quiet (fail)
                      go_wp2_with fail
                      go_ret
                      exact HX.out _ (HB3.out.trans ((HBq _).out.mono HB3.out.size))
                    · have t3' : (s.key.toList == r2.key.toList) = false := by rw [eqB]; exact decide_eq_false t3
                      have HMS := Lib.hid (show ¬ ((rwAt rs i).key ≠ noB ∧ (rwAt rs k).up = (rwAt rs i).up ∧ (rwAt rs k).key = (rwAt rs i).key) from fun h => t3 (by have := h.2.2; rw [HS.out, HRR.out] at this; exact this))
                      clear t3
                      go_wp2_with fail
                      go_quiet (fail)
                      go_wp2_with fail
                      go_roundg (i - (k + 1))
                      case measure => omega
                      case rel => exact ⟨k + 1, by go_num, by omega, by omega, Lib.hid (HNT.out.step HMS.out), HBq _⟩
                  · have t2' : (s.up == r2.up) = false := by simpa using t2
                    have HMS := Lib.hid (show ¬ ((rwAt rs i).key ≠ noB ∧ (rwAt rs k).up = (rwAt rs i).up ∧ (rwAt rs k).key = (rwAt rs i).key) from fun h => t2 (by have := h.2.1; rw [HS.out, HRR.out] at this; exact this))
                    clear t2
                    go_wp2_with fail
                    go_quiet (fail)
                    go_wp2_with fail
                    go_roundg (i - (k + 1))
                    case measure => omega
                    case rel => exact ⟨k + 1, by go_num, by omega, by omega, Lib.hid (HNT.out.step HMS.out), HBq _⟩
              · have h2 : ¬ (k : Int) < (i : Int) := by omega
                obtain rfl : k = i := by omega
                have HOK := Lib.hid (HNO.out HNT.out)
                go_wp2_with fail
                try rw [← hA]
                go_roundg (rs.length - (k + 1))
                case measure => omega
                case rel => exact ⟨k + 1, by go_num, by omega, by omega, Lib.hid (PASS.out HOK.out), Lib.hid (HB3.out.trans (HBk.out.mono HB3.out.size))⟩
          · have hz' : (al != 0) = true := by simpa using haz
            have HX := Lib.hid (FAIL.out al w3 (by rw [nodeF_al (by rw [itsR_length]; omega) HND.out (by show aloneT (treeR rs (i + 1)) ≠ 0; rw [treeR_eq HF.out]; show aloneT ((rwAt rs i).node []) ≠ 0; rw [HRR.out, ← HAL.out]; exact haz)]; show aloneT (treeR rs (i + 1)) = al; rw [treeR_eq HF.out]; show aloneT ((rwAt rs i).node []) = al; rw [HRR.out, ← HAL.out]) haz HB3.out)
            clear haz
            go_wp2_with fail
            go_ret
            exact HX.out
      · have h1 : ¬ (i : Int) < (rs.length : Int) := by omega
        obtain rfl : i = rs.length := by omega
        have HE := Lib.hid (errR_first HF.out (a := 0) (f := 0) (.inr ⟨rfl, rfl, fun j hj => by rw [itsR_length] at hj; rw [itsR_take rs (by omega), itsR_get]; exact HP.out j hj⟩))
        go_wp2_with fail
        go_ret
        exact ⟨ret_int HE.out, HB.out⟩
end Go.Proofs.Ytlkdklpglmglkaa
