/-
  flat.Path; tendrilref13.Path and Span.
-/
import Derived.Test.YtlkdklpglmglkaaFTree
import Derived.Test.YtlkdklpglmglkaaFLook
import Derived.Test.YtlkdklpglmglkaaFSpan
namespace Go.Proofs.Ytlkdklpglmglkaa
open Go.RowKit Go.Sort Go.Lib
set_option linter.unusedVariables false
set_option maxRecDepth 100000
open Classical in
noncomputable def pathL (rs : List Rw) (h : Int) : List Int := if 1 ≤ h ∧ h ≤ rs.length ∧ errR rs = 0 then nums (chain rs h.toNat).reverse else []
theorem own_one (w : World) (u : Int) : I.OwnI (w.alloc (.cells #[.int .i64 u] 3)) w.heap.size (.slice (some ⟨w.heap.size, 0, none⟩) 1 1) [u] := by
  refine ⟨by simp, .inr ⟨w.heap.size, 1, #[.int .i64 u], rfl, Nat.le_refl _, heap_alloc_new w _, Nat.le_refl _, by simp [maxLen], by simp, by simp⟩⟩
/-- append(x, y...) -/
theorem wpList_appI {P : Program} {w : World} {ops : Array Oper} {rest : List Oper} {o : Oper} {a : Act} {Q : Exit → Act → World → Prop} (hgd : o.guard = none) (s x : Operand) (t : TypeId)
    (ho : o.op = .call { callee := .builtin .append, args := #[s, x], argTypes := #[t, t] })
    (base : Nat) (i : TypeInfo) (ht : P.underlying t = some (.slice 3)) (hi : P.info? 3 = some i) (hz : i.zero = some (.int .i64 0))
    (hsize : i.size = 1) (hby : i.bytes = 8)
    (v : Value) (zs : List Int) (hs : a.eval s = v) (hown : I.OwnI w base v zs)
    (A : Option Addr) (m c : Nat) (ms : List Int) (hx : a.eval x = .slice A m c) (hm : ms.length = m) (hr : I.Row w w.heap.size A ms) (hc0 : A = none → c = 0)
    (hbytes : (zs.length + m) ≤ 10000000) (hbase : base ≤ w.heap.size)
    (h : ∀ v' w', I.OwnI w' base v' (zs ++ ms) → Below base w w' → wpList P ops Q rest (a.put o.dst v') w') : wpList P ops Q (o :: rest) a w := by
  subst hm
  cases A with
  | none =>
    have h0 : ms = [] := by
      apply Classical.byContradiction
      intro hne
      obtain ⟨b, off, hA, _⟩ := hr (List.length_pos_iff.2 hne)
      cases hA
    subst h0
    obtain rfl := hc0 rfl
    exact wpList_append_own_none hgd s x t ho base 3 i 1 ht hi v zs.length (I.ints zs) hs hown hx (h v w (by simpa using hown) (Below.refl _ _))
  | some ad =>
    have hsrc : ∀ j y, (I.ints ms)[j]? = some y → w.cell? (ad.add j) = some y := by
      intro j y hj
      have hjl : j < ms.length := by have := (List.getElem?_eq_some_iff.1 hj).1; simpa using this
      obtain ⟨b, off, hA, _, hc⟩ := hr (by omega)
      obtain rfl : ad = ⟨b, off, none⟩ := by simpa using hA
      rw [Addr.add_lit, hc j hjl, ← hj]
      simp [hjl]
    refine wpList_append_own w hgd s x t ho base 3 i _ 1 8 ht hi hz hsize hby rfl (by omega) v zs.length (I.ints zs) hs hown ad ms.length c (I.ints ms) hx (by simp) hsrc (by intro y hy; simp at hy; obtain ⟨q, _, rfl⟩ := hy; rfl) (by simp [maxLen]; omega) (by omega) hbase ?_
    intro v' w' hown' hgrow _
    refine h v' w' (by unfold I.OwnI; simpa [I.ints] using hown') ((Below.refl base w).grown hgrow hbase (fun k hk => (World.ownsRow.lt hown k hk).1))
theorem chain_top {l : List Rw} {n x : Nat} (hf : FormTo l n) (h1 : 1 ≤ x) (hx : x ≤ n) : chain l x = x :: chain l (rwAt l (x - 1)).up.toNat := by
  obtain ⟨y, rfl⟩ : ∃ y, x = y + 1 := ⟨x - 1, by omega⟩
  rw [chain_succ (hf y (by omega))]; simp
set_option maxHeartbeats 8000000 in
theorem path_any (A : Option Addr) (c : Nat) (rs : List Rw) (h : Int) (w : World) (H : RRow w w.heap.size A rs) (G : GoodRs rs) (hl : rs.length ≤ 1000) (hc : rs.length ≤ c) :
    Calls Try.prog 25 #[.slice A rs.length c, .int .i64 h] w (I.Made w (pathL rs h)) := by
  have HR := Lib.hid H
  have C := Lib.hid (fcheck_any A c rs w H G hl hc)
  obtain ⟨i0, hi, hz0, hz1, hz2⟩ := info_parts I.Try.info3
  have HNIL := Lib.hid (show ∀ W, Below w.heap.size w W → ¬ (1 ≤ h ∧ h ≤ rs.length ∧ errR rs = 0) → I.Made w (pathL rs h) (.returned (.slice none 0 0)) W from fun W hW hn => ⟨none, 0, by rw [pathL, if_neg hn]; rfl, by rw [pathL, if_neg hn]; exact I.Row.nil _ _ _, by rw [pathL, if_neg hn]; simp, by simp [maxLen], fun _ => rfl, hW⟩)
  clear H G hc
  by_cases h1 : h < 1
  · have h1' : decide (h < 1) = true := decide_eq_true h1
    have HH := Lib.hid h1
    clear C h1
    go_enter Try.func25, Try.ntmps25
    go_wp2_with fail
    go_ret
    exact HNIL.out w (Below.refl _ _) (fun q => by have := HH.out; omega)
  · have h1' : decide (h < 1) = false := decide_eq_false h1
    by_cases h2 : h > (rs.length : Int)
    · have h2' : decide (h > (rs.length : Int)) = true := decide_eq_true h2
      have HH := Lib.hid h2
      clear C h1 h2
      go_enter Try.func25, Try.ntmps25
      go_wp2_with fail
      go_ret
      exact HNIL.out w (Below.refl _ _) (fun q => by have := HH.out; omega)
    · have h2' : decide (h > (rs.length : Int)) = false := decide_eq_false h2
      obtain ⟨m, hm⟩ : ∃ m : Nat, m = h.toNat := ⟨_, rfl⟩
      have hhm : h = (m : Int) := by omega
      have HHM := Lib.hid hhm
      have hm1 : 1 ≤ m := by omega
      have hml : m ≤ rs.length := by omega
      clear hm hhm h1 h2
      go_enter Try.func25, Try.ntmps25
      go_wp2_with fail
      refine C.out.mono ?_
      rintro e w1 ⟨rfl, hb1⟩
      have HB1 := Lib.hid hb1; have HR1 := Lib.hid (HR.out.up hb1)
      clear hb1 C
      obtain ⟨er, her⟩ : ∃ e, e = errR rs := ⟨_, rfl⟩
      rw [← her]
      have HER := Lib.hid her
      clear her
      by_cases hz : er = 0
      · have hz' : (er != 0) = false := by simpa using hz
        have HZ := Lib.hid (show errR rs = 0 by rw [← HER.out]; exact hz)
        have HF := Lib.hid (errR_form (rs := rs) HZ.out)
        clear hz
        go_wp2_with fail
        go_loopg [1, 5] m (fun g s1 s5 wr => ∃ (x : Nat) (vs : List Nat), s1 = .int .i64 x ∧ x ≤ m ∧ x ≤ g ∧ vs.length ≤ 1000 ∧ RowKit.Hid (vs ++ chain rs x = chain rs m) ∧ RowKit.Hid (I.OwnI wr w1.heap.size s5 (nums vs)) ∧ RowKit.Hid (Below w1.heap.size w1 wr))
        case atStart => exact ⟨m, [], by rw [HHM.out], by omega, by omega, by simp, Lib.hid rfl, Lib.hid (World.ownsRow_nil _ _ _ _), Lib.hid (Below.refl _ _)⟩
        case round =>
          obtain ⟨x, vs, rfl, hx, hg, hvl, HV, HO, HB⟩ := hrel
          obtain ⟨Av, cv, hsv, -⟩ := owni_form HO.out
          have hnl : (nums vs).length = vs.length := by simp [nums]
          rw [hnl] at hsv
          subst hsv
          clear hnl
          by_cases h0 : 0 < x
          · have h1 : (x : Int) > 0 := by omega
            obtain ⟨y, hy⟩ : ∃ y, y = x - 1 := ⟨_, rfl⟩
            have hyx : x = y + 1 := by omega
            have hok := HF.out y (by omega)
            have hyl : y < rs.length := by omega
            obtain ⟨b, off, r, z, hA, hb, hr, hcc, -⟩ := rrow_at (HR1.out.up HB.out) hyl
            have hbl : ∀ w2, Below w1.heap.size w1 w2 → w2.cell? ⟨b, off + y * 6 + 1, none⟩ = some (.int .i64 r.up) := fun w2 hb2 => by
              obtain ⟨b', off', r', z', hA', _, hr', hcc', -⟩ := rrow_at (HR1.out.up hb2) hyl
              rw [hA] at hA'
              obtain ⟨rfl, rfl⟩ : b = b' ∧ off = off' := by simpa using hA'
              rw [hr, ← hr']; exact hcc'.c1
            have hr' : rwAt rs y = r := by rw [rwAt_eq hyl, hr]
            obtain ⟨u1, u2⟩ := okAt_up hok
            rw [hr'] at u1 u2
            have hw : IntKind.i64.wrap ((x : Int) - 1) = (y : Int) := by rw [IntKind.wrap_i64]; omega
            have HV2 := Lib.hid (show (vs ++ [x]) ++ chain rs r.up.toNat = chain rs m by
              rw [← HV.out, List.append_assoc]
              congr 1
              rw [hyx, chain_succ hok, hr']; rfl)
            have hvl2 : (vs ++ [x]).length ≤ 1000 := by
              have h3 := congrArg List.length HV2.out
              rw [List.length_append] at h3
              have := chain_len rs m
              omega
            have HBL := Lib.hid hbl; have HYX := Lib.hid hyx
            have hbs := HB.out.size
            clear hok hr hr' hy hyx hbl hcc hb
            have hnn : (nums vs).length = vs.length := by simp [nums]
            have hown : wr.ownsRow w1.heap.size 3 1 (.slice Av vs.length cv) vs.length (I.ints (nums vs)) := by have := HO.out; unfold I.OwnI at this; rw [hnn] at this; exact this
            have HOW := Lib.hid hown
            clear hnn hown
            rw [List.length_append] at hvl2
            have hvl3 : vs.length + 1 ≤ 1000 := hvl2
            clear hvl2
            go_wp2_with (at_builtin; refine I.wpList_app1 rfl _ _ 46 rfl w1.heap.size 3 i0 (.int .i64 0) 8 Try.underlying46 hi hz0 hz1 hz2 rfl _ vs.length (I.ints (nums vs)) rfl HOW.out (.int .i64 (x : Int)) rfl rfl (by omega) (by unfold maxLen; omega) hbs ?_; intro v2 w2 hown2 hb2; have c1 := HBL.out w2 (HB.out.trans hb2))
            have HB2 := Lib.hid (HB.out.trans hb2)
            have HO2 := Lib.hid (show I.OwnI w2 w1.heap.size v2 (nums (vs ++ [x])) by unfold I.OwnI; simpa [I.ints, nums] using hown2)
            clear hown2 hb2
            try rw [← hA]
            go_roundg r.up.toNat
            case measure => have := HYX.out; omega
            case rel => exact ⟨r.up.toNat, vs ++ [x], by rw [Int.toNat_of_nonneg u1], by have := HYX.out; omega, by omega, by simp; omega, HV2, HO2, HB2⟩
          · obtain rfl : x = 0 := by omega
            have h1 : ¬ ((0 : Nat) : Int) > 0 := by omega
            have hvs : vs = chain rs m := by have := HV.out; rw [chain_zero] at this; simpa using this
            have hpos : 0 < vs.length := by rw [hvs, chain_top HF.out hm1 hml]; simp
            have hfin : pathL rs h = nums vs.reverse := by rw [HHM.out, pathL, if_pos ⟨by omega, by omega, HZ.out⟩, hvs]; rfl
            have hnn : (nums vs).length = vs.length := by simp [nums]
            obtain ⟨gb, rfl⟩ : ∃ gb, Av = some ⟨gb, 0, none⟩ := by
              rcases HO.out.2 with ⟨he, h0⟩ | ⟨g, cap, cur, he, _⟩
              · rw [hnn] at h0; omega
              · simp at he
                exact ⟨g, he.1⟩
            have hlt := World.ownsRow.lt HO.out gb rfl
            have hcap : vs.length ≤ cv ∧ cv ≤ maxLen := by
              obtain ⟨A', c', he, _, e1, e2, _⟩ := I.row_own HO.out
              simp at he
              obtain ⟨-, -, rfl⟩ := he
              rw [hnn] at e1
              exact ⟨e1, e2⟩
            have CR := Lib.hid (revI_any gb cv (nums vs) wr (.inr ⟨_, by rw [hnn]; have := HO.out; unfold I.OwnI at this; rw [hnn] at this; exact this⟩) (by rw [hnn]; omega))
            rw [hnn] at CR
            have HFIN := Lib.hid hfin; have HLT := Lib.hid hlt; have HCAP := Lib.hid hcap; have HNN := Lib.hid hnn
            clear hvs hpos hfin hnn hlt hcap
            go_wp2_with fail
            refine CR.out.mono ?_
            rintro e w3 ⟨rfl, hcells, hk3⟩
            have HCE := Lib.hid hcells; have HK3 := Lib.hid hk3
            clear hcells hk3 CR
            go_wp2_with fail
            go_ret
            rw [HFIN.out]
            have hrl : (nums vs.reverse).length = vs.length := by simp [nums]
            refine ⟨some ⟨gb, 0, none⟩, cv, by rw [hrl]; rfl, fun _ => ⟨gb, 0, rfl, Nat.lt_of_lt_of_le HLT.out.2 HK3.out.size, fun j hj => ?_⟩, by rw [hrl]; exact HCAP.out.1, HCAP.out.2, (fun h => by cases h), ?_⟩
            · rw [HCE.out j (by rw [← hrl]; exact hj)]
              simp [nums, List.map_reverse]
            · refine HB1.out.trans ((HB.out.trans (HK3.out.below HB.out.size (fun k hk => ?_))).mono HB1.out.size)
              have e : k = gb := hk
              have := HLT.out.1
              omega
      · have hz' : (er != 0) = true := by simpa using hz
        have HZ := Lib.hid hz
        clear hz
        go_wp2_with fail
        go_ret
        exact HNIL.out w1 HB1.out (fun q => HZ.out (by rw [HER.out]; exact q.2.2))
set_option maxHeartbeats 8000000 in
theorem rpath_any (A : Option Addr) (c : Nat) (rs : List Rw) (h : Int) (w : World) (H : RRow w w.heap.size A rs) (he : errR rs = 0) (hl : rs.length ≤ 1000) :
    Calls Try.prog 29 #[.slice A rs.length c, .int .i64 h] w (I.Made w (pathL rs h)) := by
  have HR := Lib.hid H; have HF := Lib.hid (errR_form (rs := rs) he); have HE := Lib.hid he
  obtain ⟨i0, hi, hz0, hz1, hz2⟩ := info_parts I.Try.info3
  clear H he
  by_cases hv : 1 ≤ h ∧ h ≤ rs.length
  · obtain ⟨m, hm⟩ : ∃ m : Nat, m = h.toNat := ⟨_, rfl⟩
    have hhm : h = (m : Int) := by omega
    subst hhm
    have hm1 : 1 ≤ m := by omega
    have hml : m ≤ rs.length := by omega
    clear hm hv
    go_enter Try.func29, Try.ntmps29
    go_wp2_with fail
    go_loopg [1, 5] m (fun g s1 s5 wr => ∃ (x : Nat) (vs : List Nat), s1 = .int .i64 x ∧ x ≤ m ∧ x ≤ g ∧ vs.length ≤ 1000 ∧ RowKit.Hid (vs.reverse ++ chain rs x = chain rs m) ∧ RowKit.Hid (I.OwnI wr w.heap.size s5 (nums vs)) ∧ RowKit.Hid (Below w.heap.size w wr))
    case atStart => exact ⟨m, [], rfl, by omega, by omega, by simp, Lib.hid rfl, Lib.hid (World.ownsRow_nil _ _ _ _), Lib.hid (Below.refl _ _)⟩
    case round =>
      obtain ⟨x, vs, rfl, hx, hg, hvl, HV, HO, HB⟩ := hrel
      obtain ⟨Av, cv, hsv, hrow, _, _, hnone⟩ := I.row_own HO.out
      have hnl : (nums vs).length = vs.length := by simp [nums]
      rw [hnl] at hsv
      subst hsv
      by_cases h0 : 0 < x
      · have h1 : (x : Int) > 0 := by omega
        have h1' : decide ((x : Int) > 0) = true := decide_eq_true h1
        have h2' : decide ((x : Int) ≤ (rs.length : Int)) = true := decide_eq_true (by omega)
        obtain ⟨y, hy⟩ : ∃ y, y = x - 1 := ⟨_, rfl⟩
        have hyx : x = y + 1 := by omega
        have hok := HF.out y (by omega)
        have hyl : y < rs.length := by omega
        obtain ⟨b, off, r, z, hA, hb, hr, hcc, -⟩ := rrow_at (HR.out.up HB.out) hyl
        have hbl : ∀ w2, Below w.heap.size w w2 → w2.cell? ⟨b, off + y * 6 + 1, none⟩ = some (.int .i64 r.up) := fun w2 hb2 => by
          obtain ⟨b', off', r', z', hA', _, hr', hcc', -⟩ := rrow_at (HR.out.up hb2) hyl
          rw [hA] at hA'
          obtain ⟨rfl, rfl⟩ : b = b' ∧ off = off' := by simpa using hA'
          rw [hr, ← hr']; exact hcc'.c1
        have hr' : rwAt rs y = r := by rw [rwAt_eq hyl, hr]
        obtain ⟨u1, u2⟩ := okAt_up hok
        rw [hr'] at u1 u2
        have hw : IntKind.i64.wrap ((x : Int) - 1) = (y : Int) := by rw [IntKind.wrap_i64]; omega
        have HV2 := Lib.hid (show (x :: vs).reverse ++ chain rs r.up.toNat = chain rs m by
          rw [← HV.out, List.reverse_cons, List.append_assoc]
          congr 1
          rw [hyx, chain_succ hok, hr']; rfl)
        have hvl2 : vs.length + 1 ≤ 1000 := by
          have h3 := congrArg List.length HV2.out
          rw [List.length_append, List.length_reverse, List.length_cons] at h3
          have := chain_len rs m
          omega
        have hsz := HB.out.size
        have HOW := Lib.hid (own_one wr (x : Int))
        have hbw : Below wr.heap.size wr (wr.alloc (.cells #[.int .i64 (x : Int)] 3)) := (Below.refl _ _).alloc (Nat.le_refl _) _
        have HRV := Lib.hid (show I.Row (wr.alloc (.cells #[.int .i64 (x : Int)] 3)) (wr.alloc (.cells #[.int .i64 (x : Int)] 3)).heap.size Av (nums vs) from (hrow.below hbw).mono hbw.size)
        have HBL := Lib.hid hbl; have HYX := Lib.hid hyx; have HNO := Lib.hid hnone; have HNL := Lib.hid hnl
        clear hok hr hr' hy hyx hbl hcc hb hrow hnone hnl hbw
        go_wp2_with (at_builtin; refine wpList_appI rfl _ _ 46 rfl wr.heap.size i0 Try.underlying46 hi hz0 hz1 hz2 _ [(x : Int)] rfl HOW.out Av vs.length cv (nums vs) rfl HNL.out HRV.out HNO.out (by simp; omega) (by simp) ?_; intro v2 w2 hown2 hb2; have c1 := HBL.out w2 (HB.out.trans (((Below.refl wr.heap.size wr).alloc (Nat.le_refl _) _ |>.trans hb2).mono hsz)))
        have HB2 := Lib.hid (HB.out.trans (((Below.refl wr.heap.size wr).alloc (Nat.le_refl _) _ |>.trans hb2).mono hsz))
        have HO2 := Lib.hid (show I.OwnI w2 w.heap.size v2 (nums (x :: vs)) by
          refine ⟨hown2.1, ?_⟩
          rcases hown2.2 with hn | ⟨g, cap, cur, rfl, hg, r⟩
          · exact .inl hn
          · exact .inr ⟨g, cap, cur, rfl, Nat.le_trans hsz hg, r⟩)
        clear hown2 hb2
        try rw [← hA]
        go_roundg r.up.toNat
        case measure => have := HYX.out; omega
        case rel => exact ⟨r.up.toNat, x :: vs, by rw [Int.toNat_of_nonneg u1], by have := HYX.out; omega, by omega, by simp; omega, HV2, HO2, HB2⟩
      · obtain rfl : x = 0 := by omega
        have h1 : ¬ ((0 : Nat) : Int) > 0 := by omega
        have h1' : decide (((0 : Nat) : Int) > 0) = false := decide_eq_false h1
        have HFIN := Lib.hid (show pathL rs (m : Int) = nums vs by
          have hvs := HV.out
          rw [chain_zero, List.append_nil] at hvs
          rw [pathL, if_pos ⟨by omega, by omega, HE.out⟩, show ((m : Int)).toNat = m from rfl, ← hvs, List.reverse_reverse])
        clear hrow hnone hnl
        go_wp2_with fail
        go_ret
        rw [HFIN.out]
        exact I.made_own HO.out HB.out
  · have HFIN := Lib.hid (show pathL rs h = [] by rw [pathL, if_neg (fun q => hv ⟨q.1, q.2.1⟩)])
    have HFI2 := Lib.hid (show I.Made w (pathL rs h) (.returned (.slice none 0 0)) w by rw [HFIN.out]; exact ⟨none, 0, rfl, I.Row.nil _ _ _, by simp, by simp [maxLen], fun _ => rfl, Below.refl _ _⟩)
    by_cases h1 : h > 0
    · have h1' : decide (h > 0) = true := decide_eq_true h1
      have h2' : decide (h ≤ (rs.length : Int)) = false := decide_eq_false (fun q => hv ⟨by omega, q⟩)
      clear hv h1
      go_enter Try.func29, Try.ntmps29
      go_wp2_with fail
      go_loopg [1, 5] 1 (fun g s1 s5 wr => s1 = .int .i64 h ∧ s5 = .slice none 0 0 ∧ RowKit.Hid (w = wr))
      case atStart => exact ⟨rfl, rfl, Lib.hid rfl⟩
      case round =>
        obtain ⟨rfl, rfl, HW⟩ := hrel
        obtain rfl := HW.out
        go_wp2_with fail
        go_ret
        exact HFI2.out
    · have h1' : decide (h > 0) = false := decide_eq_false h1
      clear hv h1
      go_enter Try.func29, Try.ntmps29
      go_wp2_with fail
      go_loopg [1, 5] 1 (fun g s1 s5 wr => s1 = .int .i64 h ∧ s5 = .slice none 0 0 ∧ RowKit.Hid (w = wr))
      case atStart => exact ⟨rfl, rfl, Lib.hid rfl⟩
      case round =>
        obtain ⟨rfl, rfl, HW⟩ := hrel
        obtain rfl := HW.out
        go_wp2_with fail
        go_ret
        exact HFI2.out
set_option maxHeartbeats 8000000 in
theorem rspan_any (A : Option Addr) (c : Nat) (rs : List Rw) (h : Nat) (w : World) (H : RRow w w.heap.size A rs) (hf : FormTo rs rs.length) (hh : h ≤ rs.length) (hl : rs.length ≤ 1000) :
    Calls Try.prog 28 #[.slice A rs.length c, .int .i64 h] w fun e w' => e = .returned (.int .i64 ((spanTo rs h rs.length : Nat) : Int)) ∧ w = w' := by
  have HR := Lib.hid H; have HF := Lib.hid hf
  have HLE := Lib.hid (spanTo_le rs h)
  clear H hf
  go_enter Try.func28, Try.ntmps28
  go_wp2_with fail
  go_loopg [5, 6, 9] rs.length (fun g s5 _ s9 wr => ∃ (k n : Nat), s9 = .int .i64 k ∧ s5 = .int .i64 n ∧ k ≤ rs.length ∧ rs.length - k ≤ g ∧ n ≤ k ∧ RowKit.Hid (n = spanTo rs h k) ∧ RowKit.Hid (w = wr))
  case atStart => exact ⟨0, 0, rfl, rfl, by omega, by omega, by omega, Lib.hid rfl, Lib.hid rfl⟩
  case round =>
    obtain ⟨k, n, rfl, rfl, hk, hg, hn, HN, HW⟩ := hrel
    by_cases hlt : k < rs.length
    · have h1 : (k : Int) < (rs.length : Int) := by omega
      have hwk : IntKind.i64.wrap ((k : Int) + 1) = (k : Int) + 1 := by rw [IntKind.wrap_i64]; omega
      have hwn : IntKind.i64.wrap ((n : Int) + 1) = (n : Int) + 1 := by rw [IntKind.wrap_i64]; omega
      have HYES := Lib.hid (show h = 0 ∨ h ∈ chain rs (k + 1) → n + 1 = spanTo rs h (k + 1) from fun q => by rw [spanTo, if_pos q, HN.out])
      have HNO := Lib.hid (show ¬ (h = 0 ∨ h ∈ chain rs (k + 1)) → n = spanTo rs h (k + 1) from fun q => by rw [spanTo, if_neg q, HN.out]; rfl)
      by_cases h0 : h = 0
      · have h0' : ((h : Int) == 0) = true := by rw [beq_iff_eq]; omega
        have HN2 := Lib.hid (HYES.out (.inl h0))
        clear h0
        go_wp2_with fail
        go_roundg (rs.length - (k + 1))
        case measure => omega
        case rel => exact ⟨k + 1, n + 1, by go_num, by go_num, by omega, by omega, by omega, HN2, HW⟩
      · have h0' : ((h : Int) == 0) = false := by rw [beq_eq_false_iff_ne]; omega
        by_cases he : k + 1 = h
        · have he' : ((k : Int) + 1 == (h : Int)) = true := by rw [beq_iff_eq]; omega
          have HN2 := Lib.hid (HYES.out (.inr (by rw [← he]; exact chain_self HF.out (by omega) (by omega))))
          clear h0 he
          go_wp2_with fail
          go_roundg (rs.length - (k + 1))
          case measure => omega
          case rel => exact ⟨k + 1, n + 1, by go_num, by go_num, by omega, by omega, by omega, HN2, HW⟩
        · have he' : ((k : Int) + 1 == (h : Int)) = false := by rw [beq_eq_false_iff_ne]; omega
          have C := Lib.hid (above_any A c rs (k + 1) (h : Int) wr (by rw [← HW.out]; exact HR.out) (HF.out.mono (by omega)) (by omega) (by omega))
          rw [show ((k + 1 : Nat) : Int) = (k : Int) + 1 from rfl] at C
          have H1 := Lib.hid (show InC rs (k + 1) (h : Int) ↔ h ∈ chain rs (k + 1) from ⟨fun q => q.2, fun q => ⟨by omega, q⟩⟩)
          have H0 := Lib.hid h0
          clear h0 he
          go_wp2_with fail
          refine C.out.mono ?_
          rintro e w2 ⟨q, rfl, hq, rfl⟩
          clear C
          cases q with
          | true =>
            have HN2 := Lib.hid (HYES.out (.inr (H1.out.1 (hq.1 rfl))))
            clear hq
            go_wp2_with fail
            go_roundg (rs.length - (k + 1))
            case measure => omega
            case rel => exact ⟨k + 1, n + 1, by go_num, by go_num, by omega, by omega, by omega, HN2, HW⟩
          | false =>
            have HN2 := Lib.hid (HNO.out (fun p => by
              rcases p with p | p
              · exact H0.out p
              · have := hq.2 (H1.out.2 p); cases this))
            clear hq
            go_wp2_with fail
            go_roundg (rs.length - (k + 1))
            case measure => omega
            case rel => exact ⟨k + 1, n, by go_num, rfl, by omega, by omega, by omega, HN2, HW⟩
    · have h1 : ¬ (k : Int) < (rs.length : Int) := by omega
      obtain rfl : k = rs.length := by omega
      go_wp2_with fail
      go_ret
      exact ⟨ret_int (by rw [← HN.out]), HW.out⟩
end Go.Proofs.Ytlkdklpglmglkaa
