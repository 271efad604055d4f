/-
  The reference parser's lists and records.
-/
import Derived.Test.YtjnhcoflmechmaaGreatDoorDDup
namespace Go.Proofs.YtjnhcoflmechmaaGreatDoor
open Go.RowKit Go.Sort
set_option linter.unusedVariables false
set_option maxRecDepth 100000
theorem rstep_bad {k5 : Bool} {o : Nat} {l : Bytes} {R0 : Rd (List ByteArray × List Dt)} {ns m : List ByteArray} {xs : List Dt} {n : Nat} {e : Int} (h : R0 = accE ns xs (elemsP k5 o l)) (he : el1P k5 o l = withN m (.bad n e)) : R0 = .bad n e := by
  rw [h, elems_bad (he.trans rfl)]; rfl
theorem rstep_more {k5 : Bool} {o : Nat} {l l3 : Bytes} {R0 : Rd (List ByteArray × List Dt)} {ns m : List ByteArray} {xs : List Dt} {R3 : Rd Dt} {d : Dt} (h : R0 = accE ns xs (elemsP k5 o l)) (he : el1P k5 o l = withN m R3) (hd : ∀ d' l, R3 = .ok d' l → d = d') (hm : R3.then (byteP 44) = .ok () l3) : R0 = accE (ns ++ m) (xs ++ [d]) (loopR k5 o true (.ok () l3)) := by
  cases R3 with
  | bad n e => cases hm
  | ok d' l2 =>
    obtain rfl := hd d' l2 rfl
    have e1 : el1P k5 o l = .ok (m, d) l2 := he
    rw [h, restP_more e1 hm, accE_acc]
theorem rstep_last {k5 : Bool} {o : Nat} {l : Bytes} {R0 : Rd (List ByteArray × List Dt)} {ns m : List ByteArray} {xs : List Dt} {R3 : Rd Dt} {d : Dt} {n : Nat} {e : Int} (h : R0 = accE ns xs (elemsP k5 o l)) (he : el1P k5 o l = withN m R3) (hd : ∀ d' l, R3 = .ok d' l → d = d') (hm : R3.then (byteP 44) = .bad n e) : R0 = accE (ns ++ m) (xs ++ [d]) (loopR k5 o false (R3.then fun l => .ok () l)) := by
  cases R3 with
  | bad n' e' => rw [rstep_bad h he]; rfl
  | ok d' l2 =>
    obtain rfl := hd d' l2 rfl
    have e1 : el1P k5 o l = .ok (m, d) l2 := he
    have e2 : byteP 44 l2 = .bad n e := hm
    rw [h, restP_last e1 e2, accE_acc]
    rfl
theorem then_len {k5 : Bool} {o : Nat} {l l' : Bytes} {m : List ByteArray} {R3 : Rd Dt} {u : Unit} (he : el1P k5 o l = withN m R3) (h : (R3.then fun l => (.ok () l : Rd Unit)) = .ok u l') : l'.length < l.length := by
  cases R3 with
  | bad n e => cases h
  | ok d l2 =>
    cases h
    have e1 : el1P k5 o l = .ok (m, d) l' := he
    exact (el1_suf e1).2
theorem then_len2 {k5 : Bool} {o : Nat} {l l' : Bytes} {m : List ByteArray} {R3 : Rd Dt} {u : Unit} (he : el1P k5 o l = withN m R3) (h : R3.then (byteP 44) = .ok u l') : l'.length + 1 < l.length := by
  cases R3 with
  | bad n e => cases h
  | ok d l2 =>
    have e1 : el1P k5 o l = .ok (m, d) l2 := he
    have e2 := byteP_ok (show byteP 44 l2 = .ok u l' from h)
    have := (el1_suf e1).2
    rw [e2] at this
    simpa using this
theorem el1_named {s : ByteArray} {b o : Nat} {T : ByteArray} (hT : T = runB nameC (strB (restL s b))) (h : nmB T = true) : el1P true o (restL s b) = withN [T] (((Rd.ok () (restL s (b + T.size)) : Rd Unit).then (byteP 61)).then (valP o)) := by
  subst hT
  rw [el1_eq h]
  show _ = withN _ ((byteP 61 (restL s (b + (runB nameC (strB (restL s b))).size))).then (valP o))
  rcases byteP 61 (restL s (b + (runB nameC (strB (restL s b))).size)) with ⟨u, l⟩ | ⟨n, e⟩ <;> rfl
theorem el1_unnamed {s : ByteArray} {b o : Nat} {T : ByteArray} (hT : T = runB nameC (strB (restL s b))) (h : nmB T = false) : el1P true o (restL s b) = withN [T] (((Rd.bad (s.size - b) 2 : Rd Unit).then (byteP 61)).then (valP o)) := by
  subst hT
  rw [el1_noname h]; rfl
theorem then_byte {c : UInt8} {S : Rd Unit} {u : Unit} {l' : Bytes} (h : S.then (byteP c) = .ok u l') : ∃ l0, S = .ok () l0 ∧ l'.length < l0.length := by
  cases S with
  | bad n e => cases h
  | ok x l =>
    have := byteP_ok (show byteP c l = .ok u l' from h)
    exact ⟨l, rfl, by rw [this]; simp⟩
/-- The state at the head of the loop. -/
structure RaS (P : Nat) (s : ByteArray) (D base : Nat) (kz : Int) (k5 : Bool) (o st nb : Nat) (R0 : Rd (List ByteArray × List Dt)) (w4 W : World) (mo : Bool) (S : Rd Unit) (ns : List ByteArray) (ps : List DV) (vN vK : Value) : Prop where
  q : RSt W P s o st S
  g : GS W base D P kz ns ps vN vK
  r : R0 = accE ns (ps.map Prod.fst) (loopR k5 o mo S)
  k : Kept (fun b => b = P ∨ b = D ∨ base ≤ b) w4 W
  n : ∀ u l, S = .ok u l → ps.length + l.length ≤ s.size ∧ l.length ≤ nb ∧ ns.length ≤ ps.length
set_option maxHeartbeats 16000000 in
theorem rall_any (k5 : Bool) (P : Nat) (s : ByteArray) (a o st : Nat) (w : World) (h : R5 w P s a o 0 st) (ha : a ≤ s.size) (hs : s.size ≤ 100000) (ho : o < 16) (ih : RPc P s (o + 1) st (s.size - a)) :
    Calls Tryz.prog 87 #[.pointer (some ⟨P, 0, none⟩), .bool k5] w (RValC P s o st (grpP k5 o (restL s a)) w) := by
  obtain ⟨w1, hw1⟩ : ∃ w1, w1 = zeroW w := ⟨_, rfl⟩
  have hk1 : Kept (fun _ => False) w w1 := by rw [hw1]; exact kept_alloc _ _ _
  have hz1 : B5 w1 w.heap.size 46 (.int .i64 0) (.int .i64 0) (.string ⟨#[]⟩) (.slice none 0 0) (.slice none 0 0) := by rw [hw1]; exact B5.new _ _ _ _ _ _ _ _ rfl
  have hp1 := h.kept hk1 (fun h => h)
  have hs1 : w1.heap.size = w.heap.size + 1 := by rw [hw1]; simp
  have hPw : P < w.heap.size := h.lt
  have hkw1 : Kept (· = P) w w1 := hk1.mono (fun _ _ h => absurd h (fun h => h))
  have HW1 := Lib.hid hw1
  obtain ⟨D, hD⟩ : ∃ D, D = w.heap.size + 1 := ⟨_, rfl⟩
  obtain ⟨w2, hw2⟩ : ∃ w2, w2 = w1.alloc (.cells #[.int .i64 4, .int .i64 0, .string ⟨#[]⟩, .slice none 0 0, .slice none 0 0] 46) := ⟨_, rfl⟩
  obtain ⟨w3, hw3⟩ : ∃ w3, w3 = if k5 then w2.setCell ⟨D, 0, none⟩ (.int .i64 5) else w2 := ⟨_, rfl⟩
  have hk2 : Kept (fun _ => False) w1 w2 := by rw [hw2]; exact kept_alloc _ _ _
  have hb2 : B5 w2 D 46 (.int .i64 4) (.int .i64 0) (.string ⟨#[]⟩) (.slice none 0 0) (.slice none 0 0) := by rw [hw2]; exact B5.new _ _ _ _ _ _ _ _ (by omega)
  have hk3 : Kept (· = D) w2 w3 := by
    rw [hw3]; cases k5
    · exact Kept.refl _ _
    · exact kept_setCell w2 ⟨D, 0, none⟩ _
  have hb3 : B5 w3 D 46 (.int .i64 (kindZ k5)) (.int .i64 0) (.string ⟨#[]⟩) (.slice none 0 0) (.slice none 0 0) := by
    rw [hw3]; cases k5
    · exact hb2
    · exact hb2.set0 _
  have hDP : ¬ P = D := by omega
  have hp3 : R5 w3 P s a o 0 st := (hp1.kept hk2 (fun h => h)).kept hk3 hDP
  have hkw3 : Kept (· = P) w w3 := (hkw1.trans (hk2.mono (fun _ _ h => absurd h (fun h => h)))).trans' hk3 (fun i hi h => by have : i = D := h; omega)
  have hz3 := (hz1.kept hk2 (fun h => h)).kept hk3 (show ¬ w.heap.size = D by omega)
  obtain ⟨w4, hw4⟩ : ∃ w4, w4 = w3.setCell ⟨P, 2, none⟩ (.int .i64 ((o : Int) + 1)) := ⟨_, rfl⟩
  have hk4 : Kept (· = P) w3 w4 := by rw [hw4]; exact kept_setCell w3 ⟨P, 2, none⟩ _
  have hp4 : R5 w4 P s a (o + 1) 0 st := by
    unfold R5; rw [show ((o + 1 : Nat) : Int) = (o : Int) + 1 by omega, hw4]; exact hp3.set2 _
  have hb4 := hb3.kept hk4 (fun h => hDP h.symm)
  have hz4 := hz3.kept hk4 (show ¬ w.heap.size = P by omega)
  have hkw4 := hkw3.trans hk4
  have hs4 : D + 1 ≤ w4.heap.size := hb4.lt
  have hg4 := gs_new (P := P) hb4 (by omega)
  obtain ⟨kz, hkz⟩ : ∃ kz, kz = kindZ k5 := ⟨_, rfl⟩
  rw [← hkz] at hg4
  obtain ⟨R0, hR0⟩ : ∃ R0, R0 = withinP k5 (o + 1) (restL s a) := ⟨_, rfl⟩
  have HG := Lib.hid (show grpP k5 o (restL s a) = grpR kz R0 from by rw [hR0, hkz]; exact grpP_eq (by omega))
  generalize grpP k5 o (restL s a) = G at HG ⊢
  have HST := Lib.hid (hR0.trans (start_loop k5 s a (o + 1)))
  obtain ⟨kc, hkc⟩ : ∃ kc : Int, kc = ((closeC k5).toNat : Int) := ⟨_, rfl⟩
  obtain ⟨nb, hnb⟩ : ∃ nb, nb = s.size - a := ⟨_, rfl⟩
  have HMUST := Lib.hid (show ∀ (S : Rd Unit) (W : World), RSt W P s (o + 1) st S → Calls Tryz.prog 122 #[.pointer (some ⟨P, 0, none⟩), .int .u8 kc] W fun e w' => e = .returned (.tuple #[]) ∧ RSt w' P s (o + 1) st (S.then (byteP (closeC k5))) ∧ Kept (· = P) W w' from fun S W hS => by rw [hkc]; exact rmust_any P s (o + 1) st (closeC k5) S W hS (by omega))
  have CE := ris_new P s a (o + 1) st (closeC k5) w4 hp4 ha (by omega)
  rw [← hkc] at CE
  obtain ⟨ic, hic⟩ : ∃ ic, ic = isC s a (closeC k5) := ⟨_, rfl⟩
  rw [← hic] at CE
  have HIC := Lib.hid hic
  rw [← hnb] at ih
  have HPC := Lib.hid ih
  have hla := restL_len s a
  have HKW4 := Lib.hid hkw4; have HZ4 := Lib.hid hz4; have HP4 := Lib.hid hp4; have HG4 := Lib.hid hg4
  have HW2 := Lib.hid hw2.symm; have HW3 := Lib.hid hw3.symm; have HW4 := Lib.hid hw4.symm
  obtain ⟨a0, a1, a2, a3, a4⟩ := hp1.cells
  obtain ⟨b0, b1, b2, b3, b4⟩ := hp3.cells
  have f2 := hp3.frozen 2
  obtain ⟨c0, c1, c2, c3, c4⟩ := hb2.cells
  have g0 := hb2.frozen 0
  have hwr : IntKind.i64.wrap ((o : Int) + 1) = (o : Int) + 1 := by rw [IntKind.wrap_i64]; omega
  have HLA := Lib.hid hla
  clear hk1 hz1 hp1 hw1 ih h hkw1 hw2 hw3 hw4 hk2 hb2 hk3 hb3 hp3 hkw3 hz3 hk4 hp4 hb4 hz4 hkw4 hg4 hR0 hkz hic hla
  subst hD
  have hDs : ¬ w.heap.size = w.heap.size + 1 := by omega
  cases k5
  · obtain rfl : kc = 93 := hkc
    have CE2 := Lib.hid CE
    clear CE
    go_enter Tryz.func87, Tryz.ntmps87
    go_upto_region 1 with (fail)
    rw [zeroW_out HW1]
    go_upto_region 2 with (fail)
    rw [HW2.out]
    go_upto_region 6 with (fail)
    rw [show w2 = w3 from HW3.out]
    clear a0 a1 a2 a3 a4 c0 c1 c2 c3 c4 g0
    go_upto_region 7 with (fail)
    rw [HW4.out]
    clear b0 b1 b2 b3 b4 f2 HW1 HW2 HW3 HW4
    go_wp2_with fail
    refine CE2.out.mono ?_
    rintro e w5 ⟨rfl, q, hq⟩
    have hk5 : Kept (fun _ => False) w4 w5 := by rw [hq]; exact kept_drew _ _ _
    have HS0 := Lib.hid (show RaS P s (w.heap.size + 1) (w.heap.size + 1 + 1) kz false (o + 1) st nb R0 w4 w5 (!ic) (.ok () (restL s a)) [] [] _ _ from ⟨rst_ok () ha (HP4.out.kept hk5 (fun h => h)), HG4.out.keepP (hk5.mono (fun _ _ h => absurd h (fun h => h))), by rw [HIC.out]; exact HST.out, hk5.mono (fun _ _ h => absurd h (fun h => h)), fun u l h => by cases h; simp only [List.length_nil]; have := HLA.out; omega⟩)
    clear hq hk5 CE2 HP4 HG4 HIC HST
    go_wp2_with fail
    go_loopg [7] (mesR (!ic) (.ok () (restL s a))) (fun m s7 wr => ∃ (mo : Bool) (S : Rd Unit) (ns : List ByteArray) (ps : List DV) (vN vK : Value), s7 = .bool mo ∧ RowKit.Hid (RaS P s (w.heap.size + 1) (w.heap.size + 1 + 1) kz false (o + 1) st nb R0 w4 wr mo S ns ps vN vK) ∧ mesR mo S ≤ m)
    case atStart => exact ⟨_, _, _, _, _, _, rfl, HS0, Nat.le_refl _⟩
    case round =>
      obtain ⟨mo, S, ns, ps, vN, vK, rfl, HS, hm⟩ := hrel
      clear HS0 HLA
      have CE := True.intro
      cases mo with
      | false =>
        have CX := Lib.hid (HMUST.out S wr HS.out.q)
        have HX := Lib.hid (exit_ok HS.out.r (by first | exact .inl rfl | exact .inr ⟨_, _, rfl⟩))
        have HG9 := Lib.hid HS.out.g; have HKK := Lib.hid HS.out.k
        clear HS CE
        go_wp2_with fail
        refine CX.out.mono ?_
        rintro e w5 ⟨rfl, hrs5, hk5⟩
        have hg5 := HG9.out.keepP hk5
        obtain ⟨x, rfl, rfl, hdi⟩ := hg5.value
        have hkk5 := HKK.out.trans (hk5.mono (T := fun b => b = P ∨ b = w.heap.size + 1 ∨ w.heap.size + 1 + 1 ≤ b) (fun b _ h => .inl h))
        have hz5 := HZ4.out.kept hkk5 (show ¬ (w.heap.size = P ∨ w.heap.size = w.heap.size + 1 ∨ w.heap.size + 1 + 1 ≤ w.heap.size) by omega)
        obtain ⟨w6, hw6⟩ : ∃ w6, w6 = w5.setCell ⟨P, 2, none⟩ (.int .i64 (o : Int)) := ⟨_, rfl⟩
        have hk6 : Kept (· = P) w5 w6 := by rw [hw6]; exact kept_setCell w5 ⟨P, 2, none⟩ _
        have hrs6 := hrs5.setO o
        rw [← hw6] at hrs6
        have hz6 := hz5.kept hk6 (show ¬ w.heap.size = P by omega)
        have hb6 := hg5.box.kept hk6 (fun h => hDP h.symm)
        obtain ⟨W, hW⟩ : ∃ W, W = put5 w6 w.heap.size (.int .i64 kz) (.int .i64 0) (.string ⟨#[]⟩) (.slice x.A ns.length x.ca) (.slice x.K ps.length x.ck) := ⟨_, rfl⟩
        have hkW : Kept (· = w.heap.size) w6 W := by rw [hW]; exact kept_put5 _ _ _ _ _ _ _
        have hrsW := hrs6.kept hkW (show ¬ P = w.heap.size by omega)
        have hdW := ((hdi.kept hk6 (fun b hb _ e => by have e' : b = P := e; have hb' : w.heap.size + 1 + 1 ≤ b := hb; omega)).kept hkW (fun b hb _ e => by have e' : b = w.heap.size := e; have hb' : w.heap.size + 1 + 1 ≤ b := hb; omega)).mono (S' := fun b => w.heap.size ≤ b) (fun b hb _ => by have hb' : w.heap.size + 1 + 1 ≤ b := hb; omega)
        have hkWW : Kept (· = P) w W := ((HKW4.out.trans' hkk5 (fun i hi h => by rcases h with h | h | h <;> omega)).trans hk6).trans' hkW (fun i hi h => by have h' : i = w.heap.size := h; omega)
        have hZ := hz6.put (.int .i64 kz) (.int .i64 0) (.string ⟨#[]⟩) (.slice x.A ns.length x.ca) (.slice x.K ps.length x.ck)
        rw [← hW] at hZ
        have HZ := Lib.hid hZ; have HW := Lib.hid hW.symm
        have HF := Lib.hid (show RValC P s o st G w (.returned (.agg #[.int .i64 kz, .int .i64 0, .string ⟨#[]⟩, .slice x.A ns.length x.ca, .slice x.K ps.length x.ck])) W from by
          refine ⟨.mk kz 0 ⟨#[]⟩ ns (ps.map Prod.fst), x, by simp [datV, Dt.kind, Dt.num, Dt.text, Dt.names, Dt.list], hdW, fun d' l h => ?_, hrsW.to (fun u l h => ?_) (fun n e h => ?_), hkWW⟩
          · rw [HG.out] at h
            rcases hb : S.then (byteP (closeC _)) with ⟨u, l'⟩ | ⟨n, e⟩
            · rw [HX.out.1 u l' hb] at h; cases h; rfl
            · rw [HX.out.2 n e hb] at h; cases h
          · rw [HG.out, HX.out.1 u l h]; exact ⟨_, rfl⟩
          · rw [HG.out, HX.out.2 n e h]; rfl)
        have d2 := hrs5.cells.1
        have d2' : w5.cell? ⟨P, 2, none⟩ = some (.int .i64 ((o : Int) + 1)) := by rw [d2]; rfl
        have k2 := hrs5.cells.2
        obtain ⟨m0, m1, m2, m3, m4⟩ := hb6.cells
        obtain ⟨z0, z1, z2, z3, z4⟩ := hz6.cells
        have y0 := hz6.frozen 0; have y1 := hz6.frozen 1; have y2 := hz6.frozen 2; have y3 := hz6.frozen 3; have y4 := hz6.frozen 4
        have hwr2 : IntKind.i64.wrap ((o : Int) + 1 - 1) = (o : Int) := by rw [IntKind.wrap_i64]; omega
        have hwr3 : IntKind.i64.wrap (o : Int) = (o : Int) := by rw [IntKind.wrap_i64]; omega
        have HW6 := Lib.hid hw6.symm
        clear hrs5 hg5 hk5 hkk5 hdi hz5 hw6 hk6 hrs6 hz6 hb6 hW hkW hrsW hdW hkWW hZ d2 CX HX HG9 HKK HKW4 HZ4 HG HPC HMUST
        go_upto_region 22 with (fail)
        rw [HW6.out]
        go_wp2_with fail
        rw [show (((((w6.setCell ⟨w.heap.size, 0, none⟩ (.int .i64 kz)).setCell ⟨w.heap.size, 1, none⟩ (.int .i64 0)).setCell ⟨w.heap.size, 2, none⟩ (.string ⟨#[]⟩)).setCell ⟨w.heap.size, 3, none⟩ (.slice x.A ns.length x.ca)).setCell ⟨w.heap.size, 4, none⟩ (.slice x.K ps.length x.ck)) = W from HW.out]
        refine bodyPost_ret (res51 rfl _ _ w.heap.size _ _ _ _ _ rfl HZ.out) rfl ?_
        exact HF.out
      | true =>
        cases S with
        | bad n er =>
          have her := HS.out.q.er
          have hne : (er == 0) = false := by rcases HS.out.q.erB with rfl | rfl <;> rfl
          obtain ⟨S, hSS⟩ : ∃ S : Rd Unit, S = .bad n er := ⟨_, rfl⟩
          rw [← hSS] at HS hm her
          have her' : wr.cell? ⟨P, 3, none⟩ = some (.int .i64 er) := by rw [her, hSS]; rfl
          clear her
          have CX := Lib.hid (HMUST.out S wr HS.out.q)
          have HX := Lib.hid (exit_ok HS.out.r (by first | exact .inl rfl | exact .inr ⟨n, er, hSS⟩))
          have HG9 := Lib.hid HS.out.g; have HKK := Lib.hid HS.out.k
          clear HS CE hSS
          go_wp2_with fail
          refine CX.out.mono ?_
          rintro e w5 ⟨rfl, hrs5, hk5⟩
          have hg5 := HG9.out.keepP hk5
          obtain ⟨x, rfl, rfl, hdi⟩ := hg5.value
          have hkk5 := HKK.out.trans (hk5.mono (T := fun b => b = P ∨ b = w.heap.size + 1 ∨ w.heap.size + 1 + 1 ≤ b) (fun b _ h => .inl h))
          have hz5 := HZ4.out.kept hkk5 (show ¬ (w.heap.size = P ∨ w.heap.size = w.heap.size + 1 ∨ w.heap.size + 1 + 1 ≤ w.heap.size) by omega)
          obtain ⟨w6, hw6⟩ : ∃ w6, w6 = w5.setCell ⟨P, 2, none⟩ (.int .i64 (o : Int)) := ⟨_, rfl⟩
          have hk6 : Kept (· = P) w5 w6 := by rw [hw6]; exact kept_setCell w5 ⟨P, 2, none⟩ _
          have hrs6 := hrs5.setO o
          rw [← hw6] at hrs6
          have hz6 := hz5.kept hk6 (show ¬ w.heap.size = P by omega)
          have hb6 := hg5.box.kept hk6 (fun h => hDP h.symm)
          obtain ⟨W, hW⟩ : ∃ W, W = put5 w6 w.heap.size (.int .i64 kz) (.int .i64 0) (.string ⟨#[]⟩) (.slice x.A ns.length x.ca) (.slice x.K ps.length x.ck) := ⟨_, rfl⟩
          have hkW : Kept (· = w.heap.size) w6 W := by rw [hW]; exact kept_put5 _ _ _ _ _ _ _
          have hrsW := hrs6.kept hkW (show ¬ P = w.heap.size by omega)
          have hdW := ((hdi.kept hk6 (fun b hb _ e => by have e' : b = P := e; have hb' : w.heap.size + 1 + 1 ≤ b := hb; omega)).kept hkW (fun b hb _ e => by have e' : b = w.heap.size := e; have hb' : w.heap.size + 1 + 1 ≤ b := hb; omega)).mono (S' := fun b => w.heap.size ≤ b) (fun b hb _ => by have hb' : w.heap.size + 1 + 1 ≤ b := hb; omega)
          have hkWW : Kept (· = P) w W := ((HKW4.out.trans' hkk5 (fun i hi h => by rcases h with h | h | h <;> omega)).trans hk6).trans' hkW (fun i hi h => by have h' : i = w.heap.size := h; omega)
          have hZ := hz6.put (.int .i64 kz) (.int .i64 0) (.string ⟨#[]⟩) (.slice x.A ns.length x.ca) (.slice x.K ps.length x.ck)
          rw [← hW] at hZ
          have HZ := Lib.hid hZ; have HW := Lib.hid hW.symm
          have HF := Lib.hid (show RValC P s o st G w (.returned (.agg #[.int .i64 kz, .int .i64 0, .string ⟨#[]⟩, .slice x.A ns.length x.ca, .slice x.K ps.length x.ck])) W from by
            refine ⟨.mk kz 0 ⟨#[]⟩ ns (ps.map Prod.fst), x, by simp [datV, Dt.kind, Dt.num, Dt.text, Dt.names, Dt.list], hdW, fun d' l h => ?_, hrsW.to (fun u l h => ?_) (fun n e h => ?_), hkWW⟩
            · rw [HG.out] at h
              rcases hb : S.then (byteP (closeC _)) with ⟨u, l'⟩ | ⟨n, e⟩
              · rw [HX.out.1 u l' hb] at h; cases h; rfl
              · rw [HX.out.2 n e hb] at h; cases h
            · rw [HG.out, HX.out.1 u l h]; exact ⟨_, rfl⟩
            · rw [HG.out, HX.out.2 n e h]; rfl)
          have d2 := hrs5.cells.1
          have d2' : w5.cell? ⟨P, 2, none⟩ = some (.int .i64 ((o : Int) + 1)) := by rw [d2]; rfl
          have k2 := hrs5.cells.2
          obtain ⟨m0, m1, m2, m3, m4⟩ := hb6.cells
          obtain ⟨z0, z1, z2, z3, z4⟩ := hz6.cells
          have y0 := hz6.frozen 0; have y1 := hz6.frozen 1; have y2 := hz6.frozen 2; have y3 := hz6.frozen 3; have y4 := hz6.frozen 4
          have hwr2 : IntKind.i64.wrap ((o : Int) + 1 - 1) = (o : Int) := by rw [IntKind.wrap_i64]; omega
          have hwr3 : IntKind.i64.wrap (o : Int) = (o : Int) := by rw [IntKind.wrap_i64]; omega
          have HW6 := Lib.hid hw6.symm
          clear hrs5 hg5 hk5 hkk5 hdi hz5 hw6 hk6 hrs6 hz6 hb6 hW hkW hrsW hdW hkWW hZ d2 CX HX HG9 HKK HKW4 HZ4 HG HPC HMUST
          go_upto_region 22 with (fail)
          rw [HW6.out]
          go_wp2_with fail
          rw [show (((((w6.setCell ⟨w.heap.size, 0, none⟩ (.int .i64 kz)).setCell ⟨w.heap.size, 1, none⟩ (.int .i64 0)).setCell ⟨w.heap.size, 2, none⟩ (.string ⟨#[]⟩)).setCell ⟨w.heap.size, 3, none⟩ (.slice x.A ns.length x.ca)).setCell ⟨w.heap.size, 4, none⟩ (.slice x.K ps.length x.ck)) = W from HW.out]
          refine bodyPost_ret (res51 rfl _ _ w.heap.size _ _ _ _ _ rfl HZ.out) rfl ?_
          exact HF.out
        | ok u0 l =>
          obtain ⟨hl1, hl2, hl3⟩ := HS.out.q
          obtain ⟨b, hb⟩ : ∃ b, b = s.size - l.length := ⟨_, rfl⟩
          rw [← hb] at hl2 hl3
          have hbs : b ≤ s.size := by omega
          obtain ⟨hn1, hn2, hn3⟩ := HS.out.n _ _ rfl
          obtain ⟨vL, vcl, rfl⟩ := row_form HS.out.g.rk
          have HR0 := Lib.hid (show R0 = accE ns (ps.map Prod.fst) (elemsP false (o + 1) l) from HS.out.r)
          have e3 := hl3.cells.2.2.2.1
          obtain ⟨S2, hS2⟩ : ∃ S2 : Rd Unit, S2 = .ok u0 l := ⟨_, rfl⟩
          have HS2 := Lib.hid (show RSt wr P s (o + 1) st S2 by rw [hS2]; exact HS.out.q)
          have HE2 := Lib.hid (show el1P false (o + 1) l = withN [] (S2.then (valP (o + 1))) by rw [hS2]; rfl)
          have HLB := Lib.hid (show ∀ x l', S2 = .ok x l' → l'.length ≤ nb from fun x l' h => by rw [hS2] at h; cases h; exact hn2)
          obtain ⟨m2, hm2⟩ : ∃ m2 : List ByteArray, m2 = [] := ⟨_, rfl⟩
          rw [← hm2] at HE2
          obtain ⟨ns2, hns2⟩ : ∃ ns2, ns2 = ns := ⟨_, rfl⟩
          have HN2 := Lib.hid (show ns2 = ns ++ m2 ∧ ns2.length ≤ ps.length + 1 from ⟨by rw [hns2, hm2]; simp, by rw [hns2]; omega⟩)
          obtain ⟨vN2, hvN2⟩ : ∃ vN2, vN2 = vN := ⟨_, rfl⟩
          have hgg := HS.out.g
          rw [← hns2, ← hvN2] at hgg
          have HG2 := Lib.hid hgg; have HK2 := Lib.hid HS.out.k
          have hpl : ps.length ≤ 100000 := by omega
          clear hS2 hm2 hns2 hvN2 hgg HS hl1 hl2 hl3
          obtain ⟨wm, hwm⟩ : ∃ wm, wm = wr := ⟨_, rfl⟩
          subst hwm
          obtain ⟨R3, hR3⟩ : ∃ R3, R3 = S2.then (valP (o + 1)) := ⟨_, rfl⟩
          have CP0 := HPC.out S2 wm.drew (HS2.out.kept (kept_below (below_drewN _ wm 1) (fun _ => False)) (fun h => h)) HLB.out
          have HE3 := HE2.out
          rw [← hR3] at CP0 HE3
          have CP := Lib.hid CP0; have HE := Lib.hid HE3
          obtain ⟨d0, d1, d2, d3, d4⟩ := HG2.out.box.cells
          have hPb := HG2.out.hP
          have hDb := HG2.out.hD
          have hms := HK2.out.size
          clear hR3 CP0 HE3 HE2 HS2 d0 d1 d2 d3
          go_wp2_with fail
          go_region_law ((first
            | (refine step_append_run rfl (.tmp 54) (.tmp 57) 44 rfl (.slice vL ps.length vcl) (.slice (some ⟨w6.heap.size, 0, none⟩) 1 1) (by simp [Act.eval]) (by simp [Act.eval]) hr7.out ?_)
            | (go_simp; go_at_call 51; refine CP.out.mono ?_; rintro e w6 ⟨d, x, rfl, hdi6, hdd6, hrs6, hk6⟩; have HDD := Lib.hid hdd6; have HRS6 := Lib.hid hrs6; have HK6 := Lib.hid (show Kept (· = P) wm w6 from (kept_drew wm 1 _).trans hk6); have HDI6 := Lib.hid hdi6; have HG6 := Lib.hid (HG2.out.keepP HK6.out); have hs6 := HK6.out.size; obtain ⟨A7, c7, w7, hr7', ho7', hk7', hf7'⟩ := dat_app w6 (w.heap.size + 1 + 1) _ ps d x HG6.out.rk (by omega) (by omega); have hr7 := Lib.hid hr7'; have ho7 := Lib.hid ho7'; have hk7 := Lib.hid hk7'; have hf7 := Lib.hid hf7'; have hDo : ¬ OwnB (.slice vL ps.length vcl) (w.heap.size + 1) := (fun e => by have := (HG6.out.rk.lt _ e).1; omega); have f6 := HG6.out.box.cells.2.2.2.2; have f6a : (w6.alloc (.cells #[.int .i64 d.kind, .int .i64 d.num, .string d.text, .slice x.A d.names.length x.ca, .slice x.K d.list.length x.ck] 46)).cell? ⟨w.heap.size + 1, 4, none⟩ = some (.slice vL ps.length vcl) := cell_push f6; have hbx7 := HG6.out.box.kept hk7.out hDo; have f7 := hbx7.cells.2.2.2.2; have z7 := hbx7.frozen 4; clear hr7' ho7' hk7' hf7' hdi6 hdd6 hrs6 hk6 hbx7)))
          all_goals
            have HDI := Lib.hid (show DatIn w6 (fun b => w.heap.size + 1 + 1 ≤ b ∧ ¬ OwnB vN2 b ∧ ¬ OwnB (.slice vL ps.length vcl) b) d x from HDI6.out.mono (fun b hb _ => by have hb' : wm.heap.size ≤ b := hb; exact ⟨by omega, fun e => by have := (HG2.out.rn.lt _ e).2; omega, fun e => by have := (HG2.out.rk.lt _ e).2; omega⟩))
            have HG8 := Lib.hid (HG6.out.add (d := d) (x := x) (W' := w7) ho7.out hk7.out hf7.out HDI.out)
            have HK8 := Lib.hid (kept_setCell w7 ⟨w.heap.size + 1, 4, none⟩ (.slice A7 (ps.length + 1) c7))
            have hPo : ¬ OwnB (.slice vL ps.length vcl) P := fun e => by have := (HG6.out.rk.lt _ e).1; omega
            have HRS7 := Lib.hid (HRS6.out.kept hk7.out hPo)
            have HO7 := Lib.hid (show ∀ b, OwnB (.slice vL ps.length vcl) b → w.heap.size + 1 + 1 ≤ b from fun b h => (HG6.out.rk.lt _ h).1)
            clear f6 f6a f7 z7 CP d4 HG6 HDI HDI6 HRS6 HG2
            generalize w7.setCell ⟨w.heap.size + 1, 4, none⟩ (.slice A7 (ps.length + 1) c7) = w8 at HK8 HG8 ⊢
            have HRS8 := Lib.hid (HRS7.out.kept HK8.out hDP)
            have HK28 := Lib.hid (((HK2.out.trans (HK6.out.mono (fun b _ h => .inl h))).trans (hk7.out.mono (fun b _ h => .inr (.inr (HO7.out b h))))).trans (HK8.out.mono (fun b _ h => .inr (.inl h))))
            have CI := Lib.hid (show Calls Tryz.prog 123 #[.pointer (some ⟨P, 0, none⟩), .int .u8 44] w8 _ from ris_any P s (o + 1) st 44 R3 w8 HRS8.out (by omega))
            clear HK2 HK6 hk7 HK8 HRS7 HO7 ho7 hf7 hr7
            go_wp2_with fail
            refine CI.out.mono ?_
            rintro e w9 ⟨r, rfl, hr, q, hq⟩
            have hk9 : Kept (fun _ => False) w8 w9 := by rw [hq]; exact kept_drew _ _ _
            have HRS9 := Lib.hid (HRS8.out.kept hk9 (fun h => h))
            have HG9 := Lib.hid (HG8.out.keepP (hk9.mono (fun _ _ h => absurd h (fun h => h))))
            have HK9 := Lib.hid (HK28.out.trans (hk9.mono (fun _ _ h => absurd h (fun h => h))))
            clear hq hk9 HRS8 HG8 HK28 CI
            rcases hr with ⟨l3, rfl, hr⟩ | ⟨rfl, n', e', hr⟩
            · have hln := then_len2 HE.out hr
              have CM := Lib.hid (show Calls Tryz.prog 122 #[.pointer (some ⟨P, 0, none⟩), .int .u8 44] w9 _ from rmust_any P s (o + 1) st 44 R3 w9 HRS9.out (by omega))
              have HHR := Lib.hid hr
              clear HRS9 hr
              go_wp2_with fail
              refine CM.out.mono ?_
              rintro e w10 ⟨rfl, hrs10, hk10⟩
              have HNX := Lib.hid (show RaS P s (w.heap.size + 1) (w.heap.size + 1 + 1) kz false (o + 1) st nb R0 w4 w10 true (.ok () l3) ns2 (ps ++ [(d, x)]) _ _ from ⟨by have := hrs10; rw [HHR.out] at this; exact this, HG9.out.keepP hk10, by rw [HN2.out.1, List.map_append]; exact rstep_more HR0.out HE.out HDD.out HHR.out, HK9.out.trans (hk10.mono (fun b _ h => .inl h)), fun u l' h => by cases h; have := HN2.out.2; simp only [List.length_append, List.length_cons, List.length_nil]; omega⟩)
              clear hrs10 hk10 CM HG9 HK9
              go_wp2_with fail
              go_roundg (mesR true (.ok () l3))
              case measure => simp only [mesR, if_true] at hm ⊢; omega
              case rel => exact ⟨true, _, _, _, _, _, rfl, HNX, Nat.le_refl _⟩
            · have HHR := Lib.hid hr
              have HNX := Lib.hid (show RaS P s (w.heap.size + 1) (w.heap.size + 1 + 1) kz false (o + 1) st nb R0 w4 w9 false (R3.then fun l => .ok () l) ns2 (ps ++ [(d, x)]) _ _ from ⟨HRS9.out.to (fun u l h => by rw [h]; exact ⟨(), rfl⟩) (fun n e h => by rw [h]; rfl), HG9.out, by rw [HN2.out.1, List.map_append]; exact rstep_last HR0.out HE.out HDD.out HHR.out, HK9.out, fun u l' h => by have := then_len HE.out h; have := HN2.out.2; simp only [List.length_append, List.length_cons, List.length_nil]; omega⟩)
              clear HRS9 HG9 HK9 hr
              go_wp2_with fail
              go_roundg (mesR false (R3.then fun l => .ok () l))
              case measure => cases R3 <;> (simp [mesR, Rd.then] at hm ⊢; try omega)
              case rel => exact ⟨false, _, _, _, _, _, rfl, HNX, Nat.le_refl _⟩
  · obtain rfl : kc = 125 := hkc
    have CE2 := Lib.hid CE
    clear CE
    go_enter Tryz.func87, Tryz.ntmps87
    go_upto_region 1 with (fail)
    rw [zeroW_out HW1]
    go_upto_region 2 with (fail)
    rw [HW2.out]
    go_upto_region 6 with (fail)
    rw [show w2.setCell ⟨w.heap.size + 1, 0, none⟩ (.int .i64 5) = w3 from HW3.out]
    clear a0 a1 a2 a3 a4 c0 c1 c2 c3 c4 g0
    go_upto_region 7 with (fail)
    rw [HW4.out]
    clear b0 b1 b2 b3 b4 f2 HW1 HW2 HW3 HW4
    go_wp2_with fail
    refine CE2.out.mono ?_
    rintro e w5 ⟨rfl, q, hq⟩
    have hk5 : Kept (fun _ => False) w4 w5 := by rw [hq]; exact kept_drew _ _ _
    have HS0 := Lib.hid (show RaS P s (w.heap.size + 1) (w.heap.size + 1 + 1) kz true (o + 1) st nb R0 w4 w5 (!ic) (.ok () (restL s a)) [] [] _ _ from ⟨rst_ok () ha (HP4.out.kept hk5 (fun h => h)), HG4.out.keepP (hk5.mono (fun _ _ h => absurd h (fun h => h))), by rw [HIC.out]; exact HST.out, hk5.mono (fun _ _ h => absurd h (fun h => h)), fun u l h => by cases h; simp only [List.length_nil]; have := HLA.out; omega⟩)
    clear hq hk5 CE2 HP4 HG4 HIC HST
    go_wp2_with fail
    go_loopg [7] (mesR (!ic) (.ok () (restL s a))) (fun m s7 wr => ∃ (mo : Bool) (S : Rd Unit) (ns : List ByteArray) (ps : List DV) (vN vK : Value), s7 = .bool mo ∧ RowKit.Hid (RaS P s (w.heap.size + 1) (w.heap.size + 1 + 1) kz true (o + 1) st nb R0 w4 wr mo S ns ps vN vK) ∧ mesR mo S ≤ m)
    case atStart => exact ⟨_, _, _, _, _, _, rfl, HS0, Nat.le_refl _⟩
    case round =>
      obtain ⟨mo, S, ns, ps, vN, vK, rfl, HS, hm⟩ := hrel
      clear HS0 HLA
      have CE := True.intro
      cases mo with
      | false =>
        have CX := Lib.hid (HMUST.out S wr HS.out.q)
        have HX := Lib.hid (exit_ok HS.out.r (by first | exact .inl rfl | exact .inr ⟨_, _, rfl⟩))
        have HG9 := Lib.hid HS.out.g; have HKK := Lib.hid HS.out.k
        clear HS CE
        go_wp2_with fail
        refine CX.out.mono ?_
        rintro e w5 ⟨rfl, hrs5, hk5⟩
        have hg5 := HG9.out.keepP hk5
        obtain ⟨x, rfl, rfl, hdi⟩ := hg5.value
        have hkk5 := HKK.out.trans (hk5.mono (T := fun b => b = P ∨ b = w.heap.size + 1 ∨ w.heap.size + 1 + 1 ≤ b) (fun b _ h => .inl h))
        have hz5 := HZ4.out.kept hkk5 (show ¬ (w.heap.size = P ∨ w.heap.size = w.heap.size + 1 ∨ w.heap.size + 1 + 1 ≤ w.heap.size) by omega)
        obtain ⟨w6, hw6⟩ : ∃ w6, w6 = w5.setCell ⟨P, 2, none⟩ (.int .i64 (o : Int)) := ⟨_, rfl⟩
        have hk6 : Kept (· = P) w5 w6 := by rw [hw6]; exact kept_setCell w5 ⟨P, 2, none⟩ _
        have hrs6 := hrs5.setO o
        rw [← hw6] at hrs6
        have hz6 := hz5.kept hk6 (show ¬ w.heap.size = P by omega)
        have hb6 := hg5.box.kept hk6 (fun h => hDP h.symm)
        obtain ⟨W, hW⟩ : ∃ W, W = put5 w6 w.heap.size (.int .i64 kz) (.int .i64 0) (.string ⟨#[]⟩) (.slice x.A ns.length x.ca) (.slice x.K ps.length x.ck) := ⟨_, rfl⟩
        have hkW : Kept (· = w.heap.size) w6 W := by rw [hW]; exact kept_put5 _ _ _ _ _ _ _
        have hrsW := hrs6.kept hkW (show ¬ P = w.heap.size by omega)
        have hdW := ((hdi.kept hk6 (fun b hb _ e => by have e' : b = P := e; have hb' : w.heap.size + 1 + 1 ≤ b := hb; omega)).kept hkW (fun b hb _ e => by have e' : b = w.heap.size := e; have hb' : w.heap.size + 1 + 1 ≤ b := hb; omega)).mono (S' := fun b => w.heap.size ≤ b) (fun b hb _ => by have hb' : w.heap.size + 1 + 1 ≤ b := hb; omega)
        have hkWW : Kept (· = P) w W := ((HKW4.out.trans' hkk5 (fun i hi h => by rcases h with h | h | h <;> omega)).trans hk6).trans' hkW (fun i hi h => by have h' : i = w.heap.size := h; omega)
        have hZ := hz6.put (.int .i64 kz) (.int .i64 0) (.string ⟨#[]⟩) (.slice x.A ns.length x.ca) (.slice x.K ps.length x.ck)
        rw [← hW] at hZ
        have HZ := Lib.hid hZ; have HW := Lib.hid hW.symm
        have HF := Lib.hid (show RValC P s o st G w (.returned (.agg #[.int .i64 kz, .int .i64 0, .string ⟨#[]⟩, .slice x.A ns.length x.ca, .slice x.K ps.length x.ck])) W from by
          refine ⟨.mk kz 0 ⟨#[]⟩ ns (ps.map Prod.fst), x, by simp [datV, Dt.kind, Dt.num, Dt.text, Dt.names, Dt.list], hdW, fun d' l h => ?_, hrsW.to (fun u l h => ?_) (fun n e h => ?_), hkWW⟩
          · rw [HG.out] at h
            rcases hb : S.then (byteP (closeC _)) with ⟨u, l'⟩ | ⟨n, e⟩
            · rw [HX.out.1 u l' hb] at h; cases h; rfl
            · rw [HX.out.2 n e hb] at h; cases h
          · rw [HG.out, HX.out.1 u l h]; exact ⟨_, rfl⟩
          · rw [HG.out, HX.out.2 n e h]; rfl)
        have d2 := hrs5.cells.1
        have d2' : w5.cell? ⟨P, 2, none⟩ = some (.int .i64 ((o : Int) + 1)) := by rw [d2]; rfl
        have k2 := hrs5.cells.2
        obtain ⟨m0, m1, m2, m3, m4⟩ := hb6.cells
        obtain ⟨z0, z1, z2, z3, z4⟩ := hz6.cells
        have y0 := hz6.frozen 0; have y1 := hz6.frozen 1; have y2 := hz6.frozen 2; have y3 := hz6.frozen 3; have y4 := hz6.frozen 4
        have hwr2 : IntKind.i64.wrap ((o : Int) + 1 - 1) = (o : Int) := by rw [IntKind.wrap_i64]; omega
        have hwr3 : IntKind.i64.wrap (o : Int) = (o : Int) := by rw [IntKind.wrap_i64]; omega
        have HW6 := Lib.hid hw6.symm
        clear hrs5 hg5 hk5 hkk5 hdi hz5 hw6 hk6 hrs6 hz6 hb6 hW hkW hrsW hdW hkWW hZ d2 CX HX HG9 HKK HKW4 HZ4 HG HPC HMUST
        go_upto_region 22 with (fail)
        rw [HW6.out]
        go_wp2_with fail
        rw [show (((((w6.setCell ⟨w.heap.size, 0, none⟩ (.int .i64 kz)).setCell ⟨w.heap.size, 1, none⟩ (.int .i64 0)).setCell ⟨w.heap.size, 2, none⟩ (.string ⟨#[]⟩)).setCell ⟨w.heap.size, 3, none⟩ (.slice x.A ns.length x.ca)).setCell ⟨w.heap.size, 4, none⟩ (.slice x.K ps.length x.ck)) = W from HW.out]
        refine bodyPost_ret (res51 rfl _ _ w.heap.size _ _ _ _ _ rfl HZ.out) rfl ?_
        exact HF.out
      | true =>
        cases S with
        | bad n er =>
          have her := HS.out.q.er
          have hne : (er == 0) = false := by rcases HS.out.q.erB with rfl | rfl <;> rfl
          obtain ⟨S, hSS⟩ : ∃ S : Rd Unit, S = .bad n er := ⟨_, rfl⟩
          rw [← hSS] at HS hm her
          have her' : wr.cell? ⟨P, 3, none⟩ = some (.int .i64 er) := by rw [her, hSS]; rfl
          clear her
          have CX := Lib.hid (HMUST.out S wr HS.out.q)
          have HX := Lib.hid (exit_ok HS.out.r (by first | exact .inl rfl | exact .inr ⟨n, er, hSS⟩))
          have HG9 := Lib.hid HS.out.g; have HKK := Lib.hid HS.out.k
          clear HS CE hSS
          go_wp2_with fail
          refine CX.out.mono ?_
          rintro e w5 ⟨rfl, hrs5, hk5⟩
          have hg5 := HG9.out.keepP hk5
          obtain ⟨x, rfl, rfl, hdi⟩ := hg5.value
          have hkk5 := HKK.out.trans (hk5.mono (T := fun b => b = P ∨ b = w.heap.size + 1 ∨ w.heap.size + 1 + 1 ≤ b) (fun b _ h => .inl h))
          have hz5 := HZ4.out.kept hkk5 (show ¬ (w.heap.size = P ∨ w.heap.size = w.heap.size + 1 ∨ w.heap.size + 1 + 1 ≤ w.heap.size) by omega)
          obtain ⟨w6, hw6⟩ : ∃ w6, w6 = w5.setCell ⟨P, 2, none⟩ (.int .i64 (o : Int)) := ⟨_, rfl⟩
          have hk6 : Kept (· = P) w5 w6 := by rw [hw6]; exact kept_setCell w5 ⟨P, 2, none⟩ _
          have hrs6 := hrs5.setO o
          rw [← hw6] at hrs6
          have hz6 := hz5.kept hk6 (show ¬ w.heap.size = P by omega)
          have hb6 := hg5.box.kept hk6 (fun h => hDP h.symm)
          obtain ⟨W, hW⟩ : ∃ W, W = put5 w6 w.heap.size (.int .i64 kz) (.int .i64 0) (.string ⟨#[]⟩) (.slice x.A ns.length x.ca) (.slice x.K ps.length x.ck) := ⟨_, rfl⟩
          have hkW : Kept (· = w.heap.size) w6 W := by rw [hW]; exact kept_put5 _ _ _ _ _ _ _
          have hrsW := hrs6.kept hkW (show ¬ P = w.heap.size by omega)
          have hdW := ((hdi.kept hk6 (fun b hb _ e => by have e' : b = P := e; have hb' : w.heap.size + 1 + 1 ≤ b := hb; omega)).kept hkW (fun b hb _ e => by have e' : b = w.heap.size := e; have hb' : w.heap.size + 1 + 1 ≤ b := hb; omega)).mono (S' := fun b => w.heap.size ≤ b) (fun b hb _ => by have hb' : w.heap.size + 1 + 1 ≤ b := hb; omega)
          have hkWW : Kept (· = P) w W := ((HKW4.out.trans' hkk5 (fun i hi h => by rcases h with h | h | h <;> omega)).trans hk6).trans' hkW (fun i hi h => by have h' : i = w.heap.size := h; omega)
          have hZ := hz6.put (.int .i64 kz) (.int .i64 0) (.string ⟨#[]⟩) (.slice x.A ns.length x.ca) (.slice x.K ps.length x.ck)
          rw [← hW] at hZ
          have HZ := Lib.hid hZ; have HW := Lib.hid hW.symm
          have HF := Lib.hid (show RValC P s o st G w (.returned (.agg #[.int .i64 kz, .int .i64 0, .string ⟨#[]⟩, .slice x.A ns.length x.ca, .slice x.K ps.length x.ck])) W from by
            refine ⟨.mk kz 0 ⟨#[]⟩ ns (ps.map Prod.fst), x, by simp [datV, Dt.kind, Dt.num, Dt.text, Dt.names, Dt.list], hdW, fun d' l h => ?_, hrsW.to (fun u l h => ?_) (fun n e h => ?_), hkWW⟩
            · rw [HG.out] at h
              rcases hb : S.then (byteP (closeC _)) with ⟨u, l'⟩ | ⟨n, e⟩
              · rw [HX.out.1 u l' hb] at h; cases h; rfl
              · rw [HX.out.2 n e hb] at h; cases h
            · rw [HG.out, HX.out.1 u l h]; exact ⟨_, rfl⟩
            · rw [HG.out, HX.out.2 n e h]; rfl)
          have d2 := hrs5.cells.1
          have d2' : w5.cell? ⟨P, 2, none⟩ = some (.int .i64 ((o : Int) + 1)) := by rw [d2]; rfl
          have k2 := hrs5.cells.2
          obtain ⟨m0, m1, m2, m3, m4⟩ := hb6.cells
          obtain ⟨z0, z1, z2, z3, z4⟩ := hz6.cells
          have y0 := hz6.frozen 0; have y1 := hz6.frozen 1; have y2 := hz6.frozen 2; have y3 := hz6.frozen 3; have y4 := hz6.frozen 4
          have hwr2 : IntKind.i64.wrap ((o : Int) + 1 - 1) = (o : Int) := by rw [IntKind.wrap_i64]; omega
          have hwr3 : IntKind.i64.wrap (o : Int) = (o : Int) := by rw [IntKind.wrap_i64]; omega
          have HW6 := Lib.hid hw6.symm
          clear hrs5 hg5 hk5 hkk5 hdi hz5 hw6 hk6 hrs6 hz6 hb6 hW hkW hrsW hdW hkWW hZ d2 CX HX HG9 HKK HKW4 HZ4 HG HPC HMUST
          go_upto_region 22 with (fail)
          rw [HW6.out]
          go_wp2_with fail
          rw [show (((((w6.setCell ⟨w.heap.size, 0, none⟩ (.int .i64 kz)).setCell ⟨w.heap.size, 1, none⟩ (.int .i64 0)).setCell ⟨w.heap.size, 2, none⟩ (.string ⟨#[]⟩)).setCell ⟨w.heap.size, 3, none⟩ (.slice x.A ns.length x.ca)).setCell ⟨w.heap.size, 4, none⟩ (.slice x.K ps.length x.ck)) = W from HW.out]
          refine bodyPost_ret (res51 rfl _ _ w.heap.size _ _ _ _ _ rfl HZ.out) rfl ?_
          exact HF.out
        | ok u0 l =>
          obtain ⟨hl1, hl2, hl3⟩ := HS.out.q
          obtain ⟨b, hb⟩ : ∃ b, b = s.size - l.length := ⟨_, rfl⟩
          rw [← hb] at hl2 hl3
          have hbs : b ≤ s.size := by omega
          obtain ⟨hn1, hn2, hn3⟩ := HS.out.n _ _ rfl
          obtain ⟨vL, vcl, rfl⟩ := row_form HS.out.g.rk
          have HR0 := Lib.hid (show R0 = accE ns (ps.map Prod.fst) (elemsP true (o + 1) l) from HS.out.r)
          have e3 := hl3.cells.2.2.2.1
          obtain ⟨T, hT⟩ : ∃ T, T = runB nameC (strB (restL s b)) := ⟨_, rfl⟩
          have CN0 := rrun_any 2 nameC rin_name P s b (o + 1) st 0 wr hl3 hbs (by omega)
          have hTs : T.size ≤ s.size - b := by rw [hT]; exact Nat.le_trans (runB_len _ _) (Nat.le_of_eq (restL_len _ _))
          rw [← hT] at CN0
          have CN := Lib.hid CN0
          obtain ⟨e0, e1, e2, -, -⟩ := hl3.cells
          have HT := Lib.hid hT; have HL2 := Lib.hid hl2; have HLB0 := Lib.hid hb
          obtain ⟨vA, vca, rfl⟩ := row_form HS.out.g.rn
          have HGG := Lib.hid HS.out.g; have HKK := Lib.hid HS.out.k
          have hpl : ps.length ≤ 100000 := by omega
          obtain ⟨r, hr⟩ : ∃ r, r = nmB T := ⟨_, rfl⟩
          have CQ := Lib.hid (show ∀ W, Calls Tryz.prog 62 #[.string T, .bool true] W fun e w' => e = .returned (.bool r) ∧ W = w' from fun W => by
            have := named_any T true W (by unfold maxLen; omega)
            rw [inner_name, wfB_nm, ← hr] at this
            exact this)
          have HR := Lib.hid hr
          clear hT CN0 hl2 hl3 hb HS hr hl1
          go_wp2_with fail
          refine CN.out.mono ?_
          rintro e w5 ⟨rfl, hp5, hk5⟩
          have HP5 := Lib.hid hp5; have HK5 := Lib.hid hk5
          clear CN hp5 hk5 e0 e1 e2 e3
          go_wp2_with fail
          refine (CQ.out _).mono ?_
          rintro e w5' ⟨rfl, rfl⟩
          clear CQ
          cases r
          · have CF := Lib.hid (rfail_new P s (b + T.size) (o + 1) st b 2 w5 HP5.out)
            go_wp2_with fail
            refine CF.out.mono ?_
            rintro e wn ⟨rfl, hpn, hkn⟩
            obtain ⟨S1, hS1⟩ : ∃ S1 : Rd Unit, S1 = .bad (s.size - b) 2 := ⟨_, rfl⟩
            have HS1 := Lib.hid (show RSt wn P s (o + 1) st S1 by rw [hS1]; exact rst_bad rfl hbs (.inl rfl) (by omega) hpn)
            have HKN := Lib.hid (HK5.out.trans hkn)
            have HE1 := Lib.hid (show el1P true (o + 1) l = withN [T] ((S1.then (byteP 61)).then (valP (o + 1))) by rw [hS1, ← HL2.out]; exact el1_unnamed HT.out HR.out.symm)
            have HLB1 := Lib.hid (show ∀ x l', S1 = .ok x l' → l'.length ≤ l.length from fun x l' h => by rw [hS1] at h; cases h)
            clear hS1 hpn hkn CF HP5 HK5 HT HR HL2 HLB0
            have HGN := Lib.hid (HGG.out.keepP HKN.out)
            obtain ⟨n0, n1, n2, n3, n4⟩ := HGN.out.box.cells
            obtain ⟨i9, hi9, hz9, hz91, hz92⟩ := info_parts info9
            have hNs := HKN.out.size; have hKs := HKK.out.size
            have HDN := Lib.hid (show ¬ OwnB (.slice vA ns.length vca) (w.heap.size + 1) from fun e => by have := (HGN.out.rn.lt _ e).1; omega)
            go_upto_region 15 with (at_builtin; refine wpList_append_own_at (wn.alloc (.cells #[.string T] 9)) rfl _ _ 43 rfl (w.heap.size + 1 + 1) 9 i9 _ 1 16 Tryz.underlying43 hi9 hz9 hz91 hz92 rfl (by omega) (.slice vA ns.length vca) ns.length (ns.map Value.string) rfl (HGN.out.rn.alloc _) ⟨wn.heap.size, 0, none⟩ 1 1 [.string T] rfl rfl (arr_new _ _ _ _ rfl) (by intro u hu; simp at hu; subst hu; rfl) (by unfold maxLen; omega) (by omega) (by simp; omega) ?_; intro v9 w9 ho9 hgr9 hiff9 hloc9; clear hiff9; obtain ⟨v9A, v9c, rfl⟩ := row_form ho9; have hk9 : Kept (OwnB (.slice vA ns.length vca)) wn w9 := (kept_alloc wn _ _).trans ((kept_grown hgr9).mono (fun b _ hb => hb.symm)); have hb9 := HGN.out.box.kept hk9 HDN.out; have e93 := hb9.cells.2.2.2.1; have f93 := hb9.frozen 3)
            have hf9 : Fresh wn (.slice vA ns.length vca) (.slice v9A (ns.length + 1) v9c) := fun j hj hb => by
              rcases hloc9 with hl | hl
              · rw [← hl]; exact hb
              · rw [hl] at hb; simp at hb; omega
            have hg4 := HGN.out.names (ms := [T]) (v' := .slice v9A (ns.length + 1) v9c) (W' := w9) (by simpa using ho9) hk9 hf9 hk9.size
            obtain ⟨wB, hwB⟩ : ∃ wB, wB = w9.setCell ⟨w.heap.size + 1, 3, none⟩ (.slice v9A (ns.length + 1) v9c) := ⟨_, rfl⟩
            rw [← hwB] at hg4
            rw [← hwB]
            have hkB : Kept (· = w.heap.size + 1) w9 wB := by rw [hwB]; exact kept_setCell w9 ⟨w.heap.size + 1, 3, none⟩ _
            have hPN : ¬ OwnB (.slice vA ns.length vca) P := fun e => by have := (HGN.out.rn.lt P e).1; omega
            have HSB := Lib.hid ((HS1.out.kept hk9 hPN).kept hkB hDP)
            have HKB := Lib.hid (((HKK.out.trans (HKN.out.mono (fun b _ h => .inl h))).trans (hk9.mono (T := fun b => b = P ∨ b = w.heap.size + 1 ∨ w.heap.size + 1 + 1 ≤ b) (fun b _ h => .inr (.inr (HGN.out.rn.lt _ h).1)))).trans (hkB.mono (fun b _ h => .inr (.inl h))))
            have HGB := Lib.hid hg4
            have CM := Lib.hid (show Calls Tryz.prog 122 #[.pointer (some ⟨P, 0, none⟩), .int .u8 61] wB _ from rmust_any P s (o + 1) st 61 S1 wB HSB.out (by omega))
            clear n0 n1 n2 n3 n4 HGN HDN ho9 hgr9 hloc9 hk9 hb9 e93 f93 hf9 hg4 hwB hkB hPN HSB HKN HGG HKK hi9 hz9 hz91 hz92 HS1 hNs hKs
            go_wp2_with fail
            refine CM.out.mono ?_
            rintro e wm ⟨rfl, hsm, hkm⟩
            obtain ⟨S2, hS2⟩ : ∃ S2, S2 = S1.then (byteP 61) := ⟨_, rfl⟩
            have HS2 := Lib.hid (show RSt wm P s (o + 1) st S2 by rw [hS2]; exact hsm)
            obtain ⟨m2, hm2⟩ : ∃ m2 : List ByteArray, m2 = [T] := ⟨_, rfl⟩
            have HE2 := Lib.hid (show el1P true (o + 1) l = withN m2 (S2.then (valP (o + 1))) by rw [hS2, hm2]; exact HE1.out)
            have HLB := Lib.hid (show ∀ x l', S2 = .ok x l' → l'.length ≤ nb from fun x l' h => by
              rw [hS2] at h
              obtain ⟨l0, h0, h1⟩ := then_byte h
              have := HLB1.out _ _ h0
              omega)
            obtain ⟨ns2, hns2⟩ : ∃ ns2, ns2 = ns ++ [T] := ⟨_, rfl⟩
            have HN2 := Lib.hid (show ns2 = ns ++ m2 ∧ ns2.length ≤ ps.length + 1 from ⟨by rw [hns2, hm2], by rw [hns2]; simp; omega⟩)
            obtain ⟨vN2, hvN2⟩ : ∃ vN2, vN2 = Value.slice v9A (ns.length + 1) v9c := ⟨_, rfl⟩
            have hgg := HGB.out.keepP hkm
            rw [← hns2, ← hvN2] at hgg
            have HG2 := Lib.hid hgg; have HK2 := Lib.hid (HKB.out.trans (hkm.mono (fun b _ h => .inl h)))
            clear hS2 hm2 hns2 hvN2 hgg hsm hkm CM HE1 HLB1 HGB HKB
            obtain ⟨R3, hR3⟩ : ∃ R3, R3 = S2.then (valP (o + 1)) := ⟨_, rfl⟩
            have CP0 := HPC.out S2 wm.drew (HS2.out.kept (kept_below (below_drewN _ wm 1) (fun _ => False)) (fun h => h)) HLB.out
            have HE3 := HE2.out
            rw [← hR3] at CP0 HE3
            have CP := Lib.hid CP0; have HE := Lib.hid HE3
            obtain ⟨d0, d1, d2, d3, d4⟩ := HG2.out.box.cells
            have hPb := HG2.out.hP
            have hDb := HG2.out.hD
            have hms := HK2.out.size
            clear hR3 CP0 HE3 HE2 HS2 d0 d1 d2 d3
            go_wp2_with fail
            go_region_law ((first
              | (refine step_append_run rfl (.tmp 54) (.tmp 57) 44 rfl (.slice vL ps.length vcl) (.slice (some ⟨w6.heap.size, 0, none⟩) 1 1) (by simp [Act.eval]) (by simp [Act.eval]) hr7.out ?_)
              | (go_simp; go_at_call 51; refine CP.out.mono ?_; rintro e w6 ⟨d, x, rfl, hdi6, hdd6, hrs6, hk6⟩; have HDD := Lib.hid hdd6; have HRS6 := Lib.hid hrs6; have HK6 := Lib.hid (show Kept (· = P) wm w6 from (kept_drew wm 1 _).trans hk6); have HDI6 := Lib.hid hdi6; have HG6 := Lib.hid (HG2.out.keepP HK6.out); have hs6 := HK6.out.size; obtain ⟨A7, c7, w7, hr7', ho7', hk7', hf7'⟩ := dat_app w6 (w.heap.size + 1 + 1) _ ps d x HG6.out.rk (by omega) (by omega); have hr7 := Lib.hid hr7'; have ho7 := Lib.hid ho7'; have hk7 := Lib.hid hk7'; have hf7 := Lib.hid hf7'; have hDo : ¬ OwnB (.slice vL ps.length vcl) (w.heap.size + 1) := (fun e => by have := (HG6.out.rk.lt _ e).1; omega); have f6 := HG6.out.box.cells.2.2.2.2; have f6a : (w6.alloc (.cells #[.int .i64 d.kind, .int .i64 d.num, .string d.text, .slice x.A d.names.length x.ca, .slice x.K d.list.length x.ck] 46)).cell? ⟨w.heap.size + 1, 4, none⟩ = some (.slice vL ps.length vcl) := cell_push f6; have hbx7 := HG6.out.box.kept hk7.out hDo; have f7 := hbx7.cells.2.2.2.2; have z7 := hbx7.frozen 4; clear hr7' ho7' hk7' hf7' hdi6 hdd6 hrs6 hk6 hbx7)))
            all_goals
              have HDI := Lib.hid (show DatIn w6 (fun b => w.heap.size + 1 + 1 ≤ b ∧ ¬ OwnB vN2 b ∧ ¬ OwnB (.slice vL ps.length vcl) b) d x from HDI6.out.mono (fun b hb _ => by have hb' : wm.heap.size ≤ b := hb; exact ⟨by omega, fun e => by have := (HG2.out.rn.lt _ e).2; omega, fun e => by have := (HG2.out.rk.lt _ e).2; omega⟩))
              have HG8 := Lib.hid (HG6.out.add (d := d) (x := x) (W' := w7) ho7.out hk7.out hf7.out HDI.out)
              have HK8 := Lib.hid (kept_setCell w7 ⟨w.heap.size + 1, 4, none⟩ (.slice A7 (ps.length + 1) c7))
              have hPo : ¬ OwnB (.slice vL ps.length vcl) P := fun e => by have := (HG6.out.rk.lt _ e).1; omega
              have HRS7 := Lib.hid (HRS6.out.kept hk7.out hPo)
              have HO7 := Lib.hid (show ∀ b, OwnB (.slice vL ps.length vcl) b → w.heap.size + 1 + 1 ≤ b from fun b h => (HG6.out.rk.lt _ h).1)
              clear f6 f6a f7 z7 CP d4 HG6 HDI HDI6 HRS6 HG2
              generalize w7.setCell ⟨w.heap.size + 1, 4, none⟩ (.slice A7 (ps.length + 1) c7) = w8 at HK8 HG8 ⊢
              have HRS8 := Lib.hid (HRS7.out.kept HK8.out hDP)
              have HK28 := Lib.hid (((HK2.out.trans (HK6.out.mono (fun b _ h => .inl h))).trans (hk7.out.mono (fun b _ h => .inr (.inr (HO7.out b h))))).trans (HK8.out.mono (fun b _ h => .inr (.inl h))))
              have CI := Lib.hid (show Calls Tryz.prog 123 #[.pointer (some ⟨P, 0, none⟩), .int .u8 44] w8 _ from ris_any P s (o + 1) st 44 R3 w8 HRS8.out (by omega))
              clear HK2 HK6 hk7 HK8 HRS7 HO7 ho7 hf7 hr7
              go_wp2_with fail
              refine CI.out.mono ?_
              rintro e w9 ⟨r, rfl, hr, q, hq⟩
              have hk9 : Kept (fun _ => False) w8 w9 := by rw [hq]; exact kept_drew _ _ _
              have HRS9 := Lib.hid (HRS8.out.kept hk9 (fun h => h))
              have HG9 := Lib.hid (HG8.out.keepP (hk9.mono (fun _ _ h => absurd h (fun h => h))))
              have HK9 := Lib.hid (HK28.out.trans (hk9.mono (fun _ _ h => absurd h (fun h => h))))
              clear hq hk9 HRS8 HG8 HK28 CI
              rcases hr with ⟨l3, rfl, hr⟩ | ⟨rfl, n', e', hr⟩
              · have hln := then_len2 HE.out hr
                have CM := Lib.hid (show Calls Tryz.prog 122 #[.pointer (some ⟨P, 0, none⟩), .int .u8 44] w9 _ from rmust_any P s (o + 1) st 44 R3 w9 HRS9.out (by omega))
                have HHR := Lib.hid hr
                clear HRS9 hr
                go_wp2_with fail
                refine CM.out.mono ?_
                rintro e w10 ⟨rfl, hrs10, hk10⟩
                have HNX := Lib.hid (show RaS P s (w.heap.size + 1) (w.heap.size + 1 + 1) kz true (o + 1) st nb R0 w4 w10 true (.ok () l3) ns2 (ps ++ [(d, x)]) _ _ from ⟨by have := hrs10; rw [HHR.out] at this; exact this, HG9.out.keepP hk10, by rw [HN2.out.1, List.map_append]; exact rstep_more HR0.out HE.out HDD.out HHR.out, HK9.out.trans (hk10.mono (fun b _ h => .inl h)), fun u l' h => by cases h; have := HN2.out.2; simp only [List.length_append, List.length_cons, List.length_nil]; omega⟩)
                clear hrs10 hk10 CM HG9 HK9
                go_wp2_with fail
                go_roundg (mesR true (.ok () l3))
                case measure => simp only [mesR, if_true] at hm ⊢; omega
                case rel => exact ⟨true, _, _, _, _, _, rfl, HNX, Nat.le_refl _⟩
              · have HHR := Lib.hid hr
                have HNX := Lib.hid (show RaS P s (w.heap.size + 1) (w.heap.size + 1 + 1) kz true (o + 1) st nb R0 w4 w9 false (R3.then fun l => .ok () l) ns2 (ps ++ [(d, x)]) _ _ from ⟨HRS9.out.to (fun u l h => by rw [h]; exact ⟨(), rfl⟩) (fun n e h => by rw [h]; rfl), HG9.out, by rw [HN2.out.1, List.map_append]; exact rstep_last HR0.out HE.out HDD.out HHR.out, HK9.out, fun u l' h => by have := then_len HE.out h; have := HN2.out.2; simp only [List.length_append, List.length_cons, List.length_nil]; omega⟩)
                clear HRS9 HG9 HK9 hr
                go_wp2_with fail
                go_roundg (mesR false (R3.then fun l => .ok () l))
                case measure => cases R3 <;> (simp [mesR, Rd.then] at hm ⊢; try omega)
                case rel => exact ⟨false, _, _, _, _, _, rfl, HNX, Nat.le_refl _⟩
          · obtain ⟨wn, hwn⟩ : ∃ wn, wn = w5 := ⟨_, rfl⟩
            obtain ⟨S1, hS1⟩ : ∃ S1 : Rd Unit, S1 = .ok () (restL s (b + T.size)) := ⟨_, rfl⟩
            have HS1 := Lib.hid (show RSt wn P s (o + 1) st S1 by rw [hS1, hwn]; exact rst_ok () (by omega) HP5.out)
            have HKN := Lib.hid (show Kept (· = P) wr wn by rw [hwn]; exact HK5.out)
            have HE1 := Lib.hid (show el1P true (o + 1) l = withN [T] ((S1.then (byteP 61)).then (valP (o + 1))) by rw [hS1, ← HL2.out]; exact el1_named HT.out HR.out.symm)
            have HLB1 := Lib.hid (show ∀ x l', S1 = .ok x l' → l'.length ≤ l.length from fun x l' h => by rw [hS1] at h; cases h; rw [restL_len]; have := HLB0.out; omega)
            clear hS1 HP5 HK5 HT HR HL2 HLB0
            subst hwn
            have HGN := Lib.hid (HGG.out.keepP HKN.out)
            obtain ⟨n0, n1, n2, n3, n4⟩ := HGN.out.box.cells
            obtain ⟨i9, hi9, hz9, hz91, hz92⟩ := info_parts info9
            have hNs := HKN.out.size; have hKs := HKK.out.size
            have HDN := Lib.hid (show ¬ OwnB (.slice vA ns.length vca) (w.heap.size + 1) from fun e => by have := (HGN.out.rn.lt _ e).1; omega)
            go_upto_region 15 with (at_builtin; refine wpList_append_own_at (wn.alloc (.cells #[.string T] 9)) rfl _ _ 43 rfl (w.heap.size + 1 + 1) 9 i9 _ 1 16 Tryz.underlying43 hi9 hz9 hz91 hz92 rfl (by omega) (.slice vA ns.length vca) ns.length (ns.map Value.string) rfl (HGN.out.rn.alloc _) ⟨wn.heap.size, 0, none⟩ 1 1 [.string T] rfl rfl (arr_new _ _ _ _ rfl) (by intro u hu; simp at hu; subst hu; rfl) (by unfold maxLen; omega) (by omega) (by simp; omega) ?_; intro v9 w9 ho9 hgr9 hiff9 hloc9; clear hiff9; obtain ⟨v9A, v9c, rfl⟩ := row_form ho9; have hk9 : Kept (OwnB (.slice vA ns.length vca)) wn w9 := (kept_alloc wn _ _).trans ((kept_grown hgr9).mono (fun b _ hb => hb.symm)); have hb9 := HGN.out.box.kept hk9 HDN.out; have e93 := hb9.cells.2.2.2.1; have f93 := hb9.frozen 3)
            have hf9 : Fresh wn (.slice vA ns.length vca) (.slice v9A (ns.length + 1) v9c) := fun j hj hb => by
              rcases hloc9 with hl | hl
              · rw [← hl]; exact hb
              · rw [hl] at hb; simp at hb; omega
            have hg4 := HGN.out.names (ms := [T]) (v' := .slice v9A (ns.length + 1) v9c) (W' := w9) (by simpa using ho9) hk9 hf9 hk9.size
            obtain ⟨wB, hwB⟩ : ∃ wB, wB = w9.setCell ⟨w.heap.size + 1, 3, none⟩ (.slice v9A (ns.length + 1) v9c) := ⟨_, rfl⟩
            rw [← hwB] at hg4
            rw [← hwB]
            have hkB : Kept (· = w.heap.size + 1) w9 wB := by rw [hwB]; exact kept_setCell w9 ⟨w.heap.size + 1, 3, none⟩ _
            have hPN : ¬ OwnB (.slice vA ns.length vca) P := fun e => by have := (HGN.out.rn.lt P e).1; omega
            have HSB := Lib.hid ((HS1.out.kept hk9 hPN).kept hkB hDP)
            have HKB := Lib.hid (((HKK.out.trans (HKN.out.mono (fun b _ h => .inl h))).trans (hk9.mono (T := fun b => b = P ∨ b = w.heap.size + 1 ∨ w.heap.size + 1 + 1 ≤ b) (fun b _ h => .inr (.inr (HGN.out.rn.lt _ h).1)))).trans (hkB.mono (fun b _ h => .inr (.inl h))))
            have HGB := Lib.hid hg4
            have CM := Lib.hid (show Calls Tryz.prog 122 #[.pointer (some ⟨P, 0, none⟩), .int .u8 61] wB _ from rmust_any P s (o + 1) st 61 S1 wB HSB.out (by omega))
            clear n0 n1 n2 n3 n4 HGN HDN ho9 hgr9 hloc9 hk9 hb9 e93 f93 hf9 hg4 hwB hkB hPN HSB HKN HGG HKK hi9 hz9 hz91 hz92 HS1 hNs hKs
            go_wp2_with fail
            refine CM.out.mono ?_
            rintro e wm ⟨rfl, hsm, hkm⟩
            obtain ⟨S2, hS2⟩ : ∃ S2, S2 = S1.then (byteP 61) := ⟨_, rfl⟩
            have HS2 := Lib.hid (show RSt wm P s (o + 1) st S2 by rw [hS2]; exact hsm)
            obtain ⟨m2, hm2⟩ : ∃ m2 : List ByteArray, m2 = [T] := ⟨_, rfl⟩
            have HE2 := Lib.hid (show el1P true (o + 1) l = withN m2 (S2.then (valP (o + 1))) by rw [hS2, hm2]; exact HE1.out)
            have HLB := Lib.hid (show ∀ x l', S2 = .ok x l' → l'.length ≤ nb from fun x l' h => by
              rw [hS2] at h
              obtain ⟨l0, h0, h1⟩ := then_byte h
              have := HLB1.out _ _ h0
              omega)
            obtain ⟨ns2, hns2⟩ : ∃ ns2, ns2 = ns ++ [T] := ⟨_, rfl⟩
            have HN2 := Lib.hid (show ns2 = ns ++ m2 ∧ ns2.length ≤ ps.length + 1 from ⟨by rw [hns2, hm2], by rw [hns2]; simp; omega⟩)
            obtain ⟨vN2, hvN2⟩ : ∃ vN2, vN2 = Value.slice v9A (ns.length + 1) v9c := ⟨_, rfl⟩
            have hgg := HGB.out.keepP hkm
            rw [← hns2, ← hvN2] at hgg
            have HG2 := Lib.hid hgg; have HK2 := Lib.hid (HKB.out.trans (hkm.mono (fun b _ h => .inl h)))
            clear hS2 hm2 hns2 hvN2 hgg hsm hkm CM HE1 HLB1 HGB HKB
            obtain ⟨R3, hR3⟩ : ∃ R3, R3 = S2.then (valP (o + 1)) := ⟨_, rfl⟩
            have CP0 := HPC.out S2 wm.drew (HS2.out.kept (kept_below (below_drewN _ wm 1) (fun _ => False)) (fun h => h)) HLB.out
            have HE3 := HE2.out
            rw [← hR3] at CP0 HE3
            have CP := Lib.hid CP0; have HE := Lib.hid HE3
            obtain ⟨d0, d1, d2, d3, d4⟩ := HG2.out.box.cells
            have hPb := HG2.out.hP
            have hDb := HG2.out.hD
            have hms := HK2.out.size
            clear hR3 CP0 HE3 HE2 HS2 d0 d1 d2 d3
            go_wp2_with fail
            go_region_law ((first
              | (refine step_append_run rfl (.tmp 54) (.tmp 57) 44 rfl (.slice vL ps.length vcl) (.slice (some ⟨w6.heap.size, 0, none⟩) 1 1) (by simp [Act.eval]) (by simp [Act.eval]) hr7.out ?_)
              | (go_simp; go_at_call 51; refine CP.out.mono ?_; rintro e w6 ⟨d, x, rfl, hdi6, hdd6, hrs6, hk6⟩; have HDD := Lib.hid hdd6; have HRS6 := Lib.hid hrs6; have HK6 := Lib.hid (show Kept (· = P) wm w6 from (kept_drew wm 1 _).trans hk6); have HDI6 := Lib.hid hdi6; have HG6 := Lib.hid (HG2.out.keepP HK6.out); have hs6 := HK6.out.size; obtain ⟨A7, c7, w7, hr7', ho7', hk7', hf7'⟩ := dat_app w6 (w.heap.size + 1 + 1) _ ps d x HG6.out.rk (by omega) (by omega); have hr7 := Lib.hid hr7'; have ho7 := Lib.hid ho7'; have hk7 := Lib.hid hk7'; have hf7 := Lib.hid hf7'; have hDo : ¬ OwnB (.slice vL ps.length vcl) (w.heap.size + 1) := (fun e => by have := (HG6.out.rk.lt _ e).1; omega); have f6 := HG6.out.box.cells.2.2.2.2; have f6a : (w6.alloc (.cells #[.int .i64 d.kind, .int .i64 d.num, .string d.text, .slice x.A d.names.length x.ca, .slice x.K d.list.length x.ck] 46)).cell? ⟨w.heap.size + 1, 4, none⟩ = some (.slice vL ps.length vcl) := cell_push f6; have hbx7 := HG6.out.box.kept hk7.out hDo; have f7 := hbx7.cells.2.2.2.2; have z7 := hbx7.frozen 4; clear hr7' ho7' hk7' hf7' hdi6 hdd6 hrs6 hk6 hbx7)))
            all_goals
              have HDI := Lib.hid (show DatIn w6 (fun b => w.heap.size + 1 + 1 ≤ b ∧ ¬ OwnB vN2 b ∧ ¬ OwnB (.slice vL ps.length vcl) b) d x from HDI6.out.mono (fun b hb _ => by have hb' : wm.heap.size ≤ b := hb; exact ⟨by omega, fun e => by have := (HG2.out.rn.lt _ e).2; omega, fun e => by have := (HG2.out.rk.lt _ e).2; omega⟩))
              have HG8 := Lib.hid (HG6.out.add (d := d) (x := x) (W' := w7) ho7.out hk7.out hf7.out HDI.out)
              have HK8 := Lib.hid (kept_setCell w7 ⟨w.heap.size + 1, 4, none⟩ (.slice A7 (ps.length + 1) c7))
              have hPo : ¬ OwnB (.slice vL ps.length vcl) P := fun e => by have := (HG6.out.rk.lt _ e).1; omega
              have HRS7 := Lib.hid (HRS6.out.kept hk7.out hPo)
              have HO7 := Lib.hid (show ∀ b, OwnB (.slice vL ps.length vcl) b → w.heap.size + 1 + 1 ≤ b from fun b h => (HG6.out.rk.lt _ h).1)
              clear f6 f6a f7 z7 CP d4 HG6 HDI HDI6 HRS6 HG2
              generalize w7.setCell ⟨w.heap.size + 1, 4, none⟩ (.slice A7 (ps.length + 1) c7) = w8 at HK8 HG8 ⊢
              have HRS8 := Lib.hid (HRS7.out.kept HK8.out hDP)
              have HK28 := Lib.hid (((HK2.out.trans (HK6.out.mono (fun b _ h => .inl h))).trans (hk7.out.mono (fun b _ h => .inr (.inr (HO7.out b h))))).trans (HK8.out.mono (fun b _ h => .inr (.inl h))))
              have CI := Lib.hid (show Calls Tryz.prog 123 #[.pointer (some ⟨P, 0, none⟩), .int .u8 44] w8 _ from ris_any P s (o + 1) st 44 R3 w8 HRS8.out (by omega))
              clear HK2 HK6 hk7 HK8 HRS7 HO7 ho7 hf7 hr7
              go_wp2_with fail
              refine CI.out.mono ?_
              rintro e w9 ⟨r, rfl, hr, q, hq⟩
              have hk9 : Kept (fun _ => False) w8 w9 := by rw [hq]; exact kept_drew _ _ _
              have HRS9 := Lib.hid (HRS8.out.kept hk9 (fun h => h))
              have HG9 := Lib.hid (HG8.out.keepP (hk9.mono (fun _ _ h => absurd h (fun h => h))))
              have HK9 := Lib.hid (HK28.out.trans (hk9.mono (fun _ _ h => absurd h (fun h => h))))
              clear hq hk9 HRS8 HG8 HK28 CI
              rcases hr with ⟨l3, rfl, hr⟩ | ⟨rfl, n', e', hr⟩
              · have hln := then_len2 HE.out hr
                have CM := Lib.hid (show Calls Tryz.prog 122 #[.pointer (some ⟨P, 0, none⟩), .int .u8 44] w9 _ from rmust_any P s (o + 1) st 44 R3 w9 HRS9.out (by omega))
                have HHR := Lib.hid hr
                clear HRS9 hr
                go_wp2_with fail
                refine CM.out.mono ?_
                rintro e w10 ⟨rfl, hrs10, hk10⟩
                have HNX := Lib.hid (show RaS P s (w.heap.size + 1) (w.heap.size + 1 + 1) kz true (o + 1) st nb R0 w4 w10 true (.ok () l3) ns2 (ps ++ [(d, x)]) _ _ from ⟨by have := hrs10; rw [HHR.out] at this; exact this, HG9.out.keepP hk10, by rw [HN2.out.1, List.map_append]; exact rstep_more HR0.out HE.out HDD.out HHR.out, HK9.out.trans (hk10.mono (fun b _ h => .inl h)), fun u l' h => by cases h; have := HN2.out.2; simp only [List.length_append, List.length_cons, List.length_nil]; omega⟩)
                clear hrs10 hk10 CM HG9 HK9
                go_wp2_with fail
                go_roundg (mesR true (.ok () l3))
                case measure => simp only [mesR, if_true] at hm ⊢; omega
                case rel => exact ⟨true, _, _, _, _, _, rfl, HNX, Nat.le_refl _⟩
              · have HHR := Lib.hid hr
                have HNX := Lib.hid (show RaS P s (w.heap.size + 1) (w.heap.size + 1 + 1) kz true (o + 1) st nb R0 w4 w9 false (R3.then fun l => .ok () l) ns2 (ps ++ [(d, x)]) _ _ from ⟨HRS9.out.to (fun u l h => by rw [h]; exact ⟨(), rfl⟩) (fun n e h => by rw [h]; rfl), HG9.out, by rw [HN2.out.1, List.map_append]; exact rstep_last HR0.out HE.out HDD.out HHR.out, HK9.out, fun u l' h => by have := then_len HE.out h; have := HN2.out.2; simp only [List.length_append, List.length_cons, List.length_nil]; omega⟩)
                clear HRS9 HG9 HK9 hr
                go_wp2_with fail
                go_roundg (mesR false (R3.then fun l => .ok () l))
                case measure => cases R3 <;> (simp [mesR, Rd.then] at hm ⊢; try omega)
                case rel => exact ⟨false, _, _, _, _, _, rfl, HNX, Nat.le_refl _⟩
end Go.Proofs.YtjnhcoflmechmaaGreatDoor
