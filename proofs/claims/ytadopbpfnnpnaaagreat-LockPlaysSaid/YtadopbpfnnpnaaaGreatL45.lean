/-
  Texts on locks, put together: LkRef19.
-/
import Derived.Test.YtadopbpfnnpnaaaGreatL44
set_option linter.unusedVariables false
set_option linter.unusedSimpArgs false
/-
  The document's Ask: of one that upgrades, and stands in the line.
-/
namespace Go.Proofs.YtadopbpfnnpnaaaGreat
open Go.RowKit Go.Maps

section
variable {w : World} {base d : Nat} {hv lv : Value} {D : DT}
set_option maxRecDepth 100000 in
set_option maxHeartbeats 4000000 in
theorem dAsk_up1 (h : DtA w base d hv lv D) (hbs : base ≤ w.heap.size) (hn : D.line.length ≤ 9000) (hnh : D.held.length ≤ 9000) {o : Nat} (hw : ¬ D.line.any (ofO o) = true) {k : Key} {H : Int} (hHd : D.holds o k = H) (hH : H ≠ 0) (hle : ¬ 1 ≤ H) (hmy : D.may ⟨o, k, 1, true⟩ = false) : Calls Tryz.prog 10 #[.pointer (some ⟨d, 0, none⟩), .int .u64 (o : Int), .agg #[.int .i64 k.1, .int .i64 k.2], .int .i64 1] w (RetDA base d hv lv (if (D.ins ⟨o, k, 1, true⟩).ring o = true then (10, D) else (9, D.ins ⟨o, k, 1, true⟩)) w) := by
  obtain ⟨p, c, hlv⟩ := dform h.line
  subst hlv
  obtain ⟨k1, k2⟩ := k
  have g0 : Gr w (w.alloc (.cells #[.int .i64 k1, .int .i64 k2] TKey)) := (Gr.refl w).alloc (Nat.le_refl _) _
  have b0 := Blk.new w TKey #[.int .i64 k1, .int .i64 k2]
  obtain ⟨W0, hW0⟩ : ∃ W0, W0 = w.alloc (.cells #[.int .i64 k1, .int .i64 k2] TKey) := ⟨_, rfl⟩
  rw [← hW0] at g0 b0
  have HW := Lib.hid fun (W : World) (g : Gr w W) => (wi_no hw) ▸ dWaits_any (h.gr g).at (by omega) o
  have HO := Lib.hid fun (W : World) (g : Gr w W) => hHd ▸ dHolds_any (h.gr g).at (by omega) o (k1, k2)
  have HH := Lib.hid (And.intro h (And.intro g0 (And.intro b0 hW0)))
  obtain ⟨RR, hRR⟩ : ∃ RR, RR = if (D.ins ⟨o, (k1, k2), 1, true⟩).ring o = true then ((10 : Int), D) else (9, D.ins ⟨o, (k1, k2), 1, true⟩) := ⟨_, rfl⟩
  rw [← hRR]
  have HRR := Lib.hid hRR
  have HM := Lib.hid fun (W : World) (g : Gr w W) => hmy ▸ dmay_any (h.gr g).at (by omega) ⟨o, (k1, k2), 1, true⟩
  have HF := Lib.hid (And.intro hbs (And.intro hn hnh))
  have e0 : (H == 0) = false := by rw [beq_eq_false_iff_ne]; exact hH
  have e1 : (H != 0) = true := by rw [bne_iff_ne]; exact hH
  clear h g0 b0 hW0 hw hHd hn hnh hbs hRR hmy hH
  go_enter Tryz.func10, Tryz.ntmps10
  go_upto_region 3 with fail
  rw [show (w.alloc (.cells #[.int .i64 k1, .int .i64 k2] 33)) = W0 from HH.out.2.2.2.symm]
  go_wp2_with fail
  refine (HW.out W0 HH.out.2.1).mono ?_
  rintro e w1 ⟨rfl, g1⟩
  have G1 := Lib.hid (HH.out.2.1.trans g1)
  have B1 := Lib.hid (HH.out.2.2.1.gr g1)
  clear g1
  have z0 := B1.out.cell 0
  have z1 := B1.out.cell 1
  simp at z0 z1
  go_wp2_with fail
  refine (HO.out w1 G1.out).mono ?_
  rintro e w2 ⟨rfl, g2⟩
  have G2 := Lib.hid (G1.out.trans g2)
  have B2 := Lib.hid (B1.out.gr g2)
  clear g2 z0 z1
  have z0 := B2.out.cell 0
  have z1 := B2.out.cell 1
  simp at z0 z1
  have g3 : Gr w2 (w2.alloc (.cells #[.int .u64 (o : Int), .int .i64 k1, .int .i64 k2, .int .i64 1, .bool true] TDl)) := (Gr.refl w2).alloc (Nat.le_refl _) _
  have b3 := Blk.new w2 TDl #[.int .u64 (o : Int), .int .i64 k1, .int .i64 k2, .int .i64 1, .bool true]
  obtain ⟨W3, hW3⟩ : ∃ W3, W3 = w2.alloc (.cells #[.int .u64 (o : Int), .int .i64 k1, .int .i64 k2, .int .i64 1, .bool true] TDl) := ⟨_, rfl⟩
  rw [← hW3] at g3 b3
  have G3 := Lib.hid (And.intro (G2.out.trans g3) (And.intro b3 (And.intro (B2.out.gr g3) hW3)))
  clear g3 b3 hW3
  go_upto_region 12 with fail
  rw [show (w2.alloc (.cells #[.int .u64 (o : Int), .int .i64 k1, .int .i64 k2, .int .i64 1, .bool true] 71)) = W3 from G3.out.2.2.2.symm]
  clear z0 z1
  have y0 := G3.out.2.1.cell 0
  have y1 := G3.out.2.1.cell 1
  have y2 := G3.out.2.1.cell 2
  have y3 := G3.out.2.1.cell 3
  have y4 := G3.out.2.1.cell 4
  simp at y0 y1 y2 y3 y4
  go_wp2_with fail
  refine (HM.out W3 G3.out.1).mono ?_
  rintro e w4 ⟨rfl, g4⟩
  have G4 := Lib.hid (And.intro (G3.out.1.trans g4) (And.intro (G3.out.2.1.gr g4) (G3.out.2.2.1.gr g4)))
  clear g4 y0 y1 y2 y3 y4
  obtain ⟨N, hN⟩ : ∃ N, N = D.line.length := ⟨_, rfl⟩
  have hNb : N ≤ 9000 := by have := HF.out.2.1; omega
  have c1 := ((HH.out.1.gr G4.out.1).box1 (Gr.refl _)).1
  rw [← hN] at c1
  have hw16 : IntKind.i64.wrap ((N : Int) - 1) = (N : Int) - 1 := IntWalk.i64_in _ (by omega)
  have hst : inAt ⟨o, (k1, k2), 1, true⟩ D.line N = N := by rw [hN]; exact inAt_len _ _
  have HNN := Lib.hid (And.intro hN hst)
  have y4 := G4.out.2.1.cell 4
  simp at y4
  clear hN hst
  go_upto_region 17 with fail
  clear c1 y4
  go_loopw [13, 12] (fun iv av wr => ∃ p' : Nat, iv = .int .i64 ((p' : Int) - 1) ∧ p' ≤ N ∧ av = .int .i64 ((inAt ⟨o, (k1, k2), 1, true⟩ D.line p' : Nat) : Int) ∧ Hid (Gr w4 wr)) (fun iv _ _ => (intOf iv + 1).toNat)
  case atStart => exact ⟨N, rfl, Nat.le_refl _, by rw [HNN.out.2], Lib.hid (Gr.refl _)⟩
  case round =>
    obtain ⟨p', rfl, hp', rfl, HR⟩ := hrel
    have hN := HNN.out.1
    have hz := HH.out.1.gr (G4.out.1.trans HR.out)
    have c1 := (hz.box1 (Gr.refl _)).1
    have y0 := (G4.out.2.1.gr HR.out).cell 0
    have y1 := (G4.out.2.1.gr HR.out).cell 1
    have y2 := (G4.out.2.1.gr HR.out).cell 2
    have y3 := (G4.out.2.1.gr HR.out).cell 3
    have y4 := (G4.out.2.1.gr HR.out).cell 4
    have z0 := (G4.out.2.2.gr HR.out).cell 0
    have z1 := (G4.out.2.2.gr HR.out).cell 1
    simp at y0 y1 y2 y3 y4 z0 z1
    have hdl := hz.line.dsl
    rw [← hN] at c1 hdl
    have hNc : N ≤ c := hdl.at.2.1
    cases p' with
    | zero =>
      have e17 : decide ((0 : Int) ≤ ((0 : Nat) : Int) - 1) = false := rfl
      obtain ⟨A, hA⟩ : ∃ A, A = inAt ⟨o, (k1, k2), 1, true⟩ D.line 0 := ⟨_, rfl⟩
      have hAN' : A ≤ N := by rw [hA, hN]; exact inAt_le (Nat.zero_le _)
      have hins := ins_is D ⟨o, (k1, k2), 1, true⟩ (A := A) hA
      rw [← hA]
      have hlt : (D.line.take A).length = A := by rw [List.length_take]; omega
      have hld : (D.line.drop A).length = N - A := by rw [List.length_drop]; omega
      have hil : ((D.ins ⟨o, (k1, k2), 1, true⟩).line).length ≤ 10000 := by
        rw [hins, List.length_append, List.length_append, hlt, hld]
        simp only [List.length_cons, List.length_nil]
        omega
      have HZ := Lib.hid (show DtA wr base d hv (.slice p N c) D ∧ base ≤ wr.heap.size ∧ (D.ins ⟨o, (k1, k2), 1, true⟩).held.length ≤ 10000 ∧ (D.ins ⟨o, (k1, k2), 1, true⟩).line.length ≤ 10000 ∧ Gr w wr from ⟨by rw [hN]; exact hz, Nat.le_trans HF.out.1 (G4.out.1.trans HR.out).size, (by have := HF.out.2.2; exact Nat.le_trans this (by omega)), hil, G4.out.1.trans HR.out⟩)
      have HT := Lib.hid (show DSl wr (.slice p A c) (D.line.take A) ∧ DSl wr (sliced p A N c 5) (D.line.drop A) ∧ (D.line.take A).length ≤ 9000 ∧ A ≤ N ∧ N ≤ c ∧ ([] ++ D.line.take A).length + [(⟨o, (k1, k2), 1, true⟩ : DL)].length ≤ 1000000000 ∧ ([] ++ D.line.take A ++ [(⟨o, (k1, k2), 1, true⟩ : DL)]).length + (D.line.drop A).length ≤ 1000000000 ∧ (D.ins ⟨o, (k1, k2), 1, true⟩).line = D.line.take A ++ [⟨o, (k1, k2), 1, true⟩] ++ D.line.drop A by
        refine ⟨hdl.take hAN', hdl.drop hAN', by omega, hAN', hNc, ?_, ?_, hins⟩
        · simp only [List.nil_append, List.length_cons, List.length_nil]; omega
        · simp only [List.nil_append, List.length_append, List.length_cons, List.length_nil]; omega)
      have HY : Hid (∀ V, Gr wr V → V.cell? ⟨w2.heap.size, 0, none⟩ = some (.int .u64 (o : Int)) ∧ V.cell? ⟨w2.heap.size, 1, none⟩ = some (.int .i64 k1) ∧ V.cell? ⟨w2.heap.size, 2, none⟩ = some (.int .i64 k2) ∧ V.cell? ⟨w2.heap.size, 3, none⟩ = some (.int .i64 1) ∧ V.cell? ⟨w2.heap.size, 4, none⟩ = some (.bool true)) := Lib.hid fun V g => ⟨(g.cell (blk_lt' y0)).trans y0, (g.cell (blk_lt' y1)).trans y1, (g.cell (blk_lt' y2)).trans y2, (g.cell (blk_lt' y3)).trans y3, (g.cell (blk_lt' y4)).trans y4⟩
      have HNN := Lib.hid hN
      clear hz hdl hN hins hlt hld hil hNc hA hAN' hw16 hNb hp' z0 z1
      have hAc : A ≤ c := by have := HT.out.2.2.2.1; have := HT.out.2.2.2.2.1; omega
      have hAN : (A : Int) ≤ (N : Int) := by have := HT.out.2.2.2.1; omega
      have hA0 : (0 : Int) ≤ (A : Int) := by omega
      go_upto_region 22 with fail
      clear c1
      go_region_law (first
        | (refine step_app_d (base := wr.heap.size) (v := v2) (vx := sliced p A N c 5) rfl _ _ rfl (by simp [Act.eval, Act.put]) Q2.out.1 (by simp [Act.eval, Act.put, sliced, add_lit']) (HT.out.2.1.gr Q2.out.2) (HT.out.2.2.2.2.2.2.1) Q2.out.2.size (fun v3 W3 hv3 hg3 hc3 => ?_); obtain ⟨pv, nv, cv, hvv⟩ := dslice hv3; subst hvv; have Q3 := Lib.hid (And.intro hv3 (dgr_grown Q2.out.2 hg3 (fun n hn => (Q2.out.1.lt n hn).1))); have e91 := (HZ.out.1.box1 Q3.out.2).1; have e92 := (HZ.out.1.box1 Q3.out.2).2; clear hv3 hg3 hc3)
        | (refine step_app_d (base := wr.heap.size) (v := v1) (vx := .slice (some ⟨W1.heap.size, 0, none⟩) 1 1) (M := [⟨o, (k1, k2), 1, true⟩]) rfl _ _ rfl (by simp [Act.eval, Act.put]) (Q1.out.1.gr ((Gr.refl _).alloc (Nat.le_refl _) _)) (by simp [Act.eval, Act.put]) (DSl.one W1 TDl ⟨o, (k1, k2), 1, true⟩) HT.out.2.2.2.2.2.1 (Nat.le_trans Q1.out.2.size ((Gr.refl W1).alloc (Nat.le_refl _) _).size) (fun v2 W2 hv2 hg2 hc2 => ?_); have Q2 := Lib.hid (And.intro hv2 (dgr_grown (Gr.trans Q1.out.2 ((Gr.refl W1).alloc (Nat.le_refl _) _)) hg2 (fun n hn => (Q1.out.1.lt n hn).1))); clear hv2 hg2 hc2)
        | (refine step_app_d (base := wr.heap.size) (v := v1) (vx := .slice (some ⟨wr.heap.size, 0, none⟩) 1 1) (M := [⟨o, (k1, k2), 1, true⟩]) rfl _ _ rfl (by simp [Act.eval, Act.put]) Q1.out.1 (by simp [Act.eval, Act.put]) (Q1.out.2.2) HT.out.2.2.2.2.2.1 Q1.out.2.1.size (fun v2 W2 hv2 hg2 hc2 => ?_); have Q2 := Lib.hid (And.intro hv2 (dgr_grown Q1.out.2.1 hg2 (fun n hn => (Q1.out.1.lt n hn).1))); clear hv2 hg2 hc2)
        | (refine step_app_d (base := wr.heap.size) (w := wr.drew) (v := .slice none 0 0) (vx := .slice p A c) rfl _ _ rfl (by simp [Act.eval, Act.put]) (Dr.nil _ _) (by simp [Act.eval, Act.put]) (HT.out.1.gr (grD (Gr.refl _))) (by have := HT.out.2.2.1; simp only [List.length_nil]; omega) (Nat.le_refl _) (fun v1 W1 hv1 hg1 hc1 => ?_); have Q1 := Lib.hid (And.intro hv1 (dgr_grown (grD (Gr.refl _) : Gr wr wr.drew) hg1 (fun n hn => nomatch hn))); obtain ⟨y0, y1, y2, y3, y4⟩ := HY.out _ Q1.out.2; clear hv1 hg1 hc1)
        | (refine step_app_d (base := wr.heap.size) (v := .slice none 0 0) (vx := .slice p A c) rfl _ _ rfl (by simp [Act.eval, Act.put]) (Dr.nil _ _) (by simp [Act.eval, Act.put]) (HT.out.1.gr ((grD (Gr.refl _) : Gr wr wr.drew).alloc (Nat.le_refl _) _)) (by have := HT.out.2.2.1; simp only [List.length_nil]; omega) ((grD (Gr.refl _) : Gr wr wr.drew).alloc (Nat.le_refl _) _).size (fun v1 W1 hv1 hg1 hc1 => ?_); have Q1 := Lib.hid (And.intro hv1 (And.intro (dgr_grown ((grD (Gr.refl _) : Gr wr wr.drew).alloc (Nat.le_refl _) _) hg1 (fun n hn => nomatch hn)) ((DSl.one wr.drew TDl ⟨o, (k1, k2), 1, true⟩).gr (dgr_grown (Gr.refl _) hg1 (fun n hn => nomatch hn))))); obtain ⟨y0, y1, y2, y3, y4⟩ := HY.out _ Q1.out.2.1; clear hv1 hg1 hc1))
      all_goals
        clear e91 e92
        have P1 := Lib.hid (show DtA (W3.setCell ⟨d, 1, none⟩ (.slice pv nv cv)) base d hv (.slice pv nv cv) (D.ins ⟨o, (k1, k2), 1, true⟩) ∧ DTn wr (W3.setCell ⟨d, 1, none⟩ (.slice pv nv cv)) (DB d hv (.slice p N c)) (DB d hv (.slice pv nv cv)) by
          have hr := Q3.out.1
          rw [List.nil_append, ← HT.out.2.2.2.2.2.2.2] at hr
          exact HZ.out.1.putLine HZ.out.2.1 Q3.out.2 hr)
        have P2 := Lib.hid fun (W' : World) (g : Gr (W3.setCell ⟨d, 1, none⟩ (.slice pv nv cv)) W') => HZ.out.1.back Q3.out.2 Q3.out.1 g
        go_wp2_with fail
        all_goals
          refine (dRing_any (P1.out.1.gr (Gr.refl _)).at HZ.out.2.2.1 HZ.out.2.2.2.1 o).mono ?_
          rintro e w9 ⟨rfl, g9⟩
          have HB := HZ.out.2.2.2.2
          cases hrg : (D.ins ⟨o, (k1, k2), 1, true⟩).ring o with
          | true =>
            have HE := Lib.hid (P2.out _ g9)
            have e91 := (P1.out.1.box1 g9).1
            have e92 := (P1.out.1.box1 g9).2
            have hR := HRR.out
            rw [if_pos hrg] at hR
            subst hR
            have HFin := Lib.hid (show RetDt base d hv (.slice p D.line.length c) _ w _ by rw [← HNN.out]; exact ⟨_, _, HE.out.1, (DTn.of_gr HB).trans HE.out.2⟩)
            clear g9
            go_wp2_with fail
            go_ret
            first
              | exact ⟨rfl, HFin.out⟩
              | (have hcn : c = A := by assumption
                 subst hcn
                 exact ⟨rfl, HFin.out⟩)
          | false =>
            have HE := Lib.hid (And.intro (P1.out.1.gr g9) (P1.out.2.trans (DTn.of_gr g9)))
            have hR := HRR.out
            rw [if_neg (by rw [hrg]; simp)] at hR
            subst hR
            have HFin := Lib.hid (show RetDt base d hv (.slice p D.line.length c) _ w _ by rw [← HNN.out]; exact ⟨_, _, HE.out.1, (DTn.of_gr HB).trans HE.out.2⟩)
            clear g9
            go_wp2_with fail
            go_ret
            first
              | exact ⟨rfl, HFin.out⟩
              | (have hcn : c = A := by assumption
                 subst hcn
                 exact ⟨rfl, HFin.out⟩)
    | succ j =>
      have hjj : (((j + 1 : Nat) : Int) - 1) = (j : Int) := by omega
      rw [hjj]
      have e17 : decide ((0 : Int) ≤ (j : Int)) = true := decide_eq_true (by omega)
      have e18 : (0 : Int) ≤ (j : Int) := by omega
      have g3 : (j : Int) < (N : Int) := by omega
      obtain ⟨g, q, hp, ha, hb1, hb2, hb3, hb4⟩ := hdl.at.2.2 j (by omega)
      subst hp
      obtain ⟨Y, hY⟩ : ∃ Y, Y = (D.line.getD j DL.zero).k := ⟨_, rfl⟩
      obtain ⟨U, hU⟩ : ∃ U, U = (D.line.getD j DL.zero).up := ⟨_, rfl⟩
      rw [← hY] at hb1 hb2
      rw [← hU] at hb4
      have hsp : inAt ⟨o, (k1, k2), 1, true⟩ D.line j = if (decide (Y = (k1, k2)) && !U) = true then j else inAt ⟨o, (k1, k2), 1, true⟩ D.line (j + 1) := by
        rw [inAt_step (by omega)]
        unfold DT.past ofK
        rw [← hY, ← hU]
        cases decide (Y = (k1, k2)) <;> cases U <;> rfl
      have hq0 : ∀ W, (Op.equalIn 10000 TKey (.agg #[.int .i64 Y.1, .int .i64 Y.2]) (.agg #[.int .i64 k1, .int .i64 k2])).run Tryz.prog W = .ok (decide (Y = (k1, k2))) W := fun W => eqi_key Y (k1, k2) W
      have hw1 : IntKind.i64.wrap ((j : Int) - 1) = (j : Int) - 1 := IntWalk.i64_in _ (by omega)
      have HMe : Hid (j ≤ N) := Lib.hid (by omega)
      obtain ⟨A1, hA1⟩ : ∃ A1, A1 = inAt ⟨o, (k1, k2), 1, true⟩ D.line (j + 1) := ⟨_, rfl⟩
      rw [← hA1] at hsp ⊢
      have HR2 := HR
      clear hz hdl hN hNc ha hb3 hY hU hA1 hw16 hNb hp' hjj y0 y1 y2 y3
      by_cases hk : Y = (k1, k2)
      · cases U with
        | false =>
          have HS := Lib.hid (show inAt ⟨o, (k1, k2), 1, true⟩ D.line j = j by rw [hsp]; simp [hk])
          have hq : ∀ W, (Op.equalIn 10000 TKey (.agg #[.int .i64 Y.1, .int .i64 Y.2]) (.agg #[.int .i64 k1, .int .i64 k2])).run Tryz.prog W = .ok true W := fun W => by
            rw [hq0 W]; simp [hk]
          clear hsp hq0 hk
          go_upto_region 19 with fail
          go_quiet (fail)
          rename_i nq
          have HE := Lib.hid (show Gr w4 (wr.drewN nq) from grD HR.out)
          go_wp2_with fail
          go_roundw
          case rel => exact ⟨j, rfl, HMe.out, by rw [HS.out], HE⟩
          case measure => simp [intOf]
        | true =>
          have HS := Lib.hid (show inAt ⟨o, (k1, k2), 1, true⟩ D.line j = A1 by rw [hsp]; simp [hk])
          have hq : ∀ W, (Op.equalIn 10000 TKey (.agg #[.int .i64 Y.1, .int .i64 Y.2]) (.agg #[.int .i64 k1, .int .i64 k2])).run Tryz.prog W = .ok true W := fun W => by
            rw [hq0 W]; simp [hk]
          clear hsp hq0 hk
          go_upto_region 19 with fail
          go_quiet (fail)
          rename_i nq
          have HE := Lib.hid (show Gr w4 (wr.drewN nq) from grD HR.out)
          go_wp2_with fail
          go_roundw
          case rel => exact ⟨j, rfl, HMe.out, by rw [HS.out], HE⟩
          case measure => simp [intOf]
      · have HS := Lib.hid (show inAt ⟨o, (k1, k2), 1, true⟩ D.line j = A1 by rw [hsp]; simp [hk])
        have hq : ∀ W, (Op.equalIn 10000 TKey (.agg #[.int .i64 Y.1, .int .i64 Y.2]) (.agg #[.int .i64 k1, .int .i64 k2])).run Tryz.prog W = .ok false W := fun W => by
          rw [hq0 W]; simp [hk]
        clear hsp hq0 hk
        go_upto_region 19 with fail
        go_quiet (fail)
        rename_i nq
        have HE := Lib.hid (show Gr w4 (wr.drewN nq) from grD HR.out)
        go_wp2_with fail
        go_roundw
        case rel => exact ⟨j, rfl, HMe.out, by rw [HS.out], HE⟩
        case measure => simp [intOf]
set_option maxRecDepth 100000 in
set_option maxHeartbeats 4000000 in
theorem dAsk_up2 (h : DtA w base d hv lv D) (hbs : base ≤ w.heap.size) (hn : D.line.length ≤ 9000) (hnh : D.held.length ≤ 9000) {o : Nat} (hw : ¬ D.line.any (ofO o) = true) {k : Key} {H : Int} (hHd : D.holds o k = H) (hH : H ≠ 0) (hle : ¬ 2 ≤ H) (hmy : D.may ⟨o, k, 2, true⟩ = false) : Calls Tryz.prog 10 #[.pointer (some ⟨d, 0, none⟩), .int .u64 (o : Int), .agg #[.int .i64 k.1, .int .i64 k.2], .int .i64 2] w (RetDA base d hv lv (if (D.ins ⟨o, k, 2, true⟩).ring o = true then (10, D) else (9, D.ins ⟨o, k, 2, true⟩)) w) := by
  obtain ⟨p, c, hlv⟩ := dform h.line
  subst hlv
  obtain ⟨k1, k2⟩ := k
  have g0 : Gr w (w.alloc (.cells #[.int .i64 k1, .int .i64 k2] TKey)) := (Gr.refl w).alloc (Nat.le_refl _) _
  have b0 := Blk.new w TKey #[.int .i64 k1, .int .i64 k2]
  obtain ⟨W0, hW0⟩ : ∃ W0, W0 = w.alloc (.cells #[.int .i64 k1, .int .i64 k2] TKey) := ⟨_, rfl⟩
  rw [← hW0] at g0 b0
  have HW := Lib.hid fun (W : World) (g : Gr w W) => (wi_no hw) ▸ dWaits_any (h.gr g).at (by omega) o
  have HO := Lib.hid fun (W : World) (g : Gr w W) => hHd ▸ dHolds_any (h.gr g).at (by omega) o (k1, k2)
  have HH := Lib.hid (And.intro h (And.intro g0 (And.intro b0 hW0)))
  obtain ⟨RR, hRR⟩ : ∃ RR, RR = if (D.ins ⟨o, (k1, k2), 2, true⟩).ring o = true then ((10 : Int), D) else (9, D.ins ⟨o, (k1, k2), 2, true⟩) := ⟨_, rfl⟩
  rw [← hRR]
  have HRR := Lib.hid hRR
  have HM := Lib.hid fun (W : World) (g : Gr w W) => hmy ▸ dmay_any (h.gr g).at (by omega) ⟨o, (k1, k2), 2, true⟩
  have HF := Lib.hid (And.intro hbs (And.intro hn hnh))
  have e0 : (H == 0) = false := by rw [beq_eq_false_iff_ne]; exact hH
  have e1 : (H != 0) = true := by rw [bne_iff_ne]; exact hH
  clear h g0 b0 hW0 hw hHd hn hnh hbs hRR hmy hH
  go_enter Tryz.func10, Tryz.ntmps10
  go_upto_region 3 with fail
  rw [show (w.alloc (.cells #[.int .i64 k1, .int .i64 k2] 33)) = W0 from HH.out.2.2.2.symm]
  go_wp2_with fail
  refine (HW.out W0 HH.out.2.1).mono ?_
  rintro e w1 ⟨rfl, g1⟩
  have G1 := Lib.hid (HH.out.2.1.trans g1)
  have B1 := Lib.hid (HH.out.2.2.1.gr g1)
  clear g1
  have z0 := B1.out.cell 0
  have z1 := B1.out.cell 1
  simp at z0 z1
  go_wp2_with fail
  refine (HO.out w1 G1.out).mono ?_
  rintro e w2 ⟨rfl, g2⟩
  have G2 := Lib.hid (G1.out.trans g2)
  have B2 := Lib.hid (B1.out.gr g2)
  clear g2 z0 z1
  have z0 := B2.out.cell 0
  have z1 := B2.out.cell 1
  simp at z0 z1
  have g3 : Gr w2 (w2.alloc (.cells #[.int .u64 (o : Int), .int .i64 k1, .int .i64 k2, .int .i64 2, .bool true] TDl)) := (Gr.refl w2).alloc (Nat.le_refl _) _
  have b3 := Blk.new w2 TDl #[.int .u64 (o : Int), .int .i64 k1, .int .i64 k2, .int .i64 2, .bool true]
  obtain ⟨W3, hW3⟩ : ∃ W3, W3 = w2.alloc (.cells #[.int .u64 (o : Int), .int .i64 k1, .int .i64 k2, .int .i64 2, .bool true] TDl) := ⟨_, rfl⟩
  rw [← hW3] at g3 b3
  have G3 := Lib.hid (And.intro (G2.out.trans g3) (And.intro b3 (And.intro (B2.out.gr g3) hW3)))
  clear g3 b3 hW3
  go_upto_region 12 with fail
  rw [show (w2.alloc (.cells #[.int .u64 (o : Int), .int .i64 k1, .int .i64 k2, .int .i64 2, .bool true] 71)) = W3 from G3.out.2.2.2.symm]
  clear z0 z1
  have y0 := G3.out.2.1.cell 0
  have y1 := G3.out.2.1.cell 1
  have y2 := G3.out.2.1.cell 2
  have y3 := G3.out.2.1.cell 3
  have y4 := G3.out.2.1.cell 4
  simp at y0 y1 y2 y3 y4
  go_wp2_with fail
  refine (HM.out W3 G3.out.1).mono ?_
  rintro e w4 ⟨rfl, g4⟩
  have G4 := Lib.hid (And.intro (G3.out.1.trans g4) (And.intro (G3.out.2.1.gr g4) (G3.out.2.2.1.gr g4)))
  clear g4 y0 y1 y2 y3 y4
  obtain ⟨N, hN⟩ : ∃ N, N = D.line.length := ⟨_, rfl⟩
  have hNb : N ≤ 9000 := by have := HF.out.2.1; omega
  have c1 := ((HH.out.1.gr G4.out.1).box1 (Gr.refl _)).1
  rw [← hN] at c1
  have hw16 : IntKind.i64.wrap ((N : Int) - 1) = (N : Int) - 1 := IntWalk.i64_in _ (by omega)
  have hst : inAt ⟨o, (k1, k2), 2, true⟩ D.line N = N := by rw [hN]; exact inAt_len _ _
  have HNN := Lib.hid (And.intro hN hst)
  have y4 := G4.out.2.1.cell 4
  simp at y4
  clear hN hst
  go_upto_region 17 with fail
  clear c1 y4
  go_loopw [13, 12] (fun iv av wr => ∃ p' : Nat, iv = .int .i64 ((p' : Int) - 1) ∧ p' ≤ N ∧ av = .int .i64 ((inAt ⟨o, (k1, k2), 2, true⟩ D.line p' : Nat) : Int) ∧ Hid (Gr w4 wr)) (fun iv _ _ => (intOf iv + 1).toNat)
  case atStart => exact ⟨N, rfl, Nat.le_refl _, by rw [HNN.out.2], Lib.hid (Gr.refl _)⟩
  case round =>
    obtain ⟨p', rfl, hp', rfl, HR⟩ := hrel
    have hN := HNN.out.1
    have hz := HH.out.1.gr (G4.out.1.trans HR.out)
    have c1 := (hz.box1 (Gr.refl _)).1
    have y0 := (G4.out.2.1.gr HR.out).cell 0
    have y1 := (G4.out.2.1.gr HR.out).cell 1
    have y2 := (G4.out.2.1.gr HR.out).cell 2
    have y3 := (G4.out.2.1.gr HR.out).cell 3
    have y4 := (G4.out.2.1.gr HR.out).cell 4
    have z0 := (G4.out.2.2.gr HR.out).cell 0
    have z1 := (G4.out.2.2.gr HR.out).cell 1
    simp at y0 y1 y2 y3 y4 z0 z1
    have hdl := hz.line.dsl
    rw [← hN] at c1 hdl
    have hNc : N ≤ c := hdl.at.2.1
    cases p' with
    | zero =>
      have e17 : decide ((0 : Int) ≤ ((0 : Nat) : Int) - 1) = false := rfl
      obtain ⟨A, hA⟩ : ∃ A, A = inAt ⟨o, (k1, k2), 2, true⟩ D.line 0 := ⟨_, rfl⟩
      have hAN' : A ≤ N := by rw [hA, hN]; exact inAt_le (Nat.zero_le _)
      have hins := ins_is D ⟨o, (k1, k2), 2, true⟩ (A := A) hA
      rw [← hA]
      have hlt : (D.line.take A).length = A := by rw [List.length_take]; omega
      have hld : (D.line.drop A).length = N - A := by rw [List.length_drop]; omega
      have hil : ((D.ins ⟨o, (k1, k2), 2, true⟩).line).length ≤ 10000 := by
        rw [hins, List.length_append, List.length_append, hlt, hld]
        simp only [List.length_cons, List.length_nil]
        omega
      have HZ := Lib.hid (show DtA wr base d hv (.slice p N c) D ∧ base ≤ wr.heap.size ∧ (D.ins ⟨o, (k1, k2), 2, true⟩).held.length ≤ 10000 ∧ (D.ins ⟨o, (k1, k2), 2, true⟩).line.length ≤ 10000 ∧ Gr w wr from ⟨by rw [hN]; exact hz, Nat.le_trans HF.out.1 (G4.out.1.trans HR.out).size, (by have := HF.out.2.2; exact Nat.le_trans this (by omega)), hil, G4.out.1.trans HR.out⟩)
      have HT := Lib.hid (show DSl wr (.slice p A c) (D.line.take A) ∧ DSl wr (sliced p A N c 5) (D.line.drop A) ∧ (D.line.take A).length ≤ 9000 ∧ A ≤ N ∧ N ≤ c ∧ ([] ++ D.line.take A).length + [(⟨o, (k1, k2), 2, true⟩ : DL)].length ≤ 1000000000 ∧ ([] ++ D.line.take A ++ [(⟨o, (k1, k2), 2, true⟩ : DL)]).length + (D.line.drop A).length ≤ 1000000000 ∧ (D.ins ⟨o, (k1, k2), 2, true⟩).line = D.line.take A ++ [⟨o, (k1, k2), 2, true⟩] ++ D.line.drop A by
        refine ⟨hdl.take hAN', hdl.drop hAN', by omega, hAN', hNc, ?_, ?_, hins⟩
        · simp only [List.nil_append, List.length_cons, List.length_nil]; omega
        · simp only [List.nil_append, List.length_append, List.length_cons, List.length_nil]; omega)
      have HY : Hid (∀ V, Gr wr V → V.cell? ⟨w2.heap.size, 0, none⟩ = some (.int .u64 (o : Int)) ∧ V.cell? ⟨w2.heap.size, 1, none⟩ = some (.int .i64 k1) ∧ V.cell? ⟨w2.heap.size, 2, none⟩ = some (.int .i64 k2) ∧ V.cell? ⟨w2.heap.size, 3, none⟩ = some (.int .i64 2) ∧ V.cell? ⟨w2.heap.size, 4, none⟩ = some (.bool true)) := Lib.hid fun V g => ⟨(g.cell (blk_lt' y0)).trans y0, (g.cell (blk_lt' y1)).trans y1, (g.cell (blk_lt' y2)).trans y2, (g.cell (blk_lt' y3)).trans y3, (g.cell (blk_lt' y4)).trans y4⟩
      have HNN := Lib.hid hN
      clear hz hdl hN hins hlt hld hil hNc hA hAN' hw16 hNb hp' z0 z1
      have hAc : A ≤ c := by have := HT.out.2.2.2.1; have := HT.out.2.2.2.2.1; omega
      have hAN : (A : Int) ≤ (N : Int) := by have := HT.out.2.2.2.1; omega
      have hA0 : (0 : Int) ≤ (A : Int) := by omega
      go_upto_region 22 with fail
      clear c1
      go_region_law (first
        | (refine step_app_d (base := wr.heap.size) (v := v2) (vx := sliced p A N c 5) rfl _ _ rfl (by simp [Act.eval, Act.put]) Q2.out.1 (by simp [Act.eval, Act.put, sliced, add_lit']) (HT.out.2.1.gr Q2.out.2) (HT.out.2.2.2.2.2.2.1) Q2.out.2.size (fun v3 W3 hv3 hg3 hc3 => ?_); obtain ⟨pv, nv, cv, hvv⟩ := dslice hv3; subst hvv; have Q3 := Lib.hid (And.intro hv3 (dgr_grown Q2.out.2 hg3 (fun n hn => (Q2.out.1.lt n hn).1))); have e91 := (HZ.out.1.box1 Q3.out.2).1; have e92 := (HZ.out.1.box1 Q3.out.2).2; clear hv3 hg3 hc3)
        | (refine step_app_d (base := wr.heap.size) (v := v1) (vx := .slice (some ⟨W1.heap.size, 0, none⟩) 1 1) (M := [⟨o, (k1, k2), 2, true⟩]) rfl _ _ rfl (by simp [Act.eval, Act.put]) (Q1.out.1.gr ((Gr.refl _).alloc (Nat.le_refl _) _)) (by simp [Act.eval, Act.put]) (DSl.one W1 TDl ⟨o, (k1, k2), 2, true⟩) HT.out.2.2.2.2.2.1 (Nat.le_trans Q1.out.2.size ((Gr.refl W1).alloc (Nat.le_refl _) _).size) (fun v2 W2 hv2 hg2 hc2 => ?_); have Q2 := Lib.hid (And.intro hv2 (dgr_grown (Gr.trans Q1.out.2 ((Gr.refl W1).alloc (Nat.le_refl _) _)) hg2 (fun n hn => (Q1.out.1.lt n hn).1))); clear hv2 hg2 hc2)
        | (refine step_app_d (base := wr.heap.size) (v := v1) (vx := .slice (some ⟨wr.heap.size, 0, none⟩) 1 1) (M := [⟨o, (k1, k2), 2, true⟩]) rfl _ _ rfl (by simp [Act.eval, Act.put]) Q1.out.1 (by simp [Act.eval, Act.put]) (Q1.out.2.2) HT.out.2.2.2.2.2.1 Q1.out.2.1.size (fun v2 W2 hv2 hg2 hc2 => ?_); have Q2 := Lib.hid (And.intro hv2 (dgr_grown Q1.out.2.1 hg2 (fun n hn => (Q1.out.1.lt n hn).1))); clear hv2 hg2 hc2)
        | (refine step_app_d (base := wr.heap.size) (w := wr.drew) (v := .slice none 0 0) (vx := .slice p A c) rfl _ _ rfl (by simp [Act.eval, Act.put]) (Dr.nil _ _) (by simp [Act.eval, Act.put]) (HT.out.1.gr (grD (Gr.refl _))) (by have := HT.out.2.2.1; simp only [List.length_nil]; omega) (Nat.le_refl _) (fun v1 W1 hv1 hg1 hc1 => ?_); have Q1 := Lib.hid (And.intro hv1 (dgr_grown (grD (Gr.refl _) : Gr wr wr.drew) hg1 (fun n hn => nomatch hn))); obtain ⟨y0, y1, y2, y3, y4⟩ := HY.out _ Q1.out.2; clear hv1 hg1 hc1)
        | (refine step_app_d (base := wr.heap.size) (v := .slice none 0 0) (vx := .slice p A c) rfl _ _ rfl (by simp [Act.eval, Act.put]) (Dr.nil _ _) (by simp [Act.eval, Act.put]) (HT.out.1.gr ((grD (Gr.refl _) : Gr wr wr.drew).alloc (Nat.le_refl _) _)) (by have := HT.out.2.2.1; simp only [List.length_nil]; omega) ((grD (Gr.refl _) : Gr wr wr.drew).alloc (Nat.le_refl _) _).size (fun v1 W1 hv1 hg1 hc1 => ?_); have Q1 := Lib.hid (And.intro hv1 (And.intro (dgr_grown ((grD (Gr.refl _) : Gr wr wr.drew).alloc (Nat.le_refl _) _) hg1 (fun n hn => nomatch hn)) ((DSl.one wr.drew TDl ⟨o, (k1, k2), 2, true⟩).gr (dgr_grown (Gr.refl _) hg1 (fun n hn => nomatch hn))))); obtain ⟨y0, y1, y2, y3, y4⟩ := HY.out _ Q1.out.2.1; clear hv1 hg1 hc1))
      all_goals
        clear e91 e92
        have P1 := Lib.hid (show DtA (W3.setCell ⟨d, 1, none⟩ (.slice pv nv cv)) base d hv (.slice pv nv cv) (D.ins ⟨o, (k1, k2), 2, true⟩) ∧ DTn wr (W3.setCell ⟨d, 1, none⟩ (.slice pv nv cv)) (DB d hv (.slice p N c)) (DB d hv (.slice pv nv cv)) by
          have hr := Q3.out.1
          rw [List.nil_append, ← HT.out.2.2.2.2.2.2.2] at hr
          exact HZ.out.1.putLine HZ.out.2.1 Q3.out.2 hr)
        have P2 := Lib.hid fun (W' : World) (g : Gr (W3.setCell ⟨d, 1, none⟩ (.slice pv nv cv)) W') => HZ.out.1.back Q3.out.2 Q3.out.1 g
        go_wp2_with fail
        all_goals
          refine (dRing_any (P1.out.1.gr (Gr.refl _)).at HZ.out.2.2.1 HZ.out.2.2.2.1 o).mono ?_
          rintro e w9 ⟨rfl, g9⟩
          have HB := HZ.out.2.2.2.2
          cases hrg : (D.ins ⟨o, (k1, k2), 2, true⟩).ring o with
          | true =>
            have HE := Lib.hid (P2.out _ g9)
            have e91 := (P1.out.1.box1 g9).1
            have e92 := (P1.out.1.box1 g9).2
            have hR := HRR.out
            rw [if_pos hrg] at hR
            subst hR
            have HFin := Lib.hid (show RetDt base d hv (.slice p D.line.length c) _ w _ by rw [← HNN.out]; exact ⟨_, _, HE.out.1, (DTn.of_gr HB).trans HE.out.2⟩)
            clear g9
            go_wp2_with fail
            go_ret
            first
              | exact ⟨rfl, HFin.out⟩
              | (have hcn : c = A := by assumption
                 subst hcn
                 exact ⟨rfl, HFin.out⟩)
          | false =>
            have HE := Lib.hid (And.intro (P1.out.1.gr g9) (P1.out.2.trans (DTn.of_gr g9)))
            have hR := HRR.out
            rw [if_neg (by rw [hrg]; simp)] at hR
            subst hR
            have HFin := Lib.hid (show RetDt base d hv (.slice p D.line.length c) _ w _ by rw [← HNN.out]; exact ⟨_, _, HE.out.1, (DTn.of_gr HB).trans HE.out.2⟩)
            clear g9
            go_wp2_with fail
            go_ret
            first
              | exact ⟨rfl, HFin.out⟩
              | (have hcn : c = A := by assumption
                 subst hcn
                 exact ⟨rfl, HFin.out⟩)
    | succ j =>
      have hjj : (((j + 1 : Nat) : Int) - 1) = (j : Int) := by omega
      rw [hjj]
      have e17 : decide ((0 : Int) ≤ (j : Int)) = true := decide_eq_true (by omega)
      have e18 : (0 : Int) ≤ (j : Int) := by omega
      have g3 : (j : Int) < (N : Int) := by omega
      obtain ⟨g, q, hp, ha, hb1, hb2, hb3, hb4⟩ := hdl.at.2.2 j (by omega)
      subst hp
      obtain ⟨Y, hY⟩ : ∃ Y, Y = (D.line.getD j DL.zero).k := ⟨_, rfl⟩
      obtain ⟨U, hU⟩ : ∃ U, U = (D.line.getD j DL.zero).up := ⟨_, rfl⟩
      rw [← hY] at hb1 hb2
      rw [← hU] at hb4
      have hsp : inAt ⟨o, (k1, k2), 2, true⟩ D.line j = if (decide (Y = (k1, k2)) && !U) = true then j else inAt ⟨o, (k1, k2), 2, true⟩ D.line (j + 1) := by
        rw [inAt_step (by omega)]
        unfold DT.past ofK
        rw [← hY, ← hU]
        cases decide (Y = (k1, k2)) <;> cases U <;> rfl
      have hq0 : ∀ W, (Op.equalIn 10000 TKey (.agg #[.int .i64 Y.1, .int .i64 Y.2]) (.agg #[.int .i64 k1, .int .i64 k2])).run Tryz.prog W = .ok (decide (Y = (k1, k2))) W := fun W => eqi_key Y (k1, k2) W
      have hw1 : IntKind.i64.wrap ((j : Int) - 1) = (j : Int) - 1 := IntWalk.i64_in _ (by omega)
      have HMe : Hid (j ≤ N) := Lib.hid (by omega)
      obtain ⟨A1, hA1⟩ : ∃ A1, A1 = inAt ⟨o, (k1, k2), 2, true⟩ D.line (j + 1) := ⟨_, rfl⟩
      rw [← hA1] at hsp ⊢
      have HR2 := HR
      clear hz hdl hN hNc ha hb3 hY hU hA1 hw16 hNb hp' hjj y0 y1 y2 y3
      by_cases hk : Y = (k1, k2)
      · cases U with
        | false =>
          have HS := Lib.hid (show inAt ⟨o, (k1, k2), 2, true⟩ D.line j = j by rw [hsp]; simp [hk])
          have hq : ∀ W, (Op.equalIn 10000 TKey (.agg #[.int .i64 Y.1, .int .i64 Y.2]) (.agg #[.int .i64 k1, .int .i64 k2])).run Tryz.prog W = .ok true W := fun W => by
            rw [hq0 W]; simp [hk]
          clear hsp hq0 hk
          go_upto_region 19 with fail
          go_quiet (fail)
          rename_i nq
          have HE := Lib.hid (show Gr w4 (wr.drewN nq) from grD HR.out)
          go_wp2_with fail
          go_roundw
          case rel => exact ⟨j, rfl, HMe.out, by rw [HS.out], HE⟩
          case measure => simp [intOf]
        | true =>
          have HS := Lib.hid (show inAt ⟨o, (k1, k2), 2, true⟩ D.line j = A1 by rw [hsp]; simp [hk])
          have hq : ∀ W, (Op.equalIn 10000 TKey (.agg #[.int .i64 Y.1, .int .i64 Y.2]) (.agg #[.int .i64 k1, .int .i64 k2])).run Tryz.prog W = .ok true W := fun W => by
            rw [hq0 W]; simp [hk]
          clear hsp hq0 hk
          go_upto_region 19 with fail
          go_quiet (fail)
          rename_i nq
          have HE := Lib.hid (show Gr w4 (wr.drewN nq) from grD HR.out)
          go_wp2_with fail
          go_roundw
          case rel => exact ⟨j, rfl, HMe.out, by rw [HS.out], HE⟩
          case measure => simp [intOf]
      · have HS := Lib.hid (show inAt ⟨o, (k1, k2), 2, true⟩ D.line j = A1 by rw [hsp]; simp [hk])
        have hq : ∀ W, (Op.equalIn 10000 TKey (.agg #[.int .i64 Y.1, .int .i64 Y.2]) (.agg #[.int .i64 k1, .int .i64 k2])).run Tryz.prog W = .ok false W := fun W => by
          rw [hq0 W]; simp [hk]
        clear hsp hq0 hk
        go_upto_region 19 with fail
        go_quiet (fail)
        rename_i nq
        have HE := Lib.hid (show Gr w4 (wr.drewN nq) from grD HR.out)
        go_wp2_with fail
        go_roundw
        case rel => exact ⟨j, rfl, HMe.out, by rw [HS.out], HE⟩
        case measure => simp [intOf]
end
end Go.Proofs.YtadopbpfnnpnaaaGreat

