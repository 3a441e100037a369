/-
  Texts on locks, put together: LkRef18.
-/
import Derived.Test.YtadopbpfnnpnaaaGreatL43
set_option linter.unusedVariables false
set_option linter.unusedSimpArgs false
/-
  The document's Ask: of one that stands in the line.
-/
namespace Go.Proofs.YtadopbpfnnpnaaaGreat
open Go.RowKit Go.Maps

section
variable {w : World} {base d : Nat} {hv lv : Value} {D : DT}
theorem DtA.box1 (h : DtA w base d hv lv D) {W : World} (g : Gr w W) : W.cell? ⟨d, 1, none⟩ = some lv ∧ W.frozen? ⟨d, 1, none⟩ = false := ⟨(h.blk.gr g).cell 1, (h.blk.gr g).frozen 1⟩
theorem ins_is (D : DT) (x : DL) {A : Nat} (hA : A = if x.up = true then inAt x D.line 0 else D.line.length) : (D.ins x).line = D.line.take A ++ [x] ++ D.line.drop A := by rw [ins_line, hA]
set_option maxRecDepth 100000 in
set_option maxHeartbeats 4000000 in
/-- One that does not upgrade stands at the end. -/
theorem dAsk_end (h : DtA w base d hv lv D) (hbs : base ≤ w.heap.size) (hn : D.line.length ≤ 9000) (hnh : D.held.length ≤ 9000) {o : Nat} (hw : ¬ D.line.any (ofO o) = true) {k : Key} {m : Int} (hm : m = 1 ∨ m = 2) (hHd : D.holds o k = 0) (hno : ¬ (D.may ⟨o, k, m, false⟩ = true ∧ (D.lineOf k).length = 0)) : Calls Tryz.prog 10 #[.pointer (some ⟨d, 0, none⟩), .int .u64 (o : Int), .agg #[.int .i64 k.1, .int .i64 k.2], .int .i64 m] w (RetDA base d hv lv (if (D.ins ⟨o, k, m, false⟩).ring o = true then (10, D) else (9, D.ins ⟨o, k, m, false⟩)) w) := by
  obtain ⟨p, c, hlv⟩ := dform h.line
  subst hlv
  obtain ⟨k1, k2⟩ := k
  have g0 : Gr w (w.alloc (.cells #[.int .i64 k1, .int .i64 k2] TKey)) := (Gr.refl w).alloc (Nat.le_refl _) _
  have b0 := Blk.new w TKey #[.int .i64 k1, .int .i64 k2]
  obtain ⟨W0, hW0⟩ : ∃ W0, W0 = w.alloc (.cells #[.int .i64 k1, .int .i64 k2] TKey) := ⟨_, rfl⟩
  rw [← hW0] at g0 b0
  have HW := Lib.hid fun (W : World) (g : Gr w W) => (wi_no hw) ▸ dWaits_any (h.gr g).at (by omega) o
  have HO := Lib.hid fun (W : World) (g : Gr w W) => hHd ▸ dHolds_any (h.gr g).at (by omega) o (k1, k2)
  have HH := Lib.hid (And.intro h (And.intro g0 (And.intro b0 hW0)))
  obtain ⟨RR, hRR⟩ : ∃ RR, RR = if (D.ins ⟨o, (k1, k2), m, false⟩).ring o = true then ((10 : Int), D) else (9, D.ins ⟨o, (k1, k2), m, false⟩) := ⟨_, rfl⟩
  rw [← hRR]
  have HRR := Lib.hid hRR
  have HM := Lib.hid fun (W : World) (g : Gr w W) => dmay_any (h.gr g).at (by omega) ⟨o, (k1, k2), m, false⟩
  have HL := Lib.hid fun (W : World) (g : Gr w W) => dLineOf_any (h.gr g).at (by omega) (k1, k2)
  have HF := Lib.hid (And.intro hno (And.intro hbs (And.intro hn hnh)))
  clear h g0 b0 hW0 hw hHd hn hnh hno hbs hRR
  cases hmy : D.may ⟨o, (k1, k2), m, false⟩ with
  | false =>
    rw [hmy] at HM
    rcases hm with rfl | rfl
    · go_enter Tryz.func10, Tryz.ntmps10
      go_upto_region 3 with fail
      rw [show (w.alloc (.cells #[.int .i64 k1, .int .i64 k2] 33)) = W0 from HH.out.2.2.2.symm]
      go_wp2_with fail
      refine (HW.out W0 HH.out.2.1).mono ?_
      rintro e w1 ⟨rfl, g1⟩
      have G1 := Lib.hid (HH.out.2.1.trans g1)
      have B1 := Lib.hid (HH.out.2.2.1.gr g1)
      clear g1
      have z0 := B1.out.cell 0
      have z1 := B1.out.cell 1
      simp at z0 z1
      go_wp2_with fail
      refine (HO.out w1 G1.out).mono ?_
      rintro e w2 ⟨rfl, g2⟩
      have G2 := Lib.hid (G1.out.trans g2)
      have B2 := Lib.hid (B1.out.gr g2)
      clear g2 z0 z1
      have z0 := B2.out.cell 0
      have z1 := B2.out.cell 1
      simp at z0 z1
      have g3 : Gr w2 (w2.alloc (.cells #[.int .u64 (o : Int), .int .i64 k1, .int .i64 k2, .int .i64 1, .bool false] TDl)) := (Gr.refl w2).alloc (Nat.le_refl _) _
      have b3 := Blk.new w2 TDl #[.int .u64 (o : Int), .int .i64 k1, .int .i64 k2, .int .i64 1, .bool false]
      obtain ⟨W3, hW3⟩ : ∃ W3, W3 = w2.alloc (.cells #[.int .u64 (o : Int), .int .i64 k1, .int .i64 k2, .int .i64 1, .bool false] TDl) := ⟨_, rfl⟩
      rw [← hW3] at g3 b3
      have G3 := Lib.hid (And.intro (G2.out.trans g3) (And.intro b3 (And.intro (B2.out.gr g3) hW3)))
      clear g3 b3 hW3
      go_upto_region 12 with fail
      rw [show (w2.alloc (.cells #[.int .u64 (o : Int), .int .i64 k1, .int .i64 k2, .int .i64 1, .bool false] 71)) = W3 from G3.out.2.2.2.symm]
      clear z0 z1
      have y0 := G3.out.2.1.cell 0
      have y1 := G3.out.2.1.cell 1
      have y2 := G3.out.2.1.cell 2
      have y3 := G3.out.2.1.cell 3
      have y4 := G3.out.2.1.cell 4
      simp at y0 y1 y2 y3 y4
      go_wp2_with fail
      refine (HM.out W3 G3.out.1).mono ?_
      rintro e w4 ⟨rfl, g4⟩
      have G4 := Lib.hid (And.intro (G3.out.1.trans g4) (And.intro (G3.out.2.1.gr g4) (G3.out.2.2.1.gr g4)))
      clear g4 y0 y1 y2 y3 y4
      have y0 := G4.out.2.1.cell 0
      have y1 := G4.out.2.1.cell 1
      have y2 := G4.out.2.1.cell 2
      have y3 := G4.out.2.1.cell 3
      have y4 := G4.out.2.1.cell 4
      have z0 := G4.out.2.2.cell 0
      have z1 := G4.out.2.2.cell 1
      simp at y0 y1 y2 y3 y4 z0 z1
      have GZ := Lib.hid G4.out
      have hz := HH.out.1.gr GZ.out.1
      obtain ⟨N, hN⟩ : ∃ N, N = D.line.length := ⟨_, rfl⟩
      have hdl := hz.line.dsl
      have c1 := (hz.box1 (Gr.refl _)).1
      rw [← hN] at c1 hdl
      have hNc : N ≤ c := hdl.at.2.1
      have hins := ins_is D ⟨o, (k1, k2), 1, false⟩ (A := N) hN
      have hlt : (D.line.take N).length = N := by rw [List.length_take]; omega
      have hld : (D.line.drop N).length = N - N := by rw [List.length_drop]; omega
      have hil : ((D.ins ⟨o, (k1, k2), 1, false⟩).line).length ≤ 10000 := by
        have := HF.out.2.2.1
        rw [hins, List.length_append, List.length_append, hlt, hld]
        simp only [List.length_cons, List.length_nil]
        omega
      have HZ := Lib.hid (show DtA w4 base d hv (.slice p N c) D ∧ base ≤ w4.heap.size ∧ (D.ins ⟨o, (k1, k2), 1, false⟩).held.length ≤ 10000 ∧ (D.ins ⟨o, (k1, k2), 1, false⟩).line.length ≤ 10000 ∧ Gr w w4 from ⟨by rw [hN]; exact hz, Nat.le_trans HF.out.2.1 GZ.out.1.size, (by have := HF.out.2.2.2; exact Nat.le_trans this (by omega)), hil, GZ.out.1⟩)
      have HT := Lib.hid (show DSl w4 (.slice p N c) (D.line.take N) ∧ DSl w4 (sliced p N N c 5) (D.line.drop N) ∧ (D.line.take N).length ≤ 9000 ∧ N ≤ N ∧ N ≤ c ∧ ([] ++ D.line.take N).length + [(⟨o, (k1, k2), 1, false⟩ : DL)].length ≤ 1000000000 ∧ ([] ++ D.line.take N ++ [(⟨o, (k1, k2), 1, false⟩ : DL)]).length + (D.line.drop N).length ≤ 1000000000 ∧ (D.ins ⟨o, (k1, k2), 1, false⟩).line = D.line.take N ++ [⟨o, (k1, k2), 1, false⟩] ++ D.line.drop N by
        have a1 := HF.out.2.2.1
        refine ⟨hdl.take (Nat.le_refl _), hdl.drop (Nat.le_refl _), by omega, Nat.le_refl _, hNc, ?_, ?_, hins⟩
        · simp only [List.nil_append, List.length_cons, List.length_nil]; omega
        · simp only [List.nil_append, List.length_append, List.length_cons, List.length_nil]; omega)
      have HY : Hid (∀ V, Gr w4 V → V.cell? ⟨w2.heap.size, 0, none⟩ = some (.int .u64 (o : Int)) ∧ V.cell? ⟨w2.heap.size, 1, none⟩ = some (.int .i64 k1) ∧ V.cell? ⟨w2.heap.size, 2, none⟩ = some (.int .i64 k2) ∧ V.cell? ⟨w2.heap.size, 3, none⟩ = some (.int .i64 1) ∧ V.cell? ⟨w2.heap.size, 4, none⟩ = some (.bool false)) := Lib.hid fun V g => ⟨(g.cell (blk_lt' y0)).trans y0, (g.cell (blk_lt' y1)).trans y1, (g.cell (blk_lt' y2)).trans y2, (g.cell (blk_lt' y3)).trans y3, (g.cell (blk_lt' y4)).trans y4⟩
      have hNb : N ≤ 9000 := by have := HF.out.2.2.1; omega
      have hw16 : IntKind.i64.wrap ((N : Int) - 1) = (N : Int) - 1 := IntWalk.i64_in _ (by omega)
      have HNN := Lib.hid hN
      clear hz hdl hN hins hlt hld hil hNc
      by_cases hN0 : N = 0
      · have e17 : decide ((0 : Int) ≤ (N : Int) - 1) = false := decide_eq_false (by omega)
        have e18 : ¬ (0 : Int) ≤ (N : Int) - 1 := by omega
        clear hN0
        go_upto_region 17 with fail
        refine wp_loop_rounds 1 ?_
        rw [rounds_succ]
        have hAc : N ≤ c := by have := HT.out.2.2.2.1; have := HT.out.2.2.2.2.1; omega
        have hAN : (N : Int) ≤ (N : Int) := by have := HT.out.2.2.2.1; omega
        have hA0 : (0 : Int) ≤ (N : Int) := by omega
        go_upto_region 22 with fail
        clear c1
        go_region_law (first
          | (refine step_app_d (base := w4.heap.size) (v := v2) (vx := sliced p N N c 5) rfl _ _ rfl (by simp [Act.eval, Act.put]) Q2.out.1 (by simp [Act.eval, Act.put, sliced, add_lit']) (HT.out.2.1.gr Q2.out.2) (HT.out.2.2.2.2.2.2.1) Q2.out.2.size (fun v3 W3 hv3 hg3 hc3 => ?_); obtain ⟨pv, nv, cv, hvv⟩ := dslice hv3; subst hvv; have Q3 := Lib.hid (And.intro hv3 (dgr_grown Q2.out.2 hg3 (fun n hn => (Q2.out.1.lt n hn).1))); have e91 := (HZ.out.1.box1 Q3.out.2).1; have e92 := (HZ.out.1.box1 Q3.out.2).2; clear hv3 hg3 hc3)
          | (refine step_app_d (base := w4.heap.size) (v := v1) (vx := .slice (some ⟨W1.heap.size, 0, none⟩) 1 1) (M := [⟨o, (k1, k2), 1, false⟩]) rfl _ _ rfl (by simp [Act.eval, Act.put]) (Q1.out.1.gr ((Gr.refl _).alloc (Nat.le_refl _) _)) (by simp [Act.eval, Act.put]) (DSl.one W1 TDl ⟨o, (k1, k2), 1, false⟩) HT.out.2.2.2.2.2.1 (Nat.le_trans Q1.out.2.size ((Gr.refl W1).alloc (Nat.le_refl _) _).size) (fun v2 W2 hv2 hg2 hc2 => ?_); have Q2 := Lib.hid (And.intro hv2 (dgr_grown (Gr.trans Q1.out.2 ((Gr.refl W1).alloc (Nat.le_refl _) _)) hg2 (fun n hn => (Q1.out.1.lt n hn).1))); clear hv2 hg2 hc2)
          | (refine step_app_d (base := w4.heap.size) (v := v1) (vx := .slice (some ⟨w4.heap.size, 0, none⟩) 1 1) (M := [⟨o, (k1, k2), 1, false⟩]) rfl _ _ rfl (by simp [Act.eval, Act.put]) Q1.out.1 (by simp [Act.eval, Act.put]) (Q1.out.2.2) HT.out.2.2.2.2.2.1 Q1.out.2.1.size (fun v2 W2 hv2 hg2 hc2 => ?_); have Q2 := Lib.hid (And.intro hv2 (dgr_grown Q1.out.2.1 hg2 (fun n hn => (Q1.out.1.lt n hn).1))); clear hv2 hg2 hc2)
          | (refine step_app_d (base := w4.heap.size) (w := w4.drew) (v := .slice none 0 0) (vx := .slice p N c) rfl _ _ rfl (by simp [Act.eval, Act.put]) (Dr.nil _ _) (by simp [Act.eval, Act.put]) (HT.out.1.gr (grD (Gr.refl _))) (by have := HT.out.2.2.1; simp only [List.length_nil]; omega) (Nat.le_refl _) (fun v1 W1 hv1 hg1 hc1 => ?_); have Q1 := Lib.hid (And.intro hv1 (dgr_grown (grD (Gr.refl _) : Gr w4 w4.drew) hg1 (fun n hn => nomatch hn))); obtain ⟨y0, y1, y2, y3, y4⟩ := HY.out _ Q1.out.2; clear hv1 hg1 hc1)
          | (refine step_app_d (base := w4.heap.size) (v := .slice none 0 0) (vx := .slice p N c) rfl _ _ rfl (by simp [Act.eval, Act.put]) (Dr.nil _ _) (by simp [Act.eval, Act.put]) (HT.out.1.gr ((grD (Gr.refl _) : Gr w4 w4.drew).alloc (Nat.le_refl _) _)) (by have := HT.out.2.2.1; simp only [List.length_nil]; omega) ((grD (Gr.refl _) : Gr w4 w4.drew).alloc (Nat.le_refl _) _).size (fun v1 W1 hv1 hg1 hc1 => ?_); have Q1 := Lib.hid (And.intro hv1 (And.intro (dgr_grown ((grD (Gr.refl _) : Gr w4 w4.drew).alloc (Nat.le_refl _) _) hg1 (fun n hn => nomatch hn)) ((DSl.one w4.drew TDl ⟨o, (k1, k2), 1, false⟩).gr (dgr_grown (Gr.refl _) hg1 (fun n hn => nomatch hn))))); obtain ⟨y0, y1, y2, y3, y4⟩ := HY.out _ Q1.out.2.1; clear hv1 hg1 hc1))
        all_goals
          clear e91 e92
          have P1 := Lib.hid (show DtA (W3.setCell ⟨d, 1, none⟩ (.slice pv nv cv)) base d hv (.slice pv nv cv) (D.ins ⟨o, (k1, k2), 1, false⟩) ∧ DTn w4 (W3.setCell ⟨d, 1, none⟩ (.slice pv nv cv)) (DB d hv (.slice p N c)) (DB d hv (.slice pv nv cv)) by
            have hr := Q3.out.1
            rw [List.nil_append, ← HT.out.2.2.2.2.2.2.2] at hr
            exact HZ.out.1.putLine HZ.out.2.1 Q3.out.2 hr)
          have P2 := Lib.hid fun (W' : World) (g : Gr (W3.setCell ⟨d, 1, none⟩ (.slice pv nv cv)) W') => HZ.out.1.back Q3.out.2 Q3.out.1 g
          go_wp2_with fail
          all_goals
            refine (dRing_any (P1.out.1.gr (Gr.refl _)).at HZ.out.2.2.1 HZ.out.2.2.2.1 o).mono ?_
            rintro e w9 ⟨rfl, g9⟩
            have HB := HZ.out.2.2.2.2
            cases hrg : (D.ins ⟨o, (k1, k2), 1, false⟩).ring o with
            | true =>
              have HE := Lib.hid (P2.out _ g9)
              have e91 := (P1.out.1.box1 g9).1
              have e92 := (P1.out.1.box1 g9).2
              have hR := HRR.out
              rw [if_pos hrg] at hR
              subst hR
              have HFin := Lib.hid (show RetDt base d hv (.slice p D.line.length c) _ w _ by rw [← HNN.out]; exact ⟨_, _, HE.out.1, (DTn.of_gr HB).trans HE.out.2⟩)
              clear g9
              go_wp2_with fail
              go_ret
              first
                | exact ⟨rfl, HFin.out⟩
                | (have hcn : c = N := by assumption
                   subst hcn
                   exact ⟨rfl, HFin.out⟩)
            | false =>
              have HE := Lib.hid (And.intro (P1.out.1.gr g9) (P1.out.2.trans (DTn.of_gr g9)))
              have hR := HRR.out
              rw [if_neg (by rw [hrg]; simp)] at hR
              subst hR
              have HFin := Lib.hid (show RetDt base d hv (.slice p D.line.length c) _ w _ by rw [← HNN.out]; exact ⟨_, _, HE.out.1, (DTn.of_gr HB).trans HE.out.2⟩)
              clear g9
              go_wp2_with fail
              go_ret
              first
                | exact ⟨rfl, HFin.out⟩
                | (have hcn : c = N := by assumption
                   subst hcn
                   exact ⟨rfl, HFin.out⟩)
      · have e17 : decide ((0 : Int) ≤ (N : Int) - 1) = true := decide_eq_true (by omega)
        have e18 : (0 : Int) ≤ (N : Int) - 1 := by omega
        clear hN0
        go_upto_region 17 with fail
        refine wp_loop_rounds 1 ?_
        rw [rounds_succ]
        have hAc : N ≤ c := by have := HT.out.2.2.2.1; have := HT.out.2.2.2.2.1; omega
        have hAN : (N : Int) ≤ (N : Int) := by have := HT.out.2.2.2.1; omega
        have hA0 : (0 : Int) ≤ (N : Int) := by omega
        go_upto_region 22 with fail
        clear c1
        go_region_law (first
          | (refine step_app_d (base := w4.heap.size) (v := v2) (vx := sliced p N N c 5) rfl _ _ rfl (by simp [Act.eval, Act.put]) Q2.out.1 (by simp [Act.eval, Act.put, sliced, add_lit']) (HT.out.2.1.gr Q2.out.2) (HT.out.2.2.2.2.2.2.1) Q2.out.2.size (fun v3 W3 hv3 hg3 hc3 => ?_); obtain ⟨pv, nv, cv, hvv⟩ := dslice hv3; subst hvv; have Q3 := Lib.hid (And.intro hv3 (dgr_grown Q2.out.2 hg3 (fun n hn => (Q2.out.1.lt n hn).1))); have e91 := (HZ.out.1.box1 Q3.out.2).1; have e92 := (HZ.out.1.box1 Q3.out.2).2; clear hv3 hg3 hc3)
          | (refine step_app_d (base := w4.heap.size) (v := v1) (vx := .slice (some ⟨W1.heap.size, 0, none⟩) 1 1) (M := [⟨o, (k1, k2), 1, false⟩]) rfl _ _ rfl (by simp [Act.eval, Act.put]) (Q1.out.1.gr ((Gr.refl _).alloc (Nat.le_refl _) _)) (by simp [Act.eval, Act.put]) (DSl.one W1 TDl ⟨o, (k1, k2), 1, false⟩) HT.out.2.2.2.2.2.1 (Nat.le_trans Q1.out.2.size ((Gr.refl W1).alloc (Nat.le_refl _) _).size) (fun v2 W2 hv2 hg2 hc2 => ?_); have Q2 := Lib.hid (And.intro hv2 (dgr_grown (Gr.trans Q1.out.2 ((Gr.refl W1).alloc (Nat.le_refl _) _)) hg2 (fun n hn => (Q1.out.1.lt n hn).1))); clear hv2 hg2 hc2)
          | (refine step_app_d (base := w4.heap.size) (v := v1) (vx := .slice (some ⟨w4.heap.size, 0, none⟩) 1 1) (M := [⟨o, (k1, k2), 1, false⟩]) rfl _ _ rfl (by simp [Act.eval, Act.put]) Q1.out.1 (by simp [Act.eval, Act.put]) (Q1.out.2.2) HT.out.2.2.2.2.2.1 Q1.out.2.1.size (fun v2 W2 hv2 hg2 hc2 => ?_); have Q2 := Lib.hid (And.intro hv2 (dgr_grown Q1.out.2.1 hg2 (fun n hn => (Q1.out.1.lt n hn).1))); clear hv2 hg2 hc2)
          | (refine step_app_d (base := w4.heap.size) (w := w4.drew) (v := .slice none 0 0) (vx := .slice p N c) rfl _ _ rfl (by simp [Act.eval, Act.put]) (Dr.nil _ _) (by simp [Act.eval, Act.put]) (HT.out.1.gr (grD (Gr.refl _))) (by have := HT.out.2.2.1; simp only [List.length_nil]; omega) (Nat.le_refl _) (fun v1 W1 hv1 hg1 hc1 => ?_); have Q1 := Lib.hid (And.intro hv1 (dgr_grown (grD (Gr.refl _) : Gr w4 w4.drew) hg1 (fun n hn => nomatch hn))); obtain ⟨y0, y1, y2, y3, y4⟩ := HY.out _ Q1.out.2; clear hv1 hg1 hc1)
          | (refine step_app_d (base := w4.heap.size) (v := .slice none 0 0) (vx := .slice p N c) rfl _ _ rfl (by simp [Act.eval, Act.put]) (Dr.nil _ _) (by simp [Act.eval, Act.put]) (HT.out.1.gr ((grD (Gr.refl _) : Gr w4 w4.drew).alloc (Nat.le_refl _) _)) (by have := HT.out.2.2.1; simp only [List.length_nil]; omega) ((grD (Gr.refl _) : Gr w4 w4.drew).alloc (Nat.le_refl _) _).size (fun v1 W1 hv1 hg1 hc1 => ?_); have Q1 := Lib.hid (And.intro hv1 (And.intro (dgr_grown ((grD (Gr.refl _) : Gr w4 w4.drew).alloc (Nat.le_refl _) _) hg1 (fun n hn => nomatch hn)) ((DSl.one w4.drew TDl ⟨o, (k1, k2), 1, false⟩).gr (dgr_grown (Gr.refl _) hg1 (fun n hn => nomatch hn))))); obtain ⟨y0, y1, y2, y3, y4⟩ := HY.out _ Q1.out.2.1; clear hv1 hg1 hc1))
        all_goals
          clear e91 e92
          have P1 := Lib.hid (show DtA (W3.setCell ⟨d, 1, none⟩ (.slice pv nv cv)) base d hv (.slice pv nv cv) (D.ins ⟨o, (k1, k2), 1, false⟩) ∧ DTn w4 (W3.setCell ⟨d, 1, none⟩ (.slice pv nv cv)) (DB d hv (.slice p N c)) (DB d hv (.slice pv nv cv)) by
            have hr := Q3.out.1
            rw [List.nil_append, ← HT.out.2.2.2.2.2.2.2] at hr
            exact HZ.out.1.putLine HZ.out.2.1 Q3.out.2 hr)
          have P2 := Lib.hid fun (W' : World) (g : Gr (W3.setCell ⟨d, 1, none⟩ (.slice pv nv cv)) W') => HZ.out.1.back Q3.out.2 Q3.out.1 g
          go_wp2_with fail
          all_goals
            refine (dRing_any (P1.out.1.gr (Gr.refl _)).at HZ.out.2.2.1 HZ.out.2.2.2.1 o).mono ?_
            rintro e w9 ⟨rfl, g9⟩
            have HB := HZ.out.2.2.2.2
            cases hrg : (D.ins ⟨o, (k1, k2), 1, false⟩).ring o with
            | true =>
              have HE := Lib.hid (P2.out _ g9)
              have e91 := (P1.out.1.box1 g9).1
              have e92 := (P1.out.1.box1 g9).2
              have hR := HRR.out
              rw [if_pos hrg] at hR
              subst hR
              have HFin := Lib.hid (show RetDt base d hv (.slice p D.line.length c) _ w _ by rw [← HNN.out]; exact ⟨_, _, HE.out.1, (DTn.of_gr HB).trans HE.out.2⟩)
              clear g9
              go_wp2_with fail
              go_ret
              first
                | exact ⟨rfl, HFin.out⟩
                | (have hcn : c = N := by assumption
                   subst hcn
                   exact ⟨rfl, HFin.out⟩)
            | false =>
              have HE := Lib.hid (And.intro (P1.out.1.gr g9) (P1.out.2.trans (DTn.of_gr g9)))
              have hR := HRR.out
              rw [if_neg (by rw [hrg]; simp)] at hR
              subst hR
              have HFin := Lib.hid (show RetDt base d hv (.slice p D.line.length c) _ w _ by rw [← HNN.out]; exact ⟨_, _, HE.out.1, (DTn.of_gr HB).trans HE.out.2⟩)
              clear g9
              go_wp2_with fail
              go_ret
              first
                | exact ⟨rfl, HFin.out⟩
                | (have hcn : c = N := by assumption
                   subst hcn
                   exact ⟨rfl, HFin.out⟩)
    · go_enter Tryz.func10, Tryz.ntmps10
      go_upto_region 3 with fail
      rw [show (w.alloc (.cells #[.int .i64 k1, .int .i64 k2] 33)) = W0 from HH.out.2.2.2.symm]
      go_wp2_with fail
      refine (HW.out W0 HH.out.2.1).mono ?_
      rintro e w1 ⟨rfl, g1⟩
      have G1 := Lib.hid (HH.out.2.1.trans g1)
      have B1 := Lib.hid (HH.out.2.2.1.gr g1)
      clear g1
      have z0 := B1.out.cell 0
      have z1 := B1.out.cell 1
      simp at z0 z1
      go_wp2_with fail
      refine (HO.out w1 G1.out).mono ?_
      rintro e w2 ⟨rfl, g2⟩
      have G2 := Lib.hid (G1.out.trans g2)
      have B2 := Lib.hid (B1.out.gr g2)
      clear g2 z0 z1
      have z0 := B2.out.cell 0
      have z1 := B2.out.cell 1
      simp at z0 z1
      have g3 : Gr w2 (w2.alloc (.cells #[.int .u64 (o : Int), .int .i64 k1, .int .i64 k2, .int .i64 2, .bool false] TDl)) := (Gr.refl w2).alloc (Nat.le_refl _) _
      have b3 := Blk.new w2 TDl #[.int .u64 (o : Int), .int .i64 k1, .int .i64 k2, .int .i64 2, .bool false]
      obtain ⟨W3, hW3⟩ : ∃ W3, W3 = w2.alloc (.cells #[.int .u64 (o : Int), .int .i64 k1, .int .i64 k2, .int .i64 2, .bool false] TDl) := ⟨_, rfl⟩
      rw [← hW3] at g3 b3
      have G3 := Lib.hid (And.intro (G2.out.trans g3) (And.intro b3 (And.intro (B2.out.gr g3) hW3)))
      clear g3 b3 hW3
      go_upto_region 12 with fail
      rw [show (w2.alloc (.cells #[.int .u64 (o : Int), .int .i64 k1, .int .i64 k2, .int .i64 2, .bool false] 71)) = W3 from G3.out.2.2.2.symm]
      clear z0 z1
      have y0 := G3.out.2.1.cell 0
      have y1 := G3.out.2.1.cell 1
      have y2 := G3.out.2.1.cell 2
      have y3 := G3.out.2.1.cell 3
      have y4 := G3.out.2.1.cell 4
      simp at y0 y1 y2 y3 y4
      go_wp2_with fail
      refine (HM.out W3 G3.out.1).mono ?_
      rintro e w4 ⟨rfl, g4⟩
      have G4 := Lib.hid (And.intro (G3.out.1.trans g4) (And.intro (G3.out.2.1.gr g4) (G3.out.2.2.1.gr g4)))
      clear g4 y0 y1 y2 y3 y4
      have y0 := G4.out.2.1.cell 0
      have y1 := G4.out.2.1.cell 1
      have y2 := G4.out.2.1.cell 2
      have y3 := G4.out.2.1.cell 3
      have y4 := G4.out.2.1.cell 4
      have z0 := G4.out.2.2.cell 0
      have z1 := G4.out.2.2.cell 1
      simp at y0 y1 y2 y3 y4 z0 z1
      have GZ := Lib.hid G4.out
      have hz := HH.out.1.gr GZ.out.1
      obtain ⟨N, hN⟩ : ∃ N, N = D.line.length := ⟨_, rfl⟩
      have hdl := hz.line.dsl
      have c1 := (hz.box1 (Gr.refl _)).1
      rw [← hN] at c1 hdl
      have hNc : N ≤ c := hdl.at.2.1
      have hins := ins_is D ⟨o, (k1, k2), 2, false⟩ (A := N) hN
      have hlt : (D.line.take N).length = N := by rw [List.length_take]; omega
      have hld : (D.line.drop N).length = N - N := by rw [List.length_drop]; omega
      have hil : ((D.ins ⟨o, (k1, k2), 2, false⟩).line).length ≤ 10000 := by
        have := HF.out.2.2.1
        rw [hins, List.length_append, List.length_append, hlt, hld]
        simp only [List.length_cons, List.length_nil]
        omega
      have HZ := Lib.hid (show DtA w4 base d hv (.slice p N c) D ∧ base ≤ w4.heap.size ∧ (D.ins ⟨o, (k1, k2), 2, false⟩).held.length ≤ 10000 ∧ (D.ins ⟨o, (k1, k2), 2, false⟩).line.length ≤ 10000 ∧ Gr w w4 from ⟨by rw [hN]; exact hz, Nat.le_trans HF.out.2.1 GZ.out.1.size, (by have := HF.out.2.2.2; exact Nat.le_trans this (by omega)), hil, GZ.out.1⟩)
      have HT := Lib.hid (show DSl w4 (.slice p N c) (D.line.take N) ∧ DSl w4 (sliced p N N c 5) (D.line.drop N) ∧ (D.line.take N).length ≤ 9000 ∧ N ≤ N ∧ N ≤ c ∧ ([] ++ D.line.take N).length + [(⟨o, (k1, k2), 2, false⟩ : DL)].length ≤ 1000000000 ∧ ([] ++ D.line.take N ++ [(⟨o, (k1, k2), 2, false⟩ : DL)]).length + (D.line.drop N).length ≤ 1000000000 ∧ (D.ins ⟨o, (k1, k2), 2, false⟩).line = D.line.take N ++ [⟨o, (k1, k2), 2, false⟩] ++ D.line.drop N by
        have a1 := HF.out.2.2.1
        refine ⟨hdl.take (Nat.le_refl _), hdl.drop (Nat.le_refl _), by omega, Nat.le_refl _, hNc, ?_, ?_, hins⟩
        · simp only [List.nil_append, List.length_cons, List.length_nil]; omega
        · simp only [List.nil_append, List.length_append, List.length_cons, List.length_nil]; omega)
      have HY : Hid (∀ V, Gr w4 V → V.cell? ⟨w2.heap.size, 0, none⟩ = some (.int .u64 (o : Int)) ∧ V.cell? ⟨w2.heap.size, 1, none⟩ = some (.int .i64 k1) ∧ V.cell? ⟨w2.heap.size, 2, none⟩ = some (.int .i64 k2) ∧ V.cell? ⟨w2.heap.size, 3, none⟩ = some (.int .i64 2) ∧ V.cell? ⟨w2.heap.size, 4, none⟩ = some (.bool false)) := Lib.hid fun V g => ⟨(g.cell (blk_lt' y0)).trans y0, (g.cell (blk_lt' y1)).trans y1, (g.cell (blk_lt' y2)).trans y2, (g.cell (blk_lt' y3)).trans y3, (g.cell (blk_lt' y4)).trans y4⟩
      have hNb : N ≤ 9000 := by have := HF.out.2.2.1; omega
      have hw16 : IntKind.i64.wrap ((N : Int) - 1) = (N : Int) - 1 := IntWalk.i64_in _ (by omega)
      have HNN := Lib.hid hN
      clear hz hdl hN hins hlt hld hil hNc
      by_cases hN0 : N = 0
      · have e17 : decide ((0 : Int) ≤ (N : Int) - 1) = false := decide_eq_false (by omega)
        have e18 : ¬ (0 : Int) ≤ (N : Int) - 1 := by omega
        clear hN0
        go_upto_region 17 with fail
        refine wp_loop_rounds 1 ?_
        rw [rounds_succ]
        have hAc : N ≤ c := by have := HT.out.2.2.2.1; have := HT.out.2.2.2.2.1; omega
        have hAN : (N : Int) ≤ (N : Int) := by have := HT.out.2.2.2.1; omega
        have hA0 : (0 : Int) ≤ (N : Int) := by omega
        go_upto_region 22 with fail
        clear c1
        go_region_law (first
          | (refine step_app_d (base := w4.heap.size) (v := v2) (vx := sliced p N N c 5) rfl _ _ rfl (by simp [Act.eval, Act.put]) Q2.out.1 (by simp [Act.eval, Act.put, sliced, add_lit']) (HT.out.2.1.gr Q2.out.2) (HT.out.2.2.2.2.2.2.1) Q2.out.2.size (fun v3 W3 hv3 hg3 hc3 => ?_); obtain ⟨pv, nv, cv, hvv⟩ := dslice hv3; subst hvv; have Q3 := Lib.hid (And.intro hv3 (dgr_grown Q2.out.2 hg3 (fun n hn => (Q2.out.1.lt n hn).1))); have e91 := (HZ.out.1.box1 Q3.out.2).1; have e92 := (HZ.out.1.box1 Q3.out.2).2; clear hv3 hg3 hc3)
          | (refine step_app_d (base := w4.heap.size) (v := v1) (vx := .slice (some ⟨W1.heap.size, 0, none⟩) 1 1) (M := [⟨o, (k1, k2), 2, false⟩]) rfl _ _ rfl (by simp [Act.eval, Act.put]) (Q1.out.1.gr ((Gr.refl _).alloc (Nat.le_refl _) _)) (by simp [Act.eval, Act.put]) (DSl.one W1 TDl ⟨o, (k1, k2), 2, false⟩) HT.out.2.2.2.2.2.1 (Nat.le_trans Q1.out.2.size ((Gr.refl W1).alloc (Nat.le_refl _) _).size) (fun v2 W2 hv2 hg2 hc2 => ?_); have Q2 := Lib.hid (And.intro hv2 (dgr_grown (Gr.trans Q1.out.2 ((Gr.refl W1).alloc (Nat.le_refl _) _)) hg2 (fun n hn => (Q1.out.1.lt n hn).1))); clear hv2 hg2 hc2)
          | (refine step_app_d (base := w4.heap.size) (v := v1) (vx := .slice (some ⟨w4.heap.size, 0, none⟩) 1 1) (M := [⟨o, (k1, k2), 2, false⟩]) rfl _ _ rfl (by simp [Act.eval, Act.put]) Q1.out.1 (by simp [Act.eval, Act.put]) (Q1.out.2.2) HT.out.2.2.2.2.2.1 Q1.out.2.1.size (fun v2 W2 hv2 hg2 hc2 => ?_); have Q2 := Lib.hid (And.intro hv2 (dgr_grown Q1.out.2.1 hg2 (fun n hn => (Q1.out.1.lt n hn).1))); clear hv2 hg2 hc2)
          | (refine step_app_d (base := w4.heap.size) (w := w4.drew) (v := .slice none 0 0) (vx := .slice p N c) rfl _ _ rfl (by simp [Act.eval, Act.put]) (Dr.nil _ _) (by simp [Act.eval, Act.put]) (HT.out.1.gr (grD (Gr.refl _))) (by have := HT.out.2.2.1; simp only [List.length_nil]; omega) (Nat.le_refl _) (fun v1 W1 hv1 hg1 hc1 => ?_); have Q1 := Lib.hid (And.intro hv1 (dgr_grown (grD (Gr.refl _) : Gr w4 w4.drew) hg1 (fun n hn => nomatch hn))); obtain ⟨y0, y1, y2, y3, y4⟩ := HY.out _ Q1.out.2; clear hv1 hg1 hc1)
          | (refine step_app_d (base := w4.heap.size) (v := .slice none 0 0) (vx := .slice p N c) rfl _ _ rfl (by simp [Act.eval, Act.put]) (Dr.nil _ _) (by simp [Act.eval, Act.put]) (HT.out.1.gr ((grD (Gr.refl _) : Gr w4 w4.drew).alloc (Nat.le_refl _) _)) (by have := HT.out.2.2.1; simp only [List.length_nil]; omega) ((grD (Gr.refl _) : Gr w4 w4.drew).alloc (Nat.le_refl _) _).size (fun v1 W1 hv1 hg1 hc1 => ?_); have Q1 := Lib.hid (And.intro hv1 (And.intro (dgr_grown ((grD (Gr.refl _) : Gr w4 w4.drew).alloc (Nat.le_refl _) _) hg1 (fun n hn => nomatch hn)) ((DSl.one w4.drew TDl ⟨o, (k1, k2), 2, false⟩).gr (dgr_grown (Gr.refl _) hg1 (fun n hn => nomatch hn))))); obtain ⟨y0, y1, y2, y3, y4⟩ := HY.out _ Q1.out.2.1; clear hv1 hg1 hc1))
        all_goals
          clear e91 e92
          have P1 := Lib.hid (show DtA (W3.setCell ⟨d, 1, none⟩ (.slice pv nv cv)) base d hv (.slice pv nv cv) (D.ins ⟨o, (k1, k2), 2, false⟩) ∧ DTn w4 (W3.setCell ⟨d, 1, none⟩ (.slice pv nv cv)) (DB d hv (.slice p N c)) (DB d hv (.slice pv nv cv)) by
            have hr := Q3.out.1
            rw [List.nil_append, ← HT.out.2.2.2.2.2.2.2] at hr
            exact HZ.out.1.putLine HZ.out.2.1 Q3.out.2 hr)
          have P2 := Lib.hid fun (W' : World) (g : Gr (W3.setCell ⟨d, 1, none⟩ (.slice pv nv cv)) W') => HZ.out.1.back Q3.out.2 Q3.out.1 g
          go_wp2_with fail
          all_goals
            refine (dRing_any (P1.out.1.gr (Gr.refl _)).at HZ.out.2.2.1 HZ.out.2.2.2.1 o).mono ?_
            rintro e w9 ⟨rfl, g9⟩
            have HB := HZ.out.2.2.2.2
            cases hrg : (D.ins ⟨o, (k1, k2), 2, false⟩).ring o with
            | true =>
              have HE := Lib.hid (P2.out _ g9)
              have e91 := (P1.out.1.box1 g9).1
              have e92 := (P1.out.1.box1 g9).2
              have hR := HRR.out
              rw [if_pos hrg] at hR
              subst hR
              have HFin := Lib.hid (show RetDt base d hv (.slice p D.line.length c) _ w _ by rw [← HNN.out]; exact ⟨_, _, HE.out.1, (DTn.of_gr HB).trans HE.out.2⟩)
              clear g9
              go_wp2_with fail
              go_ret
              first
                | exact ⟨rfl, HFin.out⟩
                | (have hcn : c = N := by assumption
                   subst hcn
                   exact ⟨rfl, HFin.out⟩)
            | false =>
              have HE := Lib.hid (And.intro (P1.out.1.gr g9) (P1.out.2.trans (DTn.of_gr g9)))
              have hR := HRR.out
              rw [if_neg (by rw [hrg]; simp)] at hR
              subst hR
              have HFin := Lib.hid (show RetDt base d hv (.slice p D.line.length c) _ w _ by rw [← HNN.out]; exact ⟨_, _, HE.out.1, (DTn.of_gr HB).trans HE.out.2⟩)
              clear g9
              go_wp2_with fail
              go_ret
              first
                | exact ⟨rfl, HFin.out⟩
                | (have hcn : c = N := by assumption
                   subst hcn
                   exact ⟨rfl, HFin.out⟩)
      · have e17 : decide ((0 : Int) ≤ (N : Int) - 1) = true := decide_eq_true (by omega)
        have e18 : (0 : Int) ≤ (N : Int) - 1 := by omega
        clear hN0
        go_upto_region 17 with fail
        refine wp_loop_rounds 1 ?_
        rw [rounds_succ]
        have hAc : N ≤ c := by have := HT.out.2.2.2.1; have := HT.out.2.2.2.2.1; omega
        have hAN : (N : Int) ≤ (N : Int) := by have := HT.out.2.2.2.1; omega
        have hA0 : (0 : Int) ≤ (N : Int) := by omega
        go_upto_region 22 with fail
        clear c1
        go_region_law (first
          | (refine step_app_d (base := w4.heap.size) (v := v2) (vx := sliced p N N c 5) rfl _ _ rfl (by simp [Act.eval, Act.put]) Q2.out.1 (by simp [Act.eval, Act.put, sliced, add_lit']) (HT.out.2.1.gr Q2.out.2) (HT.out.2.2.2.2.2.2.1) Q2.out.2.size (fun v3 W3 hv3 hg3 hc3 => ?_); obtain ⟨pv, nv, cv, hvv⟩ := dslice hv3; subst hvv; have Q3 := Lib.hid (And.intro hv3 (dgr_grown Q2.out.2 hg3 (fun n hn => (Q2.out.1.lt n hn).1))); have e91 := (HZ.out.1.box1 Q3.out.2).1; have e92 := (HZ.out.1.box1 Q3.out.2).2; clear hv3 hg3 hc3)
          | (refine step_app_d (base := w4.heap.size) (v := v1) (vx := .slice (some ⟨W1.heap.size, 0, none⟩) 1 1) (M := [⟨o, (k1, k2), 2, false⟩]) rfl _ _ rfl (by simp [Act.eval, Act.put]) (Q1.out.1.gr ((Gr.refl _).alloc (Nat.le_refl _) _)) (by simp [Act.eval, Act.put]) (DSl.one W1 TDl ⟨o, (k1, k2), 2, false⟩) HT.out.2.2.2.2.2.1 (Nat.le_trans Q1.out.2.size ((Gr.refl W1).alloc (Nat.le_refl _) _).size) (fun v2 W2 hv2 hg2 hc2 => ?_); have Q2 := Lib.hid (And.intro hv2 (dgr_grown (Gr.trans Q1.out.2 ((Gr.refl W1).alloc (Nat.le_refl _) _)) hg2 (fun n hn => (Q1.out.1.lt n hn).1))); clear hv2 hg2 hc2)
          | (refine step_app_d (base := w4.heap.size) (v := v1) (vx := .slice (some ⟨w4.heap.size, 0, none⟩) 1 1) (M := [⟨o, (k1, k2), 2, false⟩]) rfl _ _ rfl (by simp [Act.eval, Act.put]) Q1.out.1 (by simp [Act.eval, Act.put]) (Q1.out.2.2) HT.out.2.2.2.2.2.1 Q1.out.2.1.size (fun v2 W2 hv2 hg2 hc2 => ?_); have Q2 := Lib.hid (And.intro hv2 (dgr_grown Q1.out.2.1 hg2 (fun n hn => (Q1.out.1.lt n hn).1))); clear hv2 hg2 hc2)
          | (refine step_app_d (base := w4.heap.size) (w := w4.drew) (v := .slice none 0 0) (vx := .slice p N c) rfl _ _ rfl (by simp [Act.eval, Act.put]) (Dr.nil _ _) (by simp [Act.eval, Act.put]) (HT.out.1.gr (grD (Gr.refl _))) (by have := HT.out.2.2.1; simp only [List.length_nil]; omega) (Nat.le_refl _) (fun v1 W1 hv1 hg1 hc1 => ?_); have Q1 := Lib.hid (And.intro hv1 (dgr_grown (grD (Gr.refl _) : Gr w4 w4.drew) hg1 (fun n hn => nomatch hn))); obtain ⟨y0, y1, y2, y3, y4⟩ := HY.out _ Q1.out.2; clear hv1 hg1 hc1)
          | (refine step_app_d (base := w4.heap.size) (v := .slice none 0 0) (vx := .slice p N c) rfl _ _ rfl (by simp [Act.eval, Act.put]) (Dr.nil _ _) (by simp [Act.eval, Act.put]) (HT.out.1.gr ((grD (Gr.refl _) : Gr w4 w4.drew).alloc (Nat.le_refl _) _)) (by have := HT.out.2.2.1; simp only [List.length_nil]; omega) ((grD (Gr.refl _) : Gr w4 w4.drew).alloc (Nat.le_refl _) _).size (fun v1 W1 hv1 hg1 hc1 => ?_); have Q1 := Lib.hid (And.intro hv1 (And.intro (dgr_grown ((grD (Gr.refl _) : Gr w4 w4.drew).alloc (Nat.le_refl _) _) hg1 (fun n hn => nomatch hn)) ((DSl.one w4.drew TDl ⟨o, (k1, k2), 2, false⟩).gr (dgr_grown (Gr.refl _) hg1 (fun n hn => nomatch hn))))); obtain ⟨y0, y1, y2, y3, y4⟩ := HY.out _ Q1.out.2.1; clear hv1 hg1 hc1))
        all_goals
          clear e91 e92
          have P1 := Lib.hid (show DtA (W3.setCell ⟨d, 1, none⟩ (.slice pv nv cv)) base d hv (.slice pv nv cv) (D.ins ⟨o, (k1, k2), 2, false⟩) ∧ DTn w4 (W3.setCell ⟨d, 1, none⟩ (.slice pv nv cv)) (DB d hv (.slice p N c)) (DB d hv (.slice pv nv cv)) by
            have hr := Q3.out.1
            rw [List.nil_append, ← HT.out.2.2.2.2.2.2.2] at hr
            exact HZ.out.1.putLine HZ.out.2.1 Q3.out.2 hr)
          have P2 := Lib.hid fun (W' : World) (g : Gr (W3.setCell ⟨d, 1, none⟩ (.slice pv nv cv)) W') => HZ.out.1.back Q3.out.2 Q3.out.1 g
          go_wp2_with fail
          all_goals
            refine (dRing_any (P1.out.1.gr (Gr.refl _)).at HZ.out.2.2.1 HZ.out.2.2.2.1 o).mono ?_
            rintro e w9 ⟨rfl, g9⟩
            have HB := HZ.out.2.2.2.2
            cases hrg : (D.ins ⟨o, (k1, k2), 2, false⟩).ring o with
            | true =>
              have HE := Lib.hid (P2.out _ g9)
              have e91 := (P1.out.1.box1 g9).1
              have e92 := (P1.out.1.box1 g9).2
              have hR := HRR.out
              rw [if_pos hrg] at hR
              subst hR
              have HFin := Lib.hid (show RetDt base d hv (.slice p D.line.length c) _ w _ by rw [← HNN.out]; exact ⟨_, _, HE.out.1, (DTn.of_gr HB).trans HE.out.2⟩)
              clear g9
              go_wp2_with fail
              go_ret
              first
                | exact ⟨rfl, HFin.out⟩
                | (have hcn : c = N := by assumption
                   subst hcn
                   exact ⟨rfl, HFin.out⟩)
            | false =>
              have HE := Lib.hid (And.intro (P1.out.1.gr g9) (P1.out.2.trans (DTn.of_gr g9)))
              have hR := HRR.out
              rw [if_neg (by rw [hrg]; simp)] at hR
              subst hR
              have HFin := Lib.hid (show RetDt base d hv (.slice p D.line.length c) _ w _ by rw [← HNN.out]; exact ⟨_, _, HE.out.1, (DTn.of_gr HB).trans HE.out.2⟩)
              clear g9
              go_wp2_with fail
              go_ret
              first
                | exact ⟨rfl, HFin.out⟩
                | (have hcn : c = N := by assumption
                   subst hcn
                   exact ⟨rfl, HFin.out⟩)
  | true =>
    rw [hmy] at HM
    rcases hm with rfl | rfl
    · go_enter Tryz.func10, Tryz.ntmps10
      go_upto_region 3 with fail
      rw [show (w.alloc (.cells #[.int .i64 k1, .int .i64 k2] 33)) = W0 from HH.out.2.2.2.symm]
      go_wp2_with fail
      refine (HW.out W0 HH.out.2.1).mono ?_
      rintro e w1 ⟨rfl, g1⟩
      have G1 := Lib.hid (HH.out.2.1.trans g1)
      have B1 := Lib.hid (HH.out.2.2.1.gr g1)
      clear g1
      have z0 := B1.out.cell 0
      have z1 := B1.out.cell 1
      simp at z0 z1
      go_wp2_with fail
      refine (HO.out w1 G1.out).mono ?_
      rintro e w2 ⟨rfl, g2⟩
      have G2 := Lib.hid (G1.out.trans g2)
      have B2 := Lib.hid (B1.out.gr g2)
      clear g2 z0 z1
      have z0 := B2.out.cell 0
      have z1 := B2.out.cell 1
      simp at z0 z1
      have g3 : Gr w2 (w2.alloc (.cells #[.int .u64 (o : Int), .int .i64 k1, .int .i64 k2, .int .i64 1, .bool false] TDl)) := (Gr.refl w2).alloc (Nat.le_refl _) _
      have b3 := Blk.new w2 TDl #[.int .u64 (o : Int), .int .i64 k1, .int .i64 k2, .int .i64 1, .bool false]
      obtain ⟨W3, hW3⟩ : ∃ W3, W3 = w2.alloc (.cells #[.int .u64 (o : Int), .int .i64 k1, .int .i64 k2, .int .i64 1, .bool false] TDl) := ⟨_, rfl⟩
      rw [← hW3] at g3 b3
      have G3 := Lib.hid (And.intro (G2.out.trans g3) (And.intro b3 (And.intro (B2.out.gr g3) hW3)))
      clear g3 b3 hW3
      go_upto_region 12 with fail
      rw [show (w2.alloc (.cells #[.int .u64 (o : Int), .int .i64 k1, .int .i64 k2, .int .i64 1, .bool false] 71)) = W3 from G3.out.2.2.2.symm]
      clear z0 z1
      have y0 := G3.out.2.1.cell 0
      have y1 := G3.out.2.1.cell 1
      have y2 := G3.out.2.1.cell 2
      have y3 := G3.out.2.1.cell 3
      have y4 := G3.out.2.1.cell 4
      simp at y0 y1 y2 y3 y4
      go_wp2_with fail
      refine (HM.out W3 G3.out.1).mono ?_
      rintro e w4 ⟨rfl, g4⟩
      have G4 := Lib.hid (And.intro (G3.out.1.trans g4) (And.intro (G3.out.2.1.gr g4) (G3.out.2.2.1.gr g4)))
      clear g4 y0 y1 y2 y3 y4
      have y0 := G4.out.2.1.cell 0
      have y1 := G4.out.2.1.cell 1
      have y2 := G4.out.2.1.cell 2
      have y3 := G4.out.2.1.cell 3
      have y4 := G4.out.2.1.cell 4
      have z0 := G4.out.2.2.cell 0
      have z1 := G4.out.2.2.cell 1
      simp at y0 y1 y2 y3 y4 z0 z1
      go_wp2_with fail
      refine (HL.out w4 G4.out.1).mono ?_
      rintro e w5 ⟨v5, rfl, hu5, g5⟩
      obtain ⟨p5, c5, hv5⟩ := hu5.form
      obtain ⟨n5, hn5⟩ : ∃ n5, n5 = (D.lineOf (k1, k2)).length := ⟨_, rfl⟩
      rw [← hn5] at hv5
      subst hv5
      have e5 : ((n5 : Int) == 0) = false := by
        rw [beq_eq_false_iff_ne]
        intro e
        exact HF.out.1 ⟨hmy, by omega⟩
      have G5 := Lib.hid (And.intro (G4.out.1.trans g5) (And.intro (G4.out.2.1.gr g5) (G4.out.2.2.gr g5)))
      clear g5 hu5 y0 y1 y2 y3 y4 z0 z1
      have y0 := G5.out.2.1.cell 0
      have y1 := G5.out.2.1.cell 1
      have y2 := G5.out.2.1.cell 2
      have y3 := G5.out.2.1.cell 3
      have y4 := G5.out.2.1.cell 4
      simp at y0 y1 y2 y3 y4
      have GZ := G5
      have hz := HH.out.1.gr GZ.out.1
      obtain ⟨N, hN⟩ : ∃ N, N = D.line.length := ⟨_, rfl⟩
      have hdl := hz.line.dsl
      have c1 := (hz.box1 (Gr.refl _)).1
      rw [← hN] at c1 hdl
      have hNc : N ≤ c := hdl.at.2.1
      have hins := ins_is D ⟨o, (k1, k2), 1, false⟩ (A := N) hN
      have hlt : (D.line.take N).length = N := by rw [List.length_take]; omega
      have hld : (D.line.drop N).length = N - N := by rw [List.length_drop]; omega
      have hil : ((D.ins ⟨o, (k1, k2), 1, false⟩).line).length ≤ 10000 := by
        have := HF.out.2.2.1
        rw [hins, List.length_append, List.length_append, hlt, hld]
        simp only [List.length_cons, List.length_nil]
        omega
      have HZ := Lib.hid (show DtA w5 base d hv (.slice p N c) D ∧ base ≤ w5.heap.size ∧ (D.ins ⟨o, (k1, k2), 1, false⟩).held.length ≤ 10000 ∧ (D.ins ⟨o, (k1, k2), 1, false⟩).line.length ≤ 10000 ∧ Gr w w5 from ⟨by rw [hN]; exact hz, Nat.le_trans HF.out.2.1 GZ.out.1.size, (by have := HF.out.2.2.2; exact Nat.le_trans this (by omega)), hil, GZ.out.1⟩)
      have HT := Lib.hid (show DSl w5 (.slice p N c) (D.line.take N) ∧ DSl w5 (sliced p N N c 5) (D.line.drop N) ∧ (D.line.take N).length ≤ 9000 ∧ N ≤ N ∧ N ≤ c ∧ ([] ++ D.line.take N).length + [(⟨o, (k1, k2), 1, false⟩ : DL)].length ≤ 1000000000 ∧ ([] ++ D.line.take N ++ [(⟨o, (k1, k2), 1, false⟩ : DL)]).length + (D.line.drop N).length ≤ 1000000000 ∧ (D.ins ⟨o, (k1, k2), 1, false⟩).line = D.line.take N ++ [⟨o, (k1, k2), 1, false⟩] ++ D.line.drop N by
        have a1 := HF.out.2.2.1
        refine ⟨hdl.take (Nat.le_refl _), hdl.drop (Nat.le_refl _), by omega, Nat.le_refl _, hNc, ?_, ?_, hins⟩
        · simp only [List.nil_append, List.length_cons, List.length_nil]; omega
        · simp only [List.nil_append, List.length_append, List.length_cons, List.length_nil]; omega)
      have HY : Hid (∀ V, Gr w5 V → V.cell? ⟨w2.heap.size, 0, none⟩ = some (.int .u64 (o : Int)) ∧ V.cell? ⟨w2.heap.size, 1, none⟩ = some (.int .i64 k1) ∧ V.cell? ⟨w2.heap.size, 2, none⟩ = some (.int .i64 k2) ∧ V.cell? ⟨w2.heap.size, 3, none⟩ = some (.int .i64 1) ∧ V.cell? ⟨w2.heap.size, 4, none⟩ = some (.bool false)) := Lib.hid fun V g => ⟨(g.cell (blk_lt' y0)).trans y0, (g.cell (blk_lt' y1)).trans y1, (g.cell (blk_lt' y2)).trans y2, (g.cell (blk_lt' y3)).trans y3, (g.cell (blk_lt' y4)).trans y4⟩
      have hNb : N ≤ 9000 := by have := HF.out.2.2.1; omega
      have hw16 : IntKind.i64.wrap ((N : Int) - 1) = (N : Int) - 1 := IntWalk.i64_in _ (by omega)
      have HNN := Lib.hid hN
      clear hz hdl hN hins hlt hld hil hNc
      by_cases hN0 : N = 0
      · have e17 : decide ((0 : Int) ≤ (N : Int) - 1) = false := decide_eq_false (by omega)
        have e18 : ¬ (0 : Int) ≤ (N : Int) - 1 := by omega
        clear hN0
        go_upto_region 17 with fail
        refine wp_loop_rounds 1 ?_
        rw [rounds_succ]
        have hAc : N ≤ c := by have := HT.out.2.2.2.1; have := HT.out.2.2.2.2.1; omega
        have hAN : (N : Int) ≤ (N : Int) := by have := HT.out.2.2.2.1; omega
        have hA0 : (0 : Int) ≤ (N : Int) := by omega
        go_upto_region 22 with fail
        clear c1
        go_region_law (first
          | (refine step_app_d (base := w5.heap.size) (v := v2) (vx := sliced p N N c 5) rfl _ _ rfl (by simp [Act.eval, Act.put]) Q2.out.1 (by simp [Act.eval, Act.put, sliced, add_lit']) (HT.out.2.1.gr Q2.out.2) (HT.out.2.2.2.2.2.2.1) Q2.out.2.size (fun v3 W3 hv3 hg3 hc3 => ?_); obtain ⟨pv, nv, cv, hvv⟩ := dslice hv3; subst hvv; have Q3 := Lib.hid (And.intro hv3 (dgr_grown Q2.out.2 hg3 (fun n hn => (Q2.out.1.lt n hn).1))); have e91 := (HZ.out.1.box1 Q3.out.2).1; have e92 := (HZ.out.1.box1 Q3.out.2).2; clear hv3 hg3 hc3)
          | (refine step_app_d (base := w5.heap.size) (v := v1) (vx := .slice (some ⟨W1.heap.size, 0, none⟩) 1 1) (M := [⟨o, (k1, k2), 1, false⟩]) rfl _ _ rfl (by simp [Act.eval, Act.put]) (Q1.out.1.gr ((Gr.refl _).alloc (Nat.le_refl _) _)) (by simp [Act.eval, Act.put]) (DSl.one W1 TDl ⟨o, (k1, k2), 1, false⟩) HT.out.2.2.2.2.2.1 (Nat.le_trans Q1.out.2.size ((Gr.refl W1).alloc (Nat.le_refl _) _).size) (fun v2 W2 hv2 hg2 hc2 => ?_); have Q2 := Lib.hid (And.intro hv2 (dgr_grown (Gr.trans Q1.out.2 ((Gr.refl W1).alloc (Nat.le_refl _) _)) hg2 (fun n hn => (Q1.out.1.lt n hn).1))); clear hv2 hg2 hc2)
          | (refine step_app_d (base := w5.heap.size) (v := v1) (vx := .slice (some ⟨w5.heap.size, 0, none⟩) 1 1) (M := [⟨o, (k1, k2), 1, false⟩]) rfl _ _ rfl (by simp [Act.eval, Act.put]) Q1.out.1 (by simp [Act.eval, Act.put]) (Q1.out.2.2) HT.out.2.2.2.2.2.1 Q1.out.2.1.size (fun v2 W2 hv2 hg2 hc2 => ?_); have Q2 := Lib.hid (And.intro hv2 (dgr_grown Q1.out.2.1 hg2 (fun n hn => (Q1.out.1.lt n hn).1))); clear hv2 hg2 hc2)
          | (refine step_app_d (base := w5.heap.size) (w := w5.drew) (v := .slice none 0 0) (vx := .slice p N c) rfl _ _ rfl (by simp [Act.eval, Act.put]) (Dr.nil _ _) (by simp [Act.eval, Act.put]) (HT.out.1.gr (grD (Gr.refl _))) (by have := HT.out.2.2.1; simp only [List.length_nil]; omega) (Nat.le_refl _) (fun v1 W1 hv1 hg1 hc1 => ?_); have Q1 := Lib.hid (And.intro hv1 (dgr_grown (grD (Gr.refl _) : Gr w5 w5.drew) hg1 (fun n hn => nomatch hn))); obtain ⟨y0, y1, y2, y3, y4⟩ := HY.out _ Q1.out.2; clear hv1 hg1 hc1)
          | (refine step_app_d (base := w5.heap.size) (v := .slice none 0 0) (vx := .slice p N c) rfl _ _ rfl (by simp [Act.eval, Act.put]) (Dr.nil _ _) (by simp [Act.eval, Act.put]) (HT.out.1.gr ((grD (Gr.refl _) : Gr w5 w5.drew).alloc (Nat.le_refl _) _)) (by have := HT.out.2.2.1; simp only [List.length_nil]; omega) ((grD (Gr.refl _) : Gr w5 w5.drew).alloc (Nat.le_refl _) _).size (fun v1 W1 hv1 hg1 hc1 => ?_); have Q1 := Lib.hid (And.intro hv1 (And.intro (dgr_grown ((grD (Gr.refl _) : Gr w5 w5.drew).alloc (Nat.le_refl _) _) hg1 (fun n hn => nomatch hn)) ((DSl.one w5.drew TDl ⟨o, (k1, k2), 1, false⟩).gr (dgr_grown (Gr.refl _) hg1 (fun n hn => nomatch hn))))); obtain ⟨y0, y1, y2, y3, y4⟩ := HY.out _ Q1.out.2.1; clear hv1 hg1 hc1))
        all_goals
          clear e91 e92
          have P1 := Lib.hid (show DtA (W3.setCell ⟨d, 1, none⟩ (.slice pv nv cv)) base d hv (.slice pv nv cv) (D.ins ⟨o, (k1, k2), 1, false⟩) ∧ DTn w5 (W3.setCell ⟨d, 1, none⟩ (.slice pv nv cv)) (DB d hv (.slice p N c)) (DB d hv (.slice pv nv cv)) by
            have hr := Q3.out.1
            rw [List.nil_append, ← HT.out.2.2.2.2.2.2.2] at hr
            exact HZ.out.1.putLine HZ.out.2.1 Q3.out.2 hr)
          have P2 := Lib.hid fun (W' : World) (g : Gr (W3.setCell ⟨d, 1, none⟩ (.slice pv nv cv)) W') => HZ.out.1.back Q3.out.2 Q3.out.1 g
          go_wp2_with fail
          all_goals
            refine (dRing_any (P1.out.1.gr (Gr.refl _)).at HZ.out.2.2.1 HZ.out.2.2.2.1 o).mono ?_
            rintro e w9 ⟨rfl, g9⟩
            have HB := HZ.out.2.2.2.2
            cases hrg : (D.ins ⟨o, (k1, k2), 1, false⟩).ring o with
            | true =>
              have HE := Lib.hid (P2.out _ g9)
              have e91 := (P1.out.1.box1 g9).1
              have e92 := (P1.out.1.box1 g9).2
              have hR := HRR.out
              rw [if_pos hrg] at hR
              subst hR
              have HFin := Lib.hid (show RetDt base d hv (.slice p D.line.length c) _ w _ by rw [← HNN.out]; exact ⟨_, _, HE.out.1, (DTn.of_gr HB).trans HE.out.2⟩)
              clear g9
              go_wp2_with fail
              go_ret
              first
                | exact ⟨rfl, HFin.out⟩
                | (have hcn : c = N := by assumption
                   subst hcn
                   exact ⟨rfl, HFin.out⟩)
            | false =>
              have HE := Lib.hid (And.intro (P1.out.1.gr g9) (P1.out.2.trans (DTn.of_gr g9)))
              have hR := HRR.out
              rw [if_neg (by rw [hrg]; simp)] at hR
              subst hR
              have HFin := Lib.hid (show RetDt base d hv (.slice p D.line.length c) _ w _ by rw [← HNN.out]; exact ⟨_, _, HE.out.1, (DTn.of_gr HB).trans HE.out.2⟩)
              clear g9
              go_wp2_with fail
              go_ret
              first
                | exact ⟨rfl, HFin.out⟩
                | (have hcn : c = N := by assumption
                   subst hcn
                   exact ⟨rfl, HFin.out⟩)
      · have e17 : decide ((0 : Int) ≤ (N : Int) - 1) = true := decide_eq_true (by omega)
        have e18 : (0 : Int) ≤ (N : Int) - 1 := by omega
        clear hN0
        go_upto_region 17 with fail
        refine wp_loop_rounds 1 ?_
        rw [rounds_succ]
        have hAc : N ≤ c := by have := HT.out.2.2.2.1; have := HT.out.2.2.2.2.1; omega
        have hAN : (N : Int) ≤ (N : Int) := by have := HT.out.2.2.2.1; omega
        have hA0 : (0 : Int) ≤ (N : Int) := by omega
        go_upto_region 22 with fail
        clear c1
        go_region_law (first
          | (refine step_app_d (base := w5.heap.size) (v := v2) (vx := sliced p N N c 5) rfl _ _ rfl (by simp [Act.eval, Act.put]) Q2.out.1 (by simp [Act.eval, Act.put, sliced, add_lit']) (HT.out.2.1.gr Q2.out.2) (HT.out.2.2.2.2.2.2.1) Q2.out.2.size (fun v3 W3 hv3 hg3 hc3 => ?_); obtain ⟨pv, nv, cv, hvv⟩ := dslice hv3; subst hvv; have Q3 := Lib.hid (And.intro hv3 (dgr_grown Q2.out.2 hg3 (fun n hn => (Q2.out.1.lt n hn).1))); have e91 := (HZ.out.1.box1 Q3.out.2).1; have e92 := (HZ.out.1.box1 Q3.out.2).2; clear hv3 hg3 hc3)
          | (refine step_app_d (base := w5.heap.size) (v := v1) (vx := .slice (some ⟨W1.heap.size, 0, none⟩) 1 1) (M := [⟨o, (k1, k2), 1, false⟩]) rfl _ _ rfl (by simp [Act.eval, Act.put]) (Q1.out.1.gr ((Gr.refl _).alloc (Nat.le_refl _) _)) (by simp [Act.eval, Act.put]) (DSl.one W1 TDl ⟨o, (k1, k2), 1, false⟩) HT.out.2.2.2.2.2.1 (Nat.le_trans Q1.out.2.size ((Gr.refl W1).alloc (Nat.le_refl _) _).size) (fun v2 W2 hv2 hg2 hc2 => ?_); have Q2 := Lib.hid (And.intro hv2 (dgr_grown (Gr.trans Q1.out.2 ((Gr.refl W1).alloc (Nat.le_refl _) _)) hg2 (fun n hn => (Q1.out.1.lt n hn).1))); clear hv2 hg2 hc2)
          | (refine step_app_d (base := w5.heap.size) (v := v1) (vx := .slice (some ⟨w5.heap.size, 0, none⟩) 1 1) (M := [⟨o, (k1, k2), 1, false⟩]) rfl _ _ rfl (by simp [Act.eval, Act.put]) Q1.out.1 (by simp [Act.eval, Act.put]) (Q1.out.2.2) HT.out.2.2.2.2.2.1 Q1.out.2.1.size (fun v2 W2 hv2 hg2 hc2 => ?_); have Q2 := Lib.hid (And.intro hv2 (dgr_grown Q1.out.2.1 hg2 (fun n hn => (Q1.out.1.lt n hn).1))); clear hv2 hg2 hc2)
          | (refine step_app_d (base := w5.heap.size) (w := w5.drew) (v := .slice none 0 0) (vx := .slice p N c) rfl _ _ rfl (by simp [Act.eval, Act.put]) (Dr.nil _ _) (by simp [Act.eval, Act.put]) (HT.out.1.gr (grD (Gr.refl _))) (by have := HT.out.2.2.1; simp only [List.length_nil]; omega) (Nat.le_refl _) (fun v1 W1 hv1 hg1 hc1 => ?_); have Q1 := Lib.hid (And.intro hv1 (dgr_grown (grD (Gr.refl _) : Gr w5 w5.drew) hg1 (fun n hn => nomatch hn))); obtain ⟨y0, y1, y2, y3, y4⟩ := HY.out _ Q1.out.2; clear hv1 hg1 hc1)
          | (refine step_app_d (base := w5.heap.size) (v := .slice none 0 0) (vx := .slice p N c) rfl _ _ rfl (by simp [Act.eval, Act.put]) (Dr.nil _ _) (by simp [Act.eval, Act.put]) (HT.out.1.gr ((grD (Gr.refl _) : Gr w5 w5.drew).alloc (Nat.le_refl _) _)) (by have := HT.out.2.2.1; simp only [List.length_nil]; omega) ((grD (Gr.refl _) : Gr w5 w5.drew).alloc (Nat.le_refl _) _).size (fun v1 W1 hv1 hg1 hc1 => ?_); have Q1 := Lib.hid (And.intro hv1 (And.intro (dgr_grown ((grD (Gr.refl _) : Gr w5 w5.drew).alloc (Nat.le_refl _) _) hg1 (fun n hn => nomatch hn)) ((DSl.one w5.drew TDl ⟨o, (k1, k2), 1, false⟩).gr (dgr_grown (Gr.refl _) hg1 (fun n hn => nomatch hn))))); obtain ⟨y0, y1, y2, y3, y4⟩ := HY.out _ Q1.out.2.1; clear hv1 hg1 hc1))
        all_goals
          clear e91 e92
          have P1 := Lib.hid (show DtA (W3.setCell ⟨d, 1, none⟩ (.slice pv nv cv)) base d hv (.slice pv nv cv) (D.ins ⟨o, (k1, k2), 1, false⟩) ∧ DTn w5 (W3.setCell ⟨d, 1, none⟩ (.slice pv nv cv)) (DB d hv (.slice p N c)) (DB d hv (.slice pv nv cv)) by
            have hr := Q3.out.1
            rw [List.nil_append, ← HT.out.2.2.2.2.2.2.2] at hr
            exact HZ.out.1.putLine HZ.out.2.1 Q3.out.2 hr)
          have P2 := Lib.hid fun (W' : World) (g : Gr (W3.setCell ⟨d, 1, none⟩ (.slice pv nv cv)) W') => HZ.out.1.back Q3.out.2 Q3.out.1 g
          go_wp2_with fail
          all_goals
            refine (dRing_any (P1.out.1.gr (Gr.refl _)).at HZ.out.2.2.1 HZ.out.2.2.2.1 o).mono ?_
            rintro e w9 ⟨rfl, g9⟩
            have HB := HZ.out.2.2.2.2
            cases hrg : (D.ins ⟨o, (k1, k2), 1, false⟩).ring o with
            | true =>
              have HE := Lib.hid (P2.out _ g9)
              have e91 := (P1.out.1.box1 g9).1
              have e92 := (P1.out.1.box1 g9).2
              have hR := HRR.out
              rw [if_pos hrg] at hR
              subst hR
              have HFin := Lib.hid (show RetDt base d hv (.slice p D.line.length c) _ w _ by rw [← HNN.out]; exact ⟨_, _, HE.out.1, (DTn.of_gr HB).trans HE.out.2⟩)
              clear g9
              go_wp2_with fail
              go_ret
              first
                | exact ⟨rfl, HFin.out⟩
                | (have hcn : c = N := by assumption
                   subst hcn
                   exact ⟨rfl, HFin.out⟩)
            | false =>
              have HE := Lib.hid (And.intro (P1.out.1.gr g9) (P1.out.2.trans (DTn.of_gr g9)))
              have hR := HRR.out
              rw [if_neg (by rw [hrg]; simp)] at hR
              subst hR
              have HFin := Lib.hid (show RetDt base d hv (.slice p D.line.length c) _ w _ by rw [← HNN.out]; exact ⟨_, _, HE.out.1, (DTn.of_gr HB).trans HE.out.2⟩)
              clear g9
              go_wp2_with fail
              go_ret
              first
                | exact ⟨rfl, HFin.out⟩
                | (have hcn : c = N := by assumption
                   subst hcn
                   exact ⟨rfl, HFin.out⟩)
    · go_enter Tryz.func10, Tryz.ntmps10
      go_upto_region 3 with fail
      rw [show (w.alloc (.cells #[.int .i64 k1, .int .i64 k2] 33)) = W0 from HH.out.2.2.2.symm]
      go_wp2_with fail
      refine (HW.out W0 HH.out.2.1).mono ?_
      rintro e w1 ⟨rfl, g1⟩
      have G1 := Lib.hid (HH.out.2.1.trans g1)
      have B1 := Lib.hid (HH.out.2.2.1.gr g1)
      clear g1
      have z0 := B1.out.cell 0
      have z1 := B1.out.cell 1
      simp at z0 z1
      go_wp2_with fail
      refine (HO.out w1 G1.out).mono ?_
      rintro e w2 ⟨rfl, g2⟩
      have G2 := Lib.hid (G1.out.trans g2)
      have B2 := Lib.hid (B1.out.gr g2)
      clear g2 z0 z1
      have z0 := B2.out.cell 0
      have z1 := B2.out.cell 1
      simp at z0 z1
      have g3 : Gr w2 (w2.alloc (.cells #[.int .u64 (o : Int), .int .i64 k1, .int .i64 k2, .int .i64 2, .bool false] TDl)) := (Gr.refl w2).alloc (Nat.le_refl _) _
      have b3 := Blk.new w2 TDl #[.int .u64 (o : Int), .int .i64 k1, .int .i64 k2, .int .i64 2, .bool false]
      obtain ⟨W3, hW3⟩ : ∃ W3, W3 = w2.alloc (.cells #[.int .u64 (o : Int), .int .i64 k1, .int .i64 k2, .int .i64 2, .bool false] TDl) := ⟨_, rfl⟩
      rw [← hW3] at g3 b3
      have G3 := Lib.hid (And.intro (G2.out.trans g3) (And.intro b3 (And.intro (B2.out.gr g3) hW3)))
      clear g3 b3 hW3
      go_upto_region 12 with fail
      rw [show (w2.alloc (.cells #[.int .u64 (o : Int), .int .i64 k1, .int .i64 k2, .int .i64 2, .bool false] 71)) = W3 from G3.out.2.2.2.symm]
      clear z0 z1
      have y0 := G3.out.2.1.cell 0
      have y1 := G3.out.2.1.cell 1
      have y2 := G3.out.2.1.cell 2
      have y3 := G3.out.2.1.cell 3
      have y4 := G3.out.2.1.cell 4
      simp at y0 y1 y2 y3 y4
      go_wp2_with fail
      refine (HM.out W3 G3.out.1).mono ?_
      rintro e w4 ⟨rfl, g4⟩
      have G4 := Lib.hid (And.intro (G3.out.1.trans g4) (And.intro (G3.out.2.1.gr g4) (G3.out.2.2.1.gr g4)))
      clear g4 y0 y1 y2 y3 y4
      have y0 := G4.out.2.1.cell 0
      have y1 := G4.out.2.1.cell 1
      have y2 := G4.out.2.1.cell 2
      have y3 := G4.out.2.1.cell 3
      have y4 := G4.out.2.1.cell 4
      have z0 := G4.out.2.2.cell 0
      have z1 := G4.out.2.2.cell 1
      simp at y0 y1 y2 y3 y4 z0 z1
      go_wp2_with fail
      refine (HL.out w4 G4.out.1).mono ?_
      rintro e w5 ⟨v5, rfl, hu5, g5⟩
      obtain ⟨p5, c5, hv5⟩ := hu5.form
      obtain ⟨n5, hn5⟩ : ∃ n5, n5 = (D.lineOf (k1, k2)).length := ⟨_, rfl⟩
      rw [← hn5] at hv5
      subst hv5
      have e5 : ((n5 : Int) == 0) = false := by
        rw [beq_eq_false_iff_ne]
        intro e
        exact HF.out.1 ⟨hmy, by omega⟩
      have G5 := Lib.hid (And.intro (G4.out.1.trans g5) (And.intro (G4.out.2.1.gr g5) (G4.out.2.2.gr g5)))
      clear g5 hu5 y0 y1 y2 y3 y4 z0 z1
      have y0 := G5.out.2.1.cell 0
      have y1 := G5.out.2.1.cell 1
      have y2 := G5.out.2.1.cell 2
      have y3 := G5.out.2.1.cell 3
      have y4 := G5.out.2.1.cell 4
      simp at y0 y1 y2 y3 y4
      have GZ := G5
      have hz := HH.out.1.gr GZ.out.1
      obtain ⟨N, hN⟩ : ∃ N, N = D.line.length := ⟨_, rfl⟩
      have hdl := hz.line.dsl
      have c1 := (hz.box1 (Gr.refl _)).1
      rw [← hN] at c1 hdl
      have hNc : N ≤ c := hdl.at.2.1
      have hins := ins_is D ⟨o, (k1, k2), 2, false⟩ (A := N) hN
      have hlt : (D.line.take N).length = N := by rw [List.length_take]; omega
      have hld : (D.line.drop N).length = N - N := by rw [List.length_drop]; omega
      have hil : ((D.ins ⟨o, (k1, k2), 2, false⟩).line).length ≤ 10000 := by
        have := HF.out.2.2.1
        rw [hins, List.length_append, List.length_append, hlt, hld]
        simp only [List.length_cons, List.length_nil]
        omega
      have HZ := Lib.hid (show DtA w5 base d hv (.slice p N c) D ∧ base ≤ w5.heap.size ∧ (D.ins ⟨o, (k1, k2), 2, false⟩).held.length ≤ 10000 ∧ (D.ins ⟨o, (k1, k2), 2, false⟩).line.length ≤ 10000 ∧ Gr w w5 from ⟨by rw [hN]; exact hz, Nat.le_trans HF.out.2.1 GZ.out.1.size, (by have := HF.out.2.2.2; exact Nat.le_trans this (by omega)), hil, GZ.out.1⟩)
      have HT := Lib.hid (show DSl w5 (.slice p N c) (D.line.take N) ∧ DSl w5 (sliced p N N c 5) (D.line.drop N) ∧ (D.line.take N).length ≤ 9000 ∧ N ≤ N ∧ N ≤ c ∧ ([] ++ D.line.take N).length + [(⟨o, (k1, k2), 2, false⟩ : DL)].length ≤ 1000000000 ∧ ([] ++ D.line.take N ++ [(⟨o, (k1, k2), 2, false⟩ : DL)]).length + (D.line.drop N).length ≤ 1000000000 ∧ (D.ins ⟨o, (k1, k2), 2, false⟩).line = D.line.take N ++ [⟨o, (k1, k2), 2, false⟩] ++ D.line.drop N by
        have a1 := HF.out.2.2.1
        refine ⟨hdl.take (Nat.le_refl _), hdl.drop (Nat.le_refl _), by omega, Nat.le_refl _, hNc, ?_, ?_, hins⟩
        · simp only [List.nil_append, List.length_cons, List.length_nil]; omega
        · simp only [List.nil_append, List.length_append, List.length_cons, List.length_nil]; omega)
      have HY : Hid (∀ V, Gr w5 V → V.cell? ⟨w2.heap.size, 0, none⟩ = some (.int .u64 (o : Int)) ∧ V.cell? ⟨w2.heap.size, 1, none⟩ = some (.int .i64 k1) ∧ V.cell? ⟨w2.heap.size, 2, none⟩ = some (.int .i64 k2) ∧ V.cell? ⟨w2.heap.size, 3, none⟩ = some (.int .i64 2) ∧ V.cell? ⟨w2.heap.size, 4, none⟩ = some (.bool false)) := Lib.hid fun V g => ⟨(g.cell (blk_lt' y0)).trans y0, (g.cell (blk_lt' y1)).trans y1, (g.cell (blk_lt' y2)).trans y2, (g.cell (blk_lt' y3)).trans y3, (g.cell (blk_lt' y4)).trans y4⟩
      have hNb : N ≤ 9000 := by have := HF.out.2.2.1; omega
      have hw16 : IntKind.i64.wrap ((N : Int) - 1) = (N : Int) - 1 := IntWalk.i64_in _ (by omega)
      have HNN := Lib.hid hN
      clear hz hdl hN hins hlt hld hil hNc
      by_cases hN0 : N = 0
      · have e17 : decide ((0 : Int) ≤ (N : Int) - 1) = false := decide_eq_false (by omega)
        have e18 : ¬ (0 : Int) ≤ (N : Int) - 1 := by omega
        clear hN0
        go_upto_region 17 with fail
        refine wp_loop_rounds 1 ?_
        rw [rounds_succ]
        have hAc : N ≤ c := by have := HT.out.2.2.2.1; have := HT.out.2.2.2.2.1; omega
        have hAN : (N : Int) ≤ (N : Int) := by have := HT.out.2.2.2.1; omega
        have hA0 : (0 : Int) ≤ (N : Int) := by omega
        go_upto_region 22 with fail
        clear c1
        go_region_law (first
          | (refine step_app_d (base := w5.heap.size) (v := v2) (vx := sliced p N N c 5) rfl _ _ rfl (by simp [Act.eval, Act.put]) Q2.out.1 (by simp [Act.eval, Act.put, sliced, add_lit']) (HT.out.2.1.gr Q2.out.2) (HT.out.2.2.2.2.2.2.1) Q2.out.2.size (fun v3 W3 hv3 hg3 hc3 => ?_); obtain ⟨pv, nv, cv, hvv⟩ := dslice hv3; subst hvv; have Q3 := Lib.hid (And.intro hv3 (dgr_grown Q2.out.2 hg3 (fun n hn => (Q2.out.1.lt n hn).1))); have e91 := (HZ.out.1.box1 Q3.out.2).1; have e92 := (HZ.out.1.box1 Q3.out.2).2; clear hv3 hg3 hc3)
          | (refine step_app_d (base := w5.heap.size) (v := v1) (vx := .slice (some ⟨W1.heap.size, 0, none⟩) 1 1) (M := [⟨o, (k1, k2), 2, false⟩]) rfl _ _ rfl (by simp [Act.eval, Act.put]) (Q1.out.1.gr ((Gr.refl _).alloc (Nat.le_refl _) _)) (by simp [Act.eval, Act.put]) (DSl.one W1 TDl ⟨o, (k1, k2), 2, false⟩) HT.out.2.2.2.2.2.1 (Nat.le_trans Q1.out.2.size ((Gr.refl W1).alloc (Nat.le_refl _) _).size) (fun v2 W2 hv2 hg2 hc2 => ?_); have Q2 := Lib.hid (And.intro hv2 (dgr_grown (Gr.trans Q1.out.2 ((Gr.refl W1).alloc (Nat.le_refl _) _)) hg2 (fun n hn => (Q1.out.1.lt n hn).1))); clear hv2 hg2 hc2)
          | (refine step_app_d (base := w5.heap.size) (v := v1) (vx := .slice (some ⟨w5.heap.size, 0, none⟩) 1 1) (M := [⟨o, (k1, k2), 2, false⟩]) rfl _ _ rfl (by simp [Act.eval, Act.put]) Q1.out.1 (by simp [Act.eval, Act.put]) (Q1.out.2.2) HT.out.2.2.2.2.2.1 Q1.out.2.1.size (fun v2 W2 hv2 hg2 hc2 => ?_); have Q2 := Lib.hid (And.intro hv2 (dgr_grown Q1.out.2.1 hg2 (fun n hn => (Q1.out.1.lt n hn).1))); clear hv2 hg2 hc2)
          | (refine step_app_d (base := w5.heap.size) (w := w5.drew) (v := .slice none 0 0) (vx := .slice p N c) rfl _ _ rfl (by simp [Act.eval, Act.put]) (Dr.nil _ _) (by simp [Act.eval, Act.put]) (HT.out.1.gr (grD (Gr.refl _))) (by have := HT.out.2.2.1; simp only [List.length_nil]; omega) (Nat.le_refl _) (fun v1 W1 hv1 hg1 hc1 => ?_); have Q1 := Lib.hid (And.intro hv1 (dgr_grown (grD (Gr.refl _) : Gr w5 w5.drew) hg1 (fun n hn => nomatch hn))); obtain ⟨y0, y1, y2, y3, y4⟩ := HY.out _ Q1.out.2; clear hv1 hg1 hc1)
          | (refine step_app_d (base := w5.heap.size) (v := .slice none 0 0) (vx := .slice p N c) rfl _ _ rfl (by simp [Act.eval, Act.put]) (Dr.nil _ _) (by simp [Act.eval, Act.put]) (HT.out.1.gr ((grD (Gr.refl _) : Gr w5 w5.drew).alloc (Nat.le_refl _) _)) (by have := HT.out.2.2.1; simp only [List.length_nil]; omega) ((grD (Gr.refl _) : Gr w5 w5.drew).alloc (Nat.le_refl _) _).size (fun v1 W1 hv1 hg1 hc1 => ?_); have Q1 := Lib.hid (And.intro hv1 (And.intro (dgr_grown ((grD (Gr.refl _) : Gr w5 w5.drew).alloc (Nat.le_refl _) _) hg1 (fun n hn => nomatch hn)) ((DSl.one w5.drew TDl ⟨o, (k1, k2), 2, false⟩).gr (dgr_grown (Gr.refl _) hg1 (fun n hn => nomatch hn))))); obtain ⟨y0, y1, y2, y3, y4⟩ := HY.out _ Q1.out.2.1; clear hv1 hg1 hc1))
        all_goals
          clear e91 e92
          have P1 := Lib.hid (show DtA (W3.setCell ⟨d, 1, none⟩ (.slice pv nv cv)) base d hv (.slice pv nv cv) (D.ins ⟨o, (k1, k2), 2, false⟩) ∧ DTn w5 (W3.setCell ⟨d, 1, none⟩ (.slice pv nv cv)) (DB d hv (.slice p N c)) (DB d hv (.slice pv nv cv)) by
            have hr := Q3.out.1
            rw [List.nil_append, ← HT.out.2.2.2.2.2.2.2] at hr
            exact HZ.out.1.putLine HZ.out.2.1 Q3.out.2 hr)
          have P2 := Lib.hid fun (W' : World) (g : Gr (W3.setCell ⟨d, 1, none⟩ (.slice pv nv cv)) W') => HZ.out.1.back Q3.out.2 Q3.out.1 g
          go_wp2_with fail
          all_goals
            refine (dRing_any (P1.out.1.gr (Gr.refl _)).at HZ.out.2.2.1 HZ.out.2.2.2.1 o).mono ?_
            rintro e w9 ⟨rfl, g9⟩
            have HB := HZ.out.2.2.2.2
            cases hrg : (D.ins ⟨o, (k1, k2), 2, false⟩).ring o with
            | true =>
              have HE := Lib.hid (P2.out _ g9)
              have e91 := (P1.out.1.box1 g9).1
              have e92 := (P1.out.1.box1 g9).2
              have hR := HRR.out
              rw [if_pos hrg] at hR
              subst hR
              have HFin := Lib.hid (show RetDt base d hv (.slice p D.line.length c) _ w _ by rw [← HNN.out]; exact ⟨_, _, HE.out.1, (DTn.of_gr HB).trans HE.out.2⟩)
              clear g9
              go_wp2_with fail
              go_ret
              first
                | exact ⟨rfl, HFin.out⟩
                | (have hcn : c = N := by assumption
                   subst hcn
                   exact ⟨rfl, HFin.out⟩)
            | false =>
              have HE := Lib.hid (And.intro (P1.out.1.gr g9) (P1.out.2.trans (DTn.of_gr g9)))
              have hR := HRR.out
              rw [if_neg (by rw [hrg]; simp)] at hR
              subst hR
              have HFin := Lib.hid (show RetDt base d hv (.slice p D.line.length c) _ w _ by rw [← HNN.out]; exact ⟨_, _, HE.out.1, (DTn.of_gr HB).trans HE.out.2⟩)
              clear g9
              go_wp2_with fail
              go_ret
              first
                | exact ⟨rfl, HFin.out⟩
                | (have hcn : c = N := by assumption
                   subst hcn
                   exact ⟨rfl, HFin.out⟩)
      · have e17 : decide ((0 : Int) ≤ (N : Int) - 1) = true := decide_eq_true (by omega)
        have e18 : (0 : Int) ≤ (N : Int) - 1 := by omega
        clear hN0
        go_upto_region 17 with fail
        refine wp_loop_rounds 1 ?_
        rw [rounds_succ]
        have hAc : N ≤ c := by have := HT.out.2.2.2.1; have := HT.out.2.2.2.2.1; omega
        have hAN : (N : Int) ≤ (N : Int) := by have := HT.out.2.2.2.1; omega
        have hA0 : (0 : Int) ≤ (N : Int) := by omega
        go_upto_region 22 with fail
        clear c1
        go_region_law (first
          | (refine step_app_d (base := w5.heap.size) (v := v2) (vx := sliced p N N c 5) rfl _ _ rfl (by simp [Act.eval, Act.put]) Q2.out.1 (by simp [Act.eval, Act.put, sliced, add_lit']) (HT.out.2.1.gr Q2.out.2) (HT.out.2.2.2.2.2.2.1) Q2.out.2.size (fun v3 W3 hv3 hg3 hc3 => ?_); obtain ⟨pv, nv, cv, hvv⟩ := dslice hv3; subst hvv; have Q3 := Lib.hid (And.intro hv3 (dgr_grown Q2.out.2 hg3 (fun n hn => (Q2.out.1.lt n hn).1))); have e91 := (HZ.out.1.box1 Q3.out.2).1; have e92 := (HZ.out.1.box1 Q3.out.2).2; clear hv3 hg3 hc3)
          | (refine step_app_d (base := w5.heap.size) (v := v1) (vx := .slice (some ⟨W1.heap.size, 0, none⟩) 1 1) (M := [⟨o, (k1, k2), 2, false⟩]) rfl _ _ rfl (by simp [Act.eval, Act.put]) (Q1.out.1.gr ((Gr.refl _).alloc (Nat.le_refl _) _)) (by simp [Act.eval, Act.put]) (DSl.one W1 TDl ⟨o, (k1, k2), 2, false⟩) HT.out.2.2.2.2.2.1 (Nat.le_trans Q1.out.2.size ((Gr.refl W1).alloc (Nat.le_refl _) _).size) (fun v2 W2 hv2 hg2 hc2 => ?_); have Q2 := Lib.hid (And.intro hv2 (dgr_grown (Gr.trans Q1.out.2 ((Gr.refl W1).alloc (Nat.le_refl _) _)) hg2 (fun n hn => (Q1.out.1.lt n hn).1))); clear hv2 hg2 hc2)
          | (refine step_app_d (base := w5.heap.size) (v := v1) (vx := .slice (some ⟨w5.heap.size, 0, none⟩) 1 1) (M := [⟨o, (k1, k2), 2, false⟩]) rfl _ _ rfl (by simp [Act.eval, Act.put]) Q1.out.1 (by simp [Act.eval, Act.put]) (Q1.out.2.2) HT.out.2.2.2.2.2.1 Q1.out.2.1.size (fun v2 W2 hv2 hg2 hc2 => ?_); have Q2 := Lib.hid (And.intro hv2 (dgr_grown Q1.out.2.1 hg2 (fun n hn => (Q1.out.1.lt n hn).1))); clear hv2 hg2 hc2)
          | (refine step_app_d (base := w5.heap.size) (w := w5.drew) (v := .slice none 0 0) (vx := .slice p N c) rfl _ _ rfl (by simp [Act.eval, Act.put]) (Dr.nil _ _) (by simp [Act.eval, Act.put]) (HT.out.1.gr (grD (Gr.refl _))) (by have := HT.out.2.2.1; simp only [List.length_nil]; omega) (Nat.le_refl _) (fun v1 W1 hv1 hg1 hc1 => ?_); have Q1 := Lib.hid (And.intro hv1 (dgr_grown (grD (Gr.refl _) : Gr w5 w5.drew) hg1 (fun n hn => nomatch hn))); obtain ⟨y0, y1, y2, y3, y4⟩ := HY.out _ Q1.out.2; clear hv1 hg1 hc1)
          | (refine step_app_d (base := w5.heap.size) (v := .slice none 0 0) (vx := .slice p N c) rfl _ _ rfl (by simp [Act.eval, Act.put]) (Dr.nil _ _) (by simp [Act.eval, Act.put]) (HT.out.1.gr ((grD (Gr.refl _) : Gr w5 w5.drew).alloc (Nat.le_refl _) _)) (by have := HT.out.2.2.1; simp only [List.length_nil]; omega) ((grD (Gr.refl _) : Gr w5 w5.drew).alloc (Nat.le_refl _) _).size (fun v1 W1 hv1 hg1 hc1 => ?_); have Q1 := Lib.hid (And.intro hv1 (And.intro (dgr_grown ((grD (Gr.refl _) : Gr w5 w5.drew).alloc (Nat.le_refl _) _) hg1 (fun n hn => nomatch hn)) ((DSl.one w5.drew TDl ⟨o, (k1, k2), 2, false⟩).gr (dgr_grown (Gr.refl _) hg1 (fun n hn => nomatch hn))))); obtain ⟨y0, y1, y2, y3, y4⟩ := HY.out _ Q1.out.2.1; clear hv1 hg1 hc1))
        all_goals
          clear e91 e92
          have P1 := Lib.hid (show DtA (W3.setCell ⟨d, 1, none⟩ (.slice pv nv cv)) base d hv (.slice pv nv cv) (D.ins ⟨o, (k1, k2), 2, false⟩) ∧ DTn w5 (W3.setCell ⟨d, 1, none⟩ (.slice pv nv cv)) (DB d hv (.slice p N c)) (DB d hv (.slice pv nv cv)) by
            have hr := Q3.out.1
            rw [List.nil_append, ← HT.out.2.2.2.2.2.2.2] at hr
            exact HZ.out.1.putLine HZ.out.2.1 Q3.out.2 hr)
          have P2 := Lib.hid fun (W' : World) (g : Gr (W3.setCell ⟨d, 1, none⟩ (.slice pv nv cv)) W') => HZ.out.1.back Q3.out.2 Q3.out.1 g
          go_wp2_with fail
          all_goals
            refine (dRing_any (P1.out.1.gr (Gr.refl _)).at HZ.out.2.2.1 HZ.out.2.2.2.1 o).mono ?_
            rintro e w9 ⟨rfl, g9⟩
            have HB := HZ.out.2.2.2.2
            cases hrg : (D.ins ⟨o, (k1, k2), 2, false⟩).ring o with
            | true =>
              have HE := Lib.hid (P2.out _ g9)
              have e91 := (P1.out.1.box1 g9).1
              have e92 := (P1.out.1.box1 g9).2
              have hR := HRR.out
              rw [if_pos hrg] at hR
              subst hR
              have HFin := Lib.hid (show RetDt base d hv (.slice p D.line.length c) _ w _ by rw [← HNN.out]; exact ⟨_, _, HE.out.1, (DTn.of_gr HB).trans HE.out.2⟩)
              clear g9
              go_wp2_with fail
              go_ret
              first
                | exact ⟨rfl, HFin.out⟩
                | (have hcn : c = N := by assumption
                   subst hcn
                   exact ⟨rfl, HFin.out⟩)
            | false =>
              have HE := Lib.hid (And.intro (P1.out.1.gr g9) (P1.out.2.trans (DTn.of_gr g9)))
              have hR := HRR.out
              rw [if_neg (by rw [hrg]; simp)] at hR
              subst hR
              have HFin := Lib.hid (show RetDt base d hv (.slice p D.line.length c) _ w _ by rw [← HNN.out]; exact ⟨_, _, HE.out.1, (DTn.of_gr HB).trans HE.out.2⟩)
              clear g9
              go_wp2_with fail
              go_ret
              first
                | exact ⟨rfl, HFin.out⟩
                | (have hcn : c = N := by assumption
                   subst hcn
                   exact ⟨rfl, HFin.out⟩)
end
end Go.Proofs.YtadopbpfnnpnaaaGreat

