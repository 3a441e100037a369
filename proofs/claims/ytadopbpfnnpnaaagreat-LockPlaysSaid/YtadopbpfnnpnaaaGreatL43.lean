/-
  Texts on locks, put together: LkRef17.
-/
import Derived.Test.YtadopbpfnnpnaaaGreatL41
set_option linter.unusedVariables false
set_option linter.unusedSimpArgs false
/-
  The document's Ask: of one that has it; of one that comes to it.
-/
namespace Go.Proofs.YtadopbpfnnpnaaaGreat
open Go.RowKit Go.Maps

section
variable {w : World} {base d : Nat} {hv lv : Value} {D : DT}
set_option maxRecDepth 100000 in
theorem dAsk_has (h : DtA w base d hv lv D) (hn : D.line.length ≤ 10000) (hnh : D.held.length ≤ 10000) {o : Nat} (hw : ¬ D.line.any (ofO o) = true) {k : Key} {m H : Int} (hm : m = 1 ∨ m = 2) (hHd : D.holds o k = H) (hle : m ≤ H) : Calls Tryz.prog 10 #[.pointer (some ⟨d, 0, none⟩), .int .u64 (o : Int), .agg #[.int .i64 k.1, .int .i64 k.2], .int .i64 m] w (RetDA base d hv lv (0, D) w) := by
  obtain ⟨k1, k2⟩ := k
  have g0 : Gr w (w.alloc (.cells #[.int .i64 k1, .int .i64 k2] TKey)) := (Gr.refl w).alloc (Nat.le_refl _) _
  have b0 := Blk.new w TKey #[.int .i64 k1, .int .i64 k2]
  obtain ⟨W0, hW0⟩ : ∃ W0, W0 = w.alloc (.cells #[.int .i64 k1, .int .i64 k2] TKey) := ⟨_, rfl⟩
  rw [← hW0] at g0 b0
  have HW := Lib.hid fun (W : World) (g : Gr w W) => (wi_no hw) ▸ dWaits_any (h.gr g).at (by omega) o
  have HO := Lib.hid fun (W : World) (g : Gr w W) => hHd ▸ dHolds_any (h.gr g).at (by omega) o (k1, k2)
  have HH := Lib.hid (And.intro h (And.intro g0 (And.intro b0 hW0)))
  clear h g0 b0 hW0 hw hHd hn hnh
  rcases hm with rfl | rfl
  · go_enter Tryz.func10, Tryz.ntmps10
    go_upto_region 3 with fail
    rw [show (w.alloc (.cells #[.int .i64 k1, .int .i64 k2] 33)) = W0 from HH.out.2.2.2.symm]
    go_wp2_with fail
    refine (HW.out W0 HH.out.2.1).mono ?_
    rintro e w1 ⟨rfl, g1⟩
    have G1 := Lib.hid (HH.out.2.1.trans g1)
    have B1 := Lib.hid (HH.out.2.2.1.gr g1)
    clear g1
    have z0 := B1.out.cell 0
    have z1 := B1.out.cell 1
    simp at z0 z1
    go_wp2_with fail
    refine (HO.out w1 G1.out).mono ?_
    rintro e w2 ⟨rfl, g2⟩
    have G2 := Lib.hid (G1.out.trans g2)
    have B2 := Lib.hid (B1.out.gr g2)
    clear g2 z0 z1
    have z0 := B2.out.cell 0
    have z1 := B2.out.cell 1
    simp at z0 z1
    have HE := Lib.hid (RetDA.same (r := 0) HH.out.1 G2.out)
    go_wp2_with fail
    go_ret
    exact ⟨rfl, HE.out⟩
  · go_enter Tryz.func10, Tryz.ntmps10
    go_upto_region 3 with fail
    rw [show (w.alloc (.cells #[.int .i64 k1, .int .i64 k2] 33)) = W0 from HH.out.2.2.2.symm]
    go_wp2_with fail
    refine (HW.out W0 HH.out.2.1).mono ?_
    rintro e w1 ⟨rfl, g1⟩
    have G1 := Lib.hid (HH.out.2.1.trans g1)
    have B1 := Lib.hid (HH.out.2.2.1.gr g1)
    clear g1
    have z0 := B1.out.cell 0
    have z1 := B1.out.cell 1
    simp at z0 z1
    go_wp2_with fail
    refine (HO.out w1 G1.out).mono ?_
    rintro e w2 ⟨rfl, g2⟩
    have G2 := Lib.hid (G1.out.trans g2)
    have B2 := Lib.hid (B1.out.gr g2)
    clear g2 z0 z1
    have z0 := B2.out.cell 0
    have z1 := B2.out.cell 1
    simp at z0 z1
    have HE := Lib.hid (RetDA.same (r := 0) HH.out.1 G2.out)
    go_wp2_with fail
    go_ret
    exact ⟨rfl, HE.out⟩
set_option maxRecDepth 100000 in
theorem dAsk_give (h : DtA w base d hv lv D) (hbs : base ≤ w.heap.size) (hn : D.line.length ≤ 10000) (hnh : D.held.length ≤ 10000) {o : Nat} (hw : ¬ D.line.any (ofO o) = true) {k : Key} {m H : Int} (hm : m = 1 ∨ m = 2) (hHd : D.holds o k = H) (hle : ¬ m ≤ H) (hmay : D.may ⟨o, k, m, decide (H ≠ 0)⟩ = true) (hfr : H ≠ 0 ∨ (D.lineOf k).length = 0) : Calls Tryz.prog 10 #[.pointer (some ⟨d, 0, none⟩), .int .u64 (o : Int), .agg #[.int .i64 k.1, .int .i64 k.2], .int .i64 m] w (RetDA base d hv lv (0, D.give ⟨o, k, m, decide (H ≠ 0)⟩) w) := by
  obtain ⟨k1, k2⟩ := k
  have g0 : Gr w (w.alloc (.cells #[.int .i64 k1, .int .i64 k2] TKey)) := (Gr.refl w).alloc (Nat.le_refl _) _
  have b0 := Blk.new w TKey #[.int .i64 k1, .int .i64 k2]
  obtain ⟨W0, hW0⟩ : ∃ W0, W0 = w.alloc (.cells #[.int .i64 k1, .int .i64 k2] TKey) := ⟨_, rfl⟩
  rw [← hW0] at g0 b0
  have HW := Lib.hid fun (W : World) (g : Gr w W) => (wi_no hw) ▸ dWaits_any (h.gr g).at (by omega) o
  have HO := Lib.hid fun (W : World) (g : Gr w W) => hHd ▸ dHolds_any (h.gr g).at (by omega) o (k1, k2)
  have HH := Lib.hid (And.intro h (And.intro g0 (And.intro b0 hW0)))
  have HM := Lib.hid fun (W : World) (g : Gr w W) => hmay ▸ dmay_any (h.gr g).at (by omega) ⟨o, (k1, k2), m, decide (H ≠ 0)⟩
  have HL := Lib.hid fun (W : World) (g : Gr w W) => dLineOf_any (h.gr g).at (by omega) (k1, k2)
  have HGi := Lib.hid fun (W : World) (g : Gr w W) => dgive_any (h.gr g) (Nat.le_trans hbs g.size) (by omega) ⟨o, (k1, k2), m, decide (H ≠ 0)⟩
  have HF := Lib.hid hfr
  clear h g0 b0 hW0 hw hHd hn hnh hmay hfr hbs
  by_cases hH : H = 0
  · subst hH
    rw [show decide ((0 : Int) ≠ 0) = false from rfl] at HM HGi ⊢
    rcases hm with rfl | rfl
    · go_enter Tryz.func10, Tryz.ntmps10
      go_upto_region 3 with fail
      rw [show (w.alloc (.cells #[.int .i64 k1, .int .i64 k2] 33)) = W0 from HH.out.2.2.2.symm]
      go_wp2_with fail
      refine (HW.out W0 HH.out.2.1).mono ?_
      rintro e w1 ⟨rfl, g1⟩
      have G1 := Lib.hid (HH.out.2.1.trans g1)
      have B1 := Lib.hid (HH.out.2.2.1.gr g1)
      clear g1
      have z0 := B1.out.cell 0
      have z1 := B1.out.cell 1
      simp at z0 z1
      go_wp2_with fail
      refine (HO.out w1 G1.out).mono ?_
      rintro e w2 ⟨rfl, g2⟩
      have G2 := Lib.hid (G1.out.trans g2)
      have B2 := Lib.hid (B1.out.gr g2)
      clear g2 z0 z1
      have z0 := B2.out.cell 0
      have z1 := B2.out.cell 1
      simp at z0 z1
      have g3 : Gr w2 (w2.alloc (.cells #[.int .u64 (o : Int), .int .i64 k1, .int .i64 k2, .int .i64 1, .bool false] TDl)) := (Gr.refl w2).alloc (Nat.le_refl _) _
      have b3 := Blk.new w2 TDl #[.int .u64 (o : Int), .int .i64 k1, .int .i64 k2, .int .i64 1, .bool false]
      obtain ⟨W3, hW3⟩ : ∃ W3, W3 = w2.alloc (.cells #[.int .u64 (o : Int), .int .i64 k1, .int .i64 k2, .int .i64 1, .bool false] TDl) := ⟨_, rfl⟩
      rw [← hW3] at g3 b3
      have G3 := Lib.hid (And.intro (G2.out.trans g3) (And.intro b3 (And.intro (B2.out.gr g3) hW3)))
      clear g3 b3 hW3
      go_upto_region 12 with fail
      rw [show (w2.alloc (.cells #[.int .u64 (o : Int), .int .i64 k1, .int .i64 k2, .int .i64 1, .bool false] 71)) = W3 from G3.out.2.2.2.symm]
      clear z0 z1
      have y0 := G3.out.2.1.cell 0
      have y1 := G3.out.2.1.cell 1
      have y2 := G3.out.2.1.cell 2
      have y3 := G3.out.2.1.cell 3
      have y4 := G3.out.2.1.cell 4
      simp at y0 y1 y2 y3 y4
      go_wp2_with fail
      refine (HM.out W3 G3.out.1).mono ?_
      rintro e w4 ⟨rfl, g4⟩
      have G4 := Lib.hid (And.intro (G3.out.1.trans g4) (And.intro (G3.out.2.1.gr g4) (G3.out.2.2.1.gr g4)))
      clear g4 y0 y1 y2 y3 y4
      have y0 := G4.out.2.1.cell 0
      have y1 := G4.out.2.1.cell 1
      have y2 := G4.out.2.1.cell 2
      have y3 := G4.out.2.1.cell 3
      have y4 := G4.out.2.1.cell 4
      have z0 := G4.out.2.2.cell 0
      have z1 := G4.out.2.2.cell 1
      simp at y0 y1 y2 y3 y4 z0 z1
      go_wp2_with fail
      refine (HL.out w4 G4.out.1).mono ?_
      rintro e w5 ⟨v5, rfl, hu5, g5⟩
      have hz : D.lineOf (k1, k2) = [] := by
        rcases HF.out with e | e
        · exact absurd rfl e
        · exact List.eq_nil_of_length_eq_zero e
      obtain ⟨p5, c5, hv5⟩ := hu5.form
      rw [hz] at hv5
      subst hv5
      have G5 := Lib.hid (And.intro (G4.out.1.trans g5) (G4.out.2.1.gr g5))
      clear g5 hu5 hz y0 y1 y2 y3 y4 z0 z1
      have y0 := G5.out.2.cell 0
      have y1 := G5.out.2.cell 1
      have y2 := G5.out.2.cell 2
      have y3 := G5.out.2.cell 3
      have y4 := G5.out.2.cell 4
      simp at y0 y1 y2 y3 y4
      go_wp2_with fail
      refine (HGi.out w5 G5.out.1).mono ?_
      rintro e w6 ⟨rfl, hr⟩
      have HE := Lib.hid (RetDt.pre G5.out.1 hr)
      clear hr
      go_wp2_with fail
      go_ret
      exact ⟨rfl, HE.out⟩
    · go_enter Tryz.func10, Tryz.ntmps10
      go_upto_region 3 with fail
      rw [show (w.alloc (.cells #[.int .i64 k1, .int .i64 k2] 33)) = W0 from HH.out.2.2.2.symm]
      go_wp2_with fail
      refine (HW.out W0 HH.out.2.1).mono ?_
      rintro e w1 ⟨rfl, g1⟩
      have G1 := Lib.hid (HH.out.2.1.trans g1)
      have B1 := Lib.hid (HH.out.2.2.1.gr g1)
      clear g1
      have z0 := B1.out.cell 0
      have z1 := B1.out.cell 1
      simp at z0 z1
      go_wp2_with fail
      refine (HO.out w1 G1.out).mono ?_
      rintro e w2 ⟨rfl, g2⟩
      have G2 := Lib.hid (G1.out.trans g2)
      have B2 := Lib.hid (B1.out.gr g2)
      clear g2 z0 z1
      have z0 := B2.out.cell 0
      have z1 := B2.out.cell 1
      simp at z0 z1
      have g3 : Gr w2 (w2.alloc (.cells #[.int .u64 (o : Int), .int .i64 k1, .int .i64 k2, .int .i64 2, .bool false] TDl)) := (Gr.refl w2).alloc (Nat.le_refl _) _
      have b3 := Blk.new w2 TDl #[.int .u64 (o : Int), .int .i64 k1, .int .i64 k2, .int .i64 2, .bool false]
      obtain ⟨W3, hW3⟩ : ∃ W3, W3 = w2.alloc (.cells #[.int .u64 (o : Int), .int .i64 k1, .int .i64 k2, .int .i64 2, .bool false] TDl) := ⟨_, rfl⟩
      rw [← hW3] at g3 b3
      have G3 := Lib.hid (And.intro (G2.out.trans g3) (And.intro b3 (And.intro (B2.out.gr g3) hW3)))
      clear g3 b3 hW3
      go_upto_region 12 with fail
      rw [show (w2.alloc (.cells #[.int .u64 (o : Int), .int .i64 k1, .int .i64 k2, .int .i64 2, .bool false] 71)) = W3 from G3.out.2.2.2.symm]
      clear z0 z1
      have y0 := G3.out.2.1.cell 0
      have y1 := G3.out.2.1.cell 1
      have y2 := G3.out.2.1.cell 2
      have y3 := G3.out.2.1.cell 3
      have y4 := G3.out.2.1.cell 4
      simp at y0 y1 y2 y3 y4
      go_wp2_with fail
      refine (HM.out W3 G3.out.1).mono ?_
      rintro e w4 ⟨rfl, g4⟩
      have G4 := Lib.hid (And.intro (G3.out.1.trans g4) (And.intro (G3.out.2.1.gr g4) (G3.out.2.2.1.gr g4)))
      clear g4 y0 y1 y2 y3 y4
      have y0 := G4.out.2.1.cell 0
      have y1 := G4.out.2.1.cell 1
      have y2 := G4.out.2.1.cell 2
      have y3 := G4.out.2.1.cell 3
      have y4 := G4.out.2.1.cell 4
      have z0 := G4.out.2.2.cell 0
      have z1 := G4.out.2.2.cell 1
      simp at y0 y1 y2 y3 y4 z0 z1
      go_wp2_with fail
      refine (HL.out w4 G4.out.1).mono ?_
      rintro e w5 ⟨v5, rfl, hu5, g5⟩
      have hz : D.lineOf (k1, k2) = [] := by
        rcases HF.out with e | e
        · exact absurd rfl e
        · exact List.eq_nil_of_length_eq_zero e
      obtain ⟨p5, c5, hv5⟩ := hu5.form
      rw [hz] at hv5
      subst hv5
      have G5 := Lib.hid (And.intro (G4.out.1.trans g5) (G4.out.2.1.gr g5))
      clear g5 hu5 hz y0 y1 y2 y3 y4 z0 z1
      have y0 := G5.out.2.cell 0
      have y1 := G5.out.2.cell 1
      have y2 := G5.out.2.cell 2
      have y3 := G5.out.2.cell 3
      have y4 := G5.out.2.cell 4
      simp at y0 y1 y2 y3 y4
      go_wp2_with fail
      refine (HGi.out w5 G5.out.1).mono ?_
      rintro e w6 ⟨rfl, hr⟩
      have HE := Lib.hid (RetDt.pre G5.out.1 hr)
      clear hr
      go_wp2_with fail
      go_ret
      exact ⟨rfl, HE.out⟩
  · have hup : decide (H ≠ 0) = true := decide_eq_true hH
    rw [hup] at HM HGi ⊢
    have e0 : (H == 0) = false := by rw [beq_eq_false_iff_ne]; exact hH
    have e1 : (H != 0) = true := by rw [bne_iff_ne]; exact hH
    clear hup
    rcases hm with rfl | rfl
    · go_enter Tryz.func10, Tryz.ntmps10
      go_upto_region 3 with fail
      rw [show (w.alloc (.cells #[.int .i64 k1, .int .i64 k2] 33)) = W0 from HH.out.2.2.2.symm]
      go_wp2_with fail
      refine (HW.out W0 HH.out.2.1).mono ?_
      rintro e w1 ⟨rfl, g1⟩
      have G1 := Lib.hid (HH.out.2.1.trans g1)
      have B1 := Lib.hid (HH.out.2.2.1.gr g1)
      clear g1
      have z0 := B1.out.cell 0
      have z1 := B1.out.cell 1
      simp at z0 z1
      go_wp2_with fail
      refine (HO.out w1 G1.out).mono ?_
      rintro e w2 ⟨rfl, g2⟩
      have G2 := Lib.hid (G1.out.trans g2)
      have B2 := Lib.hid (B1.out.gr g2)
      clear g2 z0 z1
      have z0 := B2.out.cell 0
      have z1 := B2.out.cell 1
      simp at z0 z1
      have g3 : Gr w2 (w2.alloc (.cells #[.int .u64 (o : Int), .int .i64 k1, .int .i64 k2, .int .i64 1, .bool true] TDl)) := (Gr.refl w2).alloc (Nat.le_refl _) _
      have b3 := Blk.new w2 TDl #[.int .u64 (o : Int), .int .i64 k1, .int .i64 k2, .int .i64 1, .bool true]
      obtain ⟨W3, hW3⟩ : ∃ W3, W3 = w2.alloc (.cells #[.int .u64 (o : Int), .int .i64 k1, .int .i64 k2, .int .i64 1, .bool true] TDl) := ⟨_, rfl⟩
      rw [← hW3] at g3 b3
      have G3 := Lib.hid (And.intro (G2.out.trans g3) (And.intro b3 (And.intro (B2.out.gr g3) hW3)))
      clear g3 b3 hW3
      go_upto_region 12 with fail
      rw [show (w2.alloc (.cells #[.int .u64 (o : Int), .int .i64 k1, .int .i64 k2, .int .i64 1, .bool true] 71)) = W3 from G3.out.2.2.2.symm]
      clear z0 z1
      have y0 := G3.out.2.1.cell 0
      have y1 := G3.out.2.1.cell 1
      have y2 := G3.out.2.1.cell 2
      have y3 := G3.out.2.1.cell 3
      have y4 := G3.out.2.1.cell 4
      simp at y0 y1 y2 y3 y4
      go_wp2_with fail
      refine (HM.out W3 G3.out.1).mono ?_
      rintro e w4 ⟨rfl, g4⟩
      have G4 := Lib.hid (And.intro (G3.out.1.trans g4) (And.intro (G3.out.2.1.gr g4) (G3.out.2.2.1.gr g4)))
      clear g4 y0 y1 y2 y3 y4
      have y0 := G4.out.2.1.cell 0
      have y1 := G4.out.2.1.cell 1
      have y2 := G4.out.2.1.cell 2
      have y3 := G4.out.2.1.cell 3
      have y4 := G4.out.2.1.cell 4
      have z0 := G4.out.2.2.cell 0
      have z1 := G4.out.2.2.cell 1
      simp at y0 y1 y2 y3 y4 z0 z1
      go_wp2_with fail
      refine (HGi.out w4 G4.out.1).mono ?_
      rintro e w6 ⟨rfl, hr⟩
      have HE := Lib.hid (RetDt.pre G4.out.1 hr)
      clear hr
      go_wp2_with fail
      go_ret
      exact ⟨rfl, HE.out⟩
    · go_enter Tryz.func10, Tryz.ntmps10
      go_upto_region 3 with fail
      rw [show (w.alloc (.cells #[.int .i64 k1, .int .i64 k2] 33)) = W0 from HH.out.2.2.2.symm]
      go_wp2_with fail
      refine (HW.out W0 HH.out.2.1).mono ?_
      rintro e w1 ⟨rfl, g1⟩
      have G1 := Lib.hid (HH.out.2.1.trans g1)
      have B1 := Lib.hid (HH.out.2.2.1.gr g1)
      clear g1
      have z0 := B1.out.cell 0
      have z1 := B1.out.cell 1
      simp at z0 z1
      go_wp2_with fail
      refine (HO.out w1 G1.out).mono ?_
      rintro e w2 ⟨rfl, g2⟩
      have G2 := Lib.hid (G1.out.trans g2)
      have B2 := Lib.hid (B1.out.gr g2)
      clear g2 z0 z1
      have z0 := B2.out.cell 0
      have z1 := B2.out.cell 1
      simp at z0 z1
      have g3 : Gr w2 (w2.alloc (.cells #[.int .u64 (o : Int), .int .i64 k1, .int .i64 k2, .int .i64 2, .bool true] TDl)) := (Gr.refl w2).alloc (Nat.le_refl _) _
      have b3 := Blk.new w2 TDl #[.int .u64 (o : Int), .int .i64 k1, .int .i64 k2, .int .i64 2, .bool true]
      obtain ⟨W3, hW3⟩ : ∃ W3, W3 = w2.alloc (.cells #[.int .u64 (o : Int), .int .i64 k1, .int .i64 k2, .int .i64 2, .bool true] TDl) := ⟨_, rfl⟩
      rw [← hW3] at g3 b3
      have G3 := Lib.hid (And.intro (G2.out.trans g3) (And.intro b3 (And.intro (B2.out.gr g3) hW3)))
      clear g3 b3 hW3
      go_upto_region 12 with fail
      rw [show (w2.alloc (.cells #[.int .u64 (o : Int), .int .i64 k1, .int .i64 k2, .int .i64 2, .bool true] 71)) = W3 from G3.out.2.2.2.symm]
      clear z0 z1
      have y0 := G3.out.2.1.cell 0
      have y1 := G3.out.2.1.cell 1
      have y2 := G3.out.2.1.cell 2
      have y3 := G3.out.2.1.cell 3
      have y4 := G3.out.2.1.cell 4
      simp at y0 y1 y2 y3 y4
      go_wp2_with fail
      refine (HM.out W3 G3.out.1).mono ?_
      rintro e w4 ⟨rfl, g4⟩
      have G4 := Lib.hid (And.intro (G3.out.1.trans g4) (And.intro (G3.out.2.1.gr g4) (G3.out.2.2.1.gr g4)))
      clear g4 y0 y1 y2 y3 y4
      have y0 := G4.out.2.1.cell 0
      have y1 := G4.out.2.1.cell 1
      have y2 := G4.out.2.1.cell 2
      have y3 := G4.out.2.1.cell 3
      have y4 := G4.out.2.1.cell 4
      have z0 := G4.out.2.2.cell 0
      have z1 := G4.out.2.2.cell 1
      simp at y0 y1 y2 y3 y4 z0 z1
      go_wp2_with fail
      refine (HGi.out w4 G4.out.1).mono ?_
      rintro e w6 ⟨rfl, hr⟩
      have HE := Lib.hid (RetDt.pre G4.out.1 hr)
      clear hr
      go_wp2_with fail
      go_ret
      exact ⟨rfl, HE.out⟩
end
end Go.Proofs.YtadopbpfnnpnaaaGreat

