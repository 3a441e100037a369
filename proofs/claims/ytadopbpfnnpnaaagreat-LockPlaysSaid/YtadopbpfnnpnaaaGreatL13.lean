/-
  Texts on locks, put together: Lk22.
-/
import Derived.Test.YtadopbpfnnpnaaaGreatL12
set_option linter.unusedVariables false
set_option linter.unusedSimpArgs false
/-
  The code's table of locks: Ask.
-/
namespace Go.Proofs.YtadopbpfnnpnaaaGreat
open Go.RowKit Go.Maps

/-- What Ask answers and leaves; R: whether one that stood in the line would wait for somebody who waits for it. -/
def Tb.ask (T : Tb) (o : Nat) (k : Key) (m : Int) (R : Bool) : Int × Tb :=
  if ¬ (m = 1 ∨ m = 2) then (2, T)
  else if (T.of o).mode = m ∧ (T.of o).key = k then (9, T)
  else if (T.of o).mode ≠ 0 then (7, T)
  else if T.hold o k = m ∨ T.hold o k = 2 then (0, T)
  else if (T.hold o k = 0 ∨ T.may o k m = false) ∧ T.many = 65536 then (5, T)
  else if T.may o k m = true then (0, T.give o k m)
  else if R = true then (10, T)
  else (9, T.stand o k m)
def RetAsk (t km om : Nat) (B : Tag → Option Nat) (r : Int × Tb) (w : World) (e : Ending) (w' : World) : Prop :=
  ∃ B', e = .returned (.int .i64 r.1) ∧ TbAt w' t km om B' r.2 ∧ Tn w w' B B'
theorem may_lk {T : Tb} {o : Nat} {k : Key} {m : Int} (h : T.may o k m = false) : (T.lk k).isSome = true := by
  unfold Tb.may at h
  cases e : T.lk k with
  | none => rw [e] at h; cases h
  | some l => rfl
section
variable {w : World} {t km om : Nat} {B : Tag → Option Nat} {T : Tb}
set_option maxRecDepth 100000 in
theorem ask_bad (h : TbAt w t km om B T) {o : Nat} {k : Key} {m : Int} {R : Bool} (h1 : ¬ m = 1) (h2 : ¬ m = 2) :
    Calls Tryz.prog 12 #[.pointer (some ⟨t, 0, none⟩), .int .u64 (o : Int), kv k, .int .i64 m] w (RetAsk t km om B (T.ask o k m R) w) := by
  have g1 : Gr w (w.alloc (.cells #[.int .i64 k.1, .int .i64 k.2] TKey)) := (Gr.refl w).alloc (Nat.le_refl _) _
  have HM := Lib.hid (missing_no (h.gr g1))
  have hA : T.ask o k m R = (2, T) := by
    unfold Tb.ask
    simp [h1, h2]
  have HX := Lib.hid (show RetAsk t km om B (T.ask o k m R) w (.returned (.int .i64 2)) (w.alloc (.cells #[.int .i64 k.1, .int .i64 k.2] TKey)) from ⟨B, congrArg (fun r : Int × Tb => Ending.returned (.int .i64 r.1)) hA.symm, by rw [hA]; exact h.gr g1, Tn.of_gr g1⟩)
  have hb1 : (m != 1) = true := by simpa using h1
  have hb2 : (m != 2) = true := by simpa using h2
  show Calls Tryz.prog 12 #[.pointer (some ⟨t, 0, none⟩), .int .u64 (o : Int), .agg #[.int .i64 k.1, .int .i64 k.2], .int .i64 m] w _
  clear h g1 hA
  go_enter Tryz.func12, Tryz.ntmps12
  go_wp2_with fail
  refine HM.out.mono ?_
  rintro e w' ⟨rfl, rfl⟩
  go_wp2_with fail
  go_ret
  exact HX.out
set_option maxRecDepth 100000 in
set_option maxHeartbeats 4000000 in
theorem ask_1 (h : TbAt w t km om B T) (ok : T.Ok) {o : Nat} (ho : KO.dom o) {k : Key} (hk : KL.dom k) {R : Bool} (hR : T.may o k 1 = false → ∀ W, Gr w W → Calls Tryz.prog 38 #[.pointer (some ⟨t, 0, none⟩), .int .u64 (o : Int), kv k] W fun e w' => e = .returned (.bool R) ∧ Gr W w')
    (hoo : T.oo.length < maxLen) (hkk : T.kk.length < maxLen) (hhs : (T.lkOf k).hs.length < maxLen) (hks : (T.of o).ks.length < maxLen) (hln : (T.lkOf k).line.length ≤ 1000000000) (hmn : -1000000000 ≤ T.many ∧ T.many ≤ 1000000000) :
    Calls Tryz.prog 12 #[.pointer (some ⟨t, 0, none⟩), .int .u64 (o : Int), kv k, .int .i64 1] w (RetAsk t km om B (T.ask o k 1 R) w) := by
  have g1 : Gr w (w.alloc (.cells #[.int .i64 k.1, .int .i64 k.2] TKey)) := (Gr.refl w).alloc (Nat.le_refl _) _
  have h1 := h.gr g1
  have b6 := (Blk.new w TKey #[.int .i64 k.1, .int .i64 k.2])
  obtain ⟨k1, hk1⟩ : ∃ x, x = k.1 := ⟨_, rfl⟩
  obtain ⟨k2, hk2⟩ : ∃ x, x = k.2 := ⟨_, rfl⟩
  have hkv : kv k = .agg #[.int .i64 k1, .int .i64 k2] := by rw [hk1, hk2]; rfl
  have HKK : Hid (k = (k1, k2)) := Lib.hid (by rw [hk1, hk2])
  rw [hkv]
  rw [← hk1, ← hk2] at g1 h1 b6
  obtain ⟨W0, hW0⟩ : ∃ W0, W0 = w.alloc (.cells #[.int .i64 k1, .int .i64 k2] TKey) := ⟨_, rfl⟩
  rw [← hW0] at g1 h1 b6
  have HM := Lib.hid (missing_no h1)
  have HO := Lib.hid (of_any h1 ho)
  obtain ⟨hp, hhp⟩ : ∃ hp, hp = B (.pm o) := ⟨_, rfl⟩
  obtain ⟨O1, hO1⟩ : ∃ O1, O1 = (T.of o).key.1 := ⟨_, rfl⟩
  obtain ⟨O2, hO2⟩ : ∃ O2, O2 = (T.of o).key.2 := ⟨_, rfl⟩
  obtain ⟨PM, hPM⟩ : ∃ PM, PM = (T.of o).mode := ⟨_, rfl⟩
  unfold ofV at HO
  rw [← hhp, ← hO1, ← hO2, ← hPM] at HO
  have hOK : (T.of o).key = (O1, O2) := by rw [hO1, hO2]
  obtain ⟨kb, hkb⟩ : ∃ kb, kb = w.heap.size := ⟨_, rfl⟩
  rw [← hkb] at b6
  have hGv := fun W (g : Gr w W) => give_any (h.gr g) ho hk 1 hoo hkk hhs hks hmn
  have hSt := fun (hm : T.may o k 1 = false) (hr : R = false) W (g : Gr w W) => stand_any (h.gr g) ho hk 1 (may_lk hm) hoo hln hmn
  have hMy := fun W (g : Gr w W) => may_any (h.gr g) ok ho hk 1
  have hHo := fun W (g : Gr w W) => Holds_any (h.gr g) ok ho hk
  rw [hkv] at hGv hSt hMy hHo hR
  obtain ⟨H, hH⟩ : ∃ H, H = T.hold o k := ⟨_, rfl⟩
  obtain ⟨Mb, hMb⟩ : ∃ Mb, Mb = T.may o k 1 := ⟨_, rfl⟩
  rw [← hH] at hHo
  rw [← hMb] at hMy hSt hR
  have HC := Lib.hid (And.intro hGv (And.intro hSt (And.intro hMy (And.intro hHo hR))))
  have HB := Lib.hid b6
  have HW := Lib.hid (And.intro hW0 hkb)
  have HG := Lib.hid g1
  have HT := Lib.hid h
  have HE := Lib.hid (And.intro hH (And.intro hMb (And.intro hPM (And.intro hOK hkv))))
  have x0 := b6.cell 0
  have x1 := b6.cell 1
  simp at x0 x1
  clear h h1 ok b6 g1 hkv hW0 hkb hk1 hk2 hhp hO1 hO2 hPM hOK hGv hSt hMy hHo hR hH hMb hoo hkk hhs hks hln hmn
  go_enter Tryz.func12, Tryz.ntmps12
  go_upto_region 1 with fail
  rw [show (w.alloc (.cells #[.int .i64 k1, .int .i64 k2] 33)) = W0 from HW.out.1.symm, ← HW.out.2]
  go_wp2_with fail
  refine HM.out.mono ?_
  rintro e w' ⟨rfl, rfl⟩
  go_wp2_with fail
  refine HO.out.mono ?_
  rintro e W2 ⟨rfl, g2⟩
  have g3 : Gr W2 (W2.alloc (.cells #[.map hp, .int .i64 O1, .int .i64 O2, .int .i64 PM] TPy)) := (Gr.refl _).alloc (Nat.le_refl _) _
  have b3 := Blk.new W2 TPy #[.map hp, .int .i64 O1, .int .i64 O2, .int .i64 PM]
  obtain ⟨W3, hW3⟩ : ∃ W3, W3 = W2.alloc (.cells #[.map hp, .int .i64 O1, .int .i64 O2, .int .i64 PM] TPy) := ⟨_, rfl⟩
  rw [← hW3] at g3 b3
  obtain ⟨pb, hpb⟩ : ∃ pb, pb = W2.heap.size := ⟨_, rfl⟩
  rw [← hpb] at b3
  have k3 := HB.out.gr (Gr.trans g2 g3)
  have y0 := k3.cell 0
  have y1 := k3.cell 1
  simp at y0 y1
  have H3 := Lib.hid (And.intro hW3 (And.intro hpb (And.intro g2 (And.intro g3 (And.intro b3 k3)))))
  clear hW3 hpb g2 g3 b3 k3
  go_upto_region 6 with fail
  rw [show (W2.alloc (.cells #[.map hp, .int .i64 O1, .int .i64 O2, .int .i64 PM] 66)) = W3 from H3.out.1.symm, ← H3.out.2.1]
  go_wp2_with fail
  refine (HC.out.2.2.2.1 W3 (Gr.trans HG.out (Gr.trans H3.out.2.2.1 H3.out.2.2.2.1))).mono ?_
  rintro e W4 ⟨rfl, g4⟩
  have p4 := H3.out.2.2.2.2.1.gr g4
  have k4 := H3.out.2.2.2.2.2.gr g4
  have z1 := p4.cell 1
  have z2 := p4.cell 2
  have z3 := p4.cell 3
  have v0 := k4.cell 0
  have v1 := k4.cell 1
  simp at z1 z2 z3 v0 v1
  have G4 : Hid (Gr w W4) := Lib.hid (Gr.trans HG.out (Gr.trans H3.out.2.2.1 (Gr.trans H3.out.2.2.2.1 g4)))
  have K4 := Lib.hid k4
  clear g4 p4 k4 x0 x1 y0 y1
  by_cases hA1 : PM = 1
  · subst hA1
    by_cases hk1 : O1 = k1
    · by_cases hk2 : O2 = k2
      · have hE1 : (O1, O2) = k := by rw [HKK.out, hk1, hk2]
        have HA : Hid (T.ask o k 1 R = (9, T)) := Lib.hid (by
          obtain ⟨e1, e2, e3, e4, -⟩ := HE.out
          unfold Tb.ask
          rw [← e1, ← e2, ← e3, e4]
          simp [hE1])
        clear hE1
        subst hk1
        subst hk2
        go_wp2_with fail
        go_ret
        exact ⟨B, congrArg (fun r : Int × Tb => Ending.returned (.int .i64 r.1)) HA.out.symm, by rw [HA.out]; exact HT.out.gr G4.out, Tn.of_gr G4.out⟩
      · have hE1 : ¬ (O1, O2) = k := fun e => hk2 (Prod.mk.inj (e.trans HKK.out)).2
        have HA : Hid (T.ask o k 1 R = (7, T)) := Lib.hid (by
          obtain ⟨e1, e2, e3, e4, -⟩ := HE.out
          unfold Tb.ask
          rw [← e1, ← e2, ← e3, e4]
          simp [hE1])
        clear hE1
        subst hk1
        go_wp2_with fail
        go_ret
        exact ⟨B, congrArg (fun r : Int × Tb => Ending.returned (.int .i64 r.1)) HA.out.symm, by rw [HA.out]; exact HT.out.gr G4.out, Tn.of_gr G4.out⟩
    · have hE1 : ¬ (O1, O2) = k := fun e => hk1 (Prod.mk.inj (e.trans HKK.out)).1
      have HA : Hid (T.ask o k 1 R = (7, T)) := Lib.hid (by
        obtain ⟨e1, e2, e3, e4, -⟩ := HE.out
        unfold Tb.ask
        rw [← e1, ← e2, ← e3, e4]
        simp [hE1])
      clear hE1
      go_wp2_with fail
      go_ret
      exact ⟨B, congrArg (fun r : Int × Tb => Ending.returned (.int .i64 r.1)) HA.out.symm, by rw [HA.out]; exact HT.out.gr G4.out, Tn.of_gr G4.out⟩
  · by_cases hA2 : PM = 0
    · subst hA2
      by_cases hH1 : H = 1
      · subst hH1
        have HA : Hid (T.ask o k 1 R = (0, T)) := Lib.hid (by
          obtain ⟨e1, e2, e3, e4, -⟩ := HE.out
          unfold Tb.ask
          rw [← e1, ← e2, ← e3, e4]
          simp [hA1])
        go_wp2_with fail
        go_ret
        exact ⟨B, congrArg (fun r : Int × Tb => Ending.returned (.int .i64 r.1)) HA.out.symm, by rw [HA.out]; exact HT.out.gr G4.out, Tn.of_gr G4.out⟩
      · by_cases hH2 : H = 2
        · subst hH2
          have HA : Hid (T.ask o k 1 R = (0, T)) := Lib.hid (by
            obtain ⟨e1, e2, e3, e4, -⟩ := HE.out
            unfold Tb.ask
            rw [← e1, ← e2, ← e3, e4]
            simp [hA1])
          go_wp2_with fail
          go_ret
          exact ⟨B, congrArg (fun r : Int × Tb => Ending.returned (.int .i64 r.1)) HA.out.symm, by rw [HA.out]; exact HT.out.gr G4.out, Tn.of_gr G4.out⟩
        · skip
          have hb1 : (H == 1) = false := by simpa using hH1
          have hb2 : (H == 2) = false := by simpa using hH2
          go_wp2_with fail
          refine (HC.out.2.2.1 W4 G4.out).mono ?_
          rintro e W5 ⟨rfl, g5⟩
          have G5 : Hid (Gr w W5) := Lib.hid (Gr.trans G4.out g5)
          have k5 := K4.out.gr g5
          have y0 := k5.cell 0
          have y1 := k5.cell 1
          simp at y0 y1
          obtain ⟨MN, hMN⟩ : ∃ MN, MN = T.many := ⟨_, rfl⟩
          have c2 : W5.cell? ⟨t, 2, none⟩ = some (.int .i64 MN) := by rw [hMN]; exact (HT.out.gr G5.out).c3.2.2
          have HMN := Lib.hid hMN
          have K5 := Lib.hid k5
          clear g5 k5 hMN
          cases Mb with
          | true =>
            by_cases hH0 : H = 0
            · subst hH0
              by_cases hF : MN = 65536
              · subst hF
                have hMN := HMN.out
                have HA : Hid (T.ask o k 1 R = (5, T)) := Lib.hid (by
                  obtain ⟨e1, e2, e3, e4, -⟩ := HE.out
                  unfold Tb.ask
                  rw [← e1, ← e2, ← e3, e4]
                  simp [hA1, ← hMN])
                go_wp2_with fail
                go_ret
                exact ⟨B, congrArg (fun r : Int × Tb => Ending.returned (.int .i64 r.1)) HA.out.symm, by rw [HA.out]; exact HT.out.gr G5.out, Tn.of_gr G5.out⟩
              · have hMN := HMN.out
                have HA : Hid (T.ask o k 1 R = (0, T.give o k 1)) := Lib.hid (by
                  obtain ⟨e1, e2, e3, e4, -⟩ := HE.out
                  unfold Tb.ask
                  rw [← e1, ← e2, ← e3, e4]
                  simp [hA1, ← hMN, hF])
                clear hMN
                go_wp2_with fail
                refine (HC.out.1 W5 G5.out).mono ?_
                rintro e W6 ⟨B2, rfl, r6, t6, -⟩
                have HX := Lib.hid (show RetAsk t km om B (T.ask o k 1 R) w (.returned (.int .i64 0)) W6 from ⟨B2, congrArg (fun r : Int × Tb => Ending.returned (.int .i64 r.1)) HA.out.symm, by rw [HA.out]; exact r6, (Tn.of_gr G5.out).trans t6⟩)
                clear r6 t6
                go_wp2_with fail
                go_ret
                exact HX.out
            · have hb0 : (H == 0) = false := by simpa using hH0
              have HA : Hid (T.ask o k 1 R = (0, T.give o k 1)) := Lib.hid (by
                obtain ⟨e1, e2, e3, e4, -⟩ := HE.out
                unfold Tb.ask
                rw [← e1, ← e2, ← e3, e4]
                simp [hA1, hH0, hH1, hH2])
              go_wp2_with fail
              refine (HC.out.1 W5 G5.out).mono ?_
              rintro e W6 ⟨B2, rfl, r6, t6, -⟩
              have HX := Lib.hid (show RetAsk t km om B (T.ask o k 1 R) w (.returned (.int .i64 0)) W6 from ⟨B2, congrArg (fun r : Int × Tb => Ending.returned (.int .i64 r.1)) HA.out.symm, by rw [HA.out]; exact r6, (Tn.of_gr G5.out).trans t6⟩)
              clear r6 t6
              go_wp2_with fail
              go_ret
              exact HX.out
          | false =>
            by_cases hF : MN = 65536
            · subst hF
              have hMN := HMN.out
              have HA : Hid (T.ask o k 1 R = (5, T)) := Lib.hid (by
                obtain ⟨e1, e2, e3, e4, -⟩ := HE.out
                unfold Tb.ask
                rw [← e1, ← e2, ← e3, e4]
                simp [hA1, hH1, hH2, ← hMN])
              clear hMN
              by_cases hH0 : H = 0
              all_goals
                try subst hH0
                try have hb0 : (H == 0) = false := by simpa using hH0
                go_wp2_with fail
                go_ret
                exact ⟨B, congrArg (fun r : Int × Tb => Ending.returned (.int .i64 r.1)) HA.out.symm, by rw [HA.out]; exact HT.out.gr G5.out, Tn.of_gr G5.out⟩
            · have hMN := HMN.out
              have hRing := HC.out.2.2.2.2 rfl W5 G5.out
              have HRS := Lib.hid (And.intro hRing (HC.out.2.1 rfl))
              clear hRing
              cases R with
              | true =>
                have HA : Hid (T.ask o k 1 true = (10, T)) := Lib.hid (by
                  obtain ⟨e1, e2, e3, e4, -⟩ := HE.out
                  unfold Tb.ask
                  rw [← e1, ← e2, ← e3, e4]
                  simp [hA1, hH1, hH2, ← hMN, hF])
                clear hMN
                by_cases hH0 : H = 0
                all_goals
                  try subst hH0
                  try have hb0 : (H == 0) = false := by simpa using hH0
                  go_wp2_with fail
                  refine HRS.out.1.mono ?_
                  rintro e W6 ⟨rfl, g6⟩
                  have G6 : Hid (Gr w W6) := Lib.hid (Gr.trans G5.out g6)
                  clear g6
                  go_wp2_with fail
                  go_ret
                  exact ⟨B, congrArg (fun r : Int × Tb => Ending.returned (.int .i64 r.1)) HA.out.symm, by rw [HA.out]; exact HT.out.gr G6.out, Tn.of_gr G6.out⟩
              | false =>
                have HA : Hid (T.ask o k 1 false = (9, T.stand o k 1)) := Lib.hid (by
                  obtain ⟨e1, e2, e3, e4, -⟩ := HE.out
                  unfold Tb.ask
                  rw [← e1, ← e2, ← e3, e4]
                  simp [hA1, hH1, hH2, ← hMN, hF])
                clear hMN
                by_cases hH0 : H = 0
                all_goals
                  try subst hH0
                  try have hb0 : (H == 0) = false := by simpa using hH0
                  go_wp2_with fail
                  refine HRS.out.1.mono ?_
                  rintro e W6 ⟨rfl, g6⟩
                  have G6 : Hid (Gr w W6) := Lib.hid (Gr.trans G5.out g6)
                  have k6 := K5.out.gr g6
                  have y0 := k6.cell 0
                  have y1 := k6.cell 1
                  simp at y0 y1
                  clear g6 k6
                  go_wp2_with fail
                  refine (HRS.out.2 (by first | trivial | rfl) W6 G6.out).mono ?_
                  rintro e W7 ⟨B2, rfl, r6, t6⟩
                  have HX := Lib.hid (show RetAsk t km om B (T.ask o k 1 false) w (.returned (.int .i64 9)) W7 from ⟨B2, congrArg (fun r : Int × Tb => Ending.returned (.int .i64 r.1)) HA.out.symm, by rw [HA.out]; exact r6, (Tn.of_gr G6.out).trans t6⟩)
                  clear r6 t6
                  go_wp2_with fail
                  go_ret
                  exact HX.out
    · skip
      have HA : Hid (T.ask o k 1 R = (7, T)) := Lib.hid (by
        obtain ⟨e1, e2, e3, e4, -⟩ := HE.out
        unfold Tb.ask
        rw [← e1, ← e2, ← e3, e4]
        simp [hA1, hA2])
      go_wp2_with fail
      go_ret
      exact ⟨B, congrArg (fun r : Int × Tb => Ending.returned (.int .i64 r.1)) HA.out.symm, by rw [HA.out]; exact HT.out.gr G4.out, Tn.of_gr G4.out⟩
set_option maxRecDepth 100000 in
set_option maxHeartbeats 4000000 in
theorem ask_2 (h : TbAt w t km om B T) (ok : T.Ok) {o : Nat} (ho : KO.dom o) {k : Key} (hk : KL.dom k) {R : Bool} (hR : T.may o k 2 = false → ∀ W, Gr w W → Calls Tryz.prog 38 #[.pointer (some ⟨t, 0, none⟩), .int .u64 (o : Int), kv k] W fun e w' => e = .returned (.bool R) ∧ Gr W w')
    (hoo : T.oo.length < maxLen) (hkk : T.kk.length < maxLen) (hhs : (T.lkOf k).hs.length < maxLen) (hks : (T.of o).ks.length < maxLen) (hln : (T.lkOf k).line.length ≤ 1000000000) (hmn : -1000000000 ≤ T.many ∧ T.many ≤ 1000000000) :
    Calls Tryz.prog 12 #[.pointer (some ⟨t, 0, none⟩), .int .u64 (o : Int), kv k, .int .i64 2] w (RetAsk t km om B (T.ask o k 2 R) w) := by
  have g1 : Gr w (w.alloc (.cells #[.int .i64 k.1, .int .i64 k.2] TKey)) := (Gr.refl w).alloc (Nat.le_refl _) _
  have h1 := h.gr g1
  have b6 := (Blk.new w TKey #[.int .i64 k.1, .int .i64 k.2])
  obtain ⟨k1, hk1⟩ : ∃ x, x = k.1 := ⟨_, rfl⟩
  obtain ⟨k2, hk2⟩ : ∃ x, x = k.2 := ⟨_, rfl⟩
  have hkv : kv k = .agg #[.int .i64 k1, .int .i64 k2] := by rw [hk1, hk2]; rfl
  have HKK : Hid (k = (k1, k2)) := Lib.hid (by rw [hk1, hk2])
  rw [hkv]
  rw [← hk1, ← hk2] at g1 h1 b6
  obtain ⟨W0, hW0⟩ : ∃ W0, W0 = w.alloc (.cells #[.int .i64 k1, .int .i64 k2] TKey) := ⟨_, rfl⟩
  rw [← hW0] at g1 h1 b6
  have HM := Lib.hid (missing_no h1)
  have HO := Lib.hid (of_any h1 ho)
  obtain ⟨hp, hhp⟩ : ∃ hp, hp = B (.pm o) := ⟨_, rfl⟩
  obtain ⟨O1, hO1⟩ : ∃ O1, O1 = (T.of o).key.1 := ⟨_, rfl⟩
  obtain ⟨O2, hO2⟩ : ∃ O2, O2 = (T.of o).key.2 := ⟨_, rfl⟩
  obtain ⟨PM, hPM⟩ : ∃ PM, PM = (T.of o).mode := ⟨_, rfl⟩
  unfold ofV at HO
  rw [← hhp, ← hO1, ← hO2, ← hPM] at HO
  have hOK : (T.of o).key = (O1, O2) := by rw [hO1, hO2]
  obtain ⟨kb, hkb⟩ : ∃ kb, kb = w.heap.size := ⟨_, rfl⟩
  rw [← hkb] at b6
  have hGv := fun W (g : Gr w W) => give_any (h.gr g) ho hk 2 hoo hkk hhs hks hmn
  have hSt := fun (hm : T.may o k 2 = false) (hr : R = false) W (g : Gr w W) => stand_any (h.gr g) ho hk 2 (may_lk hm) hoo hln hmn
  have hMy := fun W (g : Gr w W) => may_any (h.gr g) ok ho hk 2
  have hHo := fun W (g : Gr w W) => Holds_any (h.gr g) ok ho hk
  rw [hkv] at hGv hSt hMy hHo hR
  obtain ⟨H, hH⟩ : ∃ H, H = T.hold o k := ⟨_, rfl⟩
  obtain ⟨Mb, hMb⟩ : ∃ Mb, Mb = T.may o k 2 := ⟨_, rfl⟩
  rw [← hH] at hHo
  rw [← hMb] at hMy hSt hR
  have HC := Lib.hid (And.intro hGv (And.intro hSt (And.intro hMy (And.intro hHo hR))))
  have HB := Lib.hid b6
  have HW := Lib.hid (And.intro hW0 hkb)
  have HG := Lib.hid g1
  have HT := Lib.hid h
  have HE := Lib.hid (And.intro hH (And.intro hMb (And.intro hPM (And.intro hOK hkv))))
  have x0 := b6.cell 0
  have x1 := b6.cell 1
  simp at x0 x1
  clear h h1 ok b6 g1 hkv hW0 hkb hk1 hk2 hhp hO1 hO2 hPM hOK hGv hSt hMy hHo hR hH hMb hoo hkk hhs hks hln hmn
  go_enter Tryz.func12, Tryz.ntmps12
  go_upto_region 1 with fail
  rw [show (w.alloc (.cells #[.int .i64 k1, .int .i64 k2] 33)) = W0 from HW.out.1.symm, ← HW.out.2]
  go_wp2_with fail
  refine HM.out.mono ?_
  rintro e w' ⟨rfl, rfl⟩
  go_wp2_with fail
  refine HO.out.mono ?_
  rintro e W2 ⟨rfl, g2⟩
  have g3 : Gr W2 (W2.alloc (.cells #[.map hp, .int .i64 O1, .int .i64 O2, .int .i64 PM] TPy)) := (Gr.refl _).alloc (Nat.le_refl _) _
  have b3 := Blk.new W2 TPy #[.map hp, .int .i64 O1, .int .i64 O2, .int .i64 PM]
  obtain ⟨W3, hW3⟩ : ∃ W3, W3 = W2.alloc (.cells #[.map hp, .int .i64 O1, .int .i64 O2, .int .i64 PM] TPy) := ⟨_, rfl⟩
  rw [← hW3] at g3 b3
  obtain ⟨pb, hpb⟩ : ∃ pb, pb = W2.heap.size := ⟨_, rfl⟩
  rw [← hpb] at b3
  have k3 := HB.out.gr (Gr.trans g2 g3)
  have y0 := k3.cell 0
  have y1 := k3.cell 1
  simp at y0 y1
  have H3 := Lib.hid (And.intro hW3 (And.intro hpb (And.intro g2 (And.intro g3 (And.intro b3 k3)))))
  clear hW3 hpb g2 g3 b3 k3
  go_upto_region 6 with fail
  rw [show (W2.alloc (.cells #[.map hp, .int .i64 O1, .int .i64 O2, .int .i64 PM] 66)) = W3 from H3.out.1.symm, ← H3.out.2.1]
  go_wp2_with fail
  refine (HC.out.2.2.2.1 W3 (Gr.trans HG.out (Gr.trans H3.out.2.2.1 H3.out.2.2.2.1))).mono ?_
  rintro e W4 ⟨rfl, g4⟩
  have p4 := H3.out.2.2.2.2.1.gr g4
  have k4 := H3.out.2.2.2.2.2.gr g4
  have z1 := p4.cell 1
  have z2 := p4.cell 2
  have z3 := p4.cell 3
  have v0 := k4.cell 0
  have v1 := k4.cell 1
  simp at z1 z2 z3 v0 v1
  have G4 : Hid (Gr w W4) := Lib.hid (Gr.trans HG.out (Gr.trans H3.out.2.2.1 (Gr.trans H3.out.2.2.2.1 g4)))
  have K4 := Lib.hid k4
  clear g4 p4 k4 x0 x1 y0 y1
  by_cases hA1 : PM = 2
  · subst hA1
    by_cases hk1 : O1 = k1
    · by_cases hk2 : O2 = k2
      · have hE1 : (O1, O2) = k := by rw [HKK.out, hk1, hk2]
        have HA : Hid (T.ask o k 2 R = (9, T)) := Lib.hid (by
          obtain ⟨e1, e2, e3, e4, -⟩ := HE.out
          unfold Tb.ask
          rw [← e1, ← e2, ← e3, e4]
          simp [hE1])
        clear hE1
        subst hk1
        subst hk2
        go_wp2_with fail
        go_ret
        exact ⟨B, congrArg (fun r : Int × Tb => Ending.returned (.int .i64 r.1)) HA.out.symm, by rw [HA.out]; exact HT.out.gr G4.out, Tn.of_gr G4.out⟩
      · have hE1 : ¬ (O1, O2) = k := fun e => hk2 (Prod.mk.inj (e.trans HKK.out)).2
        have HA : Hid (T.ask o k 2 R = (7, T)) := Lib.hid (by
          obtain ⟨e1, e2, e3, e4, -⟩ := HE.out
          unfold Tb.ask
          rw [← e1, ← e2, ← e3, e4]
          simp [hE1])
        clear hE1
        subst hk1
        go_wp2_with fail
        go_ret
        exact ⟨B, congrArg (fun r : Int × Tb => Ending.returned (.int .i64 r.1)) HA.out.symm, by rw [HA.out]; exact HT.out.gr G4.out, Tn.of_gr G4.out⟩
    · have hE1 : ¬ (O1, O2) = k := fun e => hk1 (Prod.mk.inj (e.trans HKK.out)).1
      have HA : Hid (T.ask o k 2 R = (7, T)) := Lib.hid (by
        obtain ⟨e1, e2, e3, e4, -⟩ := HE.out
        unfold Tb.ask
        rw [← e1, ← e2, ← e3, e4]
        simp [hE1])
      clear hE1
      go_wp2_with fail
      go_ret
      exact ⟨B, congrArg (fun r : Int × Tb => Ending.returned (.int .i64 r.1)) HA.out.symm, by rw [HA.out]; exact HT.out.gr G4.out, Tn.of_gr G4.out⟩
  · by_cases hA2 : PM = 0
    · subst hA2
      by_cases hH1 : H = 2
      · subst hH1
        have HA : Hid (T.ask o k 2 R = (0, T)) := Lib.hid (by
          obtain ⟨e1, e2, e3, e4, -⟩ := HE.out
          unfold Tb.ask
          rw [← e1, ← e2, ← e3, e4]
          simp [hA1])
        go_wp2_with fail
        go_ret
        exact ⟨B, congrArg (fun r : Int × Tb => Ending.returned (.int .i64 r.1)) HA.out.symm, by rw [HA.out]; exact HT.out.gr G4.out, Tn.of_gr G4.out⟩
      · have hH2 := hH1
        have hb2 : (H == 2) = false := by simpa using hH2
        go_wp2_with fail
        refine (HC.out.2.2.1 W4 G4.out).mono ?_
        rintro e W5 ⟨rfl, g5⟩
        have G5 : Hid (Gr w W5) := Lib.hid (Gr.trans G4.out g5)
        have k5 := K4.out.gr g5
        have y0 := k5.cell 0
        have y1 := k5.cell 1
        simp at y0 y1
        obtain ⟨MN, hMN⟩ : ∃ MN, MN = T.many := ⟨_, rfl⟩
        have c2 : W5.cell? ⟨t, 2, none⟩ = some (.int .i64 MN) := by rw [hMN]; exact (HT.out.gr G5.out).c3.2.2
        have HMN := Lib.hid hMN
        have K5 := Lib.hid k5
        clear g5 k5 hMN
        cases Mb with
        | true =>
          by_cases hH0 : H = 0
          · subst hH0
            by_cases hF : MN = 65536
            · subst hF
              have hMN := HMN.out
              have HA : Hid (T.ask o k 2 R = (5, T)) := Lib.hid (by
                obtain ⟨e1, e2, e3, e4, -⟩ := HE.out
                unfold Tb.ask
                rw [← e1, ← e2, ← e3, e4]
                simp [hA1, ← hMN])
              go_wp2_with fail
              go_ret
              exact ⟨B, congrArg (fun r : Int × Tb => Ending.returned (.int .i64 r.1)) HA.out.symm, by rw [HA.out]; exact HT.out.gr G5.out, Tn.of_gr G5.out⟩
            · have hMN := HMN.out
              have HA : Hid (T.ask o k 2 R = (0, T.give o k 2)) := Lib.hid (by
                obtain ⟨e1, e2, e3, e4, -⟩ := HE.out
                unfold Tb.ask
                rw [← e1, ← e2, ← e3, e4]
                simp [hA1, ← hMN, hF])
              clear hMN
              go_wp2_with fail
              refine (HC.out.1 W5 G5.out).mono ?_
              rintro e W6 ⟨B2, rfl, r6, t6, -⟩
              have HX := Lib.hid (show RetAsk t km om B (T.ask o k 2 R) w (.returned (.int .i64 0)) W6 from ⟨B2, congrArg (fun r : Int × Tb => Ending.returned (.int .i64 r.1)) HA.out.symm, by rw [HA.out]; exact r6, (Tn.of_gr G5.out).trans t6⟩)
              clear r6 t6
              go_wp2_with fail
              go_ret
              exact HX.out
          · have hb0 : (H == 0) = false := by simpa using hH0
            have HA : Hid (T.ask o k 2 R = (0, T.give o k 2)) := Lib.hid (by
              obtain ⟨e1, e2, e3, e4, -⟩ := HE.out
              unfold Tb.ask
              rw [← e1, ← e2, ← e3, e4]
              simp [hA1, hH0, hH1, hH2])
            go_wp2_with fail
            refine (HC.out.1 W5 G5.out).mono ?_
            rintro e W6 ⟨B2, rfl, r6, t6, -⟩
            have HX := Lib.hid (show RetAsk t km om B (T.ask o k 2 R) w (.returned (.int .i64 0)) W6 from ⟨B2, congrArg (fun r : Int × Tb => Ending.returned (.int .i64 r.1)) HA.out.symm, by rw [HA.out]; exact r6, (Tn.of_gr G5.out).trans t6⟩)
            clear r6 t6
            go_wp2_with fail
            go_ret
            exact HX.out
        | false =>
          by_cases hF : MN = 65536
          · subst hF
            have hMN := HMN.out
            have HA : Hid (T.ask o k 2 R = (5, T)) := Lib.hid (by
              obtain ⟨e1, e2, e3, e4, -⟩ := HE.out
              unfold Tb.ask
              rw [← e1, ← e2, ← e3, e4]
              simp [hA1, hH1, hH2, ← hMN])
            clear hMN
            by_cases hH0 : H = 0
            all_goals
              try subst hH0
              try have hb0 : (H == 0) = false := by simpa using hH0
              go_wp2_with fail
              go_ret
              exact ⟨B, congrArg (fun r : Int × Tb => Ending.returned (.int .i64 r.1)) HA.out.symm, by rw [HA.out]; exact HT.out.gr G5.out, Tn.of_gr G5.out⟩
          · have hMN := HMN.out
            have hRing := HC.out.2.2.2.2 rfl W5 G5.out
            have HRS := Lib.hid (And.intro hRing (HC.out.2.1 rfl))
            clear hRing
            cases R with
            | true =>
              have HA : Hid (T.ask o k 2 true = (10, T)) := Lib.hid (by
                obtain ⟨e1, e2, e3, e4, -⟩ := HE.out
                unfold Tb.ask
                rw [← e1, ← e2, ← e3, e4]
                simp [hA1, hH1, hH2, ← hMN, hF])
              clear hMN
              by_cases hH0 : H = 0
              all_goals
                try subst hH0
                try have hb0 : (H == 0) = false := by simpa using hH0
                go_wp2_with fail
                refine HRS.out.1.mono ?_
                rintro e W6 ⟨rfl, g6⟩
                have G6 : Hid (Gr w W6) := Lib.hid (Gr.trans G5.out g6)
                clear g6
                go_wp2_with fail
                go_ret
                exact ⟨B, congrArg (fun r : Int × Tb => Ending.returned (.int .i64 r.1)) HA.out.symm, by rw [HA.out]; exact HT.out.gr G6.out, Tn.of_gr G6.out⟩
            | false =>
              have HA : Hid (T.ask o k 2 false = (9, T.stand o k 2)) := Lib.hid (by
                obtain ⟨e1, e2, e3, e4, -⟩ := HE.out
                unfold Tb.ask
                rw [← e1, ← e2, ← e3, e4]
                simp [hA1, hH1, hH2, ← hMN, hF])
              clear hMN
              by_cases hH0 : H = 0
              all_goals
                try subst hH0
                try have hb0 : (H == 0) = false := by simpa using hH0
                go_wp2_with fail
                refine HRS.out.1.mono ?_
                rintro e W6 ⟨rfl, g6⟩
                have G6 : Hid (Gr w W6) := Lib.hid (Gr.trans G5.out g6)
                have k6 := K5.out.gr g6
                have y0 := k6.cell 0
                have y1 := k6.cell 1
                simp at y0 y1
                clear g6 k6
                go_wp2_with fail
                refine (HRS.out.2 (by first | trivial | rfl) W6 G6.out).mono ?_
                rintro e W7 ⟨B2, rfl, r6, t6⟩
                have HX := Lib.hid (show RetAsk t km om B (T.ask o k 2 false) w (.returned (.int .i64 9)) W7 from ⟨B2, congrArg (fun r : Int × Tb => Ending.returned (.int .i64 r.1)) HA.out.symm, by rw [HA.out]; exact r6, (Tn.of_gr G6.out).trans t6⟩)
                clear r6 t6
                go_wp2_with fail
                go_ret
                exact HX.out
    · skip
      have HA : Hid (T.ask o k 2 R = (7, T)) := Lib.hid (by
        obtain ⟨e1, e2, e3, e4, -⟩ := HE.out
        unfold Tb.ask
        rw [← e1, ← e2, ← e3, e4]
        simp [hA1, hA2])
      go_wp2_with fail
      go_ret
      exact ⟨B, congrArg (fun r : Int × Tb => Ending.returned (.int .i64 r.1)) HA.out.symm, by rw [HA.out]; exact HT.out.gr G4.out, Tn.of_gr G4.out⟩
end
end Go.Proofs.YtadopbpfnnpnaaaGreat

