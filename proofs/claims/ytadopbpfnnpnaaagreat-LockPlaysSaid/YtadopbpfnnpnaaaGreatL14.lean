/-
  Texts on locks, put together: Lk23 Lk24 Lk25.
-/
import Derived.Test.YtadopbpfnnpnaaaGreatL13
set_option linter.unusedVariables false
set_option linter.unusedSimpArgs false
/-
  The code's table of locks: ring, where nobody stands in the line of what is held.
-/
namespace Go.Proofs.YtadopbpfnnpnaaaGreat
open Go.RowKit Go.Maps

section
variable {w : World} {t km om : Nat} {B : Tag → Option Nat} {T : Tb}
set_option maxRecDepth 100000 in
theorem ring_no (h : TbAt w t km om B T) (ok : T.Ok) {o : Nat} (ho : KO.dom o) (k : Key) (hw : T.wanted (T.of o).ks = false) :
    Calls Tryz.prog 38 #[.pointer (some ⟨t, 0, none⟩), .int .u64 (o : Int), kv k] w fun e w' => e = .returned (.bool false) ∧ Gr w w' := by
  have g1 : Gr w ((w.alloc (.cells #[.pointer (some ⟨t, 0, none⟩)] 24)).alloc (.cells #[.int .i64 k.1, .int .i64 k.2] TKey)) := ((Gr.refl w).alloc (Nat.le_refl _) _).alloc (by simp) _
  have HO := Lib.hid (of_any (h.gr g1) ho)
  have hhs := h.hs o
  obtain ⟨hp, hhp⟩ : ∃ hp, hp = B (.pm o) := ⟨_, rfl⟩
  obtain ⟨O1, hO1⟩ : ∃ O1, O1 = (T.of o).key.1 := ⟨_, rfl⟩
  obtain ⟨O2, hO2⟩ : ∃ O2, O2 = (T.of o).key.2 := ⟨_, rfl⟩
  obtain ⟨PM, hPM⟩ : ∃ PM, PM = (T.of o).mode := ⟨_, rfl⟩
  unfold ofV at HO
  rw [← hhp, ← hO1, ← hO2, ← hPM] at HO
  rw [← hhp] at hhs
  have hb := (Blk.new w 24 #[.pointer (some ⟨t, 0, none⟩)]).gr ((Gr.refl _).alloc (Nat.le_refl _) (.cells #[.int .i64 k.1, .int .i64 k.2] TKey))
  have HWa := Lib.hid (fun W (g : Gr w W) => wanted_any (h.gr g) O1 O2 PM (hhs.gr g) (fun k hk => by obtain ⟨l, e, _⟩ := ok.holds o k hk; rw [e]; rfl))
  rw [hw] at HWa
  obtain ⟨W0, hW0⟩ : ∃ W0, W0 = (w.alloc (.cells #[.pointer (some ⟨t, 0, none⟩)] 24)).alloc (.cells #[.int .i64 k.1, .int .i64 k.2] TKey) := ⟨_, rfl⟩
  rw [← hW0] at g1 HO hb
  obtain ⟨tb, htb⟩ : ∃ tb, tb = w.heap.size := ⟨_, rfl⟩
  rw [← htb] at hb
  have x0 := hb.cell 0
  simp at x0
  have HB := Lib.hid (And.intro hb (And.intro g1 (And.intro hW0 htb)))
  show Calls Tryz.prog 38 #[.pointer (some ⟨t, 0, none⟩), .int .u64 (o : Int), .agg #[.int .i64 k.1, .int .i64 k.2]] w _
  clear h ok hhs hhp hO1 hO2 hPM hb g1 hW0 htb hw
  go_enter Tryz.func38, Tryz.ntmps38
  go_upto_region 1 with fail
  rw [show ((w.alloc (.cells #[.pointer (some ⟨t, 0, none⟩)] 24)).alloc (.cells #[.int .i64 k.1, .int .i64 k.2] 33)) = W0 from HB.out.2.2.1.symm, ← HB.out.2.2.2]
  go_wp2_with fail
  refine HO.out.mono ?_
  rintro e W2 ⟨rfl, g2⟩
  have g3 : Gr W2 (W2.alloc (.cells #[.map hp, .int .i64 O1, .int .i64 O2, .int .i64 PM] TPy)) := (Gr.refl _).alloc (Nat.le_refl _) _
  have b3 := Blk.new W2 TPy #[.map hp, .int .i64 O1, .int .i64 O2, .int .i64 PM]
  obtain ⟨W3, hW3⟩ : ∃ W3, W3 = W2.alloc (.cells #[.map hp, .int .i64 O1, .int .i64 O2, .int .i64 PM] TPy) := ⟨_, rfl⟩
  rw [← hW3] at g3 b3
  obtain ⟨pb, hpb⟩ : ∃ pb, pb = W2.heap.size := ⟨_, rfl⟩
  rw [← hpb] at b3
  have z0 := b3.cell 0
  have z1 := b3.cell 1
  have z2 := b3.cell 2
  have z3 := b3.cell 3
  have x3 := (HB.out.1.gr (Gr.trans g2 g3)).cell 0
  have x2 := (HB.out.1.gr g2).cell 0
  simp at z0 z1 z2 z3 x3 x2
  have G3 : Hid (Gr w W3) := Lib.hid (Gr.trans HB.out.2.1 (Gr.trans g2 g3))
  have H3 := Lib.hid (And.intro hW3 hpb)
  clear g2 g3 b3 hW3 hpb x0
  go_upto_region 2 with fail
  rw [show (W2.alloc (.cells #[.map hp, .int .i64 O1, .int .i64 O2, .int .i64 PM] 66)) = W3 from H3.out.1.symm, ← H3.out.2]
  go_wp2_with fail
  refine (HWa.out W3 G3.out).mono ?_
  rintro e W4 ⟨rfl, g4⟩
  have G4 : Hid (Gr w W4) := Lib.hid (Gr.trans G3.out g4)
  clear g4
  go_wp2_with fail
  go_ret
  exact ⟨rfl, G4.out⟩
end
end Go.Proofs.YtadopbpfnnpnaaaGreat

/-
  The law's own on locks: two rows of owners are the same; numbers of answers.
-/
namespace Go.Proofs.YtadopbpfnnpnaaaGreat
open Go.RowKit Go.Maps

theorem USl.form {w : World} {v : Value} {xs : List Nat} (h : USl w v xs) : ∃ p c, v = .slice p xs.length c ∧ ∀ j, j < xs.length → ∃ g q, p = some ⟨g, q, none⟩ ∧ xs.length ≤ c ∧ w.cell? ⟨g, q + j, none⟩ = some (.int .u64 ((xs.getD j 0 : Nat) : Int)) := by
  rcases h with ⟨rfl, rfl⟩ | ⟨g, q, c, rfl, h1, h2, h3⟩
  · exact ⟨none, 0, rfl, fun j hj => absurd hj (Nat.not_lt_zero _)⟩
  · exact ⟨_, c, rfl, fun j hj => ⟨g, q, rfl, h1, h3 j hj⟩⟩
theorem num_any (w : World) (n : Int) : Calls Tryz.prog 11 #[.int .i64 n] w fun e w' => e = .returned (.int .i64 n) ∧ w = w' := by
  go_enter Tryz.func11, Tryz.ntmps11
  go_wp2
  go_ret
  exact ⟨rfl, rfl⟩
set_option maxRecDepth 100000 in
theorem same10_any {w : World} {v1 v2 : Value} {xs ys : List Nat} (h1 : USl w v1 xs) (h2 : USl w v2 ys) (hx : xs.length ≤ 1000000000) (hy : ys.length ≤ 1000000000) :
    Calls Tryz.prog 13 #[v1, v2] w fun e w' => e = .returned (.bool (decide (xs = ys))) ∧ Gr w w' := by
  obtain ⟨p1, c1, rfl, hp1⟩ := h1.form
  obtain ⟨p2, c2, rfl, hp2⟩ := h2.form
  obtain ⟨N, hN⟩ : ∃ N, N = xs.length := ⟨_, rfl⟩
  obtain ⟨M, hM⟩ : ∃ M, M = ys.length := ⟨_, rfl⟩
  have H1 := Lib.hid hp1
  have H2 := Lib.hid hp2
  rw [show (Value.slice p1 xs.length c1) = .slice p1 N c1 by rw [hN], show (Value.slice p2 ys.length c2) = .slice p2 M c2 by rw [hM]]
  have HN := Lib.hid (And.intro hN hM)
  have hNb : N ≤ 1000000000 := by omega
  clear h1 h2 hp1 hp2 hx hy
  by_cases hl : N = M
  · subst hl
    clear hN hM
    go_enter Tryz.func13, Tryz.ntmps13
    go_wp2_with fail
    go_loopw [5] (fun i wr => ∃ j : Nat, i = .int .i64 (j : Int) ∧ j ≤ N ∧ Hid (Gr w wr ∧ xs.take j = ys.take j)) (fun i _ => N - (intOf i).toNat)
    case atStart => exact ⟨0, rfl, by omega, Lib.hid ⟨Gr.refl w, by simp⟩⟩
    case round =>
      obtain ⟨j, rfl, hj, HR⟩ := hrel
      by_cases hlt : j < N
      · obtain ⟨g1, q1, e1, i1, s1⟩ := H1.out j (by rw [← HN.out.1]; exact hlt)
        obtain ⟨g2, q2, e2, i2, s2⟩ := H2.out j (by rw [← HN.out.2]; exact hlt)
        subst e1 e2
        have s1' := (HR.out.1.cell (blk_lt' s1)).trans s1
        have s2' := (HR.out.1.cell (blk_lt' s2)).trans s2
        obtain ⟨X, hX⟩ : ∃ X, X = xs.getD j 0 := ⟨_, rfl⟩
        obtain ⟨Y, hY⟩ : ∃ Y, Y = ys.getD j 0 := ⟨_, rfl⟩
        rw [← hX] at s1'
        rw [← hY] at s2'
        have hjx : j < xs.length := by rw [← HN.out.1]; exact hlt
        have hjy : j < ys.length := by rw [← HN.out.2]; exact hlt
        have hX' : X = xs[j] := by rw [hX]; simp [List.getD, hjx]
        have hY' : Y = ys[j] := by rw [hY]; simp [List.getD, hjy]
        have ed : decide ((j : Int) < (N : Int)) = true := decide_eq_true (by omega)
        have hp0 : (0 : Int) ≤ (j : Int) := by omega
        by_cases hXY : X = Y
        · have HS := Lib.hid (show xs.take (j + 1) = ys.take (j + 1) by rw [List.take_succ_eq_append_getElem hjx, List.take_succ_eq_append_getElem hjy, HR.out.2, ← hX', ← hY', hXY])
          subst hXY
          clear hX hY hX' hY' hjx hjy s1 s2 i1 i2
          go_wp2_with fail
          go_quiet (fail)
          go_wp2_with fail
          go_roundw
          case rel => exact ⟨j + 1, by simp, by omega, Lib.hid ⟨grD HR.out.1, HS.out⟩⟩
          case measure => simp [intOf]; omega
        · have HS := Lib.hid (show ¬ xs = ys from fun e => hXY (by rw [hX, hY, e]))
          have hb : ((X : Int) == (Y : Int)) = false := by simp; omega
          have hb2 : ((X : Int) != (Y : Int)) = true := by simp; omega
          clear hX hY hX' hY' hjx hjy s1 s2 i1 i2 hXY
          go_wp2_with fail
          go_quiet (fail)
          go_wp2_with fail
          go_ret
          exact ⟨by rw [decide_eq_false HS.out]; rfl, grD HR.out.1⟩
      · have hjN : j = N := by omega
        subst hjN
        have HS := Lib.hid (show xs = ys by
          have e := HR.out.2
          rw [List.take_of_length_le (by rw [← HN.out.1]; exact Nat.le_refl _), List.take_of_length_le (by rw [← HN.out.2]; exact Nat.le_refl _)] at e
          exact e)
        have ed : decide ((j : Int) < (j : Int)) = false := decide_eq_false (by omega)
        go_wp2_with fail
        go_ret
        exact ⟨by rw [decide_eq_true HS.out]; rfl, HR.out.1⟩
  · have hv : ¬ xs = ys := fun e => hl (by rw [hN, hM, e])
    have HV := Lib.hid hv
    have hb2 : ((N : Int) != (M : Int)) = true := by simp; omega
    clear hN hM hv
    go_enter Tryz.func13, Tryz.ntmps13
    go_wp2_with fail
    go_ret
    exact ⟨by rw [decide_eq_false HV.out]; rfl, Gr.refl w⟩
end Go.Proofs.YtadopbpfnnpnaaaGreat

/-
  The code's table of locks: Line.
-/
namespace Go.Proofs.YtadopbpfnnpnaaaGreat
open Go.RowKit Go.Maps

section
variable {w : World} {t km om : Nat} {B : Tag → Option Nat} {T : Tb}
theorem LnAt.at {w : World} {ob : Option Nat} {p : Option Addr} {n c : Nat} {ws : List (Nat × Int)} {pop : Bool} (h : LnAt w ob (.slice p n c) ws pop) (j : Nat) (hj : j < ws.length) :
    ∃ g q, p = some ⟨g, q, none⟩ ∧ n = ws.length ∧ n ≤ c ∧ w.cell? ⟨g, q + j * 2, none⟩ = some (.int .u64 ((ws[j].1 : Nat) : Int)) ∧ w.cell? ⟨g, q + j * 2 + 1, none⟩ = some (.int .i64 ws[j].2) := by
  rcases h with ⟨_, _, rfl⟩ | ⟨b, off, cap, cs, h1, h2, h3, h4, h5, h6, h7, h8⟩
  · exact absurd hj (Nat.not_lt_zero _)
  · simp only [Value.slice.injEq] at h2
    obtain ⟨rfl, rfl, rfl⟩ := h2
    have hw : ∀ (l : List (Nat × Int)) (i : Nat) (hi : i < l.length), (wcells l)[2 * i]? = some (.int .u64 ((l[i].1 : Nat) : Int)) ∧ (wcells l)[2 * i + 1]? = some (.int .i64 l[i].2) := by
      intro l
      induction l with
      | nil => intro i hi; exact absurd hi (Nat.not_lt_zero _)
      | cons a r ih =>
        intro i hi
        have hc : wcells (a :: r) = .int .u64 (a.1 : Int) :: .int .i64 a.2 :: wcells r := rfl
        rw [hc]
        cases i with
        | zero => exact ⟨rfl, rfl⟩
        | succ i =>
          have := ih i (by simpa using hi)
          rw [show 2 * (i + 1) = 2 * i + 1 + 1 by omega]
          simpa using this
    obtain ⟨a1, a2⟩ := hw ws j hj
    refine ⟨b, 2 * off, rfl, rfl, h4, ?_, ?_⟩
    · rw [h3.cell, Nat.mul_comm j 2]
      exact h7 _ _ a1
    · rw [h3.cell, Nat.mul_comm j 2, Nat.add_assoc]
      exact h7 _ _ a2
def RetRow (xs : List Nat) (w : World) (e : Ending) (w' : World) : Prop := ∃ v, e = .returned v ∧ Us w' w.heap.size v xs ∧ Gr w w'
set_option maxRecDepth 100000 in
set_option maxHeartbeats 2000000 in
theorem Line_any (h : TbAt w t km om B T) {k : Key} (hk : KL.dom k) (hln : (T.lkOf k).line.length ≤ 1000000000) :
    Calls Tryz.prog 15 #[.pointer (some ⟨t, 0, none⟩), kv k] w (RetRow ((T.lkOf k).line.map Prod.fst) w) := by
  have g1 : Gr w (w.alloc (.cells #[.int .i64 k.1, .int .i64 k.2] TKey)) := (Gr.refl w).alloc (Nat.le_refl _) _
  have h1 := h.gr g1
  have b6 := (Blk.new w TKey #[.int .i64 k.1, .int .i64 k.2])
  have c0 := h1.c3.1
  have hll := fun q => (h1.stays (w' := (w.alloc (.cells #[.int .i64 k.1, .int .i64 k.2] TKey)).drewN q) (fun _ _ _ => rfl)).look hk
  have HM := Lib.hid (fun q => missing_no (h1.stays (w' := (w.alloc (.cells #[.int .i64 k.1, .int .i64 k.2] TKey)).drewN q) (fun _ _ _ => rfl)))
  obtain ⟨k1, hk1⟩ : ∃ x, x = k.1 := ⟨_, rfl⟩
  obtain ⟨k2, hk2⟩ : ∃ x, x = k.2 := ⟨_, rfl⟩
  have hkv : kv k = .agg #[.int .i64 k1, .int .i64 k2] := by rw [hk1, hk2]; rfl
  rw [hkv]
  rw [hkv] at hll
  rw [← hk1, ← hk2] at g1 b6 hll c0 HM h1
  obtain ⟨W0, hW0⟩ : ∃ W0, W0 = w.alloc (.cells #[.int .i64 k1, .int .i64 k2] TKey) := ⟨_, rfl⟩
  rw [← hW0] at g1 b6 hll c0 HM h1
  obtain ⟨kb, hkb⟩ : ∃ kb, kb = w.heap.size := ⟨_, rfl⟩
  rw [← hkb] at b6
  have x0 := b6.cell 0
  have x1 := b6.cell 1
  simp at x0 x1
  have HW := Lib.hid (And.intro hW0 hkb)
  have HH := Lib.hid (And.intro h1 (And.intro g1 (And.intro b6 hln)))
  have Hw := Lib.hid (And.intro h (And.intro hk hkv))
  clear h b6 hkv hW0 hkb hk1 hk2 hln
  cases hl : T.lk k with
  | none =>
    have e0 := (h1.lk0 k hl).1
    rw [e0] at hll
    have hll' : ∀ q, (Instr.lookup TMk (.map (some km)) (.agg #[.int .i64 k1, .int .i64 k2]) false).run Tryz.prog (W0.drewN q) = .ok (.pointer none) (W0.drewN q) := hll
    have hE : (T.lkOf k).line.map Prod.fst = [] := by unfold Tb.lkOf; rw [hl]; rfl
    rw [hE]
    clear h1 g1 hl e0 hll hE
    go_enter Tryz.func15, Tryz.ntmps15
    go_upto_region 1 with fail
    rw [show (w.alloc (.cells #[.int .i64 k1, .int .i64 k2] 33)) = W0 from HW.out.1.symm, ← HW.out.2]
    go_quiet (exact Calls.quiet_of ((HM.out _).mono fun _ _ h => ⟨h.1, 0, h.2.symm⟩))
    go_wp2_with fail
    go_ret
    exact ⟨_, rfl, Us.nil _ _, grD HH.out.2.1⟩
  | some l =>
    obtain ⟨bl, hm, v, e1, e2, e3, e4, e5⟩ := h1.lk k l hl
    rw [e1] at hll
    have hll' : ∀ q, (Instr.lookup TMk (.map (some km)) (.agg #[.int .i64 k1, .int .i64 k2]) false).run Tryz.prog (W0.drewN q) = .ok (.pointer (some ⟨bl, 0, none⟩)) (W0.drewN q) := hll
    have hE : (T.lkOf k).line = l.line := by rw [lkOf_of hl]
    rw [hE] at HH ⊢
    obtain ⟨p, N, cp, hv, hN⟩ : ∃ p N cp, v = .slice p N cp ∧ N = l.line.length := by
      rcases e5 with ⟨r1, r2, r3⟩ | ⟨b', off, cap, cs, r1, r2, _⟩
      · exact ⟨none, 0, 0, r2, by rw [r3]; rfl⟩
      · exact ⟨_, l.line.length, cap, r2, rfl⟩
    subst hv
    have z2 := e3.cell 2
    simp at z2
    have HX := Lib.hid (And.intro e1 (And.intro e3 (And.intro hN hl)))
    have hNb : N ≤ 1000000000 := by have := HH.out.2.2.2; omega
    clear h1 g1 hl e1 e2 e3 e4 e5 hll hE hN
    go_enter Tryz.func15, Tryz.ntmps15
    go_upto_region 1 with fail
    rw [show (w.alloc (.cells #[.int .i64 k1, .int .i64 k2] 33)) = W0 from HW.out.1.symm, ← HW.out.2]
    go_quiet (exact Calls.quiet_of ((HM.out _).mono fun _ _ h => ⟨h.1, 0, h.2.symm⟩))
    rename_i nq
    have g01 : Gr W0 (W0.drewN nq) := grD (Gr.refl _)
    obtain ⟨W1, hW1⟩ : ∃ W1, W1 = W0.drewN nq := ⟨_, rfl⟩
    rw [← hW1] at g01 ⊢
    have t1 := HH.out.1.gr g01
    have b1 := HH.out.2.2.1.gr g01
    have y0 := b1.cell 0
    have y1 := b1.cell 1
    have l1 := (HX.out.2.1.gr g01).cell 2
    have c1 := t1.c3.1
    simp at y0 y1 l1
    have hl2 : ∀ q, (Instr.lookup TMk (.map (some km)) (.agg #[.int .i64 k1, .int .i64 k2]) false).run Tryz.prog (W1.drewN q) = .ok (.pointer (some ⟨bl, 0, none⟩)) (W1.drewN q) := fun q => by
      have := (t1.stays (w' := W1.drewN q) (fun _ _ _ => rfl)).look Hw.out.2.1
      rw [HX.out.1, Hw.out.2.2] at this
      exact this
    have G1 := Lib.hid (Gr.trans HH.out.2.1 g01)
    clear g01 hW1 t1 b1 hll' c0 x0 x1 z2
    go_upto_region 4 with fail
    go_quiet (fail)
    have G2 : Hid (Gr w (W1.drewN nq)) := Lib.hid (grD G1.out)
    obtain ⟨W2, hW2⟩ : ∃ W2, W2 = W1.drewN nq := ⟨_, rfl⟩
    rw [← hW2] at G2 ⊢
    clear hW2 y0 y1 l1 c1 hl2
    go_wp2_with fail
    go_loopw [29, 5] (fun i s5 wr => ∃ j : Nat, i = .int .i64 (j : Int) ∧ j ≤ N ∧ Hid (Us wr w.heap.size s5 ((l.line.take j).map Prod.fst) ∧ Gr w wr)) (fun i _ _ => N - (intOf i).toNat)
    case atStart => exact ⟨0, rfl, by omega, Lib.hid ⟨by rw [List.take_zero]; exact Us.nil _ _, G2.out⟩⟩
    case round =>
      obtain ⟨j, rfl, hj, HR⟩ := hrel
      by_cases hlt : j < N
      · have hjl : j < l.line.length := by rw [← HX.out.2.2.1]; exact hlt
        obtain ⟨bw, hw', vw, f1, f2, f3, f4, f5⟩ := Hw.out.1.lk k l HX.out.2.2.2
        have f1' := HX.out.1
        rw [f1] at f1'
        cases f1'
        have hvv : vw = .slice p N cp := by
          have a1 := (f3.gr HH.out.2.1).cell 2
          have a2 := HX.out.2.1.cell 2
          simp at a1 a2
          rw [a1] at a2
          exact Option.some.inj a2
        subst hvv
        obtain ⟨g, q, hpg, -, hcap, s0, s1⟩ := f5.at j hjl
        subst hpg
        have r0 := (HR.out.2.cell (blk_lt' s0)).trans s0
        have r1 := (HR.out.2.cell (blk_lt' s1)).trans s1
        obtain ⟨X, hX⟩ : ∃ X, X = l.line[j].1 := ⟨_, rfl⟩
        obtain ⟨Y, hY⟩ : ∃ Y, Y = l.line[j].2 := ⟨_, rfl⟩
        rw [← hX] at r0
        rw [← hY] at r1
        have htk : (l.line.take (j + 1)).map Prod.fst = (l.line.take j).map Prod.fst ++ [X] := by rw [List.take_succ_eq_append_getElem hjl, List.map_append, hX]; rfl
        have HT := Lib.hid htk
        have g6 : Gr wr (wr.alloc (.cells #[.int .u64 (X : Int), .int .i64 Y] TWt)) := (Gr.refl _).alloc (Nat.le_refl _) _
        have b6 := Blk.new wr TWt #[.int .u64 (X : Int), .int .i64 Y]
        obtain ⟨W6, hW6⟩ : ∃ W6, W6 = wr.alloc (.cells #[.int .u64 (X : Int), .int .i64 Y] TWt) := ⟨_, rfl⟩
        rw [← hW6] at g6 b6
        have u0 := b6.cell 0
        simp at u0
        obtain ⟨W8, hW8⟩ : ∃ W8, W8 = W6.alloc (.cells #[.int .u64 (X : Int)] TOw) := ⟨_, rfl⟩
        have g8 : Gr W6 W8 := by rw [hW8]; exact (Gr.refl W6).alloc (Nat.le_refl _) _
        have hu8 := (HR.out.1.gr g6).gr g8
        have hy8 : USl W8 (.slice (some ⟨W6.heap.size, 0, none⟩) 1 1) [X] := by rw [hW8]; exact USl.one W6 X TOw
        have gw8 := Gr.trans HR.out.2 (Gr.trans g6 g8)
        have H8 := Lib.hid (And.intro hu8 (And.intro hy8 (And.intro gw8 (And.intro hW8 hW6))))
        have hcl : ((l.line.take j).map Prod.fst).length + [X].length ≤ 1000000000 := by simp; omega
        have hbs : w.heap.size ≤ W8.heap.size := gw8.size
        have e27 : decide ((j : Int) < (N : Int)) = true := decide_eq_true (by omega)
        have hp0 : (0 : Int) ≤ (j : Int) := by omega
        clear hjl f1 f2 f3 f4 f5 s0 s1 hX hY htk g6 b6 hW6 hW8 g8 hu8 hy8 gw8
        go_upto_region 7 with fail
        rw [show (wr.alloc (.cells #[.int .u64 (X : Int), .int .i64 Y] 61)) = W6 from H8.out.2.2.2.2.symm]
        go_wp2_with (at_builtin; rw [show (W6.alloc (.cells #[.int .u64 (X : Int)] 31)) = W8 from H8.out.2.2.2.1.symm]; refine wpList_app_us rfl (.tmp 33) (.tmp 36) rfl rfl H8.out.1 rfl H8.out.2.1 hcl hbs (fun v' W9 hv9 hg9 => ?_))
        have hg9' : W8.grownBy W9 u5.ownBlock := hg9
        clear hg9
        have HE := Lib.hid (And.intro (show Us W9 w.heap.size v' ((l.line.take (j + 1)).map Prod.fst) by rw [HT.out]; exact hv9) (show Gr w W9 from ⟨hg9'.os.trans H8.out.2.2.1.os, hg9'.tape.trans H8.out.2.2.1.tape, hg9'.output.trans H8.out.2.2.1.output, Nat.le_trans H8.out.2.2.1.size hg9'.size, fun n hn => (hg9'.block n (Nat.lt_of_lt_of_le hn H8.out.2.2.1.size) (fun e => by have := (H8.out.1.lt n e.symm).1; omega)).trans (H8.out.2.2.1.block n hn)⟩))
        clear hv9 hg9' hcl hbs
        go_wp2_with fail
        go_roundw
        case rel => exact ⟨j + 1, by simp, by omega, HE⟩
        case measure => simp [intOf]; omega
      · have hjN : j = N := by omega
        subst hjN
        have HE := Lib.hid (show Us wr w.heap.size u5 (l.line.map Prod.fst) by
          have := HR.out.1
          rwa [HX.out.2.2.1, List.take_length] at this)
        have e27 : decide ((j : Int) < (j : Int)) = false := decide_eq_false (by omega)
        go_wp2_with fail
        go_ret
        exact ⟨_, rfl, HE.out, HR.out.2⟩
end
end Go.Proofs.YtadopbpfnnpnaaaGreat

