/-
  Texts on locks, put together: Lk23 Lk24 Lk25 Lk26 Lk27 Lk28.
-/
import Derived.Laws.EntriesVeiled
import Derived.Test.YtbmcdlcoojmppaaA15
/-
  The code's table of locks: ring, where nobody stands in the line of what is held.
-/
namespace Go.Proofs.Ytbmcdlcoojmppaa
open Go.RowKit Go.Maps

section
variable {w : World} {t km om : Nat} {B : Tag → Option Nat} {T : Tb}
set_option maxRecDepth 100000 in
theorem ring_no (h : TbAt w t km om B T) (ok : T.Ok) {o : Nat} (ho : KO.dom o) (k : Key) (hw : T.wanted (T.of o).ks = false) :
    Calls Try.prog 28 #[.pointer (some ⟨t, 0, none⟩), .int .u64 (o : Int), kv k] w fun e w' => e = .returned (.bool false) ∧ Gr w w' := by
  have g1 : Gr w ((w.alloc (.cells #[.pointer (some ⟨t, 0, none⟩)] 24)).alloc (.cells #[.int .i64 k.1, .int .i64 k.2] TKey)) := ((Gr.refl w).alloc (Nat.le_refl _) _).alloc (by simp) _
  have HO := Lib.hid (of_any (h.gr g1) ho)
  have hhs := h.hs o
  obtain ⟨hp, hhp⟩ : ∃ hp, hp = B (.pm o) := ⟨_, rfl⟩
  obtain ⟨O1, hO1⟩ : ∃ O1, O1 = (T.of o).key.1 := ⟨_, rfl⟩
  obtain ⟨O2, hO2⟩ : ∃ O2, O2 = (T.of o).key.2 := ⟨_, rfl⟩
  obtain ⟨PM, hPM⟩ : ∃ PM, PM = (T.of o).mode := ⟨_, rfl⟩
  unfold ofV at HO
  rw [← hhp, ← hO1, ← hO2, ← hPM] at HO
  rw [← hhp] at hhs
  have hb := (Blk.new w 24 #[.pointer (some ⟨t, 0, none⟩)]).gr ((Gr.refl _).alloc (Nat.le_refl _) (.cells #[.int .i64 k.1, .int .i64 k.2] TKey))
  have HWa := Lib.hid (fun W (g : Gr w W) => wanted_any (h.gr g) O1 O2 PM (hhs.gr g) (fun k hk => by obtain ⟨l, e, _⟩ := ok.holds o k hk; rw [e]; rfl))
  rw [hw] at HWa
  obtain ⟨W0, hW0⟩ : ∃ W0, W0 = (w.alloc (.cells #[.pointer (some ⟨t, 0, none⟩)] 24)).alloc (.cells #[.int .i64 k.1, .int .i64 k.2] TKey) := ⟨_, rfl⟩
  rw [← hW0] at g1 HO hb
  obtain ⟨tb, htb⟩ : ∃ tb, tb = w.heap.size := ⟨_, rfl⟩
  rw [← htb] at hb
  have x0 := hb.cell 0
  simp at x0
  have HB := Lib.hid (And.intro hb (And.intro g1 (And.intro hW0 htb)))
  show Calls Try.prog 28 #[.pointer (some ⟨t, 0, none⟩), .int .u64 (o : Int), .agg #[.int .i64 k.1, .int .i64 k.2]] w _
  clear h ok hhs hhp hO1 hO2 hPM hb g1 hW0 htb hw
  go_enter Try.func28, Try.ntmps28
  go_upto_region 1 with fail
  rw [show ((w.alloc (.cells #[.pointer (some ⟨t, 0, none⟩)] 24)).alloc (.cells #[.int .i64 k.1, .int .i64 k.2] 29)) = W0 from HB.out.2.2.1.symm, ← HB.out.2.2.2]
  go_wp2_with fail
  refine HO.out.mono ?_
  rintro e W2 ⟨rfl, g2⟩
  have g3 : Gr W2 (W2.alloc (.cells #[.map hp, .int .i64 O1, .int .i64 O2, .int .i64 PM] TPy)) := (Gr.refl _).alloc (Nat.le_refl _) _
  have b3 := Blk.new W2 TPy #[.map hp, .int .i64 O1, .int .i64 O2, .int .i64 PM]
  obtain ⟨W3, hW3⟩ : ∃ W3, W3 = W2.alloc (.cells #[.map hp, .int .i64 O1, .int .i64 O2, .int .i64 PM] TPy) := ⟨_, rfl⟩
  rw [← hW3] at g3 b3
  obtain ⟨pb, hpb⟩ : ∃ pb, pb = W2.heap.size := ⟨_, rfl⟩
  rw [← hpb] at b3
  have z0 := b3.cell 0
  have z1 := b3.cell 1
  have z2 := b3.cell 2
  have z3 := b3.cell 3
  have x3 := (HB.out.1.gr (Gr.trans g2 g3)).cell 0
  have x2 := (HB.out.1.gr g2).cell 0
  simp at z0 z1 z2 z3 x3 x2
  have G3 : Hid (Gr w W3) := Lib.hid (Gr.trans HB.out.2.1 (Gr.trans g2 g3))
  have H3 := Lib.hid (And.intro hW3 hpb)
  clear g2 g3 b3 hW3 hpb x0
  go_upto_region 2 with fail
  rw [show (W2.alloc (.cells #[.map hp, .int .i64 O1, .int .i64 O2, .int .i64 PM] 61)) = W3 from H3.out.1.symm, ← H3.out.2]
  go_wp2_with fail
  refine (HWa.out W3 G3.out).mono ?_
  rintro e W4 ⟨rfl, g4⟩
  have G4 : Hid (Gr w W4) := Lib.hid (Gr.trans G3.out g4)
  clear g4
  go_wp2_with fail
  go_ret
  exact ⟨rfl, G4.out⟩
end
end Go.Proofs.Ytbmcdlcoojmppaa

/-
  The law's own on locks: two rows of owners are the same; numbers of answers.
-/
namespace Go.Proofs.Ytbmcdlcoojmppaa
open Go.RowKit Go.Maps

theorem USl.form {w : World} {v : Value} {xs : List Nat} (h : USl w v xs) : ∃ p c, v = .slice p xs.length c ∧ ∀ j, j < xs.length → ∃ g q, p = some ⟨g, q, none⟩ ∧ xs.length ≤ c ∧ w.cell? ⟨g, q + j, none⟩ = some (.int .u64 ((xs.getD j 0 : Nat) : Int)) := by
  rcases h with ⟨rfl, rfl⟩ | ⟨g, q, c, rfl, h1, h2, h3⟩
  · exact ⟨none, 0, rfl, fun j hj => absurd hj (Nat.not_lt_zero _)⟩
  · exact ⟨_, c, rfl, fun j hj => ⟨g, q, rfl, h1, h3 j hj⟩⟩
theorem num_any (w : World) (n : Int) : Calls Try.prog 17 #[.int .i64 n] w fun e w' => e = .returned (.int .i64 n) ∧ w = w' := by
  go_enter Try.func17, Try.ntmps17
  go_wp2
  go_ret
  exact ⟨rfl, rfl⟩
set_option maxRecDepth 100000 in
theorem same10_any {w : World} {v1 v2 : Value} {xs ys : List Nat} (h1 : USl w v1 xs) (h2 : USl w v2 ys) (hx : xs.length ≤ 1000000000) (hy : ys.length ≤ 1000000000) :
    Calls Try.prog 21 #[v1, v2] w fun e w' => e = .returned (.bool (decide (xs = ys))) ∧ Gr w w' := by
  obtain ⟨p1, c1, rfl, hp1⟩ := h1.form
  obtain ⟨p2, c2, rfl, hp2⟩ := h2.form
  obtain ⟨N, hN⟩ : ∃ N, N = xs.length := ⟨_, rfl⟩
  obtain ⟨M, hM⟩ : ∃ M, M = ys.length := ⟨_, rfl⟩
  have H1 := Lib.hid hp1
  have H2 := Lib.hid hp2
  rw [show (Value.slice p1 xs.length c1) = .slice p1 N c1 by rw [hN], show (Value.slice p2 ys.length c2) = .slice p2 M c2 by rw [hM]]
  have HN := Lib.hid (And.intro hN hM)
  have hNb : N ≤ 1000000000 := by omega
  clear h1 h2 hp1 hp2 hx hy
  by_cases hl : N = M
  · subst hl
    clear hN hM
    go_enter Try.func21, Try.ntmps21
    go_wp2_with fail
    go_loopw [5] (fun i wr => ∃ j : Nat, i = .int .i64 (j : Int) ∧ j ≤ N ∧ Hid (Gr w wr ∧ xs.take j = ys.take j)) (fun i _ => N - (intOf i).toNat)
    case atStart => exact ⟨0, rfl, by omega, Lib.hid ⟨Gr.refl w, by simp⟩⟩
    case round =>
      obtain ⟨j, rfl, hj, HR⟩ := hrel
      by_cases hlt : j < N
      · obtain ⟨g1, q1, e1, i1, s1⟩ := H1.out j (by rw [← HN.out.1]; exact hlt)
        obtain ⟨g2, q2, e2, i2, s2⟩ := H2.out j (by rw [← HN.out.2]; exact hlt)
        subst e1 e2
        have s1' := (HR.out.1.cell (blk_lt' s1)).trans s1
        have s2' := (HR.out.1.cell (blk_lt' s2)).trans s2
        obtain ⟨X, hX⟩ : ∃ X, X = xs.getD j 0 := ⟨_, rfl⟩
        obtain ⟨Y, hY⟩ : ∃ Y, Y = ys.getD j 0 := ⟨_, rfl⟩
        rw [← hX] at s1'
        rw [← hY] at s2'
        have hjx : j < xs.length := by rw [← HN.out.1]; exact hlt
        have hjy : j < ys.length := by rw [← HN.out.2]; exact hlt
        have hX' : X = xs[j] := by rw [hX]; simp [List.getD, hjx]
        have hY' : Y = ys[j] := by rw [hY]; simp [List.getD, hjy]
        have ed : decide ((j : Int) < (N : Int)) = true := decide_eq_true (by omega)
        have hp0 : (0 : Int) ≤ (j : Int) := by omega
        by_cases hXY : X = Y
        · have HS := Lib.hid (show xs.take (j + 1) = ys.take (j + 1) by rw [List.take_succ_eq_append_getElem hjx, List.take_succ_eq_append_getElem hjy, HR.out.2, ← hX', ← hY', hXY])
          subst hXY
          clear hX hY hX' hY' hjx hjy s1 s2 i1 i2
          go_wp2_with fail
          go_quiet (fail)
          go_wp2_with fail
          go_roundw
          case rel => exact ⟨j + 1, by simp, by omega, Lib.hid ⟨grD HR.out.1, HS.out⟩⟩
          case measure => simp [intOf]; omega
        · have HS := Lib.hid (show ¬ xs = ys from fun e => hXY (by rw [hX, hY, e]))
          have hb : ((X : Int) == (Y : Int)) = false := by simp; omega
          have hb2 : ((X : Int) != (Y : Int)) = true := by simp; omega
          clear hX hY hX' hY' hjx hjy s1 s2 i1 i2 hXY
          go_wp2_with fail
          go_quiet (fail)
          go_wp2_with fail
          go_ret
          exact ⟨by rw [decide_eq_false HS.out]; rfl, grD HR.out.1⟩
      · have hjN : j = N := by omega
        subst hjN
        have HS := Lib.hid (show xs = ys by
          have e := HR.out.2
          rw [List.take_of_length_le (by rw [← HN.out.1]; exact Nat.le_refl _), List.take_of_length_le (by rw [← HN.out.2]; exact Nat.le_refl _)] at e
          exact e)
        have ed : decide ((j : Int) < (j : Int)) = false := decide_eq_false (by omega)
        go_wp2_with fail
        go_ret
        exact ⟨by rw [decide_eq_true HS.out]; rfl, HR.out.1⟩
  · have hv : ¬ xs = ys := fun e => hl (by rw [hN, hM, e])
    have HV := Lib.hid hv
    have hb2 : ((N : Int) != (M : Int)) = true := by simp; omega
    clear hN hM hv
    go_enter Try.func21, Try.ntmps21
    go_wp2_with fail
    go_ret
    exact ⟨by rw [decide_eq_false HV.out]; rfl, Gr.refl w⟩
end Go.Proofs.Ytbmcdlcoojmppaa

/-
  The code's table of locks: Line.
-/
namespace Go.Proofs.Ytbmcdlcoojmppaa
open Go.RowKit Go.Maps

section
variable {w : World} {t km om : Nat} {B : Tag → Option Nat} {T : Tb}
theorem LnAt.at {w : World} {ob : Option Nat} {p : Option Addr} {n c : Nat} {ws : List (Nat × Int)} {pop : Bool} (h : LnAt w ob (.slice p n c) ws pop) (j : Nat) (hj : j < ws.length) :
    ∃ g q, p = some ⟨g, q, none⟩ ∧ n = ws.length ∧ n ≤ c ∧ w.cell? ⟨g, q + j * 2, none⟩ = some (.int .u64 ((ws[j].1 : Nat) : Int)) ∧ w.cell? ⟨g, q + j * 2 + 1, none⟩ = some (.int .i64 ws[j].2) := by
  rcases h with ⟨_, _, rfl⟩ | ⟨b, off, cap, cs, h1, h2, h3, h4, h5, h6, h7, h8⟩
  · exact absurd hj (Nat.not_lt_zero _)
  · simp only [Value.slice.injEq] at h2
    obtain ⟨rfl, rfl, rfl⟩ := h2
    have hw : ∀ (l : List (Nat × Int)) (i : Nat) (hi : i < l.length), (wcells l)[2 * i]? = some (.int .u64 ((l[i].1 : Nat) : Int)) ∧ (wcells l)[2 * i + 1]? = some (.int .i64 l[i].2) := by
      intro l
      induction l with
      | nil => intro i hi; exact absurd hi (Nat.not_lt_zero _)
      | cons a r ih =>
        intro i hi
        have hc : wcells (a :: r) = .int .u64 (a.1 : Int) :: .int .i64 a.2 :: wcells r := rfl
        rw [hc]
        cases i with
        | zero => exact ⟨rfl, rfl⟩
        | succ i =>
          have := ih i (by simpa using hi)
          rw [show 2 * (i + 1) = 2 * i + 1 + 1 by omega]
          simpa using this
    obtain ⟨a1, a2⟩ := hw ws j hj
    refine ⟨b, 2 * off, rfl, rfl, h4, ?_, ?_⟩
    · rw [h3.cell, Nat.mul_comm j 2]
      exact h7 _ _ a1
    · rw [h3.cell, Nat.mul_comm j 2, Nat.add_assoc]
      exact h7 _ _ a2
def RetRow (xs : List Nat) (w : World) (e : Ending) (w' : World) : Prop := ∃ v, e = .returned v ∧ Us w' w.heap.size v xs ∧ Gr w w'
set_option maxRecDepth 100000 in
set_option maxHeartbeats 2000000 in
theorem Line_any (h : TbAt w t km om B T) {k : Key} (hk : KL.dom k) (hln : (T.lkOf k).line.length ≤ 1000000000) :
    Calls Try.prog 20 #[.pointer (some ⟨t, 0, none⟩), kv k] w (RetRow ((T.lkOf k).line.map Prod.fst) w) := by
  have g1 : Gr w (w.alloc (.cells #[.int .i64 k.1, .int .i64 k.2] TKey)) := (Gr.refl w).alloc (Nat.le_refl _) _
  have h1 := h.gr g1
  have b6 := (Blk.new w TKey #[.int .i64 k.1, .int .i64 k.2])
  have c0 := h1.c3.1
  have hll := fun q => (h1.stays (w' := (w.alloc (.cells #[.int .i64 k.1, .int .i64 k.2] TKey)).drewN q) (fun _ _ _ => rfl)).look hk
  have HM := Lib.hid (fun q => missing_no (h1.stays (w' := (w.alloc (.cells #[.int .i64 k.1, .int .i64 k.2] TKey)).drewN q) (fun _ _ _ => rfl)))
  obtain ⟨k1, hk1⟩ : ∃ x, x = k.1 := ⟨_, rfl⟩
  obtain ⟨k2, hk2⟩ : ∃ x, x = k.2 := ⟨_, rfl⟩
  have hkv : kv k = .agg #[.int .i64 k1, .int .i64 k2] := by rw [hk1, hk2]; rfl
  rw [hkv]
  rw [hkv] at hll
  rw [← hk1, ← hk2] at g1 b6 hll c0 HM h1
  obtain ⟨W0, hW0⟩ : ∃ W0, W0 = w.alloc (.cells #[.int .i64 k1, .int .i64 k2] TKey) := ⟨_, rfl⟩
  rw [← hW0] at g1 b6 hll c0 HM h1
  obtain ⟨kb, hkb⟩ : ∃ kb, kb = w.heap.size := ⟨_, rfl⟩
  rw [← hkb] at b6
  have x0 := b6.cell 0
  have x1 := b6.cell 1
  simp at x0 x1
  have HW := Lib.hid (And.intro hW0 hkb)
  have HH := Lib.hid (And.intro h1 (And.intro g1 (And.intro b6 hln)))
  have Hw := Lib.hid (And.intro h (And.intro hk hkv))
  clear h b6 hkv hW0 hkb hk1 hk2 hln
  cases hl : T.lk k with
  | none =>
    have e0 := (h1.lk0 k hl).1
    rw [e0] at hll
    have hll' : ∀ q, (Instr.lookup TMk (.map (some km)) (.agg #[.int .i64 k1, .int .i64 k2]) false).run Try.prog (W0.drewN q) = .ok (.pointer none) (W0.drewN q) := hll
    have hE : (T.lkOf k).line.map Prod.fst = [] := by unfold Tb.lkOf; rw [hl]; rfl
    rw [hE]
    clear h1 g1 hl e0 hll hE
    go_enter Try.func20, Try.ntmps20
    go_upto_region 1 with fail
    rw [show (w.alloc (.cells #[.int .i64 k1, .int .i64 k2] 29)) = W0 from HW.out.1.symm, ← HW.out.2]
    go_quiet (exact Calls.quiet_of ((HM.out _).mono fun _ _ h => ⟨h.1, 0, h.2.symm⟩))
    go_wp2_with fail
    go_ret
    exact ⟨_, rfl, Us.nil _ _, grD HH.out.2.1⟩
  | some l =>
    obtain ⟨bl, hm, v, e1, e2, e3, e4, e5⟩ := h1.lk k l hl
    rw [e1] at hll
    have hll' : ∀ q, (Instr.lookup TMk (.map (some km)) (.agg #[.int .i64 k1, .int .i64 k2]) false).run Try.prog (W0.drewN q) = .ok (.pointer (some ⟨bl, 0, none⟩)) (W0.drewN q) := hll
    have hE : (T.lkOf k).line = l.line := by rw [lkOf_of hl]
    rw [hE] at HH ⊢
    obtain ⟨p, N, cp, hv, hN⟩ : ∃ p N cp, v = .slice p N cp ∧ N = l.line.length := by
      rcases e5 with ⟨r1, r2, r3⟩ | ⟨b', off, cap, cs, r1, r2, _⟩
      · exact ⟨none, 0, 0, r2, by rw [r3]; rfl⟩
      · exact ⟨_, l.line.length, cap, r2, rfl⟩
    subst hv
    have z2 := e3.cell 2
    simp at z2
    have HX := Lib.hid (And.intro e1 (And.intro e3 (And.intro hN hl)))
    have hNb : N ≤ 1000000000 := by have := HH.out.2.2.2; omega
    clear h1 g1 hl e1 e2 e3 e4 e5 hll hE hN
    go_enter Try.func20, Try.ntmps20
    go_upto_region 1 with fail
    rw [show (w.alloc (.cells #[.int .i64 k1, .int .i64 k2] 29)) = W0 from HW.out.1.symm, ← HW.out.2]
    go_quiet (exact Calls.quiet_of ((HM.out _).mono fun _ _ h => ⟨h.1, 0, h.2.symm⟩))
    rename_i nq
    have g01 : Gr W0 (W0.drewN nq) := grD (Gr.refl _)
    obtain ⟨W1, hW1⟩ : ∃ W1, W1 = W0.drewN nq := ⟨_, rfl⟩
    rw [← hW1] at g01 ⊢
    have t1 := HH.out.1.gr g01
    have b1 := HH.out.2.2.1.gr g01
    have y0 := b1.cell 0
    have y1 := b1.cell 1
    have l1 := (HX.out.2.1.gr g01).cell 2
    have c1 := t1.c3.1
    simp at y0 y1 l1
    have hl2 : ∀ q, (Instr.lookup TMk (.map (some km)) (.agg #[.int .i64 k1, .int .i64 k2]) false).run Try.prog (W1.drewN q) = .ok (.pointer (some ⟨bl, 0, none⟩)) (W1.drewN q) := fun q => by
      have := (t1.stays (w' := W1.drewN q) (fun _ _ _ => rfl)).look Hw.out.2.1
      rw [HX.out.1, Hw.out.2.2] at this
      exact this
    have G1 := Lib.hid (Gr.trans HH.out.2.1 g01)
    clear g01 hW1 t1 b1 hll' c0 x0 x1 z2
    go_upto_region 4 with fail
    go_quiet (fail)
    have G2 : Hid (Gr w (W1.drewN nq)) := Lib.hid (grD G1.out)
    obtain ⟨W2, hW2⟩ : ∃ W2, W2 = W1.drewN nq := ⟨_, rfl⟩
    rw [← hW2] at G2 ⊢
    clear hW2 y0 y1 l1 c1 hl2
    go_wp2_with fail
    go_loopw [29, 5] (fun i s5 wr => ∃ j : Nat, i = .int .i64 (j : Int) ∧ j ≤ N ∧ Hid (Us wr w.heap.size s5 ((l.line.take j).map Prod.fst) ∧ Gr w wr)) (fun i _ _ => N - (intOf i).toNat)
    case atStart => exact ⟨0, rfl, by omega, Lib.hid ⟨by rw [List.take_zero]; exact Us.nil _ _, G2.out⟩⟩
    case round =>
      obtain ⟨j, rfl, hj, HR⟩ := hrel
      by_cases hlt : j < N
      · have hjl : j < l.line.length := by rw [← HX.out.2.2.1]; exact hlt
        obtain ⟨bw, hw', vw, f1, f2, f3, f4, f5⟩ := Hw.out.1.lk k l HX.out.2.2.2
        have f1' := HX.out.1
        rw [f1] at f1'
        cases f1'
        have hvv : vw = .slice p N cp := by
          have a1 := (f3.gr HH.out.2.1).cell 2
          have a2 := HX.out.2.1.cell 2
          simp at a1 a2
          rw [a1] at a2
          exact Option.some.inj a2
        subst hvv
        obtain ⟨g, q, hpg, -, hcap, s0, s1⟩ := f5.at j hjl
        subst hpg
        have r0 := (HR.out.2.cell (blk_lt' s0)).trans s0
        have r1 := (HR.out.2.cell (blk_lt' s1)).trans s1
        obtain ⟨X, hX⟩ : ∃ X, X = l.line[j].1 := ⟨_, rfl⟩
        obtain ⟨Y, hY⟩ : ∃ Y, Y = l.line[j].2 := ⟨_, rfl⟩
        rw [← hX] at r0
        rw [← hY] at r1
        have htk : (l.line.take (j + 1)).map Prod.fst = (l.line.take j).map Prod.fst ++ [X] := by rw [List.take_succ_eq_append_getElem hjl, List.map_append, hX]; rfl
        have HT := Lib.hid htk
        have g6 : Gr wr (wr.alloc (.cells #[.int .u64 (X : Int), .int .i64 Y] TWt)) := (Gr.refl _).alloc (Nat.le_refl _) _
        have b6 := Blk.new wr TWt #[.int .u64 (X : Int), .int .i64 Y]
        obtain ⟨W6, hW6⟩ : ∃ W6, W6 = wr.alloc (.cells #[.int .u64 (X : Int), .int .i64 Y] TWt) := ⟨_, rfl⟩
        rw [← hW6] at g6 b6
        have u0 := b6.cell 0
        simp at u0
        obtain ⟨W8, hW8⟩ : ∃ W8, W8 = W6.alloc (.cells #[.int .u64 (X : Int)] TOw) := ⟨_, rfl⟩
        have g8 : Gr W6 W8 := by rw [hW8]; exact (Gr.refl W6).alloc (Nat.le_refl _) _
        have hu8 := (HR.out.1.gr g6).gr g8
        have hy8 : USl W8 (.slice (some ⟨W6.heap.size, 0, none⟩) 1 1) [X] := by rw [hW8]; exact USl.one W6 X TOw
        have gw8 := Gr.trans HR.out.2 (Gr.trans g6 g8)
        have H8 := Lib.hid (And.intro hu8 (And.intro hy8 (And.intro gw8 (And.intro hW8 hW6))))
        have hcl : ((l.line.take j).map Prod.fst).length + [X].length ≤ 1000000000 := by simp; omega
        have hbs : w.heap.size ≤ W8.heap.size := gw8.size
        have e27 : decide ((j : Int) < (N : Int)) = true := decide_eq_true (by omega)
        have hp0 : (0 : Int) ≤ (j : Int) := by omega
        clear hjl f1 f2 f3 f4 f5 s0 s1 hX hY htk g6 b6 hW6 hW8 g8 hu8 hy8 gw8
        go_upto_region 7 with fail
        rw [show (wr.alloc (.cells #[.int .u64 (X : Int), .int .i64 Y] 74)) = W6 from H8.out.2.2.2.2.symm]
        go_wp2_with (at_builtin; rw [show (W6.alloc (.cells #[.int .u64 (X : Int)] 27)) = W8 from H8.out.2.2.2.1.symm]; refine wpList_app_us rfl (.tmp 33) (.tmp 36) rfl rfl H8.out.1 rfl H8.out.2.1 hcl hbs (fun v' W9 hv9 hg9 => ?_))
        have hg9' : W8.grownBy W9 u5.ownBlock := hg9
        clear hg9
        have HE := Lib.hid (And.intro (show Us W9 w.heap.size v' ((l.line.take (j + 1)).map Prod.fst) by rw [HT.out]; exact hv9) (show Gr w W9 from ⟨hg9'.os.trans H8.out.2.2.1.os, hg9'.tape.trans H8.out.2.2.1.tape, hg9'.output.trans H8.out.2.2.1.output, Nat.le_trans H8.out.2.2.1.size hg9'.size, fun n hn => (hg9'.block n (Nat.lt_of_lt_of_le hn H8.out.2.2.1.size) (fun e => by have := (H8.out.1.lt n e.symm).1; omega)).trans (H8.out.2.2.1.block n hn)⟩))
        clear hv9 hg9' hcl hbs
        go_wp2_with fail
        go_roundw
        case rel => exact ⟨j + 1, by simp, by omega, HE⟩
        case measure => simp [intOf]; omega
      · have hjN : j = N := by omega
        subst hjN
        have HE := Lib.hid (show Us wr w.heap.size u5 (l.line.map Prod.fst) by
          have := HR.out.1
          rwa [HX.out.2.2.1, List.take_length] at this)
        have e27 : decide ((j : Int) < (j : Int)) = false := decide_eq_false (by omega)
        go_wp2_with fail
        go_ret
        exact ⟨_, rfl, HE.out, HR.out.2⟩
end
end Go.Proofs.Ytbmcdlcoojmppaa

/-
  The code's table of locks: ring's own way, where all who hold wait for nothing or for what is held.
-/
namespace Go.Proofs.Ytbmcdlcoojmppaa
open Go.RowKit Go.Maps

theorem Mp.range {α : Type} [DecidableEq α] {P : Program} {K : KK α} {w : World} {m : Nat} {f : α → Option Value} {ks : List α} (O : K.Ok P) (h : Mp P K w m f ks) {t e : TypeId} (ht : P.underlying t = some (.map K.ty e)) :
    ∃ w', (Instr.range t (.map (some m))).run P w = .ok (.pointer (some ⟨w.heap.size, 0, none⟩)) w' ∧ Rg P K w' m w.heap.size f ks (fun a => a ∈ ks) ∧ Gr w w' ∧ w'.heap.size = w.heap.size + 1 := by
  obtain ⟨D, h1, hD⟩ := h
  obtain ⟨w', hr, h2, h3, h4⟩ := h1.range O.keyed ht
  exact ⟨w', hr, ⟨D, _, _, h2, hD, fun a ha => by rw [hD.has a ha]; exact (hD.mem a).symm, fun _ h => h⟩, ⟨h3.os, h3.tape, h3.output, h3.size, fun k hk => h3.block k hk (by simp)⟩, h4⟩
section
variable {w : World} {t km om : Nat} {B : Tag → Option Nat} {T : Tb}
set_option maxRecDepth 100000 in
set_option maxHeartbeats 2000000 in
theorem leads_flat (h : TbAt w t km om B T) {k : Key} (hk : KL.dom k) {l : Lk} (hl : T.lk k = some l) {sb tb mb lb sm : Nat} {ty1 ty2 : TypeId} {hp : Option Nat} {O1 O2 O3 : Int} {ks : List Key}
    (hsb : Blk w sb ty1 #[.map (some sm)]) (hsm : Mp Try.prog KL w sm (unitF []) []) (hnF : ¬ FB B sm) (htb : Blk w tb ty2 #[.pointer (some ⟨t, 0, none⟩)]) (hmb : Blk w mb TPy #[.map hp, .int .i64 O1, .int .i64 O2, .int .i64 O3])
    (hmn : HsAt w hp ks) (hne : ∀ n, hp = some n → n ≠ sm) (hflat : ∀ q, q ∈ l.hs → (T.of q).mode = 0 ∨ (T.of q).key ∈ ks) (hkd : ∀ q, KL.dom (T.of q).key) :
    Calls Try.prog 45 #[kv k, .pointer (some ⟨sb, 0, none⟩), .pointer (some ⟨tb, 0, none⟩), .pointer (some ⟨mb, 0, none⟩), .pointer (some ⟨lb, 0, none⟩)] w
      fun e w' => e = .returned (.bool (l.hs.any fun q => decide ((T.of q).mode ≠ 0))) ∧ w.grownBy w' (some sm) := by
  obtain ⟨k1, hk1⟩ : ∃ x, x = k.1 := ⟨_, rfl⟩
  obtain ⟨k2, hk2⟩ : ∃ x, x = k.2 := ⟨_, rfl⟩
  have hkv : kv k = .agg #[.int .i64 k1, .int .i64 k2] := by rw [hk1, hk2]; rfl
  rw [hkv]
  have g1 : Gr w (w.alloc (.cells #[.int .i64 k1, .int .i64 k2] TKey)) := (Gr.refl w).alloc (Nat.le_refl _) _
  have b6 := (Blk.new w TKey #[.int .i64 k1, .int .i64 k2])
  obtain ⟨W0, hW0⟩ : ∃ W0, W0 = w.alloc (.cells #[.int .i64 k1, .int .i64 k2] TKey) := ⟨_, rfl⟩
  rw [← hW0] at g1 b6
  obtain ⟨w1, hrun, hM1, hG1⟩ := (hsm.stays (g1.block sm hsm.lt)).store KL_ok (by decide) (t := TMs) Try.underlying59 hk (.agg #[])
  rw [show KL.val k = kv k from rfl, hkv] at hrun
  rw [unitF_put] at hM1
  have hsm0 : sm < w.heap.size := hsm.lt
  obtain ⟨kb, hkb⟩ : ∃ kb, kb = w.heap.size := ⟨_, rfl⟩
  rw [← hkb] at b6
  have x0 := b6.cell 0
  have x1 := b6.cell 1
  have s0 := (hsb.gr g1).cell 0
  simp at x0 x1 s0
  have hkeep : ∀ n, n < W0.heap.size → n ≠ sm → w1.heap[n]? = W0.heap[n]? := fun n h1 h2 => hG1.block n h1 fun e => h2 (by cases e; rfl)
  have t1 : TbAt w1 t km om B T := (h.gr g1).row hG1 (fun m e => by cases e; exact hnF)
  have hkbs : kb ≠ sm := by omega
  have b61 := b6.stays (hkeep kb b6.lt hkbs)
  have hne2 : ∀ {n : Nat} {ty : TypeId} {cs : Array Value}, Blk w n ty cs → n ≠ sm := fun {n ty cs} hb e => by
    obtain ⟨es, c, q⟩ := hsm.isMap
    unfold Blk at hb
    rw [e, q] at hb
    cases hb
  have hsb1 := (hsb.gr g1).stays (hkeep sb (hsb.gr g1).lt (hne2 hsb))
  have htb1 := (htb.gr g1).stays (hkeep tb (htb.gr g1).lt (hne2 htb))
  have hmb1 := (hmb.gr g1).stays (hkeep mb (hmb.gr g1).lt (hne2 hmb))
  obtain ⟨bl, hm, v, e1, e2, e3, e4, e5⟩ := t1.lk k l hl
  have hll : ∀ q, (Instr.lookup TMk (.map (some km)) (.agg #[.int .i64 k1, .int .i64 k2]) false).run Try.prog (w1.drewN q) = .ok (.pointer (some ⟨bl, 0, none⟩)) (w1.drewN q) := fun q => by
    have := (t1.stays (w' := w1.drewN q) (fun _ _ _ => rfl)).look hk
    rw [e1, hkv] at this
    exact this
  have hll1 : (Instr.lookup TMk (.map (some km)) (.agg #[.int .i64 k1, .int .i64 k2]) false).run Try.prog w1.drew = .ok (.pointer (some ⟨bl, 0, none⟩)) w1.drew := hll 1
  obtain ⟨w2, hrr, hrg, hgr, hsz⟩ := (show Mp Try.prog KO w1.drew hm (unitF l.hs) l.hs from e4).range KO_ok (t := TMh) Try.underlying67
  have y0 := b61.cell 0
  have y1 := b61.cell 1
  have y2 := htb1.cell 0
  have y3 := t1.c3.1
  have y4 := e3.cell 1
  simp at y0 y1 y2 y4
  have gw1 : w.grownBy w1 (some sm) := ⟨hG1.os.trans g1.os, hG1.tape.trans g1.tape, hG1.output.trans g1.output, Nat.le_trans g1.size hG1.size, fun n h1 h2 => (hG1.block n (Nat.lt_of_lt_of_le h1 g1.size) h2).trans (g1.block n h1)⟩
  have HW := Lib.hid (And.intro hW0 hkb)
  have HA := Lib.hid (And.intro hsb1 (And.intro htb1 (And.intro hmb1 (And.intro hM1 (And.intro t1 (And.intro gw1 (And.intro e4 (And.intro hl hflat))))))))
  have HB := Lib.hid (And.intro hmn (And.intro hne (And.intro hkd hkeep)))
  have HG := Lib.hid g1
  have HR := Lib.hid (And.intro hrg (And.intro hgr hsz))
  clear hrg hgr hsz
  clear h hsb hsm hnF htb hmb hmn hne hflat hkd g1 b6 hW0 hM1 hG1 hkeep t1 b61 hsb1 htb1 hmb1 e1 e2 e3 e5 gw1 hl hkb hk1 hk2 hne2 hkv hsm0 hkbs
  go_enter Try.func45, Try.ntmps45
  go_upto_region 1 with fail
  rw [show (w.alloc (.cells #[.int .i64 k1, .int .i64 k2] 29)) = W0 from HW.out.1.symm, ← HW.out.2]
  go_step3
  go_wp2_with fail
  go_step3
  go_wp2_with fail
  go_cut [24] (fun s24 wx => s24 = .pointer (some ⟨w1.heap.size, 0, none⟩) ∧ wx = w2)
  case first =>
    go_region_with (fail)
    all_goals
      go_wp2_with fail
      go_meet
      exact ⟨rfl, rfl⟩
  case rest =>
    obtain ⟨rfl, rfl⟩ := hcut
    obtain ⟨r, hr⟩ : ∃ r, r = w1.heap.size := ⟨_, rfl⟩
    have hrg1 : Rg Try.prog KO wc hm r (unitF l.hs) l.hs (fun a => a ∈ l.hs) := by rw [hr]; exact HR.out.1
    have G12 : Hid (Gr w1 wc) := Lib.hid (Gr.trans (Gr.refl w1).drew HR.out.2.1)
    rw [← hr]
    have Hr := Lib.hid hr
    clear hrr hll hll1 y0 y1 y2 y3 y4 hr x0 x1 s0 hrun e4
    go_wp2_with fail
    go_loopw [7] (fun s7 wr => s7 = .bool false ∧ ∃ L, Rg Try.prog KO wr hm r (unitF l.hs) l.hs L ∧ Hid (Gr w1 wr) ∧ Hid (∀ q, q ∈ l.hs → ¬ L q → (T.of q).mode = 0)) (fun _ wr => wr.rangeLeft hm r)
    case atStart => exact ⟨rfl, _, hrg1, G12, Lib.hid fun q h1 h2 => absurd h1 h2⟩
    case round =>
      obtain ⟨rfl, L, hrg, HGr, HL⟩ := hrel
      go_wp2_with (first
        | (at_next; refine wpList_next_mp KO_ok rfl _ rfl rfl hrg ?_ ?_)
        | go_in)
      · intro hno
        have hv : (l.hs.any fun q => decide ((T.of q).mode ≠ 0)) = false := by
          rw [List.any_eq_false]
          intro q hq
          simpa using HL.out q hq (hno q)
        have HV := Lib.hid hv
        clear hv hno
        go_wp2_with fail
        rw [Exit.noGoto_ret]
        go_ret
        have gw1 := HA.out.2.2.2.2.2.1
        exact ⟨by rw [HV.out]; rfl, ⟨HGr.out.os.trans gw1.os, HGr.out.tape.trans gw1.tape, HGr.out.output.trans gw1.output, Nat.le_trans gw1.size HGr.out.size, fun n h1 h2 => (HGr.out.block n (Nat.lt_of_lt_of_le h1 gw1.size)).trans (gw1.block n h1 h2)⟩⟩
      · intro q v w3 hLq hqd hfv hrg' hlt hg3 hs3 hen
        have hqin : q ∈ l.hs := ((hrg'.mp KO_ok).mem q).2 (by rw [hfv]; rfl)
        have g13 : Gr w1 w3 := ⟨hg3.os.trans HGr.out.os, hg3.tape.trans HGr.out.tape, hg3.output.trans HGr.out.output, Nat.le_trans HGr.out.size hg3.size, fun n hn => (hg3.block n (Nat.lt_of_lt_of_le hn HGr.out.size) (fun e => by cases e; have := Hr.out; omega)).trans (HGr.out.block n hn)⟩
        obtain ⟨hsb1, htb1, hmb1, hM1, t1, gw1, e4, hl, hflat⟩ := HA.out
        have t3 := t1.gr g13
        have y2 := (htb1.gr g13).cell 0
        simp at y2
        have HO := Lib.hid (of_any t3 hqd)
        obtain ⟨qp, hqp⟩ : ∃ qp, qp = B (.pm q) := ⟨_, rfl⟩
        obtain ⟨Q1, hQ1⟩ : ∃ Q1, Q1 = (T.of q).key.1 := ⟨_, rfl⟩
        obtain ⟨Q2, hQ2⟩ : ∃ Q2, Q2 = (T.of q).key.2 := ⟨_, rfl⟩
        obtain ⟨QM, hQM⟩ : ∃ QM, QM = (T.of q).mode := ⟨_, rfl⟩
        unfold ofV at HO
        rw [← hqp, ← hQ1, ← hQ2, ← hQM] at HO
        rw [show KO.val q = .int .u64 (q : Int) from rfl] at hen ⊢
        have HQ := Lib.hid (And.intro hqin (And.intro g13 (And.intro hrg' (And.intro hlt (And.intro hQM (And.intro hQ1 hQ2))))))
        clear hLq hqd hfv hrg' hlt hg3 hs3 hqin g13 hsb1 htb1 hmb1 hM1 t1 gw1 e4 hl hflat t3 hqp hQ1 hQ2 hQM hrg
        go_wp2_with fail
        refine HO.out.mono ?_
        rintro e W4 ⟨rfl, g4⟩
        obtain ⟨hqin, g13, hrg', hlt, hQM, hQ1, hQ2⟩ := HQ.out
        obtain ⟨hsb1, htb1, hmb1, hM1, t1, gw1, e4, hl, hflat⟩ := HA.out
        have g5 : Gr W4 (W4.alloc (.cells #[.map qp, .int .i64 Q1, .int .i64 Q2, .int .i64 QM] TPy)) := (Gr.refl _).alloc (Nat.le_refl _) _
        have b5 := Blk.new W4 TPy #[.map qp, .int .i64 Q1, .int .i64 Q2, .int .i64 QM]
        obtain ⟨W5, hW5⟩ : ∃ W5, W5 = W4.alloc (.cells #[.map qp, .int .i64 Q1, .int .i64 Q2, .int .i64 QM] TPy) := ⟨_, rfl⟩
        rw [← hW5] at g5 b5
        obtain ⟨pb, hpb⟩ : ∃ pb, pb = W4.heap.size := ⟨_, rfl⟩
        rw [← hpb] at b5
        have g15 : Gr w1 W5 := Gr.trans g13 (Gr.trans g4 g5)
        have z1 := b5.cell 1
        have z2 := b5.cell 2
        have y2 := (hsb1.gr g15).cell 0
        simp at z1 z2 y2
        have hlq := (show HsAt W5 (some sm) (putK k []) from .inr ⟨sm, rfl, hM1.stays (g15.block sm hM1.lt)⟩).look (HB.out.2.2.1 q)
        rw [show kv (T.of q).key = .agg #[.int .i64 Q1, .int .i64 Q2] by rw [hQ1, hQ2]; rfl] at hlq
        obtain ⟨X, hX⟩ : ∃ X, X = decide ((T.of q).key ∈ putK k []) := ⟨_, rfl⟩
        rw [← hX] at hlq
        have g6 : Gr W5 (W5.alloc (.cells #[] 88)) := (Gr.refl _).alloc (Nat.le_refl _) _
        obtain ⟨W6, hW6⟩ : ∃ W6, W6 = W5.alloc (.cells #[] 88) := ⟨_, rfl⟩
        rw [← hW6] at g6
        have b6 := b5.gr g6
        have g16 := Gr.trans g15 g6
        have m6 := hmb1.gr g16
        have u1 := b6.cell 1
        have u2 := b6.cell 2
        have u3 := b6.cell 3
        have m0 := m6.cell 0
        have m1 := m6.cell 1
        have m2 := m6.cell 2
        have m3 := m6.cell 3
        simp at u1 u2 u3 m0 m1 m2 m3
        have HS := Lib.hid (And.intro hW5 (And.intro hpb (And.intro g15 (And.intro hW6 (And.intro g16 (Gr.trans g4 (Gr.trans g5 g6)))))))
        clear hqin g13 hrg' hlt hQM hQ1 hQ2 hsb1 htb1 hmb1 hM1 t1 gw1 e4 hl hflat g4 g5 b5 hW5 hpb g15 hX g6 hW6 b6 g16 m6
        go_upto_region 7 with fail
        rw [show (W4.alloc (.cells #[.map qp, .int .i64 Q1, .int .i64 Q2, .int .i64 QM] 61)) = W5 from HS.out.1.symm, ← HS.out.2.1]
        go_upto_region 8 with fail
        rw [show (W5.alloc (.cells #[] 88)) = W6 from HS.out.2.2.2.1.symm]
        obtain ⟨hqin, g13, hrg', hlt, hQM, hQ1, hQ2⟩ := HQ.out
        have hmeas := hrg'.left_same (w' := W6) HS.out.2.2.2.2.2
        have hrg6 := hrg'.gr HS.out.2.2.2.2.2
        by_cases hQ0 : QM = 0
        · subst hQ0
          have HE := Lib.hid (And.intro hrg6 (And.intro hmeas (And.intro hlt hQM)))
          clear hqin g13 hrg' hlt hQM hQ1 hQ2 hmeas hrg6 hlq z1 z2 y2
          go_wp2_with fail
          go_roundw
          case rel =>
            refine ⟨rfl, _, HE.out.1, Lib.hid HS.out.2.2.2.2.1, Lib.hid fun q' h1 h2 => ?_⟩
            by_cases e : q' = q
            · rw [e]; exact HE.out.2.2.2.symm
            · exact HL.out q' h1 fun e2 => h2 ⟨e2, e⟩
          case measure => exact Nat.lt_of_le_of_lt (Nat.le_of_eq HE.out.2.1) HE.out.2.2.1
        · have hk6 : (T.of q).key ∈ ks := by
            rcases HA.out.2.2.2.2.2.2.2.2 q hqin with h0 | h0
            · exact absurd (hQM.trans h0) hQ0
            · exact h0
          have hs6 : HsAt W6 hp ks := by
            rcases HB.out.1 with ⟨h1, h2⟩ | ⟨n, h1, h2⟩
            · exact .inl ⟨h1, h2⟩
            · refine .inr ⟨n, h1, h2.stays ?_⟩
              have e1 := HS.out.2.2.2.2.1.block n (Nat.lt_of_lt_of_le h2.lt HA.out.2.2.2.2.2.1.size)
              exact e1.trans (HA.out.2.2.2.2.2.1.block n h2.lt (fun e => HB.out.2.1 n h1 (by cases e; rfl)))
          have hHas := has_any W6 (a := .int .i64 O1) (b := .int .i64 O2) (m := .int .i64 O3) rfl rfl rfl hs6 (HB.out.2.2.1 q)
          rw [show kv (T.of q).key = .agg #[.int .i64 Q1, .int .i64 Q2] by rw [hQ1, hQ2]; rfl, decide_eq_true hk6] at hHas
          have hv : (l.hs.any fun q => decide ((T.of q).mode ≠ 0)) = true := List.any_eq_true.2 ⟨q, hqin, by rw [← hQM]; simpa using hQ0⟩
          have HHas := Lib.hid hHas
          have HV := Lib.hid hv
          have hb0 : (QM == 0) = false := by simpa using hQ0
          clear hqin g13 hrg' hlt hQM hQ1 hQ2 hmeas hrg6 hlq z1 z2 y2 hk6 hs6 hHas hv
          go_wp2_with fail
          refine HHas.out.mono ?_
          rintro e W7 ⟨rfl, g7⟩
          have G7 := Lib.hid g7
          clear g7
          go_wp2_with fail
          rw [Exit.noGoto_ret]
          go_ret
          have gw1 := HA.out.2.2.2.2.2.1
          have gw7 := Gr.trans HS.out.2.2.2.2.1 G7.out
          exact ⟨by rw [HV.out]; rfl, ⟨gw7.os.trans gw1.os, gw7.tape.trans gw1.tape, gw7.output.trans gw1.output, Nat.le_trans gw1.size gw7.size, fun n h1 h2 => (gw7.block n (Nat.lt_of_lt_of_le h1 gw1.size)).trans (gw1.block n h1 h2)⟩⟩
end
end Go.Proofs.Ytbmcdlcoojmppaa

/-
  The code's table of locks: ring, where all who hold wait for nothing or for what is held.
-/
namespace Go.Proofs.Ytbmcdlcoojmppaa
open Go.RowKit Go.Maps

section
variable {w : World} {t km om : Nat} {B : Tag → Option Nat} {T : Tb}
set_option maxRecDepth 100000 in
theorem ring_flat (h : TbAt w t km om B T) (ok : T.Ok) {o : Nat} (ho : KO.dom o) {k : Key} (hk : KL.dom k) {l : Lk} (hl : T.lk k = some l) (hw : T.wanted (T.of o).ks = true) (hflat : ∀ q, q ∈ l.hs → (T.of q).mode = 0 ∨ (T.of q).key ∈ (T.of o).ks) :
    Calls Try.prog 28 #[.pointer (some ⟨t, 0, none⟩), .int .u64 (o : Int), kv k] w fun e w' => e = .returned (.bool (l.hs.any fun q => decide ((T.of q).mode ≠ 0))) ∧ Gr w w' := by
  have g1 : Gr w ((w.alloc (.cells #[.pointer (some ⟨t, 0, none⟩)] 24)).alloc (.cells #[.int .i64 k.1, .int .i64 k.2] TKey)) := ((Gr.refl w).alloc (Nat.le_refl _) _).alloc (by simp) _
  have HO := Lib.hid (of_any (h.gr g1) ho)
  have hhs := h.hs o
  obtain ⟨hp, hhp⟩ : ∃ hp, hp = B (.pm o) := ⟨_, rfl⟩
  obtain ⟨O1, hO1⟩ : ∃ O1, O1 = (T.of o).key.1 := ⟨_, rfl⟩
  obtain ⟨O2, hO2⟩ : ∃ O2, O2 = (T.of o).key.2 := ⟨_, rfl⟩
  obtain ⟨PM, hPM⟩ : ∃ PM, PM = (T.of o).mode := ⟨_, rfl⟩
  unfold ofV at HO
  rw [← hhp, ← hO1, ← hO2, ← hPM] at HO
  rw [← hhp] at hhs
  have hb := (Blk.new w 24 #[.pointer (some ⟨t, 0, none⟩)]).gr ((Gr.refl _).alloc (Nat.le_refl _) (.cells #[.int .i64 k.1, .int .i64 k.2] TKey))
  have HWa := Lib.hid (fun W (g : Gr w W) => wanted_any (h.gr g) O1 O2 PM (hhs.gr g) (fun k hk => by obtain ⟨l, e, _⟩ := ok.holds o k hk; rw [e]; rfl))
  rw [hw] at HWa
  have hkb2 := Blk.new (w.alloc (.cells #[.pointer (some ⟨t, 0, none⟩)] 24)) TKey #[.int .i64 k.1, .int .i64 k.2]
  simp only [World.size_alloc] at hkb2
  obtain ⟨W0, hW0⟩ : ∃ W0, W0 = (w.alloc (.cells #[.pointer (some ⟨t, 0, none⟩)] 24)).alloc (.cells #[.int .i64 k.1, .int .i64 k.2] TKey) := ⟨_, rfl⟩
  rw [← hW0] at g1 HO hb hkb2
  obtain ⟨tb, htb⟩ : ∃ tb, tb = w.heap.size := ⟨_, rfl⟩
  rw [← htb] at hb hkb2
  have HKb := Lib.hid hkb2
  clear hkb2
  have x0 := hb.cell 0
  simp at x0
  have HZ := Lib.hid (And.intro h (And.intro ok (And.intro hk (And.intro hl (And.intro hflat hhs)))))
  have HB := Lib.hid (And.intro hb (And.intro g1 (And.intro hW0 htb)))
  show Calls Try.prog 28 #[.pointer (some ⟨t, 0, none⟩), .int .u64 (o : Int), .agg #[.int .i64 k.1, .int .i64 k.2]] w _
  clear h ok hk hl hflat hhs hhp hO1 hO2 hPM hb g1 hW0 htb hw
  go_enter Try.func28, Try.ntmps28
  go_upto_region 1 with fail
  rw [show ((w.alloc (.cells #[.pointer (some ⟨t, 0, none⟩)] 24)).alloc (.cells #[.int .i64 k.1, .int .i64 k.2] 29)) = W0 from HB.out.2.2.1.symm, ← HB.out.2.2.2]
  go_wp2_with fail
  refine HO.out.mono ?_
  rintro e W2 ⟨rfl, g2⟩
  have g3 : Gr W2 (W2.alloc (.cells #[.map hp, .int .i64 O1, .int .i64 O2, .int .i64 PM] TPy)) := (Gr.refl _).alloc (Nat.le_refl _) _
  have b3 := Blk.new W2 TPy #[.map hp, .int .i64 O1, .int .i64 O2, .int .i64 PM]
  obtain ⟨W3, hW3⟩ : ∃ W3, W3 = W2.alloc (.cells #[.map hp, .int .i64 O1, .int .i64 O2, .int .i64 PM] TPy) := ⟨_, rfl⟩
  rw [← hW3] at g3 b3
  obtain ⟨pb, hpb⟩ : ∃ pb, pb = W2.heap.size := ⟨_, rfl⟩
  rw [← hpb] at b3
  have z0 := b3.cell 0
  have z1 := b3.cell 1
  have z2 := b3.cell 2
  have z3 := b3.cell 3
  have x3 := (HB.out.1.gr (Gr.trans g2 g3)).cell 0
  have x2 := (HB.out.1.gr g2).cell 0
  simp at z0 z1 z2 z3 x3 x2
  have HP := Lib.hid b3
  have HX := Lib.hid (HB.out.1.gr (Gr.trans g2 g3))
  have HX2 := Lib.hid (HKb.out.gr (Gr.trans g2 g3))
  have G3 : Hid (Gr w W3) := Lib.hid (Gr.trans HB.out.2.1 (Gr.trans g2 g3))
  have H3 := Lib.hid (And.intro hW3 hpb)
  clear g2 g3 b3 hW3 hpb x0
  go_upto_region 2 with fail
  rw [show (W2.alloc (.cells #[.map hp, .int .i64 O1, .int .i64 O2, .int .i64 PM] 61)) = W3 from H3.out.1.symm, ← H3.out.2]
  go_wp2_with fail
  refine (HWa.out W3 G3.out).mono ?_
  rintro e W4 ⟨rfl, g4⟩
  have G4 : Hid (Gr w W4) := Lib.hid (Gr.trans G3.out g4)
  have b4 := HP.out.gr g4
  have t4 := HX.out.gr g4
  have K4 := Lib.hid (And.intro b4 t4)
  have K5 := Lib.hid (HX2.out.gr g4)
  clear g4 b4 t4 z0 z1 z2 z3 x3 x2
  have hmm := @run_makeMap Try.prog
  obtain ⟨h, ok, hk, hl, hflat, hhs⟩ := HZ.out
  obtain ⟨sm, hsm⟩ : ∃ sm, sm = W4.heap.size := ⟨_, rfl⟩
  obtain ⟨fv, hfv⟩ : ∃ fv, fv = Value.func (Fn.func 45) #[] #[.pointer (some ⟨sm + 1, 0, none⟩), .pointer (some ⟨tb, 0, none⟩), .pointer (some ⟨pb, 0, none⟩), .pointer (some ⟨sm + 1 + 1, 0, none⟩)] := ⟨_, rfl⟩
  have ga : Gr W4 (W4.alloc (.map #[] 0)) := (Gr.refl _).alloc (Nat.le_refl _) _
  have gb : Gr (W4.alloc (.map #[] 0)) ((W4.alloc (.map #[] 0)).alloc (.cells #[.map (some sm)] TMs)) := (Gr.refl _).alloc (Nat.le_refl _) _
  have gc : Gr ((W4.alloc (.map #[] 0)).alloc (.cells #[.map (some sm)] TMs)) (((W4.alloc (.map #[] 0)).alloc (.cells #[.map (some sm)] TMs)).alloc (.cells #[.nilFunc] 66)) := (Gr.refl _).alloc (Nat.le_refl _) _
  have m1 : Mp Try.prog KL (W4.alloc (.map #[] 0)) W4.heap.size (fun _ => none) [] := Mp.made W4
  have bs := Blk.new (W4.alloc (.map #[] 0)) TMs #[.map (some sm)]
  have bL := Blk.new ((W4.alloc (.map #[] 0)).alloc (.cells #[.map (some sm)] TMs)) 66 #[.nilFunc]
  simp only [World.size_alloc] at bs bL
  rw [← hsm] at m1 bs bL
  obtain ⟨WX, hWX⟩ : ∃ WX, WX = ((W4.alloc (.map #[] 0)).alloc (.cells #[.map (some sm)] TMs)).alloc (.cells #[.nilFunc] 66) := ⟨_, rfl⟩
  have m2 := (m1.stays (gb.block sm m1.lt)).stays (gc.block sm (Nat.lt_of_lt_of_le m1.lt gb.size))
  have bs2 := bs.gr gc
  have gX : Gr W4 WX := by rw [hWX]; exact Gr.trans ga (Gr.trans gb gc)
  rw [← hWX] at bL m2 bs2
  have xL := bL.cell 0
  have fL := bL.frozen 0
  simp at xL
  have hlw : w.heap.size ≤ W4.heap.size := G4.out.size
  have gWY : Gr w (WX.setCell ⟨sm + 1 + 1, 0, none⟩ fv) := ⟨gX.os.trans G4.out.os, gX.tape.trans G4.out.tape, gX.output.trans G4.out.output, by have := gX.size; simp; omega, fun n hn => (Below.heap_setCell _ _ _ _ (by show n ≠ sm + 1 + 1; omega)).trans ((gX.block n (by omega)).trans (G4.out.block n hn))⟩
  have m3 := m2.stays (w' := WX.setCell ⟨sm + 1 + 1, 0, none⟩ fv) (Below.heap_setCell _ _ _ _ (by show sm ≠ sm + 1 + 1; omega))
  have bs3 := bs2.far (p := ⟨sm + 1 + 1, 0, none⟩) (by show sm + 1 ≠ sm + 1 + 1; omega) fv
  have hpb4 := K4.out.1.lt
  have htb4 := K4.out.2.lt
  have bp3 := (K4.out.1.gr gX).far (p := ⟨sm + 1 + 1, 0, none⟩) (by show pb ≠ sm + 1 + 1; omega) fv
  have bt3 := (K4.out.2.gr gX).far (p := ⟨sm + 1 + 1, 0, none⟩) (by show tb ≠ sm + 1 + 1; omega) fv
  have hkb4 := K5.out.lt
  have bk3 := (K5.out.gr gX).far (p := ⟨sm + 1 + 1, 0, none⟩) (by show tb + 1 ≠ sm + 1 + 1; omega) fv
  have y0 := bk3.cell 0
  have y1 := bk3.cell 1
  have yL := (bL.set 0 fv).cell 0
  simp at y0 y1 yL
  have hun : (unitF ([] : List Key)) = fun _ => none := by
    funext a
    rfl
  rw [← hun] at m3
  have hLF := leads_flat (h.gr gWY) hk hl (lb := sm + 1 + 1) bs3 m3 (fun ⟨a, ha⟩ => by have := h.lt a _ ha; omega) bt3 bp3 (hhs.gr gWY) (fun n hn e => by
    rcases hhs with ⟨h1, _⟩ | ⟨n', h1, h2⟩
    · rw [hn] at h1; cases h1
    · rw [hn] at h1; cases h1; have := h2.lt; omega) hflat ok.key
  rw [show kv k = .agg #[.int .i64 k.1, .int .i64 k.2] from rfl] at hLF
  have HLF := Lib.hid hLF
  have HY := Lib.hid (And.intro gWY (And.intro hWX (And.intro hlw hsm)))
  have HFV := Lib.hid hfv
  clear h ok hk hl hflat hhs bk3 hkb4 ga gb gc m1 bs bL m2 bs2 gX gWY m3 bs3 hpb4 htb4 bp3 bt3 hun hLF hWX hsm hlw hfv
  go_upto_region 6 with fail
  rw [← HY.out.2.2.2, show (((W4.alloc (.map #[] 0)).alloc (.cells #[.map (some sm)] 59)).alloc (.cells #[.nilFunc] 66)) = WX from HY.out.2.1.symm]
  go_upto_region 7 with fail
  rw [← HFV.out]
  have eg : ∀ args w, (callFunc 45 args).run Try.prog w = .ok (.enter 45 args) w := enters_of Try.func45 (by kernel_rfl) rfl
  obtain ⟨WY, hWY⟩ : ∃ WY, WY = WX.setCell ⟨sm + 1 + 1, 0, none⟩ fv := ⟨_, rfl⟩
  rw [← hWY] at y0 y1 yL HLF HY ⊢
  clear hWY xL fL
  have hfv := HFV.out
  subst hfv
  go_wp2_with (go_at_fn 45; refine HLF.out.mono ?_; rintro e W9 ⟨rfl, g9⟩; have G9 := Lib.hid g9; clear g9)
  go_ret
  obtain ⟨gWY, -, hlw, hsm⟩ := HY.out
  exact ⟨by simp, ⟨G9.out.os.trans gWY.os, G9.out.tape.trans gWY.tape, G9.out.output.trans gWY.output, Nat.le_trans gWY.size G9.out.size, fun n hn => (G9.out.block n (Nat.lt_of_lt_of_le hn gWY.size) (fun e => by cases e; omega)).trans (gWY.block n hn)⟩⟩
end
end Go.Proofs.Ytbmcdlcoojmppaa

/-
  The code's table of locks: what stays right as it goes.
-/
namespace Go.Proofs.Ytbmcdlcoojmppaa
open Go.RowKit Go.Maps

section
variable {T : Tb}
theorem locked_lk_other (T : Tb) {k k' : Key} (h : k' ≠ k) : (T.locked k).lk k' = T.lk k' := by
  unfold Tb.locked
  cases T.lk k with
  | none => exact updF_other _ _ h
  | some l => rfl
theorem made_of (T : Tb) (o o' : Nat) : (T.made o).of o' = T.of o' := by
  unfold Tb.made Tb.of
  cases e : T.py o with
  | some p => rfl
  | none =>
    show (updF T.py o (some Py.zero) o').getD Py.zero = (T.py o').getD Py.zero
    by_cases h : o' = o
    · rw [h, updF_same, e]; rfl
    · rw [updF_other _ _ h]
theorem locked_of (T : Tb) (k : Key) (o : Nat) : (T.locked k).of o = T.of o := by
  unfold Tb.of
  rw [locked_py]
theorem give_lk_other (T : Tb) (o : Nat) {k k' : Key} (m : Int) (h : k' ≠ k) : (T.give o k m).lk k' = T.lk k' := by
  unfold Tb.give
  show updF (T.ready o k).lk k _ k' = T.lk k'
  rw [updF_other _ _ h]
  unfold Tb.ready
  rw [locked_lk_other _ h, made_lk]
theorem give_of_same (T : Tb) (o : Nat) (k : Key) (m : Int) : (T.give o k m).of o = { T.of o with ks := putK k (T.of o).ks } := by
  unfold Tb.give
  show (updF (T.ready o k).py o _ o).getD Py.zero = _
  rw [updF_same, ready_of]
  rfl
theorem give_of_other (T : Tb) {o o' : Nat} (k : Key) (m : Int) (h : o' ≠ o) : (T.give o k m).of o' = T.of o' := by
  unfold Tb.give
  show (updF (T.ready o k).py o _ o').getD Py.zero = _
  rw [updF_other _ _ h]
  show (T.ready o k).of o' = _
  unfold Tb.ready
  rw [locked_of, made_of]
/-- One comes to a key. -/
theorem give_ok (ok : T.Ok) {o : Nat} {k : Key} {m : Int} (h1 : (putK o (T.lkOf k).hs).length ≤ 1000000000) : (T.give o k m).Ok := by
  have e0 := give_lkOf T o k m
  refine ⟨fun o' k' hk => ?_, fun k' l hl => ?_, fun k' l hl => ?_, fun o' => ?_⟩
  · by_cases ek : k' = k
    · subst ek
      by_cases eo : o' = o
      · subst eo
        exact ⟨_, e0, mem_putK.2 (.inl rfl)⟩
      · rw [give_of_other _ _ _ eo] at hk
        obtain ⟨l, hl, hm⟩ := ok.holds o' k' hk
        refine ⟨_, e0, mem_putK.2 (.inr ?_)⟩
        rw [lkOf_of hl]
        exact hm
    · have hk2 : k' ∈ (T.of o').ks := by
        by_cases eo : o' = o
        · subst eo
          rw [give_of_same] at hk
          rcases mem_putK.1 hk with e | e
          · exact absurd e ek
          · exact e
        · rwa [give_of_other _ _ _ eo] at hk
      obtain ⟨l, hl, hm⟩ := ok.holds o' k' hk2
      exact ⟨l, by rw [give_lk_other _ _ _ ek]; exact hl, hm⟩
  · by_cases ek : k' = k
    · subst ek
      rw [e0] at hl
      cases hl
      exact h1
    · rw [give_lk_other _ _ _ ek] at hl
      exact ok.hs k' l hl
  · by_cases ek : k' = k
    · subst ek
      rw [e0] at hl
      cases hl
      show (T.lkOf k').line.length ≤ _
      unfold Tb.lkOf
      cases e : T.lk k' with
      | none => exact Nat.zero_le _
      | some l => exact ok.line k' l e
    · rw [give_lk_other _ _ _ ek] at hl
      exact ok.line k' l hl
  · by_cases eo : o' = o
    · subst eo
      rw [give_of_same]
      exact ok.key o'
    · rw [give_of_other _ _ _ eo]
      exact ok.key o'
theorem stand_lk_other (T : Tb) (o : Nat) {k k' : Key} (m : Int) (h : k' ≠ k) : (T.stand o k m).lk k' = T.lk k' := updF_other _ _ h
theorem stand_lk_same (T : Tb) (o : Nat) (k : Key) (m : Int) : (T.stand o k m).lk k = some { T.lkOf k with line := lineIn (decide (k ∈ (T.of o).ks)) o m (T.lkOf k).line } := updF_same _ _ _
theorem stand_of_same (T : Tb) (o : Nat) (k : Key) (m : Int) : (T.stand o k m).of o = { T.of o with key := k, mode := m } := by
  show (updF (T.made o).py o _ o).getD Py.zero = _
  rw [updF_same]
  rfl
theorem stand_of_other (T : Tb) {o o' : Nat} (k : Key) (m : Int) (h : o' ≠ o) : (T.stand o k m).of o' = T.of o' := by
  show (updF (T.made o).py o _ o').getD Py.zero = _
  rw [updF_other _ _ h]
  exact made_of T o o'
/-- One stands in a line. -/
theorem stand_ok (ok : T.Ok) {o : Nat} {k : Key} {m : Int} (hk : KL.dom k) (hlk : (T.lk k).isSome = true) (h1 : (T.lkOf k).line.length < 1000000000) : (T.stand o k m).Ok := by
  have e0 := stand_lk_same T o k m
  obtain ⟨l0, hl0⟩ := Option.isSome_iff_exists.1 hlk
  have hks : ∀ o', ((T.stand o k m).of o').ks = (T.of o').ks := fun o' => by
    by_cases eo : o' = o
    · subst eo; rw [stand_of_same]
    · rw [stand_of_other _ _ _ eo]
  refine ⟨fun o' k' hk' => ?_, fun k' l hl => ?_, fun k' l hl => ?_, fun o' => ?_⟩
  · rw [hks] at hk'
    obtain ⟨l, hl, hm⟩ := ok.holds o' k' hk'
    by_cases ek : k' = k
    · subst ek
      refine ⟨_, e0, ?_⟩
      rw [lkOf_of hl]
      exact hm
    · exact ⟨l, by rw [stand_lk_other _ _ _ ek]; exact hl, hm⟩
  · by_cases ek : k' = k
    · subst ek
      rw [e0] at hl
      cases hl
      rw [lkOf_of hl0]
      exact ok.hs k' l0 hl0
    · rw [stand_lk_other _ _ _ ek] at hl
      exact ok.hs k' l hl
  · by_cases ek : k' = k
    · subst ek
      rw [e0] at hl
      cases hl
      rw [lineIn_len]
      omega
    · rw [stand_lk_other _ _ _ ek] at hl
      exact ok.line k' l hl
  · by_cases eo : o' = o
    · subst eo
      rw [stand_of_same]
      exact hk
    · rw [stand_of_other _ _ _ eo]
      exact ok.key o'
/-- The first one of a line goes out of it. -/
theorem pop_of_ks (T : Tb) (k : Key) (o : Nat) (r : List (Nat × Int)) (o' : Nat) : ((T.pop k o r).of o').ks = (T.of o').ks := by
  show ((updF T.py o (some { T.of o with key := (0, 0), mode := 0 }) o').getD Py.zero).ks = _
  by_cases h : o' = o
  · rw [h, updF_same]; rfl
  · rw [updF_other _ _ h]; rfl
theorem pop_ok (ok : T.Ok) {k : Key} {o : Nat} {m : Int} {r : List (Nat × Int)} (hl : (T.lkOf k).line = (o, m) :: r) : (T.pop k o r).Ok := by
  obtain ⟨l0, hl0⟩ : ∃ l0, T.lk k = some l0 := by
    cases e : T.lk k with
    | none => unfold Tb.lkOf at hl; rw [e] at hl; cases hl
    | some l0 => exact ⟨l0, rfl⟩
  have e0 := pop_lk T k o r
  have e1 : ∀ k', k' ≠ k → (T.pop k o r).lk k' = T.lk k' := fun k' h => updF_other _ _ h
  refine ⟨fun o' k' hk' => ?_, fun k' l hl' => ?_, fun k' l hl' => ?_, fun o' => ?_⟩
  · rw [pop_of_ks] at hk'
    obtain ⟨l, h1, h2⟩ := ok.holds o' k' hk'
    by_cases ek : k' = k
    · subst ek
      exact ⟨_, e0, by rw [lkOf_of h1]; exact h2⟩
    · exact ⟨l, by rw [e1 _ ek]; exact h1, h2⟩
  · by_cases ek : k' = k
    · subst ek
      rw [e0] at hl'
      cases hl'
      rw [lkOf_of hl0]
      exact ok.hs k' l0 hl0
    · rw [e1 _ ek] at hl'
      exact ok.hs k' l hl'
  · by_cases ek : k' = k
    · subst ek
      rw [e0] at hl'
      cases hl'
      have h1 := ok.line k' l0 hl0
      rw [lkOf_of hl0] at hl
      rw [hl] at h1
      simp only [List.length_cons] at h1
      show r.length ≤ _
      omega
    · rw [e1 _ ek] at hl'
      exact ok.line k' l hl'
  · show KL.dom ((updF T.py o (some { T.of o with key := (0, 0), mode := 0 }) o').getD Py.zero).key
    by_cases h : o' = o
    · rw [h, updF_same]
      exact (show KL.dom ((0 : Int), (0 : Int)) from ⟨⟨by decide, by decide⟩, ⟨by decide, by decide⟩⟩)
    · rw [updF_other _ _ h]
      exact ok.key o'
theorem nextN_ok (k : Key) : ∀ (n : Nat) (T : Tb) (c : List Nat), T.Ok → (∀ i, i ≤ n → (Tb.nextN i T k c).2.Good k) → (Tb.nextN n T k c).2.Ok
  | 0, T, c, ok, _ => ok
  | n + 1, T, c, ok, hg => by
    cases hl : (T.lkOf k).line with
    | nil => rw [nextN_nil hl]; exact ok
    | cons om r =>
      obtain ⟨o, m⟩ := om
      cases hf : (T.lkOf k).fits o m with
      | false => rw [nextN_no hl hf]; exact ok
      | true =>
        rw [nextN_yes hl hf]
        have h1 := hg 1 (by omega)
        rw [nextN_yes hl hf] at h1
        have h2 : ((((T.pop k o r).give o k m).lkOf k).hs).length ≤ 1000000000 := (show ((T.pop k o r).give o k m).Good k from h1).1
        rw [lkOf_of (give_lkOf _ _ _ _)] at h2
        refine nextN_ok k n _ _ (give_ok (pop_ok ok hl) h2) fun i hi => ?_
        have := hg (i + 1) (by omega)
        rwa [nextN_yes hl hf] at this
/-- Those who may come, come; a lock that nobody holds goes. -/
theorem nextT_ok (ok : T.Ok) {k : Key} (hg : ∀ n, n ≤ (T.lkOf k).line.length → (Tb.nextN n T k []).2.Good k) : (T.nextT k).Ok := by
  have ok0 : (T.nextT0 k).Ok := nextN_ok k _ T [] ok hg
  unfold Tb.nextT
  split
  · rename_i h0
    obtain ⟨T0, hT0⟩ : ∃ T0, T0 = T.nextT0 k := ⟨_, rfl⟩
    rw [← hT0] at h0 ok0 ⊢
    have e1 : ∀ k', k' ≠ k → updF T0.lk k none k' = T0.lk k' := fun k' h => updF_other _ _ h
    refine ⟨fun o' k' hk' => ?_, fun k' l hl' => ?_, fun k' l hl' => ?_, ok0.key⟩
    · obtain ⟨l, h1, h2⟩ := ok0.holds o' k' hk'
      by_cases ek : k' = k
      · subst ek
        rw [lkOf_of h1] at h0
        rw [h0] at h2
        cases h2
      · exact ⟨l, (e1 _ ek).trans h1, h2⟩
    · by_cases ek : k' = k
      · subst ek
        have hl2 : updF T0.lk k' none k' = some l := hl'
        rw [updF_same] at hl2
        cases hl2
      · exact ok0.hs k' l ((e1 _ ek).symm.trans hl')
    · by_cases ek : k' = k
      · subst ek
        have hl2 : updF T0.lk k' none k' = some l := hl'
        rw [updF_same] at hl2
        cases hl2
      · exact ok0.line k' l ((e1 _ ek).symm.trans hl')
  · exact ok0
/-- One goes away. -/
theorem left_ok (ok : T.Ok) (o : Nat) : (T.left o).Ok := by
  have ho : (T.left o).of o = Py.zero := by
    show (updF T.py o none o).getD Py.zero = _
    rw [updF_same]
    rfl
  have ho' : ∀ o', o' ≠ o → (T.left o).of o' = T.of o' := fun o' h => by
    show (updF T.py o none o').getD Py.zero = _
    rw [updF_other _ _ h]
    rfl
  have hlk : ∀ k, (T.left o).lk k = if k ∈ sortK (T.of o).ks then (T.lk k).map fun l => { l with hs := delK o l.hs } else T.lk k := fun k => rfl
  have hex : ∀ k l, (T.left o).lk k = some l → ∃ l0, T.lk k = some l0 ∧ l.hs.length ≤ l0.hs.length ∧ l.line = l0.line := fun k l h => by
    rw [hlk] at h
    split at h
    · cases e : T.lk k with
      | none => rw [e] at h; cases h
      | some l0 =>
        rw [e] at h
        cases h
        exact ⟨l0, rfl, delK_len _ _, rfl⟩
    · exact ⟨l, h, Nat.le_refl _, rfl⟩
  refine ⟨fun o' k' hk' => ?_, fun k' l hl' => ?_, fun k' l hl' => ?_, fun o' => ?_⟩
  · by_cases eo : o' = o
    · rw [eo, ho] at hk'
      cases hk'
    · rw [ho' _ eo] at hk'
      obtain ⟨l, h1, h2⟩ := ok.holds o' k' hk'
      rw [hlk, h1]
      split
      · exact ⟨_, rfl, mem_delK.2 ⟨h2, eo⟩⟩
      · exact ⟨_, rfl, h2⟩
  · obtain ⟨l0, h1, h2, h3⟩ := hex k' l hl'
    exact Nat.le_trans h2 (ok.hs k' l0 h1)
  · obtain ⟨l0, h1, h2, h3⟩ := hex k' l hl'
    rw [h3]
    exact ok.line k' l0 h1
  · by_cases eo : o' = o
    · rw [eo, ho]
      exact ⟨⟨by decide, by decide⟩, ⟨by decide, by decide⟩⟩
    · rw [ho' _ eo]
      exact ok.key o'
/-- A table without locks. -/
theorem new_ok : Tb.new.Ok :=
  ⟨fun o k hk => (by cases hk), fun k l hl => (by cases hl), fun k l hl => (by cases hl), fun o => (show KL.dom ((0 : Int), (0 : Int)) from ⟨⟨by decide, by decide⟩, ⟨by decide, by decide⟩⟩)⟩
end
end Go.Proofs.Ytbmcdlcoojmppaa

