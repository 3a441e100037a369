
/-
  The code's table of locks: Line.
-/
import Derived.Test.YtgpaikaccipfjaaLk24
namespace Go.Proofs.Ytgpaikaccipfjaa
open Go.RowKit Go.Maps

section
variable {w : World} {t km om : Nat} {B : Tag → Option Nat} {T : Tb}
theorem LnAt.at {w : World} {ob : Option Nat} {p : Option Addr} {n c : Nat} {ws : List (Nat × Int)} {pop : Bool} (h : LnAt w ob (.slice p n c) ws pop) (j : Nat) (hj : j < ws.length) :
    ∃ g q, p = some ⟨g, q, none⟩ ∧ n = ws.length ∧ n ≤ c ∧ w.cell? ⟨g, q + j * 2, none⟩ = some (.int .u64 ((ws[j].1 : Nat) : Int)) ∧ w.cell? ⟨g, q + j * 2 + 1, none⟩ = some (.int .i64 ws[j].2) := by
  rcases h with ⟨_, _, rfl⟩ | ⟨b, off, cap, cs, h1, h2, h3, h4, h5, h6, h7, h8⟩
  · exact absurd hj (Nat.not_lt_zero _)
  · simp only [Value.slice.injEq] at h2
    obtain ⟨rfl, rfl, rfl⟩ := h2
    have hw : ∀ (l : List (Nat × Int)) (i : Nat) (hi : i < l.length), (wcells l)[2 * i]? = some (.int .u64 ((l[i].1 : Nat) : Int)) ∧ (wcells l)[2 * i + 1]? = some (.int .i64 l[i].2) := by
      intro l
      induction l with
      | nil => intro i hi; exact absurd hi (Nat.not_lt_zero _)
      | cons a r ih =>
        intro i hi
        have hc : wcells (a :: r) = .int .u64 (a.1 : Int) :: .int .i64 a.2 :: wcells r := rfl
        rw [hc]
        cases i with
        | zero => exact ⟨rfl, rfl⟩
        | succ i =>
          have := ih i (by simpa using hi)
          rw [show 2 * (i + 1) = 2 * i + 1 + 1 by omega]
          simpa using this
    obtain ⟨a1, a2⟩ := hw ws j hj
    refine ⟨b, 2 * off, rfl, rfl, h4, ?_, ?_⟩
    · rw [h3.cell, Nat.mul_comm j 2]
      exact h7 _ _ a1
    · rw [h3.cell, Nat.mul_comm j 2, Nat.add_assoc]
      exact h7 _ _ a2
def RetRow (xs : List Nat) (w : World) (e : Ending) (w' : World) : Prop := ∃ v, e = .returned v ∧ Us w' w.heap.size v xs ∧ Gr w w'
set_option maxRecDepth 100000 in
set_option maxHeartbeats 2000000 in
theorem Line_any (h : TbAt w t km om B T) {k : Key} (hk : KL.dom k) (hln : (T.lkOf k).line.length ≤ 1000000000) :
    Calls Try.prog 20 #[.pointer (some ⟨t, 0, none⟩), kv k] w (RetRow ((T.lkOf k).line.map Prod.fst) w) := by
  have g1 : Gr w (w.alloc (.cells #[.int .i64 k.1, .int .i64 k.2] TKey)) := (Gr.refl w).alloc (Nat.le_refl _) _
  have h1 := h.gr g1
  have b6 := (Blk.new w TKey #[.int .i64 k.1, .int .i64 k.2])
  have c0 := h1.c3.1
  have hll := fun q => (h1.stays (w' := (w.alloc (.cells #[.int .i64 k.1, .int .i64 k.2] TKey)).drewN q) (fun _ _ _ => rfl)).look hk
  have HM := Lib.hid (fun q => missing_no (h1.stays (w' := (w.alloc (.cells #[.int .i64 k.1, .int .i64 k.2] TKey)).drewN q) (fun _ _ _ => rfl)))
  obtain ⟨k1, hk1⟩ : ∃ x, x = k.1 := ⟨_, rfl⟩
  obtain ⟨k2, hk2⟩ : ∃ x, x = k.2 := ⟨_, rfl⟩
  have hkv : kv k = .agg #[.int .i64 k1, .int .i64 k2] := by rw [hk1, hk2]; rfl
  rw [hkv]
  rw [hkv] at hll
  rw [← hk1, ← hk2] at g1 b6 hll c0 HM h1
  obtain ⟨W0, hW0⟩ : ∃ W0, W0 = w.alloc (.cells #[.int .i64 k1, .int .i64 k2] TKey) := ⟨_, rfl⟩
  rw [← hW0] at g1 b6 hll c0 HM h1
  obtain ⟨kb, hkb⟩ : ∃ kb, kb = w.heap.size := ⟨_, rfl⟩
  rw [← hkb] at b6
  have x0 := b6.cell 0
  have x1 := b6.cell 1
  simp at x0 x1
  have HW := Lib.hid (And.intro hW0 hkb)
  have HH := Lib.hid (And.intro h1 (And.intro g1 (And.intro b6 hln)))
  have Hw := Lib.hid (And.intro h (And.intro hk hkv))
  clear h b6 hkv hW0 hkb hk1 hk2 hln
  cases hl : T.lk k with
  | none =>
    have e0 := (h1.lk0 k hl).1
    rw [e0] at hll
    have hll' : ∀ q, (Instr.lookup TMk (.map (some km)) (.agg #[.int .i64 k1, .int .i64 k2]) false).run Try.prog (W0.drewN q) = .ok (.pointer none) (W0.drewN q) := hll
    have hE : (T.lkOf k).line.map Prod.fst = [] := by unfold Tb.lkOf; rw [hl]; rfl
    rw [hE]
    clear h1 g1 hl e0 hll hE
    go_enter Try.func20, Try.ntmps20
    go_upto_region 1 with fail
    rw [show (w.alloc (.cells #[.int .i64 k1, .int .i64 k2] 29)) = W0 from HW.out.1.symm, ← HW.out.2]
    go_quiet (exact Calls.quiet_of ((HM.out _).mono fun _ _ h => ⟨h.1, 0, h.2.symm⟩))
    go_wp2_with fail
    go_ret
    exact ⟨_, rfl, Us.nil _ _, grD HH.out.2.1⟩
  | some l =>
    obtain ⟨bl, hm, v, e1, e2, e3, e4, e5⟩ := h1.lk k l hl
    rw [e1] at hll
    have hll' : ∀ q, (Instr.lookup TMk (.map (some km)) (.agg #[.int .i64 k1, .int .i64 k2]) false).run Try.prog (W0.drewN q) = .ok (.pointer (some ⟨bl, 0, none⟩)) (W0.drewN q) := hll
    have hE : (T.lkOf k).line = l.line := by rw [lkOf_of hl]
    rw [hE] at HH ⊢
    obtain ⟨p, N, cp, hv, hN⟩ : ∃ p N cp, v = .slice p N cp ∧ N = l.line.length := by
      rcases e5 with ⟨r1, r2, r3⟩ | ⟨b', off, cap, cs, r1, r2, _⟩
      · exact ⟨none, 0, 0, r2, by rw [r3]; rfl⟩
      · exact ⟨_, l.line.length, cap, r2, rfl⟩
    subst hv
    have z2 := e3.cell 2
    simp at z2
    have HX := Lib.hid (And.intro e1 (And.intro e3 (And.intro hN hl)))
    have hNb : N ≤ 1000000000 := by have := HH.out.2.2.2; omega
    clear h1 g1 hl e1 e2 e3 e4 e5 hll hE hN
    go_enter Try.func20, Try.ntmps20
    go_upto_region 1 with fail
    rw [show (w.alloc (.cells #[.int .i64 k1, .int .i64 k2] 29)) = W0 from HW.out.1.symm, ← HW.out.2]
    go_quiet (exact Calls.quiet_of ((HM.out _).mono fun _ _ h => ⟨h.1, 0, h.2.symm⟩))
    rename_i nq
    have g01 : Gr W0 (W0.drewN nq) := grD (Gr.refl _)
    obtain ⟨W1, hW1⟩ : ∃ W1, W1 = W0.drewN nq := ⟨_, rfl⟩
    rw [← hW1] at g01 ⊢
    have t1 := HH.out.1.gr g01
    have b1 := HH.out.2.2.1.gr g01
    have y0 := b1.cell 0
    have y1 := b1.cell 1
    have l1 := (HX.out.2.1.gr g01).cell 2
    have c1 := t1.c3.1
    simp at y0 y1 l1
    have hl2 : ∀ q, (Instr.lookup TMk (.map (some km)) (.agg #[.int .i64 k1, .int .i64 k2]) false).run Try.prog (W1.drewN q) = .ok (.pointer (some ⟨bl, 0, none⟩)) (W1.drewN q) := fun q => by
      have := (t1.stays (w' := W1.drewN q) (fun _ _ _ => rfl)).look Hw.out.2.1
      rw [HX.out.1, Hw.out.2.2] at this
      exact this
    have G1 := Lib.hid (Gr.trans HH.out.2.1 g01)
    clear g01 hW1 t1 b1 hll' c0 x0 x1 z2
    go_upto_region 4 with fail
    go_quiet (fail)
    have G2 : Hid (Gr w (W1.drewN nq)) := Lib.hid (grD G1.out)
    obtain ⟨W2, hW2⟩ : ∃ W2, W2 = W1.drewN nq := ⟨_, rfl⟩
    rw [← hW2] at G2 ⊢
    clear hW2 y0 y1 l1 c1 hl2
    go_wp2_with fail
    go_loopw [29, 5] (fun i s5 wr => ∃ j : Nat, i = .int .i64 (j : Int) ∧ j ≤ N ∧ Hid (Us wr w.heap.size s5 ((l.line.take j).map Prod.fst) ∧ Gr w wr)) (fun i _ _ => N - (intOf i).toNat)
    case atStart => exact ⟨0, rfl, by omega, Lib.hid ⟨by rw [List.take_zero]; exact Us.nil _ _, G2.out⟩⟩
    case round =>
      obtain ⟨j, rfl, hj, HR⟩ := hrel
      by_cases hlt : j < N
      · have hjl : j < l.line.length := by rw [← HX.out.2.2.1]; exact hlt
        obtain ⟨bw, hw', vw, f1, f2, f3, f4, f5⟩ := Hw.out.1.lk k l HX.out.2.2.2
        have f1' := HX.out.1
        rw [f1] at f1'
        cases f1'
        have hvv : vw = .slice p N cp := by
          have a1 := (f3.gr HH.out.2.1).cell 2
          have a2 := HX.out.2.1.cell 2
          simp at a1 a2
          rw [a1] at a2
          exact Option.some.inj a2
        subst hvv
        obtain ⟨g, q, hpg, -, hcap, s0, s1⟩ := f5.at j hjl
        subst hpg
        have r0 := (HR.out.2.cell (blk_lt' s0)).trans s0
        have r1 := (HR.out.2.cell (blk_lt' s1)).trans s1
        obtain ⟨X, hX⟩ : ∃ X, X = l.line[j].1 := ⟨_, rfl⟩
        obtain ⟨Y, hY⟩ : ∃ Y, Y = l.line[j].2 := ⟨_, rfl⟩
        rw [← hX] at r0
        rw [← hY] at r1
        have htk : (l.line.take (j + 1)).map Prod.fst = (l.line.take j).map Prod.fst ++ [X] := by rw [List.take_succ_eq_append_getElem hjl, List.map_append, hX]; rfl
        have HT := Lib.hid htk
        have g6 : Gr wr (wr.alloc (.cells #[.int .u64 (X : Int), .int .i64 Y] TWt)) := (Gr.refl _).alloc (Nat.le_refl _) _
        have b6 := Blk.new wr TWt #[.int .u64 (X : Int), .int .i64 Y]
        obtain ⟨W6, hW6⟩ : ∃ W6, W6 = wr.alloc (.cells #[.int .u64 (X : Int), .int .i64 Y] TWt) := ⟨_, rfl⟩
        rw [← hW6] at g6 b6
        have u0 := b6.cell 0
        simp at u0
        obtain ⟨W8, hW8⟩ : ∃ W8, W8 = W6.alloc (.cells #[.int .u64 (X : Int)] TOw) := ⟨_, rfl⟩
        have g8 : Gr W6 W8 := by rw [hW8]; exact (Gr.refl W6).alloc (Nat.le_refl _) _
        have hu8 := (HR.out.1.gr g6).gr g8
        have hy8 : USl W8 (.slice (some ⟨W6.heap.size, 0, none⟩) 1 1) [X] := by rw [hW8]; exact USl.one W6 X TOw
        have gw8 := Gr.trans HR.out.2 (Gr.trans g6 g8)
        have H8 := Lib.hid (And.intro hu8 (And.intro hy8 (And.intro gw8 (And.intro hW8 hW6))))
        have hcl : ((l.line.take j).map Prod.fst).length + [X].length ≤ 1000000000 := by simp; omega
        have hbs : w.heap.size ≤ W8.heap.size := gw8.size
        have e27 : decide ((j : Int) < (N : Int)) = true := decide_eq_true (by omega)
        have hp0 : (0 : Int) ≤ (j : Int) := by omega
        clear hjl f1 f2 f3 f4 f5 s0 s1 hX hY htk g6 b6 hW6 hW8 g8 hu8 hy8 gw8
        go_upto_region 7 with fail
        rw [show (wr.alloc (.cells #[.int .u64 (X : Int), .int .i64 Y] 74)) = W6 from H8.out.2.2.2.2.symm]
        go_wp2_with (at_builtin; rw [show (W6.alloc (.cells #[.int .u64 (X : Int)] 27)) = W8 from H8.out.2.2.2.1.symm]; refine wpList_app_us rfl (.tmp 33) (.tmp 36) rfl rfl H8.out.1 rfl H8.out.2.1 hcl hbs (fun v' W9 hv9 hg9 => ?_))
        have hg9' : W8.grownBy W9 u5.ownBlock := hg9
        clear hg9
        have HE := Lib.hid (And.intro (show Us W9 w.heap.size v' ((l.line.take (j + 1)).map Prod.fst) by rw [HT.out]; exact hv9) (show Gr w W9 from ⟨hg9'.os.trans H8.out.2.2.1.os, hg9'.tape.trans H8.out.2.2.1.tape, hg9'.output.trans H8.out.2.2.1.output, Nat.le_trans H8.out.2.2.1.size hg9'.size, fun n hn => (hg9'.block n (Nat.lt_of_lt_of_le hn H8.out.2.2.1.size) (fun e => by have := (H8.out.1.lt n e.symm).1; omega)).trans (H8.out.2.2.1.block n hn)⟩))
        clear hv9 hg9' hcl hbs
        go_wp2_with fail
        go_roundw
        case rel => exact ⟨j + 1, by simp, by omega, HE⟩
        case measure => simp [intOf]; omega
      · have hjN : j = N := by omega
        subst hjN
        have HE := Lib.hid (show Us wr w.heap.size u5 (l.line.map Prod.fst) by
          have := HR.out.1
          rwa [HX.out.2.2.1, List.take_length] at this)
        have e27 : decide ((j : Int) < (j : Int)) = false := decide_eq_false (by omega)
        go_wp2_with fail
        go_ret
        exact ⟨_, rfl, HE.out, HR.out.2⟩
end
end Go.Proofs.Ytgpaikaccipfjaa
