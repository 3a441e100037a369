
/-
  The law's own on locks: two rows of owners are the same; numbers of answers.
-/
import Derived.Test.YtgpaikaccipfjaaLk23
namespace Go.Proofs.Ytgpaikaccipfjaa
open Go.RowKit Go.Maps

theorem USl.form {w : World} {v : Value} {xs : List Nat} (h : USl w v xs) : ∃ p c, v = .slice p xs.length c ∧ ∀ j, j < xs.length → ∃ g q, p = some ⟨g, q, none⟩ ∧ xs.length ≤ c ∧ w.cell? ⟨g, q + j, none⟩ = some (.int .u64 ((xs.getD j 0 : Nat) : Int)) := by
  rcases h with ⟨rfl, rfl⟩ | ⟨g, q, c, rfl, h1, h2, h3⟩
  · exact ⟨none, 0, rfl, fun j hj => absurd hj (Nat.not_lt_zero _)⟩
  · exact ⟨_, c, rfl, fun j hj => ⟨g, q, rfl, h1, h3 j hj⟩⟩
theorem num_any (w : World) (n : Int) : Calls Try.prog 17 #[.int .i64 n] w fun e w' => e = .returned (.int .i64 n) ∧ w = w' := by
  go_enter Try.func17, Try.ntmps17
  go_wp2
  go_ret
  exact ⟨rfl, rfl⟩
set_option maxRecDepth 100000 in
theorem same10_any {w : World} {v1 v2 : Value} {xs ys : List Nat} (h1 : USl w v1 xs) (h2 : USl w v2 ys) (hx : xs.length ≤ 1000000000) (hy : ys.length ≤ 1000000000) :
    Calls Try.prog 21 #[v1, v2] w fun e w' => e = .returned (.bool (decide (xs = ys))) ∧ Gr w w' := by
  obtain ⟨p1, c1, rfl, hp1⟩ := h1.form
  obtain ⟨p2, c2, rfl, hp2⟩ := h2.form
  obtain ⟨N, hN⟩ : ∃ N, N = xs.length := ⟨_, rfl⟩
  obtain ⟨M, hM⟩ : ∃ M, M = ys.length := ⟨_, rfl⟩
  have H1 := Lib.hid hp1
  have H2 := Lib.hid hp2
  rw [show (Value.slice p1 xs.length c1) = .slice p1 N c1 by rw [hN], show (Value.slice p2 ys.length c2) = .slice p2 M c2 by rw [hM]]
  have HN := Lib.hid (And.intro hN hM)
  have hNb : N ≤ 1000000000 := by omega
  clear h1 h2 hp1 hp2 hx hy
  by_cases hl : N = M
  · subst hl
    clear hN hM
    go_enter Try.func21, Try.ntmps21
    go_wp2_with fail
    go_loopw [5] (fun i wr => ∃ j : Nat, i = .int .i64 (j : Int) ∧ j ≤ N ∧ Hid (Gr w wr ∧ xs.take j = ys.take j)) (fun i _ => N - (intOf i).toNat)
    case atStart => exact ⟨0, rfl, by omega, Lib.hid ⟨Gr.refl w, by simp⟩⟩
    case round =>
      obtain ⟨j, rfl, hj, HR⟩ := hrel
      by_cases hlt : j < N
      · obtain ⟨g1, q1, e1, i1, s1⟩ := H1.out j (by rw [← HN.out.1]; exact hlt)
        obtain ⟨g2, q2, e2, i2, s2⟩ := H2.out j (by rw [← HN.out.2]; exact hlt)
        subst e1 e2
        have s1' := (HR.out.1.cell (blk_lt' s1)).trans s1
        have s2' := (HR.out.1.cell (blk_lt' s2)).trans s2
        obtain ⟨X, hX⟩ : ∃ X, X = xs.getD j 0 := ⟨_, rfl⟩
        obtain ⟨Y, hY⟩ : ∃ Y, Y = ys.getD j 0 := ⟨_, rfl⟩
        rw [← hX] at s1'
        rw [← hY] at s2'
        have hjx : j < xs.length := by rw [← HN.out.1]; exact hlt
        have hjy : j < ys.length := by rw [← HN.out.2]; exact hlt
        have hX' : X = xs[j] := by rw [hX]; simp [List.getD, hjx]
        have hY' : Y = ys[j] := by rw [hY]; simp [List.getD, hjy]
        have ed : decide ((j : Int) < (N : Int)) = true := decide_eq_true (by omega)
        have hp0 : (0 : Int) ≤ (j : Int) := by omega
        by_cases hXY : X = Y
        · have HS := Lib.hid (show xs.take (j + 1) = ys.take (j + 1) by rw [List.take_succ_eq_append_getElem hjx, List.take_succ_eq_append_getElem hjy, HR.out.2, ← hX', ← hY', hXY])
          subst hXY
          clear hX hY hX' hY' hjx hjy s1 s2 i1 i2
          go_wp2_with fail
          go_quiet (fail)
          go_wp2_with fail
          go_roundw
          case rel => exact ⟨j + 1, by simp, by omega, Lib.hid ⟨grD HR.out.1, HS.out⟩⟩
          case measure => simp [intOf]; omega
        · have HS := Lib.hid (show ¬ xs = ys from fun e => hXY (by rw [hX, hY, e]))
          have hb : ((X : Int) == (Y : Int)) = false := by simp; omega
          have hb2 : ((X : Int) != (Y : Int)) = true := by simp; omega
          clear hX hY hX' hY' hjx hjy s1 s2 i1 i2 hXY
          go_wp2_with fail
          go_quiet (fail)
          go_wp2_with fail
          go_ret
          exact ⟨by rw [decide_eq_false HS.out]; rfl, grD HR.out.1⟩
      · have hjN : j = N := by omega
        subst hjN
        have HS := Lib.hid (show xs = ys by
          have e := HR.out.2
          rw [List.take_of_length_le (by rw [← HN.out.1]; exact Nat.le_refl _), List.take_of_length_le (by rw [← HN.out.2]; exact Nat.le_refl _)] at e
          exact e)
        have ed : decide ((j : Int) < (j : Int)) = false := decide_eq_false (by omega)
        go_wp2_with fail
        go_ret
        exact ⟨by rw [decide_eq_true HS.out]; rfl, HR.out.1⟩
  · have hv : ¬ xs = ys := fun e => hl (by rw [hN, hM, e])
    have HV := Lib.hid hv
    have hb2 : ((N : Int) != (M : Int)) = true := by simp; omega
    clear hN hM hv
    go_enter Try.func21, Try.ntmps21
    go_wp2_with fail
    go_ret
    exact ⟨by rw [decide_eq_false HV.out]; rfl, Gr.refl w⟩
end Go.Proofs.Ytgpaikaccipfjaa
