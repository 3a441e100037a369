import Derived.Test.YtcbmgdigidpbeaaWire2
namespace Go.Proofs.Ytcbmgdigidpbeaa
open Go.RowKit

theorem div_rounds (n k : Nat) : n / 256 ^ k / 256 = n / 256 ^ (k + 1) := by rw [Nat.pow_succ, Nat.div_div_eq_div_mul]

theorem refMay_any (n : Nat) (s : Int) (w : World) (hn : n ≤ 18446744073709551615) : Calls Try.prog 10 #[.int .u64 n, .int .i64 s] w fun e w' => e = .returned (.bool (fitsB n s)) ∧ w = w' := by
  by_cases h1 : s < 1
  · have hf : Hid (fitsB n s = false) := by show _ = _; simp [fitsB, mayB_no (show ¬ (1 ≤ s ∧ s ≤ 8) by omega)]
    go_enter Try.func10, Try.ntmps10
    go_wp2
    go_ret
    exact ⟨ret_b hf.out.symm, rfl⟩
  by_cases h2 : 8 < s
  · have hf : Hid (fitsB n s = false) := by show _ = _; simp [fitsB, mayB_no (show ¬ (1 ≤ s ∧ s ≤ 8) by omega)]
    go_enter Try.func10, Try.ntmps10
    go_wp2
    go_ret
    exact ⟨ret_b hf.out.symm, rfl⟩
  obtain ⟨k, rfl⟩ := Int.eq_ofNat_of_zero_le (show 0 ≤ s by omega)
  have hf : Hid (fitsB n k = decide (n < 256 ^ k)) := by show _ = _; simp [fitsB, mayB_yes (show (1 : Int) ≤ k by omega) (show (k : Int) ≤ 8 by omega)]
  go_enter Try.func10, Try.ntmps10
  go_wp2
  go_loop [0, 5] (fun t i => ∃ j : Nat, j ≤ k ∧ i = .int .i64 j ∧ t = .int .u64 ((n / 256 ^ j : Nat) : Int)) (fun _ i => k - (intOf i).toNat)
  case atStart => exact ⟨0, Nat.zero_le _, rfl, by simp⟩
  case round =>
    obtain ⟨j, hj, rfl, rfl⟩ := hrel
    have hd := Lib.hid (div_rounds n j)
    have hmx : n / 256 ^ j ≤ 18446744073709551615 := Nat.le_trans (Nat.div_le_self _ _) hn
    generalize hm : n / 256 ^ j = m at *
    have HM := Lib.hid hm
    clear hm
    by_cases hlt : j < k
    · go_wp2
      go_round
      case rel => exact ⟨j + 1, by omega, by go_num, congrArg (Value.int .u64) (by rw [← hd.out]; rfl)⟩
      case measure => simp [intOf]; omega
    · obtain rfl : j = k := by omega
      go_wp2
      go_ret
      refine ⟨ret_b ?_, rfl⟩
      rw [hf.out, Bool.eq_iff_iff]
      have hp : 0 < 256 ^ j := Nat.pos_of_ne_zero (by simp)
      simp only [beq_iff_eq, decide_eq_true_eq]
      rw [show ((m : Nat) : Int) = 0 ↔ m = 0 by omega, ← HM.out, Nat.div_eq_zero_iff]
      omega

theorem refGet_any (p : Option Addr) (n c : Nat) (xs : List Int) (w : World) (h : Byt w p n c xs) (h8 : n ≤ 8) : Calls Try.prog 14 #[.slice p n c] w fun e w' => e = .returned (.int .u64 (Wd.dec xs)) ∧ w = w' := by
  have hlen := h.len
  have hsm := Lib.hid h.small
  rcases Nat.eq_zero_or_pos n with rfl | hn
  · obtain rfl : xs = [] := List.eq_nil_of_length_eq_zero hlen
    go_enter Try.func14, Try.ntmps14
    go_wp2
    go_rounds 1
    go_ret
    exact ⟨rfl, rfl⟩
  · obtain ⟨b, o, rfl, hc⟩ := h.at hn
    have Hlen := Lib.hid hlen
    have Hc := Lib.hid hc
    clear hc hlen h
    go_enter Try.func14, Try.ntmps14
    go_wp2
    go_loop [3, 4] (fun t i => ∃ k : Nat, k ≤ n ∧ i = .int .i64 k ∧ t = .int .u64 (Wd.dec (xs.drop k))) (fun _ i => (intOf i).toNat)
    case atStart => exact ⟨n, Nat.le_refl _, rfl, by rw [List.drop_eq_nil_of_le (by rw [Hlen.out]; exact Nat.le_refl _)]; rfl⟩
    case round =>
      obtain ⟨k, hk, rfl, rfl⟩ := hrel
      by_cases hlt : 0 < k
      · obtain ⟨j, rfl⟩ : ∃ j, k = j + 1 := ⟨k - 1, by omega⟩
        have hcell : w.cell? ⟨b, o + j, none⟩ = some (.int .u8 (xs.getD j 0)) := Hc.out j (by omega)
        have hs := hsm.out.getD j
        have hst := Wd.dec_drop xs j (by rw [Hlen.out]; omega)
        have hlt2 : Wd.dec (xs.drop (j + 1)) < 72057594037927936 := by
          have h1 := Wd.dec_lt _ (hsm.out.drop (j + 1))
          have h2 : (xs.drop (j + 1)).length ≤ 7 := by rw [List.length_drop, Hlen.out]; omega
          have h3 := Wd.pow_lt _ h2
          omega
        generalize hx : xs.getD j 0 = x at *
        generalize hy : Wd.dec (xs.drop (j + 1)) = y at *
        have Hst := Lib.hid hst
        clear hst hx hy
        obtain ⟨X, rfl⟩ := Int.eq_ofNat_of_zero_le hs.1
        have hs2 : (X : Int) < 256 := hs.2
        clear hs
        go_wp2
        go_round
        case rel => exact ⟨j, by omega, by go_num, congrArg (Value.int .u64) (by rw [Hst.out]; simp; omega)⟩
        case measure => simp [intOf]
      · obtain rfl : k = 0 := by omega
        go_wp2
        go_ret
        exact ⟨rfl, rfl⟩

/-- What There answers. -/
theorem refThere_any (n : Nat) (f s : Int) (w : World) (hn : (n : Int) ≤ 9223372036854775807) : Calls Try.prog 16 #[.int .i64 n, .int .i64 f, .int .i64 s] w fun e w' => e = .returned (.bool (standsB n f s)) ∧ w = w' := by
  by_cases h1 : 1 ≤ s
  · by_cases h2 : s ≤ 8
    · by_cases h3 : 0 ≤ f
      · by_cases h4 : s ≤ n
        · by_cases h5 : f ≤ n - s
          · have hf : Hid (standsB n f s = true) := standsB_iff.2 ⟨h1, h2, h3, by omega⟩
            go_enter Try.func16, Try.ntmps16
            go_wp2
            go_ret
            exact ⟨ret_b hf.out.symm, rfl⟩
          · have hf : Hid (standsB n f s = false) := by show _ = _; rw [Bool.eq_false_iff, ne_eq, standsB_iff]; omega
            have hd : decide (f ≤ (n : Int) - s) = false := decide_eq_false h5
            go_enter Try.func16, Try.ntmps16
            go_wp2
            go_ret
            exact ⟨ret_b (by rw [hf.out]), rfl⟩
        · have hf : Hid (standsB n f s = false) := by show _ = _; rw [Bool.eq_false_iff, ne_eq, standsB_iff]; omega
          go_enter Try.func16, Try.ntmps16
          go_wp2
          go_ret
          exact ⟨ret_b hf.out.symm, rfl⟩
      · have hf : Hid (standsB n f s = false) := by show _ = _; rw [Bool.eq_false_iff, ne_eq, standsB_iff]; omega
        go_enter Try.func16, Try.ntmps16
        go_wp2
        go_ret
        exact ⟨ret_b hf.out.symm, rfl⟩
    · have hf : Hid (standsB n f s = false) := by show _ = _; rw [Bool.eq_false_iff, ne_eq, standsB_iff]; omega
      go_enter Try.func16, Try.ntmps16
      go_wp2
      go_ret
      exact ⟨ret_b hf.out.symm, rfl⟩
  · have hf : Hid (standsB n f s = false) := by show _ = _; rw [Bool.eq_false_iff, ne_eq, standsB_iff]; omega
    go_enter Try.func16, Try.ntmps16
    go_wp2
    go_ret
    exact ⟨ret_b hf.out.symm, rfl⟩

end Go.Proofs.Ytcbmgdigidpbeaa
