
import Derived.Test.YtchfhgeipmfegaaProg
import Derived.Test.YtchfhgeipmfegaaKit
namespace Go.Proofs.Ytchfhgeipmfegaa
open Go.RowKit

/-- may: is there a word of so many bytes? -/
def mayB (s : Int) : Bool := decide (1 ≤ s ∧ s ≤ 8)

theorem may_any (s : Int) (w : World) : Calls Try.prog 97 #[.int .i64 s] w fun e w' => e = .returned (.bool (mayB s)) ∧ w = w' := by
  by_cases h1 : 1 ≤ s
  all_goals by_cases h2 : s ≤ 8
  all_goals
    go_enter Try.func97, Try.ntmps97
    go_wp2
    go_ret
    exact ⟨by simp [mayB]; omega, rfl⟩

theorem mayB_yes {s : Int} (h1 : 1 ≤ s) (h2 : s ≤ 8) : mayB s = true := by simp [mayB]; omega
theorem mayB_no {s : Int} (h : ¬ (1 ≤ s ∧ s ≤ 8)) : mayB s = false := by simp [mayB]; omega
theorem mayB_iff {s : Int} : mayB s = true ↔ 1 ≤ s ∧ s ≤ 8 := by simp [mayB]

/-- fits: does the number fit into a word of so many bytes? -/
def fitsB (n : Nat) (s : Int) : Bool := mayB s && decide (n < 256 ^ s.toNat)

theorem shr_nought (n k : Nat) : (((n : Int) / 2 ^ (8 * k)) == 0) = decide (n < 256 ^ k) := by
  have e2 : ((2 : Int) ^ (8 * k)) = ((256 ^ k : Nat) : Int) := by rw [Wd.pow256, Int.natCast_pow]; rfl
  rw [e2]
  have hp : 0 < 256 ^ k := Nat.pos_of_ne_zero (by simp)
  rw [← Int.natCast_ediv, Bool.eq_iff_iff]
  simp only [beq_iff_eq, decide_eq_true_eq]
  rw [show ((n / 256 ^ k : Nat) : Int) = 0 ↔ n / 256 ^ k = 0 by omega, Nat.div_eq_zero_iff]
  omega

theorem fits_any (n : Nat) (s : Int) (w : World) : Calls Try.prog 91 #[.int .u64 n, .int .i64 s] w fun e w' => e = .returned (.bool (fitsB n s)) ∧ w = w' := by
  by_cases h1 : 1 ≤ s ∧ s ≤ 8
  · obtain ⟨h1, h2⟩ := h1
    obtain ⟨k, rfl⟩ := Int.eq_ofNat_of_zero_le (show 0 ≤ s by omega)
    have hy : Hid (mayB k = true) := mayB_yes h1 h2
    have hz := Lib.hid (shr_nought n k)
    have hf : Hid (fitsB n k = decide (n < 256 ^ k)) := by show _ = _; simp [fitsB, mayB_yes h1 h2]
    go_enter Try.func91, Try.ntmps91
    go_wp2_with fail
    refine (may_any _ _).mono ?_
    rintro e w' ⟨rfl, rfl⟩
    rw [hy.out]
    go_wp2_with fail
    go_ret
    exact ⟨ret_b (by rw [hz.out, hf.out]), rfl⟩
  · have hy : Hid (mayB s = false) := mayB_no h1
    have hf : Hid (fitsB n s = false) := by show _ = _; simp [fitsB, mayB_no h1]
    clear h1
    go_enter Try.func91, Try.ntmps91
    go_wp2_with fail
    refine (may_any _ _).mono ?_
    rintro e w' ⟨rfl, rfl⟩
    rw [hy.out]
    go_wp2_with fail
    go_ret
    exact ⟨ret_b hf.out.symm, rfl⟩

/-- stands: are there so many bytes at that place? -/
def standsB (len : Nat) (f s : Int) : Bool := mayB s && decide (0 ≤ f ∧ f + s ≤ len)

theorem stands_any (p : Option Addr) (len cap : Nat) (f s : Int) (w : World) (hl : (len : Int) ≤ 9223372036854775807) : Calls Try.prog 85 #[.slice p len cap, .int .i64 f, .int .i64 s] w fun e w' => e = .returned (.bool (standsB len f s)) ∧ w = w' := by
  by_cases h1 : 1 ≤ s ∧ s ≤ 8
  · obtain ⟨h1, h2⟩ := h1
    have hy : Hid (mayB s = true) := mayB_yes h1 h2
    by_cases h3 : 0 ≤ f
    all_goals by_cases h4 : f ≤ len - s
    all_goals
      have hf : Hid (standsB len f s = decide (0 ≤ f ∧ f + s ≤ len)) := by show _ = _; simp [standsB, mayB_yes h1 h2]
      go_enter Try.func85, Try.ntmps85
      go_wp2_with fail
      refine (may_any _ _).mono ?_
      rintro e w' ⟨rfl, rfl⟩
      rw [hy.out]
      go_wp2_with fail
      go_ret
      exact ⟨ret_b (by rw [hf.out]; rw [Bool.eq_iff_iff]; simp only [decide_eq_true_eq, true_iff, false_iff, Bool.false_eq_true]; omega), rfl⟩
  · have hy : Hid (mayB s = false) := mayB_no h1
    have hf : Hid (standsB len f s = false) := by show _ = _; simp [standsB, mayB_no h1]
    clear h1
    go_enter Try.func85, Try.ntmps85
    go_wp2_with fail
    refine (may_any _ _).mono ?_
    rintro e w' ⟨rfl, rfl⟩
    rw [hy.out]
    go_wp2_with fail
    go_ret
    exact ⟨ret_b hf.out.symm, rfl⟩

theorem or_step (a k : Nat) (x : Int) (ha : a < 256 ^ k) (hk : k ≤ 7) (h0 : 0 ≤ x) (h1 : x < 256) :
    bits BinOp.or IntKind.u64 (a : Int) (IntKind.u64.wrap (IntKind.u64.wrap x * 2 ^ (8 * k))) = ((a + 256 ^ k * x.toNat : Nat) : Int) := by
  obtain ⟨y, rfl⟩ := Int.eq_ofNat_of_zero_le h0
  have hp := Wd.pow_lt k hk
  have e1 : IntKind.u64.wrap (y : Int) = y := by rw [IntKind.wrap_u64]; omega
  have e2 : ((y : Int) * 2 ^ (8 * k)) = ((y * 256 ^ k : Nat) : Int) := by rw [Wd.pow256, Int.natCast_mul, Int.natCast_pow]; rfl
  have h3 : y * 256 ^ k ≤ 255 * 256 ^ k := Nat.mul_le_mul_right _ (by omega)
  have e3 : IntKind.u64.wrap ((y * 256 ^ k : Nat) : Int) = ((y * 256 ^ k : Nat) : Int) := by rw [IntKind.wrap_u64]; omega
  have hA : a < 18446744073709551616 := by omega
  have hB : y * 256 ^ k < 18446744073709551616 := by omega
  rw [e1, e2, e3, u64_or_nat a (y * 256 ^ k) hA hB, Nat.or_comm, nat_join (8 * k) _ _ (by rw [← Wd.pow256]; exact Nat.mul_mod_left _ _) (by rw [← Wd.pow256]; exact ha)]
  simp [Nat.mul_comm, Nat.add_comm]

theorem number_any (p : Option Addr) (n c : Nat) (xs : List Int) (w : World) (h : Byt w p n c xs) (h8 : n ≤ 8) : Calls Try.prog 86 #[.slice p n c] w fun e w' => e = .returned (.int .u64 (Wd.dec xs)) ∧ w = w' := by
  have hlen := h.len
  have hsm := Lib.hid h.small
  rcases Nat.eq_zero_or_pos n with rfl | hn
  · obtain rfl : xs = [] := List.eq_nil_of_length_eq_zero hlen
    go_enter Try.func86, Try.ntmps86
    go_wp2
    go_rounds 1
    go_ret
    exact ⟨rfl, rfl⟩
  · obtain ⟨b, o, rfl, hc⟩ := h.at hn
    have Hlen := Lib.hid hlen
    have Hc := Lib.hid hc
    clear hc hlen h
    go_enter Try.func86, Try.ntmps86
    go_wp2
    go_loop [3, 7] (fun t i => ∃ k : Nat, k ≤ n ∧ i = .int .i64 k ∧ t = .int .u64 (Wd.dec (xs.take k))) (fun _ i => n - (intOf i).toNat)
    case atStart => exact ⟨0, Nat.zero_le _, rfl, rfl⟩
    case round =>
      obtain ⟨k, hk, rfl, rfl⟩ := hrel
      by_cases hlt : k < n
      · have hcell : w.cell? ⟨b, o + k, none⟩ = some (.int .u8 (xs.getD k 0)) := Hc.out k hlt
        have hs := hsm.out.getD k
        have hst := or_step (Wd.dec (xs.take k)) k (xs.getD k 0) (by have := Wd.dec_lt _ (hsm.out.take k); rwa [List.length_take, Hlen.out, Nat.min_eq_left hk] at this) (by omega) hs.1 hs.2
        rw [← Wd.dec_take_succ xs k (by rw [Hlen.out]; exact hlt)] at hst
        have Hst := Lib.hid hst
        clear hst hs
        go_wp2
        go_round
        case rel => exact ⟨k + 1, by omega, by go_num, congrArg (Value.int .u64) Hst.out⟩
        case measure => simp [intOf]; omega
      · go_wp2
        go_ret
        exact ⟨ret_i (by rw [List.take_of_length_le (by rw [Hlen.out]; omega)]), rfl⟩

end Go.Proofs.Ytchfhgeipmfegaa
