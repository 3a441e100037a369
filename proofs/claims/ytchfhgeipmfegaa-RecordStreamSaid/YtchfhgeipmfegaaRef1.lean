
import Derived.Test.YtchfhgeipmfegaaWire2
namespace Go.Proofs.Ytchfhgeipmfegaa
open Go.RowKit

theorem div_rounds (n k : Nat) : n / 256 ^ k / 256 = n / 256 ^ (k + 1) := by rw [Nat.pow_succ, Nat.div_div_eq_div_mul]

theorem refGet_any (p : Option Addr) (n c : Nat) (xs : List Int) (w : World) (h : Byt w p n c xs) (h8 : n ≤ 8) : Calls Try.prog 53 #[.slice p n c] w fun e w' => e = .returned (.int .u64 (Wd.dec xs)) ∧ w = w' := by
  have hlen := h.len
  have hsm := Lib.hid h.small
  rcases Nat.eq_zero_or_pos n with rfl | hn
  · obtain rfl : xs = [] := List.eq_nil_of_length_eq_zero hlen
    go_enter Try.func53, Try.ntmps53
    go_wp2
    go_rounds 1
    go_ret
    exact ⟨rfl, rfl⟩
  · obtain ⟨b, o, rfl, hc⟩ := h.at hn
    have Hlen := Lib.hid hlen
    have Hc := Lib.hid hc
    clear hc hlen h
    go_enter Try.func53, Try.ntmps53
    go_wp2
    go_loop [3, 4] (fun t i => ∃ k : Nat, k ≤ n ∧ i = .int .i64 k ∧ t = .int .u64 (Wd.dec (xs.drop k))) (fun _ i => (intOf i).toNat)
    case atStart => exact ⟨n, Nat.le_refl _, rfl, by rw [List.drop_eq_nil_of_le (by rw [Hlen.out]; exact Nat.le_refl _)]; rfl⟩
    case round =>
      obtain ⟨k, hk, rfl, rfl⟩ := hrel
      by_cases hlt : 0 < k
      · obtain ⟨j, rfl⟩ : ∃ j, k = j + 1 := ⟨k - 1, by omega⟩
        have hcell : w.cell? ⟨b, o + j, none⟩ = some (.int .u8 (xs.getD j 0)) := Hc.out j (by omega)
        have hs := hsm.out.getD j
        have hst := Wd.dec_drop xs j (by rw [Hlen.out]; omega)
        have hlt2 : Wd.dec (xs.drop (j + 1)) < 72057594037927936 := by
          have h1 := Wd.dec_lt _ (hsm.out.drop (j + 1))
          have h2 : (xs.drop (j + 1)).length ≤ 7 := by rw [List.length_drop, Hlen.out]; omega
          have h3 := Wd.pow_lt _ h2
          omega
        generalize hx : xs.getD j 0 = x at *
        generalize hy : Wd.dec (xs.drop (j + 1)) = y at *
        have Hst := Lib.hid hst
        clear hst hx hy
        obtain ⟨X, rfl⟩ := Int.eq_ofNat_of_zero_le hs.1
        have hs2 : (X : Int) < 256 := hs.2
        clear hs
        go_wp2
        go_round
        case rel => exact ⟨j, by omega, by go_num, congrArg (Value.int .u64) (by rw [Hst.out]; simp; omega)⟩
        case measure => simp [intOf]
      · obtain rfl : k = 0 := by omega
        go_wp2
        go_ret
        exact ⟨rfl, rfl⟩

end Go.Proofs.Ytchfhgeipmfegaa
