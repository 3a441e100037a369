
import Derived.Test.YtchfhgeipmfegaaCrc1
namespace Go.Proofs.Ytchfhgeipmfegaa
open Go.RowKit Cr

theorem and_one (m : Nat) (h : m < 9223372036854775808) : bits .and .i64 (m : Int) 1 = ((m % 2 : Nat) : Int) := by
  have hx : m &&& 1 < 2 ^ 63 := Nat.and_lt_two_pow _ (by omega)
  show IntKind.i64.wrap ((BitVec.ofInt 64 (m : Int) &&& BitVec.ofInt 64 ((1 : Nat) : Int)).toNat : Int) = _
  have h2 : (BitVec.ofInt 64 ((m : Nat) : Int)).toNat = m := by rw [BitVec.ofInt_natCast, BitVec.toNat_ofNat]; exact Nat.mod_eq_of_lt (by omega)
  have h3 : (BitVec.ofInt 64 ((1 : Nat) : Int)).toNat = 1 := rfl
  rw [BitVec.toNat_and, h2, h3, Nat.and_one_is_mod, IntKind.wrap_i64]
  omega

end Go.Proofs.Ytchfhgeipmfegaa
