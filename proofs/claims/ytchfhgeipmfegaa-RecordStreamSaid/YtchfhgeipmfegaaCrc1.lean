
import Derived.Test.YtchfhgeipmfegaaTypes
import Derived.Deep.RegionLaw
namespace Go.Proofs.Ytchfhgeipmfegaa
open Go.RowKit Cr

/-- The step, in the walk's own words. -/
theorem nought_spell (s : W) : bits BinOp.xor IntKind.u32 (U s / 2) (bits BinOp.and IntKind.u32 (-bits BinOp.and IntKind.u32 (U s) 1 % 4294967296) 2197175160) = U (nought s) := by
  have h2 : (2197175160 : Int) = U poly := rfl
  rw [U_bit, h2]
  show bits BinOp.xor IntKind.u32 (Int.ediv (U s) 2) _ = _
  rw [U_half]
  unfold nought
  cases s.getLsbD 0
  · simp only [Bool.false_eq_true, if_false]
    rw [show (-(0 : Int) % 4294967296) = U 0#32 from rfl, U_and, U_xor, BitVec.zero_and]
  · simp only [if_true]
    rw [show (-(1 : Int) % 4294967296) = U (~~~0#32) from rfl, U_and, U_xor, show (~~~0#32) = BitVec.allOnes 32 from rfl, BitVec.allOnes_and]

set_option maxRecDepth 100000 in
theorem nought_any (s : W) (w : World) : Calls Try.prog 98 #[.int .u32 (U s)] w fun e w' => e = .returned (.int .u32 (U (nought s))) ∧ w = w' := by
  have h0 := U_lo s
  have h1 := U_hi s
  go_enter Try.func98, Try.ntmps98
  go_wp2
  go_ret
  exact ⟨ret_i (nought_spell s), rfl⟩

theorem words32_zero : words 32 (fun _ => 0#32) = #[.int .u32 0, .int .u32 0, .int .u32 0, .int .u32 0, .int .u32 0, .int .u32 0, .int .u32 0, .int .u32 0, .int .u32 0, .int .u32 0, .int .u32 0, .int .u32 0, .int .u32 0, .int .u32 0, .int .u32 0, .int .u32 0, .int .u32 0, .int .u32 0, .int .u32 0, .int .u32 0, .int .u32 0, .int .u32 0, .int .u32 0, .int .u32 0, .int .u32 0, .int .u32 0, .int .u32 0, .int .u32 0, .int .u32 0, .int .u32 0, .int .u32 0, .int .u32 0] := rfl

/-- One bit's word, in the walk's own words. -/
theorem times_spell (f : Nat → W) (s : W) (k : Nat) : bits BinOp.xor IntKind.u32 (U (mix f s k)) (bits BinOp.and IntKind.u32 (U (f k)) (-bits BinOp.and IntKind.u32 (U (s >>> k)) 1 % 4294967296)) = U (mix f s (k + 1)) := by
  have h0 : (s >>> k).getLsbD 0 = s.getLsbD k := by simp
  rw [U_bit, h0, show mix f s (k + 1) = mix f s k ^^^ (if s.getLsbD k then f k else 0#32) from rfl]
  cases s.getLsbD k
  · simp only [Bool.false_eq_true, if_false]
    rw [show (-(0 : Int) % 4294967296) = U 0#32 from rfl, U_and, U_xor, BitVec.and_zero]
  · simp only [if_true]
    rw [show (-(1 : Int) % 4294967296) = U (~~~0#32) from rfl, U_and, U_xor, show (~~~0#32) = BitVec.allOnes 32 from rfl, BitVec.and_allOnes]

end Go.Proofs.Ytchfhgeipmfegaa
