import Derived.Test.YtmmhfjcaejkmiaaProg
import Derived.Test.YtmmhfjcaejkmiaaWords
namespace Go.Proofs.Ytmmhfjcaejkmiaa
open Go.RowKit Cr
theorem btc : BT Try.prog 23 5 := ⟨Try.underlying23, by kernel_rfl⟩
theorem sz_grid : (Try.prog.info? 47).map (·.size) = some 32 := by kernel_rfl
theorem sz_table : (Try.prog.info? 43).map (·.size) = some 16 := by kernel_rfl
theorem sz_u32 : (Try.prog.info? 25).map (·.size) = some 1 := by kernel_rfl
theorem ix_grid (f : Nat → W) (i : Nat) (hi : i < 32) (w : World) : (Instr.index 47 (.agg (words 32 f)) (.int .i64 i)).run Try.prog w = .ok (.int .u32 (U (f i))) w :=
  run_index_words Try.underlying47 Try.underlying25 sz_u32 f i hi w
end Go.Proofs.Ytmmhfjcaejkmiaa
