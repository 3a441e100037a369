
import Derived.Test.YtchfhgeipmfegaaProg
import Derived.Test.YtchfhgeipmfegaaWords
namespace Go.Proofs.Ytchfhgeipmfegaa
open Go.RowKit Cr
theorem btc : BT Try.prog 22 5 := ⟨Try.underlying22, by kernel_rfl⟩
theorem sz_table : (Try.prog.info? 134).map (·.size) = some 16 := by kernel_rfl
theorem sz_u32 : (Try.prog.info? 106).map (·.size) = some 1 := by kernel_rfl
end Go.Proofs.Ytchfhgeipmfegaa
