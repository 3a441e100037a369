
import Derived.Test.YtfjdlcgojigogaaProg
import Derived.Test.YtfjdlcgojigogaaWords
namespace Go.Proofs.Ytfjdlcgojigogaa
open Go.RowKit Cr
theorem btc : BT Try.prog 24 5 := ⟨Try.underlying24, by kernel_rfl⟩
theorem sz_table : (Try.prog.info? 87).map (·.size) = some 16 := by kernel_rfl
theorem sz_u32 : (Try.prog.info? 60).map (·.size) = some 1 := by kernel_rfl
end Go.Proofs.Ytfjdlcgojigogaa
