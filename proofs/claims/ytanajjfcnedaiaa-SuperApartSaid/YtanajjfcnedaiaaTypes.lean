
import Derived.Test.YtanajjfcnedaiaaProg
import Derived.Test.YtanajjfcnedaiaaWords
namespace Go.Proofs.Ytanajjfcnedaiaa
open Go.RowKit Cr
theorem btc : BT Try.prog 71 5 := ⟨Try.underlying71, by kernel_rfl⟩
theorem sz_table : (Try.prog.info? 92).map (·.size) = some 16 := by kernel_rfl
theorem sz_u32 : (Try.prog.info? 78).map (·.size) = some 1 := by kernel_rfl
end Go.Proofs.Ytanajjfcnedaiaa
