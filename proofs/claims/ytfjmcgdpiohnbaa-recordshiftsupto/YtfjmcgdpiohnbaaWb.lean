/- Writer.Bits: the bits of a number behind those that were written. -/
import Derived.Test.YtfjmcgdpiohnbaaWm
namespace Go.Proofs.Ytfjmcgdpiohnbaa
open Go.RowKit
set_option linter.unusedVariables false

theorem Try.infoU8 : (Try.prog.info? 5).map (fun i => (i.zero, i.size, i.bytes)) = some (some (.int .u8 0), 1, 1) := by kernel_rfl
end Go.Proofs.Ytfjmcgdpiohnbaa
