/- FrameTwo: the law's walk. -/
import Derived.Test.YtbncfpbehahidaaGj6
namespace Go.Proofs.Ytbncfpbehahidaa
open Go.RowKit
set_option linter.unusedVariables false
set_option maxRecDepth 20000

theorem toBA_append (l m : List Nat) : toBA l ++ toBA m = toBA (l ++ m) := by
  apply ByteArray.ext
  rw [ByteArray.data_append]
  simp [toBA]
end Go.Proofs.Ytbncfpbehahidaa
