/- Giving up: a panic that carries an error, and the deferred closure that catches it. -/
import Derived.Test.YtlbadjfcffoakaaDoorChecked
import Derived.Tactics2
import Derived.WalkKit
import Derived.WalkLawsBesides
import Derived.ProofKit
import Derived.Defers
import Derived.Recover
import Derived.Laws.Pointers
namespace Go.Proofs.YtlbadjfcffoakaaDoor
open Go.RowKit
set_option linter.unusedVariables false
set_option maxRecDepth 20000

end Go.Proofs.YtlbadjfcffoakaaDoor
