/- The library's contract of internal/stringslite.Clone, laid at this dump's own numbers. -/
import Derived.Shelf.LaysM
import Derived.Shelf.Strconv.Clone
import Derived.Test.YtlbadjfcffoakaaDoorProg
namespace Go.Proofs
open Go.Shelf
end Go.Proofs
