/- Merging, whatever the parts; so the sort of packs. -/
import Derived.Test.YtklipommocijaaaGzg
import Derived.Test.YtklipommocijaaaGzh
namespace Go.Proofs.Ytklipommocijaaa
open Go.RowKit PT Go.Sort
set_option linter.unusedVariables false

theorem symAt_all : ∀ n, SymAt n
  | 0 => fun w0 blk off cap N a m b d0 d w hn => by omega
  | n + 1 => fun w0 blk off cap N a m b d0 d w hn hst hN ham hmb hb hs1 hs2 => by
    by_cases h1 : m = a + 1
    · subst h1
      exact symOne w0 blk off cap N a b d0 d w hst hN hmb hb hs2
    · by_cases h2 : b = m + 1
      · subst h2
        exact symLast w0 blk off cap N a m d0 d w hst hN (by omega) hb hs1
      · by_cases h3 : (a + b) / 2 < m
        · exact symGenA n (symAt_all n) w0 blk off cap N a m b d0 d w hn hst hN (by omega) (by omega) hb hs1 hs2 h3
        · exact symGenB n (symAt_all n) w0 blk off cap N a m b d0 d w hn hst hN (by omega) (by omega) hb hs1 hs2 (by omega)
theorem symOK : SymOK := fun w0 blk off cap N a m b d0 d w hst hN ham hmb hb hs1 hs2 => symAt_all (b - a + 1) w0 blk off cap N a m b d0 d w (by omega) hst hN ham hmb hb hs1 hs2
theorem sorts_all (n : Nat) (h : n ≤ 288) : SortsTo n := sorts_of n (by omega) (fun _ => symOK)
end Go.Proofs.Ytklipommocijaaa
