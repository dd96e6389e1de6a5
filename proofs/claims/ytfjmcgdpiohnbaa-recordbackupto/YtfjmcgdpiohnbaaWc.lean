/- The writer's other calls: refusals, Align, Bytes, Place, Done. -/
import Derived.Test.YtfjmcgdpiohnbaaWb
import Derived.Test.YtfjmcgdpiohnbaaWn
namespace Go.Proofs.Ytfjmcgdpiohnbaa
open Go.RowKit
set_option linter.unusedVariables false

/-- A block of another type than a row's is as it was when the row grows. -/
theorem row_kept {w w' : World} {B b size n : Nat} {E T : TypeId} {v : Value} {xs : List Value} {cs : Array Value} {mk : Nat × Nat} (hbl : w.heap[b]? = some (.cells cs T mk)) (hT : T ≠ E) (hown : w.ownsRow B E size v n xs) (hg : w.grownBy w' v.ownBlock) : w'.heap[b]? = w.heap[b]? :=
  hg.block b (lt_of_block hbl) (fun e => by
    rcases hown.2 with ⟨rfl, _⟩ | ⟨g', cap', cur, rfl, _, hh, _⟩
    · simp [Value.ownBlock] at e
    · have e' : b = g' := by simpa [Value.ownBlock] using e
      subst e'; rw [hbl] at hh; cases hh; exact hT rfl)
end Go.Proofs.Ytfjmcgdpiohnbaa
