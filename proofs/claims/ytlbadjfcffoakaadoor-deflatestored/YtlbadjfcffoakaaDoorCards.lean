/-
  DERIVED. GIVEN WITH THE SEED: THE CARDS: each row of YtlbadjfcffoakaaDoorRows.lean that lists a variable, with what it lists TIED to the program's text (the seventh form; the later family's looks); each row that meets fmt, with fmt's text TOLD by the authors' own Lean function (tested against real Go, not proved from fmt's source: count such statements apart). THE CARD IS WHAT COUNTS. Prove the row's statement (the work); the ties are given (YtlbadjfcffoakaaDoorTie.lean); close each card by the builder's one call (the guide's Derived/Test/ToyasCard.lean, 'card_holds'). Laid BY PROGRAM, IN A SANDBOX (cutbox-door.mjs). By AI agents, Wed Nov 11 2026. No macro, syntax, notation, axiom, sorry.
-/
import Derived.Test.YtlbadjfcffoakaaDoorRows
import GoSem.ClaimSeven
namespace Go.Proofs.YtlbadjfcffoakaaDoor
namespace Rows

/-- THE TIED CARD OF 'postroadlaw05.DeflateStored'. -/
def deflateStoredCard : Claim7 := { stood := { row := deflateStoredRow, standIns := [], harness := (true, "8f4dee2a65a69978d9e492a948153bf0f2b80d1e7bb38a9fbf7f80bce08cd6de"), looks := false }, kinds := [], alts := [], laidByText := true, laidKinds := [.data], laidTests := true, laidLooks := .later }
def DeflateStoredCardSaid : Prop := Claim7.holds Tryd.pinned (.plain (OpenSpec.ofChange deflateStoredSpec)) deflateStoredCard

/-- THE SECOND FORM's CARD OF 'postroadlaw05.DeflateStored'. -/
def deflateStoredUptoCard : Claim7 := { stood := { row := deflateStoredUptoRow, standIns := [], harness := (true, "8f4dee2a65a69978d9e492a948153bf0f2b80d1e7bb38a9fbf7f80bce08cd6de"), looks := false }, kinds := [], alts := [], laidByText := true, laidKinds := [.data], laidTests := true, laidLooks := .later }
def DeflateStoredUptoCardSaid : Prop := Claim7.holds Tryd.pinned (.plain (OpenSpec.upto deflateStoredSpec)) deflateStoredUptoCard
end Rows
end Go.Proofs.YtlbadjfcffoakaaDoor
