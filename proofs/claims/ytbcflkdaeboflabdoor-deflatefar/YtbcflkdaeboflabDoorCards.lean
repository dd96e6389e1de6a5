/-
  DERIVED. GIVEN WITH THE SEED: THE CARDS: each row of YtbcflkdaeboflabDoorRows.lean that lists a variable, with what it lists TIED to the program's text (the seventh form; the later family's looks); each row that meets fmt, with fmt's text TOLD by the authors' own Lean function (tested against real Go, not proved from fmt's source: count such statements apart). THE CARD IS WHAT COUNTS. Prove the row's statement (the work); the ties are given (YtbcflkdaeboflabDoorTie.lean); close each card by the builder's one call (the guide's Derived/Test/ToyasCard.lean, 'card_holds'). Laid BY PROGRAM, IN A SANDBOX (cutbox-door.mjs). By AI agents, Wed Nov 11 2026. No macro, syntax, notation, axiom, sorry.
-/
import Derived.Test.YtbcflkdaeboflabDoorRows
import GoSem.ClaimSeven
namespace Go.Proofs.YtbcflkdaeboflabDoor
namespace Rows

/-- THE TIED CARD OF 'postroadlaw05.DeflateFar'. -/
def deflateFarCard : Claim7 := { stood := { row := deflateFarRow, standIns := [], harness := (true, "580283c25c090e63717606f9297fd7dad85c228d9d05c6ee68610ff5ead73790"), looks := false }, kinds := [], alts := [], laidByText := true, laidKinds := [.data], laidTests := true, laidLooks := .later }
def DeflateFarCardSaid : Prop := Claim7.holds Tryd.pinned (.plain (OpenSpec.ofChange deflateFarSpec)) deflateFarCard

/-- THE SECOND FORM's CARD OF 'postroadlaw05.DeflateFar'. -/
def deflateFarUptoCard : Claim7 := { stood := { row := deflateFarUptoRow, standIns := [], harness := (true, "580283c25c090e63717606f9297fd7dad85c228d9d05c6ee68610ff5ead73790"), looks := false }, kinds := [], alts := [], laidByText := true, laidKinds := [.data], laidTests := true, laidLooks := .later }
def DeflateFarUptoCardSaid : Prop := Claim7.holds Tryd.pinned (.plain (OpenSpec.upto deflateFarSpec)) deflateFarUptoCard
end Rows
end Go.Proofs.YtbcflkdaeboflabDoor
