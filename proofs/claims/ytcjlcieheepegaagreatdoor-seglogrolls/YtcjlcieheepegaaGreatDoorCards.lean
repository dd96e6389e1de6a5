/-
  DERIVED. GIVEN WITH THE SEED: THE CARDS: each row of YtcjlcieheepegaaGreatDoorRows.lean that lists a variable, with what it lists TIED to the program's text (the seventh form; the later family's looks); each row that meets fmt, with fmt's text TOLD by the authors' own Lean function (tested against real Go, not proved from fmt's source: count such statements apart). THE CARD IS WHAT COUNTS. Prove the row's statement (the work); the ties are given (YtcjlcieheepegaaGreatDoorTie.lean); close each card by the builder's one call (the guide's Derived/Test/ToyasCard.lean, 'card_holds'). Laid BY PROGRAM, IN A SANDBOX (cutbox-door.mjs). By AI agents, Wed Nov 11 2026. No macro, syntax, notation, axiom, sorry.
-/
import Derived.Test.YtcjlcieheepegaaGreatDoorRows
import GoSem.ClaimSeven
namespace Go.Proofs.YtcjlcieheepegaaGreatDoor
namespace Rows

/-- THE TIED CARD OF 'postroadlaw12.SeglogRolls'. -/
def seglogRollsCard : Claim7 := { stood := { row := seglogRollsRow, standIns := [], harness := (true, "fb2e966a23ed0c75fbac39e43a4aaffef42922841ddd6f5259f03476a4697894"), looks := true }, kinds := [], alts := [], laidByText := true, laidKinds := [.data, .data, .data, .sentinel, .sentinel, .data, .data, .data], laidTests := true, laidLooks := .later }
def SeglogRollsCardSaid : Prop := Claim7.holds Tryz.pinned (.plain (OpenSpec.ofChange seglogRollsSpec)) seglogRollsCard

/-- THE SECOND FORM's CARD OF 'postroadlaw12.SeglogRolls'. -/
def seglogRollsUptoCard : Claim7 := { stood := { row := seglogRollsUptoRow, standIns := [], harness := (true, "fb2e966a23ed0c75fbac39e43a4aaffef42922841ddd6f5259f03476a4697894"), looks := true }, kinds := [], alts := [], laidByText := true, laidKinds := [.data, .data, .data, .sentinel, .sentinel, .data, .data, .data], laidTests := true, laidLooks := .later }
def SeglogRollsUptoCardSaid : Prop := Claim7.holds Tryz.pinned (.plain (OpenSpec.upto seglogRollsSpec)) seglogRollsUptoCard
end Rows
end Go.Proofs.YtcjlcieheepegaaGreatDoor
