/-
  DERIVED. GIVEN WITH THE SEED: THE CARDS: each row of YtmokjopffgmfjaaGreatDoorRows.lean that lists a variable, with what it lists TIED to the program's text (the seventh form; the later family's looks); each row that meets fmt, with fmt's text TOLD by the authors' own Lean function (tested against real Go, not proved from fmt's source: count such statements apart). THE CARD IS WHAT COUNTS. Prove the row's statement (the work); the ties are given (YtmokjopffgmfjaaGreatDoorTie.lean); close each card by the builder's one call (the guide's Derived/Test/ToyasCard.lean, 'card_holds'). Laid BY PROGRAM, IN A SANDBOX (cutbox-door.mjs). By AI agents, Wed Nov 11 2026. No macro, syntax, notation, axiom, sorry.
-/
import Derived.Test.YtmokjopffgmfjaaGreatDoorRows
import GoSem.ClaimSeven
namespace Go.Proofs.YtmokjopffgmfjaaGreatDoor
namespace Rows

/-- THE TIED CARD OF 'postroadlaw11.SegmentNobody'. -/
def segmentNobodyCard : Claim7 := { stood := { row := segmentNobodyRow, standIns := [], harness := (true, "752ff6c99e5e882e96e737e1d34044881a64d414c96a9eefcac3d64f70c91022"), looks := true }, kinds := [], alts := [], laidByText := true, laidKinds := [.data, .data, .data], laidTests := true, laidLooks := .later }
def SegmentNobodyCardSaid : Prop := Claim7.holds Tryz.pinned (.plain (OpenSpec.ofChange segmentNobodySpec)) segmentNobodyCard

/-- THE TIED CARD OF 'postroadlaw11.SegmentFull'. -/
def segmentFullCard : Claim7 := { stood := { row := segmentFullRow, standIns := [], harness := (true, "752ff6c99e5e882e96e737e1d34044881a64d414c96a9eefcac3d64f70c91022"), looks := true }, kinds := [], alts := [], laidByText := true, laidKinds := [.data, .data, .data], laidTests := true, laidLooks := .later }
def SegmentFullCardSaid : Prop := Claim7.holds Tryz.pinned (.plain (OpenSpec.ofChange segmentFullSpec)) segmentFullCard

/-- THE TIED CARD OF 'postroadlaw11.SegmentOrder'. -/
def segmentOrderCard : Claim7 := { stood := { row := segmentOrderRow, standIns := [], harness := (true, "752ff6c99e5e882e96e737e1d34044881a64d414c96a9eefcac3d64f70c91022"), looks := true }, kinds := [], alts := [], laidByText := true, laidKinds := [.data, .data, .data], laidTests := true, laidLooks := .later }
def SegmentOrderCardSaid : Prop := Claim7.holds Tryz.pinned (.plain (OpenSpec.ofChange segmentOrderSpec)) segmentOrderCard

/-- THE SECOND FORM's CARD OF 'postroadlaw11.SegmentNobody'. -/
def segmentNobodyUptoCard : Claim7 := { stood := { row := segmentNobodyUptoRow, standIns := [], harness := (true, "752ff6c99e5e882e96e737e1d34044881a64d414c96a9eefcac3d64f70c91022"), looks := true }, kinds := [], alts := [], laidByText := true, laidKinds := [.data, .data, .data], laidTests := true, laidLooks := .later }
def SegmentNobodyUptoCardSaid : Prop := Claim7.holds Tryz.pinned (.plain (OpenSpec.upto segmentNobodySpec)) segmentNobodyUptoCard

/-- THE SECOND FORM's CARD OF 'postroadlaw11.SegmentFull'. -/
def segmentFullUptoCard : Claim7 := { stood := { row := segmentFullUptoRow, standIns := [], harness := (true, "752ff6c99e5e882e96e737e1d34044881a64d414c96a9eefcac3d64f70c91022"), looks := true }, kinds := [], alts := [], laidByText := true, laidKinds := [.data, .data, .data], laidTests := true, laidLooks := .later }
def SegmentFullUptoCardSaid : Prop := Claim7.holds Tryz.pinned (.plain (OpenSpec.upto segmentFullSpec)) segmentFullUptoCard

/-- THE SECOND FORM's CARD OF 'postroadlaw11.SegmentOrder'. -/
def segmentOrderUptoCard : Claim7 := { stood := { row := segmentOrderUptoRow, standIns := [], harness := (true, "752ff6c99e5e882e96e737e1d34044881a64d414c96a9eefcac3d64f70c91022"), looks := true }, kinds := [], alts := [], laidByText := true, laidKinds := [.data, .data, .data], laidTests := true, laidLooks := .later }
def SegmentOrderUptoCardSaid : Prop := Claim7.holds Tryz.pinned (.plain (OpenSpec.upto segmentOrderSpec)) segmentOrderUptoCard
end Rows
end Go.Proofs.YtmokjopffgmfjaaGreatDoor
