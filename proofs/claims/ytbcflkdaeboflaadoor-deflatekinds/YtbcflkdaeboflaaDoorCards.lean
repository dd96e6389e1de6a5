/-
  DERIVED. GIVEN WITH THE SEED: THE CARDS: each row of YtbcflkdaeboflaaDoorRows.lean that lists a variable, with what it lists TIED to the program's text (the seventh form; the later family's looks); each row that meets fmt, with fmt's text TOLD by the authors' own Lean function (tested against real Go, not proved from fmt's source: count such statements apart). THE CARD IS WHAT COUNTS. Prove the row's statement (the work); the ties are given (YtbcflkdaeboflaaDoorTie.lean); close each card by the builder's one call (the guide's Derived/Test/ToyasCard.lean, 'card_holds'). Laid BY PROGRAM, IN A SANDBOX (cutbox-door.mjs). By AI agents, Wed Nov 11 2026. No macro, syntax, notation, axiom, sorry.
-/
import Derived.Test.YtbcflkdaeboflaaDoorRows
import GoSem.ClaimSeven
namespace Go.Proofs.YtbcflkdaeboflaaDoor
namespace Rows

/-- THE TIED CARD OF 'postroadlaw05.DeflateBack'. -/
def deflateBackCard : Claim7 := { stood := { row := deflateBackRow, standIns := [], harness := (true, "f7b2e090546549cbec87d4724cd55de89b2e752470159612902ad7a214e268d2"), looks := false }, kinds := [], alts := [], laidByText := true, laidKinds := [.data], laidTests := true, laidLooks := .later }
def DeflateBackCardSaid : Prop := Claim7.holds Tryd.pinned (.plain (OpenSpec.ofChange deflateBackSpec)) deflateBackCard

/-- THE TIED CARD OF 'postroadlaw05.DeflateStored'. -/
def deflateStoredCard : Claim7 := { stood := { row := deflateStoredRow, standIns := [], harness := (true, "f7b2e090546549cbec87d4724cd55de89b2e752470159612902ad7a214e268d2"), looks := false }, kinds := [], alts := [], laidByText := true, laidKinds := [.data], laidTests := true, laidLooks := .later }
def DeflateStoredCardSaid : Prop := Claim7.holds Tryd.pinned (.plain (OpenSpec.ofChange deflateStoredSpec)) deflateStoredCard

/-- THE TIED CARD OF 'postroadlaw05.DeflateAgain'. -/
def deflateAgainCard : Claim7 := { stood := { row := deflateAgainRow, standIns := [], harness := (true, "f7b2e090546549cbec87d4724cd55de89b2e752470159612902ad7a214e268d2"), looks := false }, kinds := [], alts := [], laidByText := true, laidKinds := [.data], laidTests := true, laidLooks := .later }
def DeflateAgainCardSaid : Prop := Claim7.holds Tryd.pinned (.plain (OpenSpec.ofChange deflateAgainSpec)) deflateAgainCard

/-- THE TIED CARD OF 'postroadlaw05.DeflateLong'. -/
def deflateLongCard : Claim7 := { stood := { row := deflateLongRow, standIns := [], harness := (true, "f7b2e090546549cbec87d4724cd55de89b2e752470159612902ad7a214e268d2"), looks := false }, kinds := [], alts := [], laidByText := true, laidKinds := [.data], laidTests := true, laidLooks := .later }
def DeflateLongCardSaid : Prop := Claim7.holds Tryd.pinned (.plain (OpenSpec.ofChange deflateLongSpec)) deflateLongCard

/-- THE TIED CARD OF 'postroadlaw05.DeflateKinds'. -/
def deflateKindsCard : Claim7 := { stood := { row := deflateKindsRow, standIns := [], harness := (true, "f7b2e090546549cbec87d4724cd55de89b2e752470159612902ad7a214e268d2"), looks := false }, kinds := [], alts := [], laidByText := true, laidKinds := [.data], laidTests := true, laidLooks := .later }
def DeflateKindsCardSaid : Prop := Claim7.holds Tryd.pinned (.plain (OpenSpec.ofChange deflateKindsSpec)) deflateKindsCard

/-- THE TIED CARD OF 'postroadlaw05.DeflateTwo'. -/
def deflateTwoCard : Claim7 := { stood := { row := deflateTwoRow, standIns := [], harness := (true, "f7b2e090546549cbec87d4724cd55de89b2e752470159612902ad7a214e268d2"), looks := false }, kinds := [], alts := [], laidByText := true, laidKinds := [.data], laidTests := true, laidLooks := .later }
def DeflateTwoCardSaid : Prop := Claim7.holds Tryd.pinned (.plain (OpenSpec.ofChange deflateTwoSpec)) deflateTwoCard

/-- THE SECOND FORM's CARD OF 'postroadlaw05.DeflateBack'. -/
def deflateBackUptoCard : Claim7 := { stood := { row := deflateBackUptoRow, standIns := [], harness := (true, "f7b2e090546549cbec87d4724cd55de89b2e752470159612902ad7a214e268d2"), looks := false }, kinds := [], alts := [], laidByText := true, laidKinds := [.data], laidTests := true, laidLooks := .later }
def DeflateBackUptoCardSaid : Prop := Claim7.holds Tryd.pinned (.plain (OpenSpec.upto deflateBackSpec)) deflateBackUptoCard

/-- THE SECOND FORM's CARD OF 'postroadlaw05.DeflateStored'. -/
def deflateStoredUptoCard : Claim7 := { stood := { row := deflateStoredUptoRow, standIns := [], harness := (true, "f7b2e090546549cbec87d4724cd55de89b2e752470159612902ad7a214e268d2"), looks := false }, kinds := [], alts := [], laidByText := true, laidKinds := [.data], laidTests := true, laidLooks := .later }
def DeflateStoredUptoCardSaid : Prop := Claim7.holds Tryd.pinned (.plain (OpenSpec.upto deflateStoredSpec)) deflateStoredUptoCard

/-- THE SECOND FORM's CARD OF 'postroadlaw05.DeflateAgain'. -/
def deflateAgainUptoCard : Claim7 := { stood := { row := deflateAgainUptoRow, standIns := [], harness := (true, "f7b2e090546549cbec87d4724cd55de89b2e752470159612902ad7a214e268d2"), looks := false }, kinds := [], alts := [], laidByText := true, laidKinds := [.data], laidTests := true, laidLooks := .later }
def DeflateAgainUptoCardSaid : Prop := Claim7.holds Tryd.pinned (.plain (OpenSpec.upto deflateAgainSpec)) deflateAgainUptoCard

/-- THE SECOND FORM's CARD OF 'postroadlaw05.DeflateLong'. -/
def deflateLongUptoCard : Claim7 := { stood := { row := deflateLongUptoRow, standIns := [], harness := (true, "f7b2e090546549cbec87d4724cd55de89b2e752470159612902ad7a214e268d2"), looks := false }, kinds := [], alts := [], laidByText := true, laidKinds := [.data], laidTests := true, laidLooks := .later }
def DeflateLongUptoCardSaid : Prop := Claim7.holds Tryd.pinned (.plain (OpenSpec.upto deflateLongSpec)) deflateLongUptoCard

/-- THE SECOND FORM's CARD OF 'postroadlaw05.DeflateKinds'. -/
def deflateKindsUptoCard : Claim7 := { stood := { row := deflateKindsUptoRow, standIns := [], harness := (true, "f7b2e090546549cbec87d4724cd55de89b2e752470159612902ad7a214e268d2"), looks := false }, kinds := [], alts := [], laidByText := true, laidKinds := [.data], laidTests := true, laidLooks := .later }
def DeflateKindsUptoCardSaid : Prop := Claim7.holds Tryd.pinned (.plain (OpenSpec.upto deflateKindsSpec)) deflateKindsUptoCard

/-- THE SECOND FORM's CARD OF 'postroadlaw05.DeflateTwo'. -/
def deflateTwoUptoCard : Claim7 := { stood := { row := deflateTwoUptoRow, standIns := [], harness := (true, "f7b2e090546549cbec87d4724cd55de89b2e752470159612902ad7a214e268d2"), looks := false }, kinds := [], alts := [], laidByText := true, laidKinds := [.data], laidTests := true, laidLooks := .later }
def DeflateTwoUptoCardSaid : Prop := Claim7.holds Tryd.pinned (.plain (OpenSpec.upto deflateTwoSpec)) deflateTwoUptoCard
end Rows
end Go.Proofs.YtbcflkdaeboflaaDoor
