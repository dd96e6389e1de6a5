/-
  DERIVED. GIVEN WITH THE SEED: THE CARDS: each row of YtchjnfckcfikkaaDoorRows.lean that lists a variable, with what it lists TIED to the program's text (the seventh form; the later family's looks); each row that meets fmt, with fmt's text TOLD by the authors' own Lean function (tested against real Go, not proved from fmt's source: count such statements apart). THE CARD IS WHAT COUNTS. Prove the row's statement (the work); the ties are given (YtchjnfckcfikkaaDoorTie.lean); close each card by the builder's one call (the guide's Derived/Test/ToyasCard.lean, 'card_holds'). Laid BY PROGRAM, IN A SANDBOX (cutbox-door.mjs). By AI agents, Wed Nov 11 2026. No macro, syntax, notation, axiom, sorry.
-/
import Derived.Test.YtchjnfckcfikkaaDoorRows
import GoSem.ClaimSeven
namespace Go.Proofs.YtchjnfckcfikkaaDoor
namespace Rows

/-- THE TIED CARD OF 'postroadlaw04.InflateReads'. -/
def inflateReadsCard : Claim7 := { stood := { row := inflateReadsRow, standIns := [], harness := (true, "d3c1c9dbb41bb21220c93708aa888f78392b31fda04de4a4160836a385e48a2a"), looks := true }, kinds := [], alts := [], laidByText := true, laidKinds := [.data], laidTests := true, laidLooks := .later }
def InflateReadsCardSaid : Prop := Claim7.holds Tryd.pinned (.plain (OpenSpec.ofChange inflateReadsSpec)) inflateReadsCard

/-- THE TIED CARD OF 'postroadlaw04.InflateTail'. -/
def inflateTailCard : Claim7 := { stood := { row := inflateTailRow, standIns := [], harness := (true, "d3c1c9dbb41bb21220c93708aa888f78392b31fda04de4a4160836a385e48a2a"), looks := true }, kinds := [], alts := [], laidByText := true, laidKinds := [.data], laidTests := true, laidLooks := .later }
def InflateTailCardSaid : Prop := Claim7.holds Tryd.pinned (.plain (OpenSpec.ofChange inflateTailSpec)) inflateTailCard

/-- THE TIED CARD OF 'postroadlaw04.InflateMost'. -/
def inflateMostCard : Claim7 := { stood := { row := inflateMostRow, standIns := [], harness := (true, "d3c1c9dbb41bb21220c93708aa888f78392b31fda04de4a4160836a385e48a2a"), looks := true }, kinds := [], alts := [], laidByText := true, laidKinds := [.data], laidTests := true, laidLooks := .later }
def InflateMostCardSaid : Prop := Claim7.holds Tryd.pinned (.plain (OpenSpec.ofChange inflateMostSpec)) inflateMostCard

/-- THE TIED CARD OF 'postroadlaw04.InflateSays'. -/
def inflateSaysCard : Claim7 := { stood := { row := inflateSaysRow, standIns := [], harness := (true, "d3c1c9dbb41bb21220c93708aa888f78392b31fda04de4a4160836a385e48a2a"), looks := true }, kinds := [], alts := [], laidByText := true, laidKinds := [.data], laidTests := true, laidLooks := .later }
def InflateSaysCardSaid : Prop := Claim7.holds Tryd.pinned (.plain (OpenSpec.ofChange inflateSaysSpec)) inflateSaysCard

/-- THE TIED CARD OF 'postroadlaw04.InflateStored'. -/
def inflateStoredCard : Claim7 := { stood := { row := inflateStoredRow, standIns := [], harness := (true, "d3c1c9dbb41bb21220c93708aa888f78392b31fda04de4a4160836a385e48a2a"), looks := true }, kinds := [], alts := [], laidByText := true, laidKinds := [.data], laidTests := true, laidLooks := .later }
def InflateStoredCardSaid : Prop := Claim7.holds Tryd.pinned (.plain (OpenSpec.ofChange inflateStoredSpec)) inflateStoredCard

/-- THE TIED CARD OF 'postroadlaw04.InflateCuts'. -/
def inflateCutsCard : Claim7 := { stood := { row := inflateCutsRow, standIns := [], harness := (true, "d3c1c9dbb41bb21220c93708aa888f78392b31fda04de4a4160836a385e48a2a"), looks := true }, kinds := [], alts := [], laidByText := true, laidKinds := [.data], laidTests := true, laidLooks := .later }
def InflateCutsCardSaid : Prop := Claim7.holds Tryd.pinned (.plain (OpenSpec.ofChange inflateCutsSpec)) inflateCutsCard

/-- THE SECOND FORM's CARD OF 'postroadlaw04.InflateReads'. -/
def inflateReadsUptoCard : Claim7 := { stood := { row := inflateReadsUptoRow, standIns := [], harness := (true, "d3c1c9dbb41bb21220c93708aa888f78392b31fda04de4a4160836a385e48a2a"), looks := true }, kinds := [], alts := [], laidByText := true, laidKinds := [.data], laidTests := true, laidLooks := .later }
def InflateReadsUptoCardSaid : Prop := Claim7.holds Tryd.pinned (.plain (OpenSpec.upto inflateReadsSpec)) inflateReadsUptoCard

/-- THE SECOND FORM's CARD OF 'postroadlaw04.InflateTail'. -/
def inflateTailUptoCard : Claim7 := { stood := { row := inflateTailUptoRow, standIns := [], harness := (true, "d3c1c9dbb41bb21220c93708aa888f78392b31fda04de4a4160836a385e48a2a"), looks := true }, kinds := [], alts := [], laidByText := true, laidKinds := [.data], laidTests := true, laidLooks := .later }
def InflateTailUptoCardSaid : Prop := Claim7.holds Tryd.pinned (.plain (OpenSpec.upto inflateTailSpec)) inflateTailUptoCard

/-- THE SECOND FORM's CARD OF 'postroadlaw04.InflateMost'. -/
def inflateMostUptoCard : Claim7 := { stood := { row := inflateMostUptoRow, standIns := [], harness := (true, "d3c1c9dbb41bb21220c93708aa888f78392b31fda04de4a4160836a385e48a2a"), looks := true }, kinds := [], alts := [], laidByText := true, laidKinds := [.data], laidTests := true, laidLooks := .later }
def InflateMostUptoCardSaid : Prop := Claim7.holds Tryd.pinned (.plain (OpenSpec.upto inflateMostSpec)) inflateMostUptoCard

/-- THE SECOND FORM's CARD OF 'postroadlaw04.InflateSays'. -/
def inflateSaysUptoCard : Claim7 := { stood := { row := inflateSaysUptoRow, standIns := [], harness := (true, "d3c1c9dbb41bb21220c93708aa888f78392b31fda04de4a4160836a385e48a2a"), looks := true }, kinds := [], alts := [], laidByText := true, laidKinds := [.data], laidTests := true, laidLooks := .later }
def InflateSaysUptoCardSaid : Prop := Claim7.holds Tryd.pinned (.plain (OpenSpec.upto inflateSaysSpec)) inflateSaysUptoCard

/-- THE SECOND FORM's CARD OF 'postroadlaw04.InflateStored'. -/
def inflateStoredUptoCard : Claim7 := { stood := { row := inflateStoredUptoRow, standIns := [], harness := (true, "d3c1c9dbb41bb21220c93708aa888f78392b31fda04de4a4160836a385e48a2a"), looks := true }, kinds := [], alts := [], laidByText := true, laidKinds := [.data], laidTests := true, laidLooks := .later }
def InflateStoredUptoCardSaid : Prop := Claim7.holds Tryd.pinned (.plain (OpenSpec.upto inflateStoredSpec)) inflateStoredUptoCard

/-- THE SECOND FORM's CARD OF 'postroadlaw04.InflateCuts'. -/
def inflateCutsUptoCard : Claim7 := { stood := { row := inflateCutsUptoRow, standIns := [], harness := (true, "d3c1c9dbb41bb21220c93708aa888f78392b31fda04de4a4160836a385e48a2a"), looks := true }, kinds := [], alts := [], laidByText := true, laidKinds := [.data], laidTests := true, laidLooks := .later }
def InflateCutsUptoCardSaid : Prop := Claim7.holds Tryd.pinned (.plain (OpenSpec.upto inflateCutsSpec)) inflateCutsUptoCard
end Rows
end Go.Proofs.YtchjnfckcfikkaaDoor
