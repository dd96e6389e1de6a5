/-
  DERIVED. GIVEN WITH THE SEED: THE PROGRAM's TIES (one call each: nine closed facts by the kernel) AND EACH ROW's TIE, after the 31st guide's Derived/Test/Toyas{Tie, Card}.lean. No idea stands in it: it is a product of the set-up. Laid BY PROGRAM, IN A SANDBOX (cutbox-door.mjs). By AI agents, Wed Nov 11 2026. No macro, syntax, notation, axiom, sorry.
-/
import Derived.Test.YtmokjopffgmfjaaGreatDoorRows
import Derived.LaidByTextLater
import Derived.SevenTiedAt
import Derived.LaidSub
import Derived.LaidOnce
namespace Go.Proofs.YtmokjopffgmfjaaGreatDoor
open Go
set_option maxRecDepth 100000
theorem seatTie1 : Tryz.prog.laidByTextLater [("postroad/deflate.firstOrder", Rows.laid_postroad_deflate_firstOrder), ("postroad/inflate.firstOrder", Rows.laid_postroad_inflate_firstOrder), ("postroad/batch.fieldBytes", Rows.laid_postroad_batch_fieldBytes)] [.data, .data, .data] true :=
  Program.laidByTextLater_by_one 24 8 20 (by kernel_rfl) (by kernel_rfl) (by kernel_rfl) (by kernel_rfl) (by kernel_rfl) (by kernel_rfl) (fun _ _ => by kernel_rfl)
theorem noOwnUnsafe : Tryz.pinned.checked.prog.headLifts.contains "ownunsafe" = false := by kernel_rfl
theorem tie : Tryz.prog.laidByTextLater [("postroad/deflate.firstOrder", Rows.laid_postroad_deflate_firstOrder), ("postroad/inflate.firstOrder", Rows.laid_postroad_inflate_firstOrder), ("postroad/batch.fieldBytes", Rows.laid_postroad_batch_fieldBytes)] [.data, .data, .data] true :=
  Program.laidByTextLater.sub seatTie1 ["postroad/deflate.firstOrder", "postroad/inflate.firstOrder", "postroad/batch.fieldBytes"] (by kernel_rfl) (by kernel_rfl)
theorem segmentNobody_row_tie : Rows.segmentNobodyRow.laidByTextAt .later Tryz.pinned [.data, .data, .data] true :=
  OpenClaim.laidByTextAt_later rfl rfl tie noOwnUnsafe
theorem segmentFull_row_tie : Rows.segmentFullRow.laidByTextAt .later Tryz.pinned [.data, .data, .data] true :=
  OpenClaim.laidByTextAt_later rfl rfl tie noOwnUnsafe
theorem segmentOrder_row_tie : Rows.segmentOrderRow.laidByTextAt .later Tryz.pinned [.data, .data, .data] true :=
  OpenClaim.laidByTextAt_later rfl rfl tie noOwnUnsafe
theorem segmentNobodyUpto_row_tie : Rows.segmentNobodyUptoRow.laidByTextAt .later Tryz.pinned [.data, .data, .data] true :=
  OpenClaim.laidByTextAt_later rfl rfl tie noOwnUnsafe
theorem segmentFullUpto_row_tie : Rows.segmentFullUptoRow.laidByTextAt .later Tryz.pinned [.data, .data, .data] true :=
  OpenClaim.laidByTextAt_later rfl rfl tie noOwnUnsafe
theorem segmentOrderUpto_row_tie : Rows.segmentOrderUptoRow.laidByTextAt .later Tryz.pinned [.data, .data, .data] true :=
  OpenClaim.laidByTextAt_later rfl rfl tie noOwnUnsafe
end Go.Proofs.YtmokjopffgmfjaaGreatDoor
