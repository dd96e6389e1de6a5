/- What the row says of all that SeglogNobody calls: each by itself (together they pass the memory's lid). -/
import Derived.Test.YtogmfdgpnkbpaaaGreatDoorCards
import Derived.Test.YtogmfdgpnkbpaaaGreatDoorTie
import Derived.ProofKit
namespace Go.Proofs.YtogmfdgpnkbpaaaGreatDoor.seglogNobodyDone
theorem q10 : (Rows.seglogNobodyRow.inPlace == Tryz.prog.inPlace 3) = true := by kernel_rfl
theorem q11 : (Rows.seglogNobodyRow.unfollowed == Tryz.prog.unfollowed 3) = true := by kernel_rfl
theorem q12 : (Rows.seglogNobodyRow.recurses == Tryz.prog.recurses 3) = true := by kernel_rfl
theorem q13 : (Rows.seglogNobodyRow.named == Tryz.prog.varsNamed 3) = true := by kernel_rfl
end Go.Proofs.YtogmfdgpnkbpaaaGreatDoor.seglogNobodyDone
