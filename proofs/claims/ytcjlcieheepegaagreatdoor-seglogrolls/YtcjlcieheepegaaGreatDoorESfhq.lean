/- What the row says of all that SeglogRolls calls: each by itself (together they pass the memory's lid). -/
import Derived.Test.YtcjlcieheepegaaGreatDoorCards
import Derived.Test.YtcjlcieheepegaaGreatDoorTie
import Derived.ProofKit
namespace Go.Proofs.YtcjlcieheepegaaGreatDoor.seglogRollsDone
theorem q10 : (Rows.seglogRollsRow.inPlace == Tryz.prog.inPlace 3) = true := by kernel_rfl
theorem q11 : (Rows.seglogRollsRow.unfollowed == Tryz.prog.unfollowed 3) = true := by kernel_rfl
theorem q12 : (Rows.seglogRollsRow.recurses == Tryz.prog.recurses 3) = true := by kernel_rfl
theorem q13 : (Rows.seglogRollsRow.named == Tryz.prog.varsNamed 3) = true := by kernel_rfl
end Go.Proofs.YtcjlcieheepegaaGreatDoor.seglogRollsDone
