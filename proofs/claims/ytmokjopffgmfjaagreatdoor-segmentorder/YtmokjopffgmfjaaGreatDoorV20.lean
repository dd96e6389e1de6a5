/- The library's contract of bytes.Clone, laid at this dump's own numbers. -/
import Derived.Shelf.Bytes.SlClone
import Derived.Test.YtmokjopffgmfjaaGreatDoorProg
namespace Go.Proofs
open Go.Shelf
def Tryz.laysBC_ren : Go.Shelf.Ren := ⟨fun | 4 => 62 | n => n, fun | 22 => 70 | n => n, fun | n => n⟩
theorem Tryz.laysBC : Go.Proofs.SlLaysK.n4 Tryz.prog Tryz.laysBC_ren := {
  mixed := by kernel_rfl
  f4 := Tryz.func62.trans (congrArg some (by kernel_rfl))
  t4 := Tryz.underlying4
  a4 := Tryz.isAgg4
  z4 := Tryz.sizeOf4
  v4 := Tryz.zeroValue4
  t22 := Tryz.underlying70
  a22 := Tryz.isAgg70
  z22 := Tryz.sizeOf70
  v22 := Tryz.zeroValue70
  t5 := Tryz.underlying5
  i5 := by kernel_rfl }
end Go.Proofs
