/- The library's contract of bytes.Clone, laid at this dump's own numbers. -/
import Derived.Shelf.Bytes.SlClone
import Derived.Test.YtcjlcieheepegaaGreatDoorProg
namespace Go.Proofs
open Go.Shelf
def Tryz.laysBC_ren : Go.Shelf.Ren := ⟨fun | 4 => 161 | n => n, fun | 22 => 47 | n => n, fun | n => n⟩
theorem Tryz.laysBC : Go.Proofs.SlLaysK.n4 Tryz.prog Tryz.laysBC_ren := {
  mixed := by kernel_rfl
  f4 := Tryz.func161.trans (congrArg some (by kernel_rfl))
  t4 := Tryz.underlying4
  a4 := Tryz.isAgg4
  z4 := Tryz.sizeOf4
  v4 := Tryz.zeroValue4
  t22 := Tryz.underlying47
  a22 := Tryz.isAgg47
  z22 := Tryz.sizeOf47
  v22 := Tryz.zeroValue47
  t5 := Tryz.underlying5
  i5 := by kernel_rfl }
end Go.Proofs
