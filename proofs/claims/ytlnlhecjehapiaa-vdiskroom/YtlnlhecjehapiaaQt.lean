/- The library's contract of bytes.Clone, laid at this dump's own numbers. -/
import Derived.Shelf.Bytes.SlClone
import Derived.Test.YtlnlhecjehapiaaProg
namespace Go.Proofs
open Go.Shelf
def Try.laysBC_ren : Go.Shelf.Ren := ⟨fun | 4 => 30 | n => n, fun | 22 => 48 | n => n, fun | n => n⟩
theorem Try.laysBC : Go.Proofs.SlLaysK.n4 Try.prog Try.laysBC_ren := {
  mixed := by kernel_rfl
  f4 := Try.func30.trans (congrArg some (by kernel_rfl))
  t4 := Try.underlying4
  a4 := Try.isAgg4
  z4 := Try.sizeOf4
  v4 := Try.zeroValue4
  t22 := Try.underlying48
  a22 := Try.isAgg48
  z22 := Try.sizeOf48
  v22 := Try.zeroValue48
  t5 := Try.underlying5
  i5 := by kernel_rfl }
end Go.Proofs
