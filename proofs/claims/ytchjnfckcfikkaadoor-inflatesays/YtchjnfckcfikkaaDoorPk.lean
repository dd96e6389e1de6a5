/- The document's Bit, and one bit of a reader. -/
import Derived.Test.YtchjnfckcfikkaaDoorPm
import Derived.Test.YtchjnfckcfikkaaDoorRc
namespace Go.Proofs.YtchjnfckcfikkaaDoor
open Go.RowKit
set_option linter.unusedVariables false

theorem refBit_eq (y m : Nat) (hy : y < 256) : bits .and .i64 (wrap64 ((y : Int) / 2 ^ m)) 1 = ((y / 2 ^ m % 2 : Nat) : Int) := by
  have e : (y : Int) / 2 ^ m = ((y / 2 ^ m : Nat) : Int) := by simp
  have hl : y / 2 ^ m ≤ y := Nat.div_le_self _ _
  rw [e]
  generalize y / 2 ^ m = z at *
  rw [IntWalk.wrap64_in _ ⟨by omega, by omega⟩]
  have h := i64_mask 1 (by omega) (z : Int)
  rw [show ((2 ^ 1 - 1 : Nat) : Int) = 1 from rfl] at h
  rw [h]
  simp
theorem refBit (s : ByteArray) (i : Nat) (w : World) (hi : i < 8 * s.size) (hs : s.size ≤ 281474976710656) :
    Calls Tryd.prog 47 #[.string s, .int .i64 i] w fun e w' => e = .returned (.int .i64 (bitAt s i : Nat)) ∧ w' = w := by
  have hix : i / 8 < s.size := by omega
  go_enter Tryd.func47, Tryd.ntmps47
  go_wp2
  go_ret
  refine ⟨ret_int ?_, rfl⟩
  rw [bitAt_eq s i hix]
  exact refBit_eq _ _ (UInt8.toNat_lt _)
theorem rbit1 (b : Nat) (s : ByteArray) (p : Nat) (w : World) (hp : p + 1 ≤ 8 * s.size) (hs : s.size ≤ 281474976710656) (hr : RS w b s p) :
    Calls Tryd.prog 50 #[.pointer (some ⟨b, 0, none⟩), .int .i64 1] w fun e w' => e = .returned (.tuple #[.int .i64 (bitAt s p : Nat), .int .i64 0]) ∧ RS w' b s (p + 1) ∧ Only b w w' := by
  have h := rbits b s p 1 w (by omega) hp hs hr
  have e : num s p 1 = bitAt s p := by simp [num]
  rw [e] at h
  exact h
end Go.Proofs.YtchjnfckcfikkaaDoor
