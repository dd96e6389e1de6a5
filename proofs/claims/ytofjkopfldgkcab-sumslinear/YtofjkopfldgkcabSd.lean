/- Crc and CrcMore, the program's and the document's. -/
import Derived.Test.YtofjkopfldgkcabSc
namespace Go.Proofs.Ytofjkopfldgkcab
open Go.RowKit
set_option linter.unusedVariables false

theorem crc (s : ByteArray) (w : World) (hs : s.size ≤ 140737488351232) :
    Calls Try.prog 6 #[.string s] w fun e w' => e = .returned (.int .i64 (crcOf (BL s) : Nat)) ∧ Below w.heap.size w w' := by
  have hl := crcFrom_lt 0 (BL s) (by omega) (BL_lt s)
  go_enter Try.func6, Try.ntmps6
  go_wp2_with fail
  refine (crcMore 0 s _ (by omega) hs).mono ?_
  rintro e w1 ⟨rfl, hb1⟩
  have HB : Hid (Below w.heap.size w w1) := hb1
  clear hb1
  go_wp2
  go_ret
  exact ⟨ret_int (by rw [crcOf_zero]), HB.out⟩
theorem rem2 (y : Nat) : ((y : Int).tmod 2 == 1) = decide (y % 2 = 1) := by
  have e : (y : Int).tmod 2 = ((y % 2 : Nat) : Int) := by rw [Int.tmod_eq_emod_of_nonneg (by omega)]; omega
  rw [e]
  rcases Nat.mod_two_eq_zero_or_one y with h | h <;> rw [h] <;> rfl
end Go.Proofs.Ytofjkopfldgkcab
