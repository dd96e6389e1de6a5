/- Layer 8: what a crash leaves, in numbers. -/
import Derived.Test.YtlnlhecjehapiaaQi
namespace Go.Proofs.Ytlnlhecjehapiaa
open Go.RowKit Go.Maps
set_option linter.unusedVariables false
set_option maxRecDepth 20000

theorem crash_nat (y t : Nat) (n : Int) : (y : Int) + min (max n 0) (t : Int) = ((y + min n.toNat t : Nat) : Int) := by
  have e : min (max n 0) (t : Int) = ((min n.toNat t : Nat) : Int) := by
    by_cases h : n ≤ 0
    · rw [Int.max_eq_right h, Int.toNat_of_nonpos h, Nat.zero_min, Int.min_eq_left (by omega)]; rfl
    · rw [Int.max_eq_left (by omega)]
      by_cases h2 : n ≤ (t : Int)
      · rw [Int.min_eq_left h2, Nat.min_eq_left (by omega), Int.toNat_of_nonneg (by omega)]
      · rw [Int.min_eq_right (by omega), Nat.min_eq_right (by omega)]
  rw [e, Int.natCast_add]
theorem crash_arith (y t : Nat) (n : Int) (hl : y + t ≤ 16777216) : wrap64 ((y : Int) + min (max n 0) (t : Int)) = ((y + min n.toNat t : Nat) : Int) := by
  rw [crash_nat]
  exact wrapN64 _ (Nat.le_trans (Nat.add_le_add_left (Nat.min_le_right _ _) _) (Nat.le_trans hl (by decide)))
end Go.Proofs.Ytlnlhecjehapiaa
