/- The document's Bits and Aligned. -/
import Derived.Test.YtlbadjfcffoakaaDoorV21
namespace Go.Proofs.YtlbadjfcffoakaaDoor
open Go.RowKit
set_option linter.unusedVariables false
set_option maxRecDepth 20000

theorem refAligned (p : Int) (w : World) (h0 : 0 ≤ p) (h1 : p ≤ 1152921504606846976) :
    Calls Tryd.prog 19 #[.int .i64 p] w fun e w' => e = .returned (.int .i64 ((p + 7) / 8 * 8)) ∧ w' = w := by
  go_enter Tryd.func19, Tryd.ntmps19
  go_wp2
  go_ret
  exact ⟨ret_int (by omega), rfl⟩
theorem refBits_short (s : ByteArray) (p n : Nat) (w : World) (hn : n ≤ 57) (hp : p ≤ 8 * s.size) (hq : 8 * s.size < p + n) (hs : s.size ≤ 281474976710656) :
    Calls Tryd.prog 28 #[.string s, .int .i64 p, .int .i64 n] w fun e w' => e = .returned (.tuple #[.int .i64 0, .bool false]) ∧ w' = w := by
  go_enter Tryd.func28, Tryd.ntmps28
  go_wp2
  go_ret2
  exact ⟨rfl, rfl⟩
theorem add_bit (x c k : Nat) (hx : x < 2 ^ k) (hc : c < 2) (hk : k ≤ 56) : wrap64 ((x : Int) + wrap64 ((c : Int) * 2 ^ k)) = ((x + c * 2 ^ k : Nat) : Int) := by
  have h56 := pow_le k 56 hk
  have hm : c * 2 ^ k ≤ 1 * 2 ^ k := Nat.mul_le_mul_right _ (by omega)
  have e2 : (c : Int) * 2 ^ k = ((c * 2 ^ k : Nat) : Int) := by simp
  obtain ⟨z, hz⟩ : ∃ z, z = c * 2 ^ k := ⟨_, rfl⟩
  rw [e2, ← hz]
  rw [← hz] at hm
  rw [IntWalk.wrap64_in (z : Int) ⟨by omega, by omega⟩, IntWalk.wrap64_in _ ⟨by omega, by omega⟩]
  omega
set_option maxHeartbeats 400000 in
theorem refBits (s : ByteArray) (p n : Nat) (w : World) (hn : n ≤ 57) (hp : p + n ≤ 8 * s.size) (hs : s.size ≤ 281474976710656) :
    Calls Tryd.prog 28 #[.string s, .int .i64 p, .int .i64 n] w fun e w' => e = .returned (.tuple #[.int .i64 (num s p n : Nat), .bool true]) ∧ w' = w := by
  go_enter Tryd.func28, Tryd.ntmps28
  go_wp2
  go_loop [8, 9] (fun x i => ∃ k : Nat, k ≤ n ∧ i = .int .i64 k ∧ x = .int .i64 (num s p k : Nat)) (fun _ i => n - (intOf i).toNat)
  case atStart => exact ⟨0, Nat.zero_le _, rfl, rfl⟩
  case round =>
    obtain ⟨k, hk, rfl, rfl⟩ := hrel
    by_cases hlt : k < n
    · have hcb : ∀ w, Calls Tryd.prog 50 #[.string s, .int .i64 ((p : Int) + (k : Int))] w fun e w' => e = .returned (.int .i64 (bitAt s (p + k) : Nat)) ∧ w' = w := fun w => refBit s (p + k) w (by omega) hs
      have hbl := bitAt_lt s (p + k)
      go_wp2_with (go_at_call 50; refine (hcb _).mono ?_; rintro e w' ⟨rfl, rfl⟩)
      go_round
      case rel =>
        refine ⟨k + 1, by omega, by go_num, congrArg (Value.int .i64) ?_⟩
        exact add_bit (num s p k) (bitAt s (p + k)) k (num_lt s p k) hbl (by omega)
      case measure => simp [intOf]; omega
    · obtain rfl : n = k := by omega
      go_wp2
      go_ret2
      exact ⟨rfl, rfl⟩
end Go.Proofs.YtlbadjfcffoakaaDoor
