/- Var, the program's. -/
import Derived.Test.YtfjmcgdpiohnbaaVm
import Derived.Test.YtfjmcgdpiohnbaaAw
namespace Go.Proofs.Ytfjmcgdpiohnbaa
open Go.RowKit
set_option linter.unusedVariables false

theorem ret3 {a b c d : Int} (h : a = b) : Ending.returned (.tuple #[.int .i64 a, .int .i64 c, .int .i64 d]) = .returned (.tuple #[.int .i64 b, .int .i64 c, .int .i64 d]) := by rw [h]
set_option maxHeartbeats 400000 in
theorem var_ok (s : ByteArray) (k : Nat) (w : World) (hk : k < 9) (hs : k < s.size) (hall : ∀ j, j < k → 128 ≤ byteN s j) (hb : byteN s k < 128) (hz : byteN s k = 0 → k = 0) (hsz : s.size ≤ 9223372036854775807) :
    Calls Try.prog 31 #[.string s] w fun e w' => e = .returned (.tuple #[.int .i64 (varN s (k + 1) : Nat), .int .i64 ((k : Int) + 1), .int .i64 0]) ∧ w' = w := by
  have HA : Hid (∀ j, j < k → 128 ≤ byteN s j) := hall
  clear hall
  have HZ : Hid (byteN s k = 0 → k = 0) := hz
  clear hz
  go_enter Try.func31, Try.ntmps31
  go_wp2
  go_loop [5, 11] (fun x i => ∃ j : Nat, j ≤ k ∧ i = .int .i64 j ∧ x = .int .u64 (varN s j : Nat)) (fun _ i => k + 1 - (intOf i).toNat)
  case atStart => exact ⟨0, Nat.zero_le _, rfl, rfl⟩
  case round =>
    obtain ⟨j, hj, rfl, rfl⟩ := hrel
    by_cases hlt : j < k
    · have hix : j < s.size := by omega
      have h128 := HA.out j hlt
      have hby := byteN_eq s j hix
      have hbl := byteN_lt s j
      have hg := andNot128 (byteN s j) hbl
      go_wp2
      go_round
      case rel =>
        refine ⟨j + 1, by omega, by go_num, congrArg (Value.int .u64) ?_⟩
        have e : ((byteN s j : Nat) : Int) % 128 = ((byteN s j % 128 : Nat) : Int) := by simp
        rw [e, or_group (varN s j) (byteN s j % 128) j (varN_lt s j) (by omega) (by omega)]
        rfl
      case measure => simp [intOf]; omega
    · obtain rfl : j = k := by omega
      have hby := byteN_eq s j hs
      have hbl := byteN_lt s j
      have hg := andNot128 (byteN s j) hbl
      have hX := varN_63 s (j + 1) (by omega)
      have hX0 := varN_63 s j (by omega)
      have HE : Hid (bits .or .u64 (varN s j : Nat) (IntKind.u64.wrap ((byteN s j : Int) % 128 * 2 ^ (7 * j))) = ((varN s (j + 1) : Nat) : Int)) := by
        have e : ((byteN s j : Nat) : Int) % 128 = ((byteN s j % 128 : Nat) : Int) := by simp
        have h := or_group (varN s j) (byteN s j % 128) j (varN_lt s j) (by omega) (by omega)
        rw [← e] at h
        exact h
      by_cases h0 : 0 < j
      · have hne : byteN s j ≠ 0 := fun h => by have := HZ.out h; omega
        go_wp2
        go_ret3
        exact ⟨ret3 (by rw [HE.out]; exact IntWalk.wrap64_in _ ⟨by omega, by omega⟩), rfl⟩
      · go_wp2
        all_goals
          go_ret3
          first | (exact ⟨ret3 (by rw [HE.out]; exact IntWalk.wrap64_in _ ⟨by omega, by omega⟩), rfl⟩) | (exact ⟨ret3 (by rw [or_zero _ (by omega), varN_zero s j (by assumption)]; exact IntWalk.wrap64_in _ ⟨by omega, by omega⟩), rfl⟩)
set_option maxHeartbeats 400000 in
theorem var_zero (s : ByteArray) (k : Nat) (w : World) (hk : k < 9) (hs : k < s.size) (hall : ∀ j, j < k → 128 ≤ byteN s j) (hb : byteN s k = 0) (hz : 0 < k) (hsz : s.size ≤ 9223372036854775807) :
    Calls Try.prog 31 #[.string s] w fun e w' => e = .returned (.tuple #[.int .i64 0, .int .i64 0, .int .i64 10]) ∧ w' = w := by
  have HA : Hid (∀ j, j < k → 128 ≤ byteN s j) := hall
  clear hall
  have HZ : Hid (byteN s k = 0) := hb
  clear hb
  go_enter Try.func31, Try.ntmps31
  go_wp2
  go_loop [5, 11] (fun x i => ∃ j : Nat, j ≤ k ∧ i = .int .i64 j ∧ x = .int .u64 (varN s j : Nat)) (fun _ i => k + 1 - (intOf i).toNat)
  case atStart => exact ⟨0, Nat.zero_le _, rfl, rfl⟩
  case round =>
    obtain ⟨j, hj, rfl, rfl⟩ := hrel
    by_cases hlt : j < k
    · have hix : j < s.size := by omega
      have h128 := HA.out j hlt
      have hby := byteN_eq s j hix
      have hbl := byteN_lt s j
      have hg := andNot128 (byteN s j) hbl
      go_wp2
      go_round
      case rel =>
        refine ⟨j + 1, by omega, by go_num, congrArg (Value.int .u64) ?_⟩
        have e : ((byteN s j : Nat) : Int) % 128 = ((byteN s j % 128 : Nat) : Int) := by simp
        rw [e, or_group (varN s j) (byteN s j % 128) j (varN_lt s j) (by omega) (by omega)]
        rfl
      case measure => simp [intOf]; omega
    · obtain rfl : j = k := by omega
      have hby := byteN_eq s j hs
      have hb0 := HZ.out
      rw [hb0] at hby
      have hg := andNot128 0 (by omega)
      go_wp2
      go_ret3
      exact ⟨rfl, rfl⟩
set_option maxHeartbeats 400000 in
theorem var_short (s : ByteArray) (w : World) (hs : s.size < 9) (hall : ∀ j, j < s.size → 128 ≤ byteN s j) :
    Calls Try.prog 31 #[.string s] w fun e w' => e = .returned (.tuple #[.int .i64 0, .int .i64 0, .int .i64 5]) ∧ w' = w := by
  have HA : Hid (∀ j, j < s.size → 128 ≤ byteN s j) := hall
  clear hall
  go_enter Try.func31, Try.ntmps31
  go_wp2
  go_loop [5, 11] (fun x i => ∃ j : Nat, j ≤ s.size ∧ i = .int .i64 j ∧ x = .int .u64 (varN s j : Nat)) (fun _ i => s.size + 1 - (intOf i).toNat)
  case atStart => exact ⟨0, Nat.zero_le _, rfl, rfl⟩
  case round =>
    obtain ⟨j, hj, rfl, rfl⟩ := hrel
    by_cases hlt : j < s.size
    · have hix : j < s.size := by omega
      have h128 := HA.out j hlt
      have hby := byteN_eq s j hix
      have hbl := byteN_lt s j
      have hg := andNot128 (byteN s j) hbl
      go_wp2
      go_round
      case rel =>
        refine ⟨j + 1, by omega, by go_num, congrArg (Value.int .u64) ?_⟩
        have e : ((byteN s j : Nat) : Int) % 128 = ((byteN s j % 128 : Nat) : Int) := by simp
        rw [e, or_group (varN s j) (byteN s j % 128) j (varN_lt s j) (by omega) (by omega)]
        rfl
      case measure => simp [intOf]; omega
    · obtain rfl : j = s.size := by omega
      go_wp2
      go_ret3
      exact ⟨rfl, rfl⟩
set_option maxHeartbeats 400000 in
theorem var_long (s : ByteArray) (w : World) (hs : 9 ≤ s.size) (hall : ∀ j, j < 9 → 128 ≤ byteN s j) (hsz : s.size ≤ 9223372036854775807) :
    Calls Try.prog 31 #[.string s] w fun e w' => e = .returned (.tuple #[.int .i64 0, .int .i64 0, .int .i64 10]) ∧ w' = w := by
  have HA : Hid (∀ j, j < 9 → 128 ≤ byteN s j) := hall
  clear hall
  go_enter Try.func31, Try.ntmps31
  go_wp2
  go_loop [5, 11] (fun x i => ∃ j : Nat, j ≤ 9 ∧ i = .int .i64 j ∧ x = .int .u64 (varN s j : Nat)) (fun _ i => 10 - (intOf i).toNat)
  case atStart => exact ⟨0, Nat.zero_le _, rfl, rfl⟩
  case round =>
    obtain ⟨j, hj, rfl, rfl⟩ := hrel
    by_cases hlt : j < 9
    · have hix : j < s.size := by omega
      have h128 := HA.out j hlt
      have hby := byteN_eq s j hix
      have hbl := byteN_lt s j
      have hg := andNot128 (byteN s j) hbl
      go_wp2
      go_round
      case rel =>
        refine ⟨j + 1, by omega, by go_num, congrArg (Value.int .u64) ?_⟩
        have e : ((byteN s j : Nat) : Int) % 128 = ((byteN s j % 128 : Nat) : Int) := by simp
        rw [e, or_group (varN s j) (byteN s j % 128) j (varN_lt s j) (by omega) (by omega)]
        rfl
      case measure => simp [intOf]; omega
    · obtain rfl : j = 9 := by omega
      go_wp2
      go_ret3
      exact ⟨rfl, rfl⟩
end Go.Proofs.Ytfjmcgdpiohnbaa
