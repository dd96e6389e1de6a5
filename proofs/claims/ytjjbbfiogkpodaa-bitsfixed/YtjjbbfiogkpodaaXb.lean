/- Fixed, the program's and the document's. -/
import Derived.Test.YtjjbbfiogkpodaaXa
namespace Go.Proofs.Ytjjbbfiogkpodaa
open Go.RowKit
set_option linter.unusedVariables false

theorem fixed_arg (s : ByteArray) (k : Int) (w : World) (h : k < 1 ∨ 8 < k) :
    Calls Try.prog 30 #[.string s, .int .i64 k] w fun e w' => e = .returned (.tuple #[.int .i64 0, .int .i64 1]) ∧ w' = w := by
  rcases h with h | h
  · go_enter Try.func30, Try.ntmps30
    go_wp2
    go_ret2
    exact ⟨rfl, rfl⟩
  · have h1 : ¬ k < 1 := by omega
    go_enter Try.func30, Try.ntmps30
    go_wp2
    go_ret2
    exact ⟨rfl, rfl⟩
theorem fixed_short (s : ByteArray) (k : Nat) (w : World) (h1 : 1 ≤ k) (h2 : k ≤ 8) (h : s.size < k) :
    Calls Try.prog 30 #[.string s, .int .i64 k] w fun e w' => e = .returned (.tuple #[.int .i64 0, .int .i64 5]) ∧ w' = w := by
  go_enter Try.func30, Try.ntmps30
  go_wp2
  go_ret2
  exact ⟨rfl, rfl⟩
theorem refFixed_arg (s : ByteArray) (k : Int) (w : World) (h : k < 1 ∨ 8 < k) :
    Calls Try.prog 31 #[.string s, .int .i64 k] w fun e w' => e = .returned (.tuple #[.int .i64 0, .int .i64 1]) ∧ w' = w := by
  rcases h with h | h
  · go_enter Try.func31, Try.ntmps31
    go_wp2
    go_ret2
    exact ⟨rfl, rfl⟩
  · have h1 : ¬ k < 1 := by omega
    go_enter Try.func31, Try.ntmps31
    go_wp2
    go_ret2
    exact ⟨rfl, rfl⟩
theorem refFixed_short (s : ByteArray) (k : Nat) (w : World) (h1 : 1 ≤ k) (h2 : k ≤ 8) (h : s.size < k) :
    Calls Try.prog 31 #[.string s, .int .i64 k] w fun e w' => e = .returned (.tuple #[.int .i64 0, .int .i64 5]) ∧ w' = w := by
  go_enter Try.func31, Try.ntmps31
  go_wp2
  go_ret2
  exact ⟨rfl, rfl⟩
theorem big_no (x : Nat) (h : x ≤ 9223372036854775807) : decide ((9223372036854775808 : Int) ≤ (x : Int)) = false := by
  rw [decide_eq_false_iff_not]; omega
theorem big_yes (x : Nat) (h : 9223372036854775807 < x) : decide ((9223372036854775808 : Int) ≤ (x : Int)) = true := by
  rw [decide_eq_true_iff]; omega
set_option maxHeartbeats 400000 in
theorem fixed (s : ByteArray) (k : Nat) (w : World) (h1 : 1 ≤ k) (h2 : k ≤ 8) (hs : k ≤ s.size) (hb : fixN s k ≤ 9223372036854775807) :
    Calls Try.prog 30 #[.string s, .int .i64 k] w fun e w' => e = .returned (.tuple #[.int .i64 (fixN s k : Nat), .int .i64 0]) ∧ w' = w := by
  have HB : Hid (fixN s k ≤ 9223372036854775807) := hb
  clear hb
  go_enter Try.func30, Try.ntmps30
  go_wp2
  go_loop [6, 19] (fun x i => ∃ j : Nat, j ≤ k ∧ i = .int .i64 j ∧ x = .int .u64 (fixN s j : Nat)) (fun _ i => k - (intOf i).toNat)
  case atStart => exact ⟨0, Nat.zero_le _, rfl, rfl⟩
  case round =>
    obtain ⟨j, hj, rfl, rfl⟩ := hrel
    by_cases hlt : j < k
    · have hix : j < s.size := by omega
      go_wp2
      go_round
      case rel =>
        refine ⟨j + 1, by omega, by go_num, congrArg (Value.int .u64) ?_⟩
        rw [wrap_u64_nat _ (by have := UInt8.toNat_lt s[j]; omega), byte_eq s j hix, or_byte _ _ _ (fixN_lt s j) (byte_lt s j) (by omega)]
        rfl
      case measure => simp [intOf]; omega
    · obtain rfl : j = k := by omega
      iterate 28 go_step
      simp only [big_no _ HB.out]
      go_wp2
      exact bodyPost_ret (v := .tuple #[.int .i64 (fixN s j : Nat), .int .i64 0]) (by simp [results, Try.results30, go_sem]; exact IntWalk.wrap64_in _ ⟨by omega, by have := HB.out; omega⟩) rfl ⟨rfl, rfl⟩
set_option maxHeartbeats 400000 in
theorem fixed_big (s : ByteArray) (k : Nat) (w : World) (h1 : 1 ≤ k) (h2 : k ≤ 8) (hs : k ≤ s.size) (hb : 9223372036854775807 < fixN s k) :
    Calls Try.prog 30 #[.string s, .int .i64 k] w fun e w' => e = .returned (.tuple #[.int .i64 0, .int .i64 10]) ∧ w' = w := by
  have HB : Hid (9223372036854775807 < fixN s k) := hb
  clear hb
  go_enter Try.func30, Try.ntmps30
  go_wp2
  go_loop [6, 19] (fun x i => ∃ j : Nat, j ≤ k ∧ i = .int .i64 j ∧ x = .int .u64 (fixN s j : Nat)) (fun _ i => k - (intOf i).toNat)
  case atStart => exact ⟨0, Nat.zero_le _, rfl, rfl⟩
  case round =>
    obtain ⟨j, hj, rfl, rfl⟩ := hrel
    by_cases hlt : j < k
    · have hix : j < s.size := by omega
      go_wp2
      go_round
      case rel =>
        refine ⟨j + 1, by omega, by go_num, congrArg (Value.int .u64) ?_⟩
        rw [wrap_u64_nat _ (by have := UInt8.toNat_lt s[j]; omega), byte_eq s j hix, or_byte _ _ _ (fixN_lt s j) (byte_lt s j) (by omega)]
        rfl
      case measure => simp [intOf]; omega
    · obtain rfl : j = k := by omega
      iterate 28 go_step
      simp only [big_yes _ HB.out]
      go_wp2
      exact bodyPost_ret (v := .tuple #[.int .i64 0, .int .i64 10]) (by simp [results, Try.results30, go_sem]) rfl ⟨rfl, rfl⟩
theorem add_byte (x y k : Nat) (hx : x < 2 ^ (8 * k)) (hk : k ≤ 7) (hb : x + y * 2 ^ (8 * k) < 9223372036854775808) :
    wrap64 ((x : Int) + wrap64 ((y : Int) * 2 ^ (8 * k))) = ((x + y * 2 ^ (8 * k) : Nat) : Int) := by
  have e2 : (y : Int) * 2 ^ (8 * k) = ((y * 2 ^ (8 * k) : Nat) : Int) := by simp
  obtain ⟨z, hz⟩ : ∃ z, z = y * 2 ^ (8 * k) := ⟨_, rfl⟩
  rw [e2, ← hz]
  rw [← hz] at hb
  rw [IntWalk.wrap64_in (z : Int) ⟨by omega, by omega⟩, IntWalk.wrap64_in _ ⟨by omega, by omega⟩]
  omega
set_option maxHeartbeats 400000 in
theorem refFixed_big (s : ByteArray) (w : World) (hs : 8 ≤ s.size) (hb : 127 < (s[7].toNat : Int)) :
    Calls Try.prog 31 #[.string s, .int .i64 8] w fun e w' => e = .returned (.tuple #[.int .i64 0, .int .i64 10]) ∧ w' = w := by
  have h7 : 7 < s.size := by omega
  go_enter Try.func31, Try.ntmps31
  go_wp2
  go_ret2
  exact ⟨rfl, rfl⟩
set_option maxHeartbeats 400000 in
theorem refFixed (s : ByteArray) (k : Nat) (w : World) (h1 : 1 ≤ k) (h2 : k ≤ 8) (hs : k ≤ s.size) (hb : fixN s k ≤ 9223372036854775807) (h7 : k = 8 → ∀ h : 7 < s.size, (s[7].toNat : Int) ≤ 127) :
    Calls Try.prog 31 #[.string s, .int .i64 k] w fun e w' => e = .returned (.tuple #[.int .i64 (fixN s k : Nat), .int .i64 0]) ∧ w' = w := by
  have HB : Hid (fixN s k ≤ 9223372036854775807) := hb
  clear hb
  by_cases e8 : k = 8
  · have h7' := h7 e8
    clear h7
    subst e8
    have hl : 7 < s.size := by omega
    have h8 := h7' hl
    clear h7'
    go_enter Try.func31, Try.ntmps31
    go_wp2
    go_loop [6, 7] (fun x i => ∃ j : Nat, j ≤ 8 ∧ i = .int .i64 j ∧ x = .int .i64 (fixN s j : Nat)) (fun _ i => 8 - (intOf i).toNat)
    case atStart => exact ⟨0, Nat.zero_le _, rfl, rfl⟩
    case round =>
      obtain ⟨j, hj, rfl, rfl⟩ := hrel
      by_cases hlt : j < 8
      · have hix : j < s.size := by omega
        go_wp2
        go_round
        case rel =>
          refine ⟨j + 1, by omega, by go_num, congrArg (Value.int .i64) ?_⟩
          have hle := fixN_le s (j + 1) 8 (by omega)
          have hB := HB.out
          have hbl := byte_lt s j
          rw [byte_eq s j hix, IntWalk.wrap64_in ((s.data.toList.getD j 0).toNat : Int) ⟨by omega, by omega⟩, add_byte _ _ _ (fixN_lt s j) (by omega) (by rw [show fixN s (j + 1) = fixN s j + (s.data.toList.getD j 0).toNat * 2 ^ (8 * j) from rfl] at hle; omega)]
          rfl
        case measure => simp [intOf]; omega
      · obtain rfl : j = 8 := by omega
        go_wp2
        go_ret2
        exact ⟨rfl, rfl⟩
  · have hd8 : ((k : Int) == 8) = false := by simp; omega
    clear h7
    go_enter Try.func31, Try.ntmps31
    go_wp2
    go_loop [6, 7] (fun x i => ∃ j : Nat, j ≤ k ∧ i = .int .i64 j ∧ x = .int .i64 (fixN s j : Nat)) (fun _ i => k - (intOf i).toNat)
    case atStart => exact ⟨0, Nat.zero_le _, rfl, rfl⟩
    case round =>
      obtain ⟨j, hj, rfl, rfl⟩ := hrel
      by_cases hlt : j < k
      · have hix : j < s.size := by omega
        go_wp2
        go_round
        case rel =>
          refine ⟨j + 1, by omega, by go_num, congrArg (Value.int .i64) ?_⟩
          have hle := fixN_le s (j + 1) k (by omega)
          have hB := HB.out
          have hbl := byte_lt s j
          rw [byte_eq s j hix, IntWalk.wrap64_in ((s.data.toList.getD j 0).toNat : Int) ⟨by omega, by omega⟩, add_byte _ _ _ (fixN_lt s j) (by omega) (by rw [show fixN s (j + 1) = fixN s j + (s.data.toList.getD j 0).toNat * 2 ^ (8 * j) from rfl] at hle; omega)]
          rfl
        case measure => simp [intOf]; omega
      · obtain rfl : j = k := by omega
        go_wp2
        go_ret2
        exact ⟨rfl, rfl⟩
end Go.Proofs.Ytjjbbfiogkpodaa
