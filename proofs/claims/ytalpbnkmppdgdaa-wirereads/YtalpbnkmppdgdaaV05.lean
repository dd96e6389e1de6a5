/- Var, the program's. -/
/- Var, the document's. -/
/- The walk of BitsVars. -/
/- Records: what may be, their bytes; the small functions of package record. -/
/- A record's bytes are written into a builder: putNumber, put. -/
import Derived.Test.YtalpbnkmppdgdaaV04
namespace Go.Proofs.Ytalpbnkmppdgdaa
open Go.RowKit
set_option linter.unusedVariables false

theorem ret3 {a b c d : Int} (h : a = b) : Ending.returned (.tuple #[.int .i64 a, .int .i64 c, .int .i64 d]) = .returned (.tuple #[.int .i64 b, .int .i64 c, .int .i64 d]) := by rw [h]
set_option maxHeartbeats 400000 in
theorem var_ok (s : ByteArray) (k : Nat) (w : World) (hk : k < 9) (hs : k < s.size) (hall : ∀ j, j < k → 128 ≤ byteN s j) (hb : byteN s k < 128) (hz : byteN s k = 0 → k = 0) (hsz : s.size ≤ 9223372036854775807) :
    Calls Try.prog 43 #[.string s] w fun e w' => e = .returned (.tuple #[.int .i64 (varN s (k + 1) : Nat), .int .i64 ((k : Int) + 1), .int .i64 0]) ∧ w' = w := by
  have HA : Hid (∀ j, j < k → 128 ≤ byteN s j) := hall
  clear hall
  have HZ : Hid (byteN s k = 0 → k = 0) := hz
  clear hz
  go_enter Try.func43, Try.ntmps43
  go_wp2
  go_loop [5, 11] (fun x i => ∃ j : Nat, j ≤ k ∧ i = .int .i64 j ∧ x = .int .u64 (varN s j : Nat)) (fun _ i => k + 1 - (intOf i).toNat)
  case atStart => exact ⟨0, Nat.zero_le _, rfl, rfl⟩
  case round =>
    obtain ⟨j, hj, rfl, rfl⟩ := hrel
    by_cases hlt : j < k
    · have hix : j < s.size := by omega
      have h128 := HA.out j hlt
      have hby := byteN_eq s j hix
      have hbl := byteN_lt s j
      have hg := andNot128 (byteN s j) hbl
      go_wp2
      go_round
      case rel =>
        refine ⟨j + 1, by omega, by go_num, congrArg (Value.int .u64) ?_⟩
        have e : ((byteN s j : Nat) : Int) % 128 = ((byteN s j % 128 : Nat) : Int) := by simp
        rw [e, or_group (varN s j) (byteN s j % 128) j (varN_lt s j) (by omega) (by omega)]
        rfl
      case measure => simp [intOf]; omega
    · obtain rfl : j = k := by omega
      have hby := byteN_eq s j hs
      have hbl := byteN_lt s j
      have hg := andNot128 (byteN s j) hbl
      have hX := varN_63 s (j + 1) (by omega)
      have hX0 := varN_63 s j (by omega)
      have HE : Hid (bits .or .u64 (varN s j : Nat) (IntKind.u64.wrap ((byteN s j : Int) % 128 * 2 ^ (7 * j))) = ((varN s (j + 1) : Nat) : Int)) := by
        have e : ((byteN s j : Nat) : Int) % 128 = ((byteN s j % 128 : Nat) : Int) := by simp
        have h := or_group (varN s j) (byteN s j % 128) j (varN_lt s j) (by omega) (by omega)
        rw [← e] at h
        exact h
      by_cases h0 : 0 < j
      · have hne : byteN s j ≠ 0 := fun h => by have := HZ.out h; omega
        go_wp2
        go_ret3
        exact ⟨ret3 (by rw [HE.out]; exact IntWalk.wrap64_in _ ⟨by omega, by omega⟩), rfl⟩
      · go_wp2
        all_goals
          go_ret3
          first | (exact ⟨ret3 (by rw [HE.out]; exact IntWalk.wrap64_in _ ⟨by omega, by omega⟩), rfl⟩) | (exact ⟨ret3 (by rw [or_zero _ (by omega), varN_zero s j (by assumption)]; exact IntWalk.wrap64_in _ ⟨by omega, by omega⟩), rfl⟩)
set_option maxHeartbeats 400000 in
theorem var_zero (s : ByteArray) (k : Nat) (w : World) (hk : k < 9) (hs : k < s.size) (hall : ∀ j, j < k → 128 ≤ byteN s j) (hb : byteN s k = 0) (hz : 0 < k) (hsz : s.size ≤ 9223372036854775807) :
    Calls Try.prog 43 #[.string s] w fun e w' => e = .returned (.tuple #[.int .i64 0, .int .i64 0, .int .i64 10]) ∧ w' = w := by
  have HA : Hid (∀ j, j < k → 128 ≤ byteN s j) := hall
  clear hall
  have HZ : Hid (byteN s k = 0) := hb
  clear hb
  go_enter Try.func43, Try.ntmps43
  go_wp2
  go_loop [5, 11] (fun x i => ∃ j : Nat, j ≤ k ∧ i = .int .i64 j ∧ x = .int .u64 (varN s j : Nat)) (fun _ i => k + 1 - (intOf i).toNat)
  case atStart => exact ⟨0, Nat.zero_le _, rfl, rfl⟩
  case round =>
    obtain ⟨j, hj, rfl, rfl⟩ := hrel
    by_cases hlt : j < k
    · have hix : j < s.size := by omega
      have h128 := HA.out j hlt
      have hby := byteN_eq s j hix
      have hbl := byteN_lt s j
      have hg := andNot128 (byteN s j) hbl
      go_wp2
      go_round
      case rel =>
        refine ⟨j + 1, by omega, by go_num, congrArg (Value.int .u64) ?_⟩
        have e : ((byteN s j : Nat) : Int) % 128 = ((byteN s j % 128 : Nat) : Int) := by simp
        rw [e, or_group (varN s j) (byteN s j % 128) j (varN_lt s j) (by omega) (by omega)]
        rfl
      case measure => simp [intOf]; omega
    · obtain rfl : j = k := by omega
      have hby := byteN_eq s j hs
      have hb0 := HZ.out
      rw [hb0] at hby
      have hg := andNot128 0 (by omega)
      go_wp2
      go_ret3
      exact ⟨rfl, rfl⟩
set_option maxHeartbeats 400000 in
theorem var_short (s : ByteArray) (w : World) (hs : s.size < 9) (hall : ∀ j, j < s.size → 128 ≤ byteN s j) :
    Calls Try.prog 43 #[.string s] w fun e w' => e = .returned (.tuple #[.int .i64 0, .int .i64 0, .int .i64 5]) ∧ w' = w := by
  have HA : Hid (∀ j, j < s.size → 128 ≤ byteN s j) := hall
  clear hall
  go_enter Try.func43, Try.ntmps43
  go_wp2
  go_loop [5, 11] (fun x i => ∃ j : Nat, j ≤ s.size ∧ i = .int .i64 j ∧ x = .int .u64 (varN s j : Nat)) (fun _ i => s.size + 1 - (intOf i).toNat)
  case atStart => exact ⟨0, Nat.zero_le _, rfl, rfl⟩
  case round =>
    obtain ⟨j, hj, rfl, rfl⟩ := hrel
    by_cases hlt : j < s.size
    · have hix : j < s.size := by omega
      have h128 := HA.out j hlt
      have hby := byteN_eq s j hix
      have hbl := byteN_lt s j
      have hg := andNot128 (byteN s j) hbl
      go_wp2
      go_round
      case rel =>
        refine ⟨j + 1, by omega, by go_num, congrArg (Value.int .u64) ?_⟩
        have e : ((byteN s j : Nat) : Int) % 128 = ((byteN s j % 128 : Nat) : Int) := by simp
        rw [e, or_group (varN s j) (byteN s j % 128) j (varN_lt s j) (by omega) (by omega)]
        rfl
      case measure => simp [intOf]; omega
    · obtain rfl : j = s.size := by omega
      go_wp2
      go_ret3
      exact ⟨rfl, rfl⟩
set_option maxHeartbeats 400000 in
theorem var_long (s : ByteArray) (w : World) (hs : 9 ≤ s.size) (hall : ∀ j, j < 9 → 128 ≤ byteN s j) (hsz : s.size ≤ 9223372036854775807) :
    Calls Try.prog 43 #[.string s] w fun e w' => e = .returned (.tuple #[.int .i64 0, .int .i64 0, .int .i64 10]) ∧ w' = w := by
  have HA : Hid (∀ j, j < 9 → 128 ≤ byteN s j) := hall
  clear hall
  go_enter Try.func43, Try.ntmps43
  go_wp2
  go_loop [5, 11] (fun x i => ∃ j : Nat, j ≤ 9 ∧ i = .int .i64 j ∧ x = .int .u64 (varN s j : Nat)) (fun _ i => 10 - (intOf i).toNat)
  case atStart => exact ⟨0, Nat.zero_le _, rfl, rfl⟩
  case round =>
    obtain ⟨j, hj, rfl, rfl⟩ := hrel
    by_cases hlt : j < 9
    · have hix : j < s.size := by omega
      have h128 := HA.out j hlt
      have hby := byteN_eq s j hix
      have hbl := byteN_lt s j
      have hg := andNot128 (byteN s j) hbl
      go_wp2
      go_round
      case rel =>
        refine ⟨j + 1, by omega, by go_num, congrArg (Value.int .u64) ?_⟩
        have e : ((byteN s j : Nat) : Int) % 128 = ((byteN s j % 128 : Nat) : Int) := by simp
        rw [e, or_group (varN s j) (byteN s j % 128) j (varN_lt s j) (by omega) (by omega)]
        rfl
      case measure => simp [intOf]; omega
    · obtain rfl : j = 9 := by omega
      go_wp2
      go_ret3
      exact ⟨rfl, rfl⟩
end Go.Proofs.Ytalpbnkmppdgdaa
namespace Go.Proofs.Ytalpbnkmppdgdaa
open Go.RowKit
set_option linter.unusedVariables false

theorem varN_nil (s : ByteArray) (j : Nat) (h : byteN s j = 0) : varN s (j + 1) = varN s j := varN_zero s j (by omega)
set_option maxHeartbeats 400000 in
set_option maxRecDepth 20000 in
theorem refVar_ok (s : ByteArray) (k : Nat) (w : World) (hk : k < 9) (hs : k < s.size) (hall : ∀ j, j < k → 128 ≤ byteN s j) (hb : byteN s k < 128) (hz : byteN s k = 0 → k = 0) (hsz : s.size ≤ 9223372036854775807) :
    Calls Try.prog 30 #[.string s] w fun e w' => e = .returned (.tuple #[.int .i64 (varN s (k + 1) : Nat), .int .i64 ((k : Int) + 1), .int .i64 0]) ∧ w' = w := by
  have HA : Hid (∀ j, j < k → 128 ≤ byteN s j) := hall
  clear hall
  have HZ : Hid (byteN s k = 0 → k = 0) := hz
  clear hz
  go_enter Try.func30, Try.ntmps30
  go_wp2
  go_loop [5, 6] (fun x i => ∃ j : Nat, j ≤ k ∧ i = .int .i64 j ∧ x = .int .i64 (varN s j : Nat)) (fun _ i => k + 1 - (intOf i).toNat)
  case atStart => exact ⟨0, Nat.zero_le _, rfl, rfl⟩
  case round =>
    obtain ⟨j, hj, rfl, rfl⟩ := hrel
    by_cases hlt : j < k
    · have hix : j < s.size := by omega
      have h128 := HA.out j hlt
      have hby := byteN_eq s j hix
      have hbl := byteN_lt s j
      have hg := and127 (byteN s j) hbl
      go_wp2
      go_round
      case rel =>
        refine ⟨j + 1, by omega, by go_num, congrArg (Value.int .i64) ?_⟩
        have e : ((byteN s j : Nat) : Int) % 128 = ((byteN s j % 128 : Nat) : Int) := by simp
        rw [e, add_group (varN s j) (byteN s j % 128) j (varN_lt s j) (by omega) (by omega)]
        rfl
      case measure => simp [intOf]; omega
    · obtain rfl : j = k := by omega
      have hby := byteN_eq s j hs
      have hbl := byteN_lt s j
      have hg := and127 (byteN s j) hbl
      have hX := varN_63 s (j + 1) (by omega)
      have hX0 := varN_63 s j (by omega)
      have HE : Hid (wrap64 ((varN s j : Nat) + wrap64 ((byteN s j : Int) % 128 * 2 ^ (7 * j))) = ((varN s (j + 1) : Nat) : Int)) := by
        have e : ((byteN s j : Nat) : Int) % 128 = ((byteN s j % 128 : Nat) : Int) := by simp
        have h := add_group (varN s j) (byteN s j % 128) j (varN_lt s j) (by omega) (by omega)
        rw [← e] at h
        exact h
      by_cases h0 : 0 < j
      · have hne : byteN s j ≠ 0 := fun h => by have := HZ.out h; omega
        go_wp2
        go_ret3
        exact ⟨ret3 HE.out, rfl⟩
      · go_wp2
        all_goals
          go_ret3
          first | (exact ⟨ret3 HE.out, rfl⟩) | (exact ⟨ret3 (by rw [varN_nil s j (by assumption), IntWalk.wrap64_in 0 ⟨by omega, by omega⟩, IntWalk.wrap64_in _ ⟨by omega, by omega⟩]; omega), rfl⟩)
set_option maxHeartbeats 400000 in
set_option maxRecDepth 20000 in
theorem refVar_zero (s : ByteArray) (k : Nat) (w : World) (hk : k < 9) (hs : k < s.size) (hall : ∀ j, j < k → 128 ≤ byteN s j) (hb : byteN s k = 0) (hz : 0 < k) (hsz : s.size ≤ 9223372036854775807) :
    Calls Try.prog 30 #[.string s] w fun e w' => e = .returned (.tuple #[.int .i64 0, .int .i64 0, .int .i64 10]) ∧ w' = w := by
  have HA : Hid (∀ j, j < k → 128 ≤ byteN s j) := hall
  clear hall
  have HZ : Hid (byteN s k = 0) := hb
  clear hb
  go_enter Try.func30, Try.ntmps30
  go_wp2
  go_loop [5, 6] (fun x i => ∃ j : Nat, j ≤ k ∧ i = .int .i64 j ∧ x = .int .i64 (varN s j : Nat)) (fun _ i => k + 1 - (intOf i).toNat)
  case atStart => exact ⟨0, Nat.zero_le _, rfl, rfl⟩
  case round =>
    obtain ⟨j, hj, rfl, rfl⟩ := hrel
    by_cases hlt : j < k
    · have hix : j < s.size := by omega
      have h128 := HA.out j hlt
      have hby := byteN_eq s j hix
      have hbl := byteN_lt s j
      have hg := and127 (byteN s j) hbl
      go_wp2
      go_round
      case rel =>
        refine ⟨j + 1, by omega, by go_num, congrArg (Value.int .i64) ?_⟩
        have e : ((byteN s j : Nat) : Int) % 128 = ((byteN s j % 128 : Nat) : Int) := by simp
        rw [e, add_group (varN s j) (byteN s j % 128) j (varN_lt s j) (by omega) (by omega)]
        rfl
      case measure => simp [intOf]; omega
    · obtain rfl : j = k := by omega
      have hby := byteN_eq s j hs
      have hb0 := HZ.out
      rw [hb0] at hby
      have hg := and127 0 (by omega)
      go_wp2
      go_ret3
      exact ⟨rfl, rfl⟩
set_option maxHeartbeats 400000 in
set_option maxRecDepth 20000 in
theorem refVar_short (s : ByteArray) (w : World) (hs : s.size < 9) (hall : ∀ j, j < s.size → 128 ≤ byteN s j) :
    Calls Try.prog 30 #[.string s] w fun e w' => e = .returned (.tuple #[.int .i64 0, .int .i64 0, .int .i64 5]) ∧ w' = w := by
  have HA : Hid (∀ j, j < s.size → 128 ≤ byteN s j) := hall
  clear hall
  go_enter Try.func30, Try.ntmps30
  go_wp2
  go_loop [5, 6] (fun x i => ∃ j : Nat, j ≤ s.size ∧ i = .int .i64 j ∧ x = .int .i64 (varN s j : Nat)) (fun _ i => s.size + 1 - (intOf i).toNat)
  case atStart => exact ⟨0, Nat.zero_le _, rfl, rfl⟩
  case round =>
    obtain ⟨j, hj, rfl, rfl⟩ := hrel
    by_cases hlt : j < s.size
    · have hix : j < s.size := by omega
      have h128 := HA.out j hlt
      have hby := byteN_eq s j hix
      have hbl := byteN_lt s j
      have hg := and127 (byteN s j) hbl
      go_wp2
      go_round
      case rel =>
        refine ⟨j + 1, by omega, by go_num, congrArg (Value.int .i64) ?_⟩
        have e : ((byteN s j : Nat) : Int) % 128 = ((byteN s j % 128 : Nat) : Int) := by simp
        rw [e, add_group (varN s j) (byteN s j % 128) j (varN_lt s j) (by omega) (by omega)]
        rfl
      case measure => simp [intOf]; omega
    · obtain rfl : j = s.size := by omega
      go_wp2
      go_ret3
      exact ⟨rfl, rfl⟩
set_option maxHeartbeats 400000 in
set_option maxRecDepth 20000 in
theorem refVar_long (s : ByteArray) (w : World) (hs : 9 ≤ s.size) (hall : ∀ j, j < 9 → 128 ≤ byteN s j) (hsz : s.size ≤ 9223372036854775807) :
    Calls Try.prog 30 #[.string s] w fun e w' => e = .returned (.tuple #[.int .i64 0, .int .i64 0, .int .i64 10]) ∧ w' = w := by
  have HA : Hid (∀ j, j < 9 → 128 ≤ byteN s j) := hall
  clear hall
  go_enter Try.func30, Try.ntmps30
  go_wp2
  go_loop [5, 6] (fun x i => ∃ j : Nat, j ≤ 9 ∧ i = .int .i64 j ∧ x = .int .i64 (varN s j : Nat)) (fun _ i => 10 - (intOf i).toNat)
  case atStart => exact ⟨0, Nat.zero_le _, rfl, rfl⟩
  case round =>
    obtain ⟨j, hj, rfl, rfl⟩ := hrel
    by_cases hlt : j < 9
    · have hix : j < s.size := by omega
      have h128 := HA.out j hlt
      have hby := byteN_eq s j hix
      have hbl := byteN_lt s j
      have hg := and127 (byteN s j) hbl
      go_wp2
      go_round
      case rel =>
        refine ⟨j + 1, by omega, by go_num, congrArg (Value.int .i64) ?_⟩
        have e : ((byteN s j : Nat) : Int) % 128 = ((byteN s j % 128 : Nat) : Int) := by simp
        rw [e, add_group (varN s j) (byteN s j % 128) j (varN_lt s j) (by omega) (by omega)]
        rfl
      case measure => simp [intOf]; omega
    · obtain rfl : j = 9 := by omega
      go_wp2
      go_ret3
      exact ⟨rfl, rfl⟩
end Go.Proofs.Ytalpbnkmppdgdaa
namespace Go.Proofs.Ytalpbnkmppdgdaa
open Go.RowKit
set_option linter.unusedVariables false

theorem var_both (s : ByteArray) (hsz : s.size ≤ 9223372036854775807) : ∃ (x k g : Int),
    (∀ w, Calls Try.prog 43 #[.string s] w fun r w' => r = .returned (.tuple #[.int .i64 x, .int .i64 k, .int .i64 g]) ∧ w' = w) ∧
    (∀ w, Calls Try.prog 30 #[.string s] w fun r w' => r = .returned (.tuple #[.int .i64 x, .int .i64 k, .int .i64 g]) ∧ w' = w) := by
  by_cases h : ∃ i, i < min s.size 9 ∧ byteN s i < 128
  · obtain ⟨k, hk, hb, hl⟩ := least _ h
    have hall : ∀ j, j < k → 128 ≤ byteN s j := fun j hj => by have := hl j hj; omega
    by_cases h0 : byteN s k = 0 ∧ 0 < k
    · exact ⟨0, 0, 10, fun w => var_zero s k w (by omega) (by omega) hall h0.1 h0.2 hsz, fun w => refVar_zero s k w (by omega) (by omega) hall h0.1 h0.2 hsz⟩
    · have hz : byteN s k = 0 → k = 0 := fun hh => by
        rcases Nat.eq_zero_or_pos k with e | e
        · exact e
        · exact absurd ⟨hh, e⟩ h0
      exact ⟨_, _, 0, fun w => var_ok s k w (by omega) (by omega) hall hb hz hsz, fun w => refVar_ok s k w (by omega) (by omega) hall hb hz hsz⟩
  · have hall : ∀ j, j < min s.size 9 → 128 ≤ byteN s j := fun j hj => by
      rcases Nat.lt_or_ge (byteN s j) 128 with hh | hh
      · exact absurd ⟨j, hj, hh⟩ h
      · exact hh
    by_cases hs : s.size < 9
    · exact ⟨0, 0, 5, fun w => var_short s w hs (fun j hj => hall j (by omega)), fun w => refVar_short s w hs (fun j hj => hall j (by omega))⟩
    · exact ⟨0, 0, 10, fun w => var_long s w (by omega) (fun j hj => hall j (by omega)) hsz, fun w => refVar_long s w (by omega) (fun j hj => hall j (by omega)) hsz⟩
theorem toBA_len (l : List Nat) : (toBA l).size = l.length := by
  show ((l.map UInt8.ofNat).toArray).size = _
  simp
/-- What PutVar gave, with whatever behind it, is read as the number. -/
theorem var_back (n : Nat) (s : ByteArray) (hn : n ≤ 9223372036854775807) (hs : s.size ≤ 140737488351232) (w : World) :
    Calls Try.prog 43 #[.string (toBA (varB 10 n) ++ s)] w fun r w' => r = .returned (.tuple #[.int .i64 n, .int .i64 (toBA (varB 10 n)).size, .int .i64 0]) ∧ w' = w := by
  have e9 : varB 10 n = varB 9 n := varB_fuel 9 n (by omega) (by omega)
  rw [e9]
  obtain ⟨k, h1, h2, h3, h4, h5, h6⟩ := varB_shape 9 n (by omega) (by omega)
  have hlt := varB_lt 9 n
  have hb : ∀ i, i < (varB 9 n).length → byteN (toBA (varB 9 n) ++ s) i = (varB 9 n).getD i 0 := fun i hi => byteN_append _ _ _ hi hlt
  have hsize : (toBA (varB 9 n) ++ s).size = k + 1 + s.size := by rw [ByteArray.size_append, toBA_len, h1]
  have hv : varN (toBA (varB 9 n) ++ s) (k + 1) = n := by
    rw [varN_gsum _ (varB 9 n) hb (k + 1) (by omega), ← h1, List.take_length, h6]
  have h := var_ok (toBA (varB 9 n) ++ s) k w (by omega) (by omega) (fun j hj => by rw [hb j (by omega)]; exact h3 j hj) (by rw [hb k (by omega)]; exact h4)
    (fun hz => by
      rw [hb k (by omega)] at hz
      rcases Nat.eq_zero_or_pos k with e | e
      · exact e
      · exact absurd hz (h5 e)) (by omega)
  rw [hv] at h
  have e2 : ((toBA (varB 9 n)).size : Int) = (k : Int) + 1 := by rw [toBA_len, h1]; omega
  rw [e2]
  exact h
end Go.Proofs.Ytalpbnkmppdgdaa
namespace Go.Proofs.Ytalpbnkmppdgdaa
open Go.RowKit
set_option linter.unusedVariables false

/-- A record. -/
structure Rec where
  off : Int
  key : ByteArray
  val : ByteArray
  gone : Bool
def Rec.cs (r : Rec) : List Value := [.int .i64 r.off, .string r.key, .string r.val, .bool r.gone]
def Rec.v (r : Rec) : Value := .agg #[.int .i64 r.off, .string r.key, .string r.val, .bool r.gone]
/-- May it be? -/
def mayB (r : Rec) : Bool := decide (0 ≤ r.off) && decide (r.off < 1099511627776) && decide (r.key.size ≤ 64) && decide (r.val.size ≤ 4096) && (!r.gone || decide (r.val.size = 0))
def errN (b : Bool) : Int := if b then 0 else 90
def offB (n : Int) : Bool := decide (0 ≤ n) && decide (n < 1099511627776)
theorem isOffset_ok (n : Int) (w : World) :
    Calls Try.prog 50 #[.int .i64 n] w fun e w' => e = .returned (.bool (offB n)) ∧ w' = w := by
  by_cases h : 0 ≤ n
  · have e : offB n = decide (n < 1099511627776) := by unfold offB; rw [decide_eq_true h]; rfl
    rw [e]
    clear e
    go_enter Try.func50, Try.ntmps50
    go_wp2
    go_ret
    exact ⟨rfl, rfl⟩
  · have e : offB n = false := by unfold offB; rw [decide_eq_false h]; rfl
    rw [e]
    clear e
    go_enter Try.func50, Try.ntmps50
    go_wp2
    go_ret
    exact ⟨rfl, rfl⟩
theorem mayB_false {r : Rec} (h : ¬ mayB r = true) : mayB r = false := by simpa using h
theorem mayB_iff (r : Rec) : mayB r = true ↔ offB r.off = true ∧ r.key.size ≤ 64 ∧ r.val.size ≤ 4096 ∧ (r.gone = true → r.val.size = 0) := by
  obtain ⟨off, key, val, gone⟩ := r
  unfold mayB offB
  simp only [Bool.and_eq_true, decide_eq_true_eq, Bool.or_eq_true, Bool.not_eq_true']
  cases gone
  · simp only [true_or, and_true]; constructor
    · intro h; exact ⟨h.1.1, h.1.2, h.2, fun h => absurd h (by decide)⟩
    · intro h; exact ⟨⟨h.1, h.2.1⟩, h.2.2.1⟩
  · simp only [Bool.true_eq_false, false_or]; constructor
    · intro h; exact ⟨h.1.1.1, h.1.1.2, h.1.2, fun _ => h.2⟩
    · intro h; exact ⟨⟨⟨h.1, h.2.1⟩, h.2.2.1⟩, h.2.2.2 trivial⟩
theorem check_ok (off : Int) (key val : ByteArray) (gone : Bool) (w : World) (hk : key.size ≤ 9223372036854775807) (hv : val.size ≤ 9223372036854775807) :
    Calls Try.prog 41 #[.agg #[.int .i64 off, .string key, .string val, .bool gone]] w fun e w' => e = .returned (.int .i64 (errN (mayB ⟨off, key, val, gone⟩))) ∧ Below w.heap.size w w' := by
  have HB : Hid (Below w.heap.size w (w.alloc (.cells #[.int .i64 off, .string key, .string val, .bool gone] 56))) := (Below.refl _ _).alloc (Nat.le_refl _) _
  have HM : Hid (mayB ⟨off, key, val, gone⟩ = true ↔ offB off = true ∧ key.size ≤ 64 ∧ val.size ≤ 4096 ∧ (gone = true → val.size = 0)) := mayB_iff ⟨off, key, val, gone⟩
  have HO := isOffset_ok off
  obtain ⟨m, hm⟩ : ∃ m, mayB ⟨off, key, val, gone⟩ = m := ⟨_, rfl⟩
  rw [hm] at HM ⊢
  clear hm
  generalize offB off = ob at HO HM
  have ht : errN true = 0 := rfl
  have hf : errN false = 90 := rfl
  cases ob
  · obtain rfl : m = false := by cases m; rfl; exact absurd (HM.out.1 rfl).1 (by decide)
    go_enter Try.func41, Try.ntmps41
    cases gone
    all_goals
      go_wp2_with (go_at_call 50; refine (HO _).mono ?_; rintro e w' ⟨rfl, rfl⟩)
      go_ret
      exact ⟨rfl, HB.out⟩
  · by_cases h3 : key.size ≤ 64
    · cases gone
      · by_cases h4 : val.size ≤ 4096
        · obtain rfl : m = true := HM.out.2 ⟨rfl, h3, h4, fun h => absurd h (by decide)⟩
          go_enter Try.func41, Try.ntmps41
          go_wp2_with (go_at_call 50; refine (HO _).mono ?_; rintro e w' ⟨rfl, rfl⟩)
          go_ret
          exact ⟨rfl, HB.out⟩
        · obtain rfl : m = false := by cases m; rfl; exact absurd (HM.out.1 rfl).2.2.1 h4
          go_enter Try.func41, Try.ntmps41
          go_wp2_with (go_at_call 50; refine (HO _).mono ?_; rintro e w' ⟨rfl, rfl⟩)
          go_ret
          exact ⟨rfl, HB.out⟩
      · by_cases h4 : 0 < val.size
        · obtain rfl : m = false := by cases m; rfl; exact absurd ((HM.out.1 rfl).2.2.2 rfl) (by omega)
          go_enter Try.func41, Try.ntmps41
          go_wp2_with (go_at_call 50; refine (HO _).mono ?_; rintro e w' ⟨rfl, rfl⟩)
          go_ret
          exact ⟨rfl, HB.out⟩
        · obtain rfl : m = true := HM.out.2 ⟨rfl, h3, by omega, fun _ => by omega⟩
          go_enter Try.func41, Try.ntmps41
          go_wp2_with (go_at_call 50; refine (HO _).mono ?_; rintro e w' ⟨rfl, rfl⟩)
          go_ret
          exact ⟨rfl, HB.out⟩
    · obtain rfl : m = false := by cases m; rfl; exact absurd (HM.out.1 rfl).2.1 h3
      go_enter Try.func41, Try.ntmps41
      cases gone
      all_goals
        go_wp2_with (go_at_call 50; refine (HO _).mono ?_; rintro e w' ⟨rfl, rfl⟩)
        go_ret
        exact ⟨rfl, HB.out⟩
end Go.Proofs.Ytalpbnkmppdgdaa
namespace Go.Proofs.Ytalpbnkmppdgdaa
open Go.RowKit
set_option linter.unusedVariables false

/-- Block b is a builder of the bytes l; its own row lies from block B on. -/
def BS (w : World) (B b : Nat) (l : List UInt8) : Prop := Lib.IsBuilderF 43 5 B b (Lib.byteCells l) w
theorem atF_below {T e : TypeId} {B b : Nat} {p : Value} {bs : List Value} {w w' : World} (h : Lib.BuilderAtF T e B b p bs w) (hb : Below w.heap.size w w') : Lib.BuilderAtF T e B b p bs w' := by
  obtain ⟨h1, v, h2, h3, h4⟩ := h
  refine ⟨h1, v, (hb.block b (lt_of_block h2)).trans h2, ⟨h3.1, ?_⟩, h4⟩
  rcases h3.2 with hn | ⟨g, cap, cur, fz, hv, hg, hh, r⟩
  · exact .inl hn
  · exact .inr ⟨g, cap, cur, fz, hv, hg, (hb.block g (lt_of_block hh)).trans hh, r⟩
theorem BS.below {w w' : World} {B b : Nat} {l : List UInt8} (h : BS w B b l) (hb : Below w.heap.size w w') : BS w' B b l :=
  h.elim (fun x => .inl (atF_below x hb)) (fun x => .inr (atF_below x hb))
theorem BS.lt {w : World} {B b : Nat} {l : List UInt8} (h : BS w B b l) : b < w.heap.size := by
  rcases h with h | h <;> exact h.lt
theorem BS.new (w : World) : BS (w.alloc (.cells #[.pointer none, .slice none 0 0] 43)) w.heap.size w.heap.size [] := Lib.IsBuilderF.of (Lib.fresh_isBuilder _ _ w)
theorem BS.size {w : World} {B b : Nat} {l : List UInt8} (h : BS w B b l) : B ≤ b := by
  rcases h with h | h <;> exact h.1
theorem kept_of_below {e : TypeId} {b : Option Nat} {w w' : World} (h : Below w.heap.size w w') : Lib.OthersKept e b w w' :=
  fun k o hk _ _ => (h.block k (by rcases Nat.lt_or_ge k w.heap.size with hl | hl; exact hl; simp [Array.getElem?_eq_none hl] at hk)).trans hk
/-- What a call that writes into the builder keeps. -/
structure BF (B b : Nat) (w w' : World) : Prop where
  below : Below B w w'
  kept : Lib.OthersKept 5 (some b) w w'
theorem BF.refl (B b : Nat) (w : World) : BF B b w w := ⟨Below.refl _ _, Lib.OthersKept.refl _ _ _⟩
theorem BF.trans {B b : Nat} {u v w : World} (h : BF B b u v) (k : BF B b v w) : BF B b u w := ⟨h.below.trans k.below, h.kept.trans k.kept⟩
theorem BF.of_below {B b : Nat} {w w' : World} (h : Below w.heap.size w w') (hB : B ≤ w.heap.size) : BF B b w w' := ⟨h.mono hB, kept_of_below h⟩
theorem BF.size {B b : Nat} {w w' : World} (h : BF B b w w') : w.heap.size ≤ w'.heap.size := h.below.size
/-- A number's bytes. -/
def vb (n : Nat) : List UInt8 := (varB 10 n).map UInt8.ofNat
theorem vb_length (n : Nat) : (vb n).length ≤ 10 := by simp only [vb, List.length_map]; exact varB_length 10 n
def mk (l : List UInt8) : ByteArray := ⟨l.toArray⟩
theorem mk_size (l : List UInt8) : (mk l).size = l.length := by show l.toArray.size = _; simp
theorem mk_toList (l : List UInt8) : (mk l).data.toList = l := by simp [mk]
theorem toBA_vb (n : Nat) : toBA (varB 10 n) = mk (vb n) := rfl
theorem write_ok (B b : Nat) (l : List UInt8) (s : ByteArray) (w : World) (h : BS w B b l) (hlen : l.length + s.size ≤ 140737488355328) (hB : B ≤ w.heap.size) :
    Calls Try.prog 34 #[.pointer (some ⟨b, 0, none⟩), .string s] w fun e w' => e = .returned (.tuple #[.int .i64 s.size, .nilIface]) ∧ BS w' B b (l ++ s.data.toList) ∧ BF B b w w' := by
  refine (Try.Builder_WriteString_k B b (Lib.byteCells l) s w h (by rw [Lib.byteCells_length]; exact hlen) hB).mono ?_
  rintro e w' ⟨rfl, h1, h2, h3⟩
  refine ⟨rfl, .inr ?_, h2, h3⟩
  rw [Lib.byteCells_append, ← Lib.strCells_eq]
  exact h1
set_option maxHeartbeats 400000 in
theorem putNumber_ok (B b : Nat) (l : List UInt8) (n : Nat) (w : World) (h : BS w B b l) (hn : n ≤ 9223372036854775807) (hlen : l.length + 10 ≤ 140737488355328) (hB : B ≤ w.heap.size) :
    Calls Try.prog 56 #[.pointer (some ⟨b, 0, none⟩), .int .i64 n] w fun e w' => e = .returned (.tuple #[]) ∧ BS w' B b (l ++ vb n) ∧ BF B b w w' := by
  have HW : Hid (BS w B b l) := h
  have HL : Hid (∀ W, BS W B b l → B ≤ W.heap.size → Calls Try.prog 34 #[.pointer (some ⟨b, 0, none⟩), .string (mk (vb n))] W fun e w' => e = .returned (.tuple #[.int .i64 (mk (vb n)).size, .nilIface]) ∧ BS w' B b (l ++ vb n) ∧ BF B b W w') := fun W h hB => by
    have := write_ok B b l (mk (vb n)) W h (by rw [mk_size]; have := vb_length n; omega) hB
    rw [mk_toList] at this
    exact this
  have HP : Hid (∀ W, Calls Try.prog 48 #[.int .i64 n] W fun e w' => e = .returned (.tuple #[.string (mk (vb n)), .int .i64 0]) ∧ Below W.heap.size W w') := fun W => putVar n W hn
  obtain ⟨z, hz⟩ : ∃ z, mk (vb n) = z := ⟨_, rfl⟩
  rw [hz] at HL HP
  clear hz h hlen
  go_enter Try.func56, Try.ntmps56
  go_wp2_with fail
  refine (HP.out _).mono ?_
  rintro e w1 ⟨rfl, hb1⟩
  have H1 : Hid (BS w1 B b l) := HW.out.below hb1
  have F1 : Hid (BF B b w w1) := BF.of_below hb1 hB
  have hs1 : B ≤ w1.heap.size := Nat.le_trans hB hb1.size
  clear hb1
  go_wp2_with fail
  refine (HL.out _ H1.out hs1).mono ?_
  rintro e w2 ⟨rfl, hb2, hf2⟩
  have H2 : Hid (BS w2 B b (l ++ vb n)) := hb2
  have F2 : Hid (BF B b w w2) := F1.out.trans hf2
  clear hb2 hf2
  go_wp2
  first | go_ret | go_end0 | skip
  exact ⟨rfl, H2.out, F2.out⟩
end Go.Proofs.Ytalpbnkmppdgdaa
