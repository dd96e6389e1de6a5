/- Reader.Bits: the number of the next bits, and the place behind them. -/
import Derived.Test.YtchjnfckcfikkaaDoorFa
import Derived.Test.YtchjnfckcfikkaaDoorMa
namespace Go.Proofs.YtchjnfckcfikkaaDoor
open Go.RowKit

set_option maxHeartbeats 400000 in
theorem rbits (b : Nat) (s : ByteArray) (p n : Nat) (w : World) (hn : n ≤ 57) (hp : p + n ≤ 8 * s.size) (hs : s.size ≤ 281474976710656) (hr : RS w b s p) :
    Calls Tryd.prog 50 #[.pointer (some ⟨b, 0, none⟩), .int .i64 n] w fun e w' => e = .returned (.tuple #[.int .i64 (num s p n : Nat), .int .i64 0]) ∧ RS w' b s (p + n) ∧ Only b w w' := by
  obtain ⟨h0, h1, h2, hf⟩ := hr.cells
  have HR : Hid (RS w b s p) := hr
  clear hr
  go_enter Tryd.func50, Tryd.ntmps50
  go_wp2_with (go_at_call 32; refine (rgiven_yes _ _ h0).mono ?_; rintro e w' ⟨rfl, rfl⟩)
  go_quiet (fail)
  go_wp2
  go_loop [6, 35] (fun x i => ∃ k : Nat, k ≤ n ∧ i = .int .i64 k ∧ x = .int .u64 (num s p k : Nat)) (fun _ i => n - (intOf i).toNat)
  case atStart => exact ⟨0, Nat.zero_le _, rfl, rfl⟩
  case round =>
    obtain ⟨k, hk, rfl, rfl⟩ := hrel
    by_cases hlt : k < n
    · have hix : (p + k) / 8 < s.size := by omega
      go_wp2
      go_round
      case rel => exact ⟨k + 1, by omega, by go_num, congrArg (Value.int .u64) (num_step s p k (by omega) hix)⟩
      case measure => simp [intOf]; omega
    · obtain rfl : k = n := by omega
      have hnl : num s p k < 144115188075855872 := Nat.lt_of_lt_of_le (num_lt s p k) (pow_le k 57 hn)
      go_wp2
      go_ret2
      exact ⟨rfl, HR.out.moved (p + k) nq, (Only.setCell b 2 w' _).drewN nq⟩
/-- A call that the reader refuses for its argument. -/
theorem rbits_arg (b : Nat) (s : ByteArray) (p : Nat) (n : Int) (w : World) (hn : n < 0 ∨ 57 < n) (hr : RS w b s p) :
    Calls Tryd.prog 50 #[.pointer (some ⟨b, 0, none⟩), .int .i64 n] w fun e w' => e = .returned (.tuple #[.int .i64 0, .int .i64 1]) ∧ w' = w := by
  obtain ⟨h0, h1, h2, hf⟩ := hr.cells
  clear hr
  rcases hn with hn | hn
  · go_enter Tryd.func50, Tryd.ntmps50
    go_wp2_with (go_at_call 32; refine (rgiven_yes _ _ h0).mono ?_; rintro e w' ⟨rfl, rfl⟩)
    go_ret2
    exact ⟨rfl, rfl⟩
  · have hn' : ¬ n < 0 := by omega
    go_enter Tryd.func50, Tryd.ntmps50
    go_wp2_with (go_at_call 32; refine (rgiven_yes _ _ h0).mono ?_; rintro e w' ⟨rfl, rfl⟩)
    go_ret2
    exact ⟨rfl, rfl⟩
theorem rbits_short (b : Nat) (s : ByteArray) (p n : Nat) (w : World) (hn : n ≤ 57) (hp : p ≤ 8 * s.size) (hq : 8 * s.size < p + n) (hs : s.size ≤ 281474976710656) (hr : RS w b s p) :
    Calls Tryd.prog 50 #[.pointer (some ⟨b, 0, none⟩), .int .i64 n] w fun e w' => e = .returned (.tuple #[.int .i64 0, .int .i64 5]) ∧ ∃ k, w' = w.drewN k := by
  obtain ⟨h0, h1, h2, hf⟩ := hr.cells
  clear hr
  go_enter Tryd.func50, Tryd.ntmps50
  go_wp2_with (go_at_call 32; refine (rgiven_yes _ _ h0).mono ?_; rintro e w' ⟨rfl, rfl⟩)
  go_quiet (fail)
  go_wp2
  go_ret2
  exact ⟨rfl, nq, rfl⟩
theorem ralign (b : Nat) (s : ByteArray) (p : Nat) (w : World) (hp : p ≤ 8 * s.size) (hs : s.size ≤ 281474976710656) (hr : RS w b s p) :
    Calls Tryd.prog 51 #[.pointer (some ⟨b, 0, none⟩)] w fun e w' => e = .returned (.int .i64 0) ∧ RS w' b s ((p + 7) / 8 * 8) ∧ Only b w w' := by
  obtain ⟨h0, h1, h2, hf⟩ := hr.cells
  have HR : Hid (RS w b s p) := hr
  clear hr
  go_enter Tryd.func51, Tryd.ntmps51
  go_wp2_with (first | (go_at_call 32; refine (rgiven_yes _ _ h0).mono ?_; rintro e w' ⟨rfl, rfl⟩) | (go_at_call 66; refine (byteEnd _ _ (by omega) (by omega)).mono ?_; rintro e w' ⟨rfl, rfl⟩))
  go_ret
  exact ⟨rfl, HR.out.moved ((p + 7) / 8 * 8) 0, Only.setCell b 2 _ _⟩
end Go.Proofs.YtchjnfckcfikkaaDoor
