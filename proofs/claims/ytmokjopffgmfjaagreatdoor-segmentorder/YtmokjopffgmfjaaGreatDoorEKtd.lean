/- Layer 11: the document's Head of a batch by no codec. -/
import Derived.Test.YtmokjopffgmfjaaGreatDoorEKtb
namespace Go.Proofs.YtmokjopffgmfjaaGreatDoor
open Go.RowKit
set_option linter.unusedVariables false
set_option maxRecDepth 20000
set_option maxRecDepth 20000

theorem rnum10_ok (s : ByteArray) (at_ k n : Nat) (w : World) (hat : at_ + k ≤ s.size) (hk1 : 1 ≤ k) (hk : k ≤ 8) (hsz : s.size ≤ 140737488355328) (hx : fixN (s.extract at_ s.size) k = n) (hn : n ≤ 9223372036854775807) :
    Calls Tryz.prog 68 #[.string s, .int .i64 (at_ : Nat), .int .i64 (k : Nat)] w fun e w' => e = .returned (.int .i64 (n : Nat)) ∧ w' = w := by
  have hes : (s.extract at_ s.size).size = s.size - at_ := by simp
  have HF : Hid (Calls Tryz.prog 84 #[.string (s.extract at_ s.size), .int .i64 (k : Nat)] w fun e w' => e = .returned (.tuple #[.int .i64 (n : Nat), .int .i64 0]) ∧ w' = w) := by
    have := refFixed (s.extract at_ s.size) k w hk1 hk (by omega) (by omega) (fun h8 h => by
      subst h8
      have ht := fixN_top (s.extract at_ s.size)
      have hb := byte_eq (s.extract at_ s.size) 7 h
      have : ¬ 2 ^ 63 ≤ fixN (s.extract at_ s.size) 8 := by omega
      rw [ht] at this
      omega)
    rw [hx] at this
    exact this
  have ha : (at_ : Int) ≤ (s.size : Int) := by omega
  clear hx hn hes hat hk1 hk
  go_enter Tryz.func68, Tryz.ntmps68
  go_wp2_with fail
  refine HF.out.mono ?_
  rintro e W ⟨rfl, hW⟩
  obtain rfl := hW.symm
  clear HF hW
  go_wp2
  go_ret
  exact ⟨rfl, rfl⟩
end Go.Proofs.YtmokjopffgmfjaaGreatDoor
