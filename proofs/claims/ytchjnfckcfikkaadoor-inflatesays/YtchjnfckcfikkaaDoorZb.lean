/- An unpacker's bits, or why they are not there. -/
import Derived.Test.YtchjnfckcfikkaaDoorZa
import Derived.Test.YtchjnfckcfikkaaDoorRc
namespace Go.Proofs.YtchjnfckcfikkaaDoor
open Go.RowKit
set_option linter.unusedVariables false

set_option maxRecDepth 20000 in
set_option maxHeartbeats 1000000 in
theorem ubits_ok (u b : Nat) (s : ByteArray) (p n : Nat) (w : World) (hu : w.cell? ⟨u, 0, none⟩ = some (.pointer (some ⟨b, 0, none⟩))) (hr : RS w b s p) (hn : n ≤ 57) (hp : p + n ≤ 8 * s.size) (hs : s.size ≤ 281474976710656) :
    Calls Tryd.prog 41 #[.pointer (some ⟨u, 0, none⟩), .int .i64 n] w fun e w' => e = .returned (.int .i64 (num s p n : Nat)) ∧ RS w' b s (p + n) ∧ Only b w w' := by
  have HB : Hid (∀ _ : Unit, Calls Tryd.prog 50 #[.pointer (some ⟨b, 0, none⟩), .int .i64 n] w fun e w' => e = .returned (.tuple #[.int .i64 (num s p n : Nat), .int .i64 0]) ∧ RS w' b s (p + n) ∧ Only b w w') := fun _ => rbits b s p n w hn hp hs hr
  clear hr
  go_enter Tryd.func41, Tryd.ntmps41
  go_wp2_with fail
  refine (HB.out ()).mono ?_
  rintro e w1 ⟨rfl, h1, h2⟩
  have H1 : Hid (RS w1 b s (p + n) ∧ Only b w w1) := ⟨h1, h2⟩
  clear h1 h2
  go_wp2_with fail
  refine (check_ok w1).mono ?_
  rintro e w2 ⟨rfl, hw⟩
  obtain rfl := hw.symm
  go_wp2
  go_ret
  exact ⟨rfl, H1.out⟩
set_option maxRecDepth 20000 in
set_option maxHeartbeats 1000000 in
theorem ubits_short (u b : Nat) (s : ByteArray) (p n : Nat) (w : World) (hu : w.cell? ⟨u, 0, none⟩ = some (.pointer (some ⟨b, 0, none⟩))) (hr : RS w b s p) (hn : n ≤ 57) (hp : p ≤ 8 * s.size) (hq : 8 * s.size < p + n) (hs : s.size ≤ 281474976710656) :
    Calls Tryd.prog 41 #[.pointer (some ⟨u, 0, none⟩), .int .i64 n] w fun e w' => e = .panicked (gave 5) ∧ ∃ k, w' = w.drewN k := by
  have HB : Hid (∀ _ : Unit, Calls Tryd.prog 50 #[.pointer (some ⟨b, 0, none⟩), .int .i64 n] w fun e w' => e = .returned (.tuple #[.int .i64 0, .int .i64 5]) ∧ ∃ k, w' = w.drewN k) := fun _ => rbits_short b s p n w hn hp hq hs hr
  clear hr
  go_enter Tryd.func41, Tryd.ntmps41
  go_wp2_with fail
  refine (HB.out ()).mono ?_
  rintro e w1 ⟨rfl, k, rfl⟩
  go_wp2_with fail
  refine (check_no 5 (by decide) _).mono ?_
  rintro e w2 ⟨rfl, hw⟩
  obtain rfl := hw.symm
  go_wp2
  exact ⟨rfl, rfl, k, rfl⟩
end Go.Proofs.YtchjnfckcfikkaaDoor
