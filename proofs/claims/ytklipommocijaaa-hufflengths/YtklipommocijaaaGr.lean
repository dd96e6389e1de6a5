/- What must come, whatever the arguments are. -/
import Derived.Test.YtklipommocijaaaGq
namespace Go.Proofs.Ytklipommocijaaa
open Go.RowKit PT
set_option linter.unusedVariables false

set_option maxRecDepth 20000 in
set_option maxHeartbeats 4000000 in
theorem awake (w : World) : Calls Try.prog 10 #[] w fun e w' => e = .returned (.bool true) ∧ Below w.heap.size w w' := by
  go_enter Try.func10, Try.ntmps10
  go_wp2_with fail
  refine (codes_ex w _).mono ?_
  rintro e w1 ⟨L1, rfl, hr1, hb1⟩
  have H1 : Hid (IRow w1 (some ⟨L1, 0, none⟩) [2, 0, 6, 7] ∧ Below w.heap.size w w1) := ⟨hr1, hb1⟩
  clear hr1 hb1
  go_wp2_with fail
  refine (whole_ex w1 _).mono ?_
  rintro e w2 ⟨rfl, hb2⟩
  have H2 : Hid (IRow w2 (some ⟨L1, 0, none⟩) [2, 0, 6, 7] ∧ Below w.heap.size w w2) := ⟨H1.out.1.below hb2, H1.out.2.trans (hb2.mono H1.out.2.size)⟩
  clear hb2 H1
  go_wp2_with fail
  refine (lengths_ex w2 _).mono ?_
  rintro e w3 ⟨L3, rfl, hr3, hb3⟩
  have H3 : Hid (IRow w3 (some ⟨L1, 0, none⟩) [2, 0, 6, 7] ∧ IRow w3 (some ⟨L3, 0, none⟩) [1, 2, 2] ∧ Below w.heap.size w w3) := ⟨H2.out.1.below hb3, hr3, H2.out.2.trans (hb3.mono H2.out.2.size)⟩
  clear hb3 hr3 H2
  have hal : Below w3.heap.size w3 (w3.alloc (.cells #[.int .i64 2, .int .i64 0, .int .i64 6, .int .i64 7] 3)) := (Below.refl _ _).alloc (Nat.le_refl _) _
  have hsm := fun (c d : Nat) => same_ok [2, 0, 6, 7] [2, 0, 6, 7] (some ⟨L1, 0, none⟩) (some ⟨w3.heap.size, 0, none⟩) c d 4 4 _ rfl rfl (H3.out.1.below hal) (lit4 w3 2 0 6 7) (by omega) (by omega)
  have HSM : Hid _ := hsm
  clear hsm hal
  go_wp2_with fail
  refine (HSM.out _ _).mono ?_
  rintro e w4 ⟨rfl, k, rfl⟩
  obtain ⟨w5, hw5⟩ : ∃ W, (w3.alloc (.cells #[.int .i64 2, .int .i64 0, .int .i64 6, .int .i64 7] 3)).drewN k = W := ⟨_, rfl⟩
  have hb5 : Below w3.heap.size w3 w5 := by
    rw [← hw5]
    have hal : Below w3.heap.size w3 (w3.alloc (.cells #[.int .i64 2, .int .i64 0, .int .i64 6, .int .i64 7] 3)) := (Below.refl _ _).alloc (Nat.le_refl _) _
    exact ⟨hal.os, hal.tape, hal.output, hal.size, hal.block⟩
  rw [hw5]
  have H5 : Hid (IRow w5 (some ⟨L3, 0, none⟩) [1, 2, 2] ∧ Below w.heap.size w w5) := ⟨H3.out.2.1.below hb5, H3.out.2.2.trans (hb5.mono H3.out.2.2.size)⟩
  have hal : Below w5.heap.size w5 (w5.alloc (.cells #[.int .i64 1, .int .i64 2, .int .i64 2] 3)) := (Below.refl _ _).alloc (Nat.le_refl _) _
  have hsm := fun (c d : Nat) => same_ok [1, 2, 2] [1, 2, 2] (some ⟨L3, 0, none⟩) (some ⟨w5.heap.size, 0, none⟩) c d 3 3 _ rfl rfl (H5.out.1.below hal) (lit3 w5 1 2 2) (by omega) (by omega)
  have HSM2 : Hid _ := hsm
  clear hsm hal hw5 hb5 H3 HSM
  go_wp2_with fail
  refine (HSM2.out _ _).mono ?_
  rintro e w6 ⟨rfl, k2, hw6⟩
  have H6 : Hid (Below w.heap.size w w6) := by
    have hal : Below w5.heap.size w5 (w5.alloc (.cells #[.int .i64 1, .int .i64 2, .int .i64 2] 3)) := (Below.refl _ _).alloc (Nat.le_refl _) _
    have h := H5.out.2.trans (hal.mono H5.out.2.size)
    show Below _ _ _
    rw [hw6]
    exact ⟨h.os, h.tape, h.output, h.size, h.block⟩
  clear hw6
  go_wp2
  go_ret
  exact ⟨rfl, H6.out⟩
end Go.Proofs.Ytklipommocijaaa
