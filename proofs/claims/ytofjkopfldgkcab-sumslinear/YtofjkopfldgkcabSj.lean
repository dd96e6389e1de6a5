/- awake: what must come, whatever the arguments are, does come. -/
import Derived.Test.YtofjkopfldgkcabSi
namespace Go.Proofs.Ytofjkopfldgkcab
open Go.RowKit
set_option linter.unusedVariables false

theorem aw_crc (w : World) : Calls Try.prog 6 #[.string ⟨#[49, 50, 51, 52, 53, 54, 55, 56, 57]⟩] w fun e w' => e = .returned (.int .i64 3808858755) ∧ Below w.heap.size w w' := by
  have h := crc ⟨#[49, 50, 51, 52, 53, 54, 55, 56, 57]⟩ w (by decide)
  rw [show BL ⟨#[49, 50, 51, 52, 53, 54, 55, 56, 57]⟩ = [49, 50, 51, 52, 53, 54, 55, 56, 57] from by decide +kernel, crc9] at h
  exact h
theorem aw_hash (w : World) : Calls Try.prog 7 #[.string ⟨#[]⟩, .int .i64 0] w fun e w' => e = .returned (.int .i64 46947589) ∧ Below w.heap.size w w' := by
  have h := hash ⟨#[]⟩ 0 0 w (by decide) (by decide)
  rw [show BL ⟨#[]⟩ = [] from rfl, hash0] at h
  exact h
theorem awake (w : World) : Calls Try.prog 5 #[] w fun e w' => e = .returned (.bool true) ∧ Below w.heap.size w w' := by
  go_enter Try.func5, Try.ntmps5
  go_wp2_with fail
  refine (aw_crc _).mono ?_
  rintro e w1 ⟨rfl, hb1⟩
  have H1 : Hid (Below w.heap.size w w1) := hb1
  clear hb1
  go_wp2_with fail
  refine (aw_hash _).mono ?_
  rintro e w2 ⟨rfl, hb2⟩
  have H2 : Hid (Below w.heap.size w w2) := H1.out.trans (hb2.mono H1.out.size)
  clear hb2
  go_wp2
  go_ret
  exact ⟨rfl, H2.out⟩
end Go.Proofs.Ytofjkopfldgkcab
