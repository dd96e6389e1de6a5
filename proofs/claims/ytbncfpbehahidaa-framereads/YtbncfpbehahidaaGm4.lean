/- FrameReads: the law's walk. -/
import Derived.Test.YtbncfpbehahidaaGm3
namespace Go.Proofs.Ytbncfpbehahidaa
open Go.RowKit
set_option linter.unusedVariables false
set_option maxRecDepth 20000

theorem runpack_arg (s : ByteArray) (most : Int) (w : World) (h : most < 0 ∨ 1048576 < most) : Calls Try.prog 10 #[.string s, .int .i64 most] w fun e w' => e = .returned (frR (1, [], 0)) ∧ Below w.heap.size w w' := by
  by_cases h1 : most < 0
  · have hd : decide (most < 0) = true := by simp [h1]
    go_enter Try.func10, Try.ntmps10
    go_wp2
    go_ret3
    exact ⟨rfl, Below.refl _ _⟩
  · have h2 : 1048576 < most := by omega
    have hd : decide (most < 0) = false := by simp; omega
    go_enter Try.func10, Try.ntmps10
    go_wp2
    go_ret3
    exact ⟨rfl, Below.refl _ _⟩
/-- What either Unpack answers, whatever the room is. -/
theorem both_frames (s : ByteArray) (most : Int) (hs : s.size ≤ 140737488351232) : ∃ (T : ByteArray) (A E : Int), (∀ W, Calls Try.prog 9 #[.string s, .int .i64 most] W fun e w' => e = .returned (.tuple #[.string T, .int .i64 A, .int .i64 E]) ∧ Below W.heap.size W w') ∧ (∀ W, Calls Try.prog 10 #[.string s, .int .i64 most] W fun e w' => e = .returned (.tuple #[.string T, .int .i64 A, .int .i64 E]) ∧ Below W.heap.size W w') := by
  by_cases h : most < 0 ∨ 1048576 < most
  · exact ⟨_, _, _, fun W => funpack_arg s most W h, fun W => runpack_arg s most W h⟩
  · obtain ⟨m, rfl⟩ : ∃ m : Nat, most = (m : Int) := ⟨most.toNat, by omega⟩
    have h1 := fun W => funpack_ok s m W (by omega) hs
    have h2 := fun W => runpack_ok s m W hs (by omega)
    obtain ⟨r, hr⟩ : ∃ r, unpackF s m = r := ⟨_, rfl⟩
    rw [hr] at h1 h2
    exact ⟨_, _, _, h1, h2⟩
set_option maxHeartbeats 1000000 in
theorem frameReads_walk (s : ByteArray) (most : Int) (w : World) (hs : s.size ≤ 140737488351232) (hm : (Lit.int .i64 most).wf = true) :
    Calls Try.prog 3 #[.string s, .int .i64 most] w fun e w' => e = .returned (.bool true) ∧ Below w.heap.size w w' := by
  obtain ⟨T, A, E, h1, h2⟩ := both_frames s most hs
  have HP : Hid _ := h1
  have HR : Hid _ := h2
  clear h1 h2
  go_enter Try.func3, Try.ntmps3
  go_wp2_with fail
  refine (HP.out _).mono ?_
  rintro e w1 ⟨rfl, hb1⟩
  have H1 : Hid (Below w.heap.size w w1) := hb1
  clear hb1
  go_wp2_with fail
  refine (HR.out _).mono ?_
  rintro e w2 ⟨rfl, hb2⟩
  have H2 : Hid (Below w.heap.size w w2) := H1.out.trans (hb2.mono H1.out.size)
  clear hb2
  go_wp2_with fail
  refine (awake_ok _).mono ?_
  rintro e w3 ⟨rfl, hb3⟩
  have H3 : Hid (Below w.heap.size w w3) := H2.out.trans (hb3.mono H2.out.size)
  clear hb3
  go_wp2
  go_ret
  exact ⟨rfl, H3.out⟩
end Go.Proofs.Ytbncfpbehahidaa
