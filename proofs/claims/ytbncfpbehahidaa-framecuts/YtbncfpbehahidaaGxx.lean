/- FrameCuts: the law's walk. -/
import Derived.Test.YtbncfpbehahidaaGw
import Derived.Test.YtbncfpbehahidaaGj6
namespace Go.Proofs.Ytbncfpbehahidaa
open Go.RowKit
set_option linter.unusedVariables false
set_option maxRecDepth 20000

theorem tmodB (x : Int) (n : Nat) (h : 0 < n) : -(n : Int) < x.tmod (n : Int) ∧ x.tmod (n : Int) < (n : Int) := by
  by_cases hx : x < 0
  · have h1 := Int.tmod_lt_of_pos (-x) (b := (n : Int)) (by omega)
    have h2 := Int.tmod_nonneg (n : Int) (a := -x) (by omega)
    rw [Int.neg_tmod] at h1 h2
    omega
  · have h1 := Int.tmod_lt_of_pos x (b := (n : Int)) (by omega)
    have h2 := Int.tmod_nonneg (n : Int) (a := x) (by omega)
    omega
theorem packFr_ge (s : ByteArray) : 15 ≤ (packFr s).length := by
  unfold packFr
  simp only [List.length_append, le4_length]
  have hh : frHead.length = 7 := rfl
  omega
theorem fcut_is (s : ByteArray) (hs : s.size ≤ 1048576) (k : Nat) (hk : k < (toBA (packFr s)).size) : ∀ W, Calls Try.prog 9 #[.string ((toBA (packFr s)).extract 0 k), .int .i64 (s.size : Nat)] W fun e w' => e = .returned (.tuple #[.string ⟨#[]⟩, .int .i64 0, .int .i64 5]) ∧ Below W.heap.size W w' := fun W => by
  have hl := packFr_length s hs
  rw [toBA_size] at hk
  have h := funpack_ok ((toBA (packFr s)).extract 0 k) s.size W hs (by rw [ByteArray.size_extract, toBA_size]; omega)
  rw [toBA_extract, List.drop_zero, Nat.sub_zero, frame_cut s k s.size hk (Nat.le_refl _)] at h
  rw [toBA_extract, List.drop_zero, Nat.sub_zero]
  exact h
set_option maxHeartbeats 2000000 in
theorem frameCuts_walk (s : ByteArray) (cut : Int) (w : World) (hs0 : s.size ≤ 140737488351232) (hcut : (Lit.int .i64 cut).wf = true) :
    Calls Try.prog 8 #[.string s, .int .i64 cut] w fun e w' => e = .returned (.bool true) ∧ Below w.heap.size w w' := by
  by_cases hbig : 4096 < s.size
  · have hbi : (4096 : Int) < (s.size : Int) := by omega
    go_enter Try.func8, Try.ntmps8
    go_wp2_with fail
    refine (awake_ok _).mono ?_
    rintro e w3 ⟨rfl, hb3⟩
    have H3 : Hid (Below w.heap.size w w3) := hb3
    clear hb3
    go_wp2
    go_ret
    exact ⟨rfl, H3.out⟩
  · have hbi : ¬ (4096 : Int) < (s.size : Int) := by omega
    have hs : s.size ≤ 1048576 := by omega
    have HP : Hid (∀ W, Calls Try.prog 12 #[.string s] W fun e w' => e = .returned (.tuple #[.string (toBA (packFr s)), .int .i64 0]) ∧ Below W.heap.size W w') := fun W => pk s hs W
    have hpos : 0 < (toBA (packFr s)).size := by have := packFr_ge s; rw [toBA_size]; omega
    have hl := packFr_length s hs
    rw [← toBA_size] at hl
    obtain ⟨M, hM⟩ : ∃ M, cut.tmod ((toBA (packFr s)).size : Int) = M := ⟨_, rfl⟩
    have hMb := tmodB cut (toBA (packFr s)).size hpos
    rw [hM] at hMb
    have hC := fcut_is s hs M.natAbs (by clear hM; omega)
    obtain ⟨k, hk⟩ : ∃ k, M.natAbs = k := ⟨_, rfl⟩
    rw [hk] at hC
    obtain ⟨Z, hZ⟩ : ∃ Z, toBA (packFr s) = Z := ⟨_, rfl⟩
    rw [hZ] at HP hC hpos hl hM hMb
    have hkZ : k < Z.size := by clear hM; omega
    obtain ⟨X, hX⟩ : ∃ X, Z.extract 0 k = X := ⟨_, rfl⟩
    rw [hX] at hC
    have HK : Hid _ := hC
    have hMw : IntKind.i64.wrap M = M := by rw [IntKind.wrap_i64]; omega
    have hz0 : ((Z.size : Int) == 0) = false := beq_eq_false_iff_ne.2 (by omega)
    have hz1 : ¬ (Z.size : Int) = 0 := by omega
    have hki : (k : Int) ≤ (Z.size : Int) := by omega
    have hMk : M = (k : Int) ∨ (M < 0 ∧ 0 - M = (k : Int) ∧ -M = (k : Int)) := by clear hM; omega
    have hkw := wrapN k (by omega)
    clear hZ hC hk hMb hl hpos
    rcases hMk with rfl | ⟨hneg, hMk, hMk2⟩
    · have hkz : (k : Int) ≤ (Z.size : Int) := hki
      go_enter Try.func8, Try.ntmps8
      go_wp2_with fail
      refine (HP.out _).mono ?_
      rintro e w1 ⟨rfl, hb1⟩
      have H1 : Hid (Below w.heap.size w w1) := hb1
      clear hb1
      go_wp2_with fail
      refine (HK.out _).mono ?_
      rintro e w2 ⟨rfl, hb2⟩
      have H2 : Hid (Below w.heap.size w w2) := H1.out.trans (hb2.mono H1.out.size)
      clear hb2
      go_wp2_with fail
      refine (awake_ok _).mono ?_
      rintro e w4 ⟨rfl, hb4⟩
      have H4 : Hid (Below w.heap.size w w4) := H2.out.trans (hb4.mono H2.out.size)
      clear hb4
      go_wp2
      go_ret
      exact ⟨rfl, H4.out⟩
    · have hMi : decide (M < 0) = true := by simpa using hneg
      go_enter Try.func8, Try.ntmps8
      go_wp2_with fail
      refine (HP.out _).mono ?_
      rintro e w1 ⟨rfl, hb1⟩
      have H1 : Hid (Below w.heap.size w w1) := hb1
      clear hb1
      go_wp2_with fail
      refine (HK.out _).mono ?_
      rintro e w2 ⟨rfl, hb2⟩
      have H2 : Hid (Below w.heap.size w w2) := H1.out.trans (hb2.mono H1.out.size)
      clear hb2
      go_wp2_with fail
      refine (awake_ok _).mono ?_
      rintro e w4 ⟨rfl, hb4⟩
      have H4 : Hid (Below w.heap.size w w4) := H2.out.trans (hb4.mono H2.out.size)
      clear hb4
      go_wp2
      go_ret
      exact ⟨rfl, H4.out⟩
end Go.Proofs.Ytbncfpbehahidaa
