/- FrameBack: the law's walk. -/
import Derived.Test.YtbncfpbehahidaaGl3
import Derived.Test.YtbncfpbehahidaaGv
namespace Go.Proofs.Ytbncfpbehahidaa
open Go.RowKit
set_option linter.unusedVariables false
set_option maxRecDepth 20000

set_option maxHeartbeats 2000000 in
theorem frameBack_walk (s t : ByteArray) (w : World) (hs0 : s.size ≤ 140737488351232) (ht0 : t.size ≤ 140737488351232) :
    Calls Try.prog 4 #[.string s, .string t] w fun e w' => e = .returned (.bool true) ∧ Below w.heap.size w w' := by
  by_cases hbig : 16384 < s.size
  · have hbi : (16384 : Int) < (s.size : Int) := by omega
    have hbb : decide ((16384 : Int) < (s.size : Int)) = true := by simpa using hbi
    go_enter Try.func4, Try.ntmps4
    go_wp2_with fail
    refine (awake_ok _).mono ?_
    rintro e w3 ⟨rfl, hb3⟩
    have H3 : Hid (Below w.heap.size w w3) := hb3
    clear hb3
    go_wp2
    go_ret
    exact ⟨rfl, H3.out⟩
  · have hbi : ¬ (16384 : Int) < (s.size : Int) := by omega
    have hbb : decide ((16384 : Int) < (s.size : Int)) = false := by simpa using hbi
    by_cases hbig2 : 16384 < t.size
    · have hbi2 : (16384 : Int) < (t.size : Int) := by omega
      have hbb2 : decide ((16384 : Int) < (t.size : Int)) = true := by simpa using hbi2
      go_enter Try.func4, Try.ntmps4
      go_wp2_with fail
      refine (awake_ok _).mono ?_
      rintro e w3 ⟨rfl, hb3⟩
      have H3 : Hid (Below w.heap.size w w3) := hb3
      clear hb3
      go_wp2
      go_ret
      exact ⟨rfl, H3.out⟩
    · have hbi2 : ¬ (16384 : Int) < (t.size : Int) := by omega
      have hbb2 : decide ((16384 : Int) < (t.size : Int)) = false := by simpa using hbi2
      have hs : s.size ≤ 1048576 := by omega
      have hsl := packFr_length s hs
      have HP : Hid (∀ W, Calls Try.prog 12 #[.string s] W fun e w' => e = .returned (.tuple #[.string (toBA (packFr s)), .int .i64 0]) ∧ Below W.heap.size W w') := fun W => pk s hs W
      have HU : Hid (∀ W, Calls Try.prog 9 #[.string (toBA (packFr s ++ bytesOf t)), .int .i64 (s.size : Nat)] W fun e w' => e = .returned (.tuple #[.string s, .int .i64 ((packFr s).length : Nat), .int .i64 0]) ∧ Below W.heap.size W w') := fun W => back s (bytesOf t) (bytesOf_bytes t) (by rw [bytesOf_length]; omega) s.size (Nat.le_refl _) hs W
      have HR : Hid (∀ W, Calls Try.prog 10 #[.string (toBA (packFr s ++ bytesOf t)), .int .i64 (s.size : Nat)] W fun e w' => e = .returned (.tuple #[.string s, .int .i64 ((packFr s).length : Nat), .int .i64 0]) ∧ Below W.heap.size W w') := fun W => refFr_back s (bytesOf t) (bytesOf_bytes t) (by rw [bytesOf_length]; omega) (by omega) W
      have hAs : (toBA (packFr s)).size = (packFr s).length := toBA_size _
      have hcat : toBA (packFr s) ++ t = toBA (packFr s ++ bytesOf t) := by
        have h := toBA_append (packFr s) (bytesOf t)
        rw [toBA_bytesOf] at h
        exact h
      obtain ⟨A, hA⟩ : ∃ A, toBA (packFr s) = A := ⟨_, rfl⟩
      obtain ⟨C, hC⟩ : ∃ C, toBA (packFr s ++ bytesOf t) = C := ⟨_, rfl⟩
      obtain ⟨n, hn⟩ : ∃ n, (packFr s).length = n := ⟨_, rfl⟩
      rw [hA] at HP hAs hcat
      rw [hC] at HU HR hcat
      rw [hn] at HU HR hAs hsl
      clear hA hC hn
      have hsz1 : ¬ (9223372036854775807 : Int) < (A.size : Int) + (t.size : Int) := by omega
      have hnA : ((n : Int) == (A.size : Int)) = true := by rw [hAs]; simp
      have HS : Hid (A.size = n) := hAs
      clear hAs hsl
      go_enter Try.func4, Try.ntmps4
      go_wp2_with fail
      refine (HP.out _).mono ?_
      rintro e w1 ⟨rfl, hb1⟩
      have H1 : Hid (Below w.heap.size w w1) := hb1
      clear hb1
      go_wp2_with fail
      refine (HR.out _).mono ?_
      rintro e w2 ⟨rfl, hb2⟩
      have H2 : Hid (Below w.heap.size w w2) := H1.out.trans (hb2.mono H1.out.size)
      clear hb2
      go_wp2_with fail
      refine (HU.out _).mono ?_
      rintro e w3 ⟨rfl, hb3⟩
      have H3 : Hid (Below w.heap.size w w3) := H2.out.trans (hb3.mono H2.out.size)
      clear hb3
      go_wp2_with fail
      refine (awake_ok _).mono ?_
      rintro e w5 ⟨rfl, hb5⟩
      have H5 : Hid (Below w.heap.size w w5) := H3.out.trans (hb5.mono H3.out.size)
      clear hb5
      go_wp2
      go_ret
      exact ⟨rfl, H5.out⟩
end Go.Proofs.Ytbncfpbehahidaa
