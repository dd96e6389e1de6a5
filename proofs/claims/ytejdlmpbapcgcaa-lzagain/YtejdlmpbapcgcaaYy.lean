/- LzBack: the law's walk. -/
import Derived.Test.YtejdlmpbapcgcaaYx
import Derived.Test.YtejdlmpbapcgcaaYm
namespace Go.Proofs.Ytejdlmpbapcgcaa
open Go.RowKit
set_option linter.unusedVariables false

theorem pack_is (s : ByteArray) (w : World) (hs : s.size ≤ 1048576) : Calls Try.prog 12 #[.string s] w fun e w' => e = .returned (.tuple #[.string (toBA (packL s)), .int .i64 0]) ∧ Below w.heap.size w w' := pack_ok s w hs
theorem back_is (s : ByteArray) (W : World) (hs : s.size ≤ 1048576) (most : Nat) (h1 : s.size ≤ most) (h2 : most ≤ 1048576) : Calls Try.prog 9 #[.string (toBA (packL s)), .int .i64 (most : Nat)] W fun e w' => e = .returned (.tuple #[.string s, .int .i64 0]) ∧ Below W.heap.size W w' := by
  have hl := packL_length s
  have h := unpack_ok (toBA (packL s)) most W h2 (by rw [toBA_size]; omega)
  rw [unpack_pack s most h1, lzR_good rfl, toBA_bytesOf] at h
  exact h
theorem refBack_is (s : ByteArray) (W : World) (hs : s.size ≤ 1048576) : Calls Try.prog 10 #[.string (toBA (packL s)), .int .i64 (s.size : Nat)] W fun e w' => e = .returned (.tuple #[.string s, .int .i64 0]) ∧ Below W.heap.size W w' := by
  have hl := packL_length s
  have h := refUnpack_ok (toBA (packL s)) s.size W hs (by rw [toBA_size]; omega)
  rw [unpack_pack s s.size (Nat.le_refl _), lzR_good rfl, toBA_bytesOf] at h
  exact h
set_option maxRecDepth 20000 in
set_option maxHeartbeats 1000000 in
theorem lzBack_walk (s : ByteArray) (w : World) (hs0 : s.size ≤ 140737488351232) :
    Calls Try.prog 4 #[.string s] w fun e w' => e = .returned (.bool true) ∧ Below w.heap.size w w' := by
  by_cases hbig : 16384 < s.size
  · have hbi : (16384 : Int) < (s.size : Int) := by omega
    go_enter Try.func4, Try.ntmps4
    go_wp2_with fail
    refine (awake_ok _).mono ?_
    rintro e w3 ⟨rfl, hb3⟩
    have H3 : Hid (Below w.heap.size w w3) := hb3
    clear hb3
    go_wp2
    go_ret
    exact ⟨rfl, H3.out⟩
  · have hbi : ¬ (16384 : Int) < (s.size : Int) := by omega
    have hs : s.size ≤ 1048576 := by omega
    have HP : Hid (∀ W, Calls Try.prog 12 #[.string s] W fun e w' => e = .returned (.tuple #[.string (toBA (packL s)), .int .i64 0]) ∧ Below W.heap.size W w') := fun W => pack_is s W hs
    have HU : Hid (∀ W, Calls Try.prog 9 #[.string (toBA (packL s)), .int .i64 (s.size : Nat)] W fun e w' => e = .returned (.tuple #[.string s, .int .i64 0]) ∧ Below W.heap.size W w') := fun W => back_is s W hs s.size (Nat.le_refl _) hs
    have HV : Hid (∀ W, Calls Try.prog 10 #[.string (toBA (packL s)), .int .i64 (s.size : Nat)] W fun e w' => e = .returned (.tuple #[.string s, .int .i64 0]) ∧ Below W.heap.size W w') := fun W => refBack_is s W hs
    have hl := packL_length s
    rw [← toBA_size] at hl
    obtain ⟨Z, hZ⟩ : ∃ Z, toBA (packL s) = Z := ⟨_, rfl⟩
    rw [hZ] at HP HU HV hl
    have hli : (Z.size : Int) ≤ (s.size : Int) + (s.size : Int) / 255 + 16 := by omega
    have hlb : decide ((Z.size : Int) ≤ (s.size : Int) + (s.size : Int) / 255 + 16) = true := by simpa using hli
    clear hZ
    go_enter Try.func4, Try.ntmps4
    go_wp2_with fail
    refine (HP.out _).mono ?_
    rintro e w1 ⟨rfl, hb1⟩
    have H1 : Hid (Below w.heap.size w w1) := hb1
    clear hb1
    go_wp2_with fail
    refine (HV.out _).mono ?_
    rintro e w2 ⟨rfl, hb2⟩
    have H2 : Hid (Below w.heap.size w w2) := H1.out.trans (hb2.mono H1.out.size)
    clear hb2
    go_wp2_with fail
    refine (HU.out _).mono ?_
    rintro e w3 ⟨rfl, hb3⟩
    have H3 : Hid (Below w.heap.size w w3) := H2.out.trans (hb3.mono H2.out.size)
    clear hb3
    go_wp2_with fail
    refine (awake_ok _).mono ?_
    rintro e w4 ⟨rfl, hb4⟩
    have H4 : Hid (Below w.heap.size w w4) := H3.out.trans (hb4.mono H3.out.size)
    clear hb4
    go_wp2
    go_ret
    exact ⟨rfl, H4.out⟩
end Go.Proofs.Ytejdlmpbapcgcaa
