/- The walk of BitsVars. -/
import Derived.Test.YtjjbbfiogkpodaaVc
namespace Go.Proofs.Ytjjbbfiogkpodaa
open Go.RowKit
set_option linter.unusedVariables false

theorem var_both (s : ByteArray) (hsz : s.size ≤ 9223372036854775807) : ∃ (x k g : Int),
    (∀ w, Calls Try.prog 26 #[.string s] w fun r w' => r = .returned (.tuple #[.int .i64 x, .int .i64 k, .int .i64 g]) ∧ w' = w) ∧
    (∀ w, Calls Try.prog 27 #[.string s] w fun r w' => r = .returned (.tuple #[.int .i64 x, .int .i64 k, .int .i64 g]) ∧ w' = w) := by
  by_cases h : ∃ i, i < min s.size 9 ∧ byteN s i < 128
  · obtain ⟨k, hk, hb, hl⟩ := least _ h
    have hall : ∀ j, j < k → 128 ≤ byteN s j := fun j hj => by have := hl j hj; omega
    by_cases h0 : byteN s k = 0 ∧ 0 < k
    · exact ⟨0, 0, 10, fun w => var_zero s k w (by omega) (by omega) hall h0.1 h0.2 hsz, fun w => refVar_zero s k w (by omega) (by omega) hall h0.1 h0.2 hsz⟩
    · have hz : byteN s k = 0 → k = 0 := fun hh => by
        rcases Nat.eq_zero_or_pos k with e | e
        · exact e
        · exact absurd ⟨hh, e⟩ h0
      exact ⟨_, _, 0, fun w => var_ok s k w (by omega) (by omega) hall hb hz hsz, fun w => refVar_ok s k w (by omega) (by omega) hall hb hz hsz⟩
  · have hall : ∀ j, j < min s.size 9 → 128 ≤ byteN s j := fun j hj => by
      rcases Nat.lt_or_ge (byteN s j) 128 with hh | hh
      · exact absurd ⟨j, hj, hh⟩ h
      · exact hh
    by_cases hs : s.size < 9
    · exact ⟨0, 0, 5, fun w => var_short s w hs (fun j hj => hall j (by omega)), fun w => refVar_short s w hs (fun j hj => hall j (by omega))⟩
    · exact ⟨0, 0, 10, fun w => var_long s w (by omega) (fun j hj => hall j (by omega)) hsz, fun w => refVar_long s w (by omega) (fun j hj => hall j (by omega)) hsz⟩
theorem toBA_len (l : List Nat) : (toBA l).size = l.length := by
  show ((l.map UInt8.ofNat).toArray).size = _
  simp
/-- What PutVar gave, with whatever behind it, is read as the number. -/
theorem var_back (n : Nat) (s : ByteArray) (hn : n ≤ 9223372036854775807) (hs : s.size ≤ 140737488351232) (w : World) :
    Calls Try.prog 26 #[.string (toBA (varB 10 n) ++ s)] w fun r w' => r = .returned (.tuple #[.int .i64 n, .int .i64 (toBA (varB 10 n)).size, .int .i64 0]) ∧ w' = w := by
  have e9 : varB 10 n = varB 9 n := varB_fuel 9 n (by omega) (by omega)
  rw [e9]
  obtain ⟨k, h1, h2, h3, h4, h5, h6⟩ := varB_shape 9 n (by omega) (by omega)
  have hlt := varB_lt 9 n
  have hb : ∀ i, i < (varB 9 n).length → byteN (toBA (varB 9 n) ++ s) i = (varB 9 n).getD i 0 := fun i hi => byteN_append _ _ _ hi hlt
  have hsize : (toBA (varB 9 n) ++ s).size = k + 1 + s.size := by rw [ByteArray.size_append, toBA_len, h1]
  have hv : varN (toBA (varB 9 n) ++ s) (k + 1) = n := by
    rw [varN_gsum _ (varB 9 n) hb (k + 1) (by omega), ← h1, List.take_length, h6]
  have h := var_ok (toBA (varB 9 n) ++ s) k w (by omega) (by omega) (fun j hj => by rw [hb j (by omega)]; exact h3 j hj) (by rw [hb k (by omega)]; exact h4)
    (fun hz => by
      rw [hb k (by omega)] at hz
      rcases Nat.eq_zero_or_pos k with e | e
      · exact e
      · exact absurd hz (h5 e)) (by omega)
  rw [hv] at h
  have e2 : ((toBA (varB 9 n)).size : Int) = (k : Int) + 1 := by rw [toBA_len, h1]; omega
  rw [e2]
  exact h
set_option maxHeartbeats 400000 in
theorem vars_walk (n : Int) (s : ByteArray) (w : World) (h0 : -9223372036854775808 ≤ n) (h1 : n ≤ 9223372036854775807) (hs : s.size ≤ 140737488351232) :
    Calls Try.prog 6 #[.int .i64 n, .string s] w fun e w' => e = .returned (.bool true) ∧ Below w.heap.size w w' := by
  obtain ⟨x, k, g, hx, hy⟩ := var_both s (by omega)
  by_cases hn : n < 0
  · have hsz : (⟨#[]⟩ : ByteArray).size + s.size ≤ 9223372036854775807 := by show 0 + s.size ≤ _; omega
    obtain ⟨x2, k2, g2, hx2, _⟩ := var_both (⟨#[]⟩ ++ s) (by rw [ByteArray.size_append]; exact hsz)
    go_enter Try.func6, Try.ntmps6
    go_wp2_with fail
    refine (putVar_neg _ _ hn).mono ?_
    rintro r w1 ⟨rfl, hw⟩
    subst hw
    go_wp2_with fail
    refine (refPutVar_neg _ _ hn).mono ?_
    rintro r w2 ⟨rfl, hw⟩
    subst hw
    go_wp2_with fail
    refine (hx _).mono ?_
    rintro r w3 ⟨rfl, hw⟩
    subst hw
    go_wp2_with fail
    refine (hy _).mono ?_
    rintro r w4 ⟨rfl, hw⟩
    subst hw
    go_wp2_with fail
    refine (hx2 _).mono ?_
    rintro r w5 ⟨rfl, hw⟩
    subst hw
    go_wp2_with fail
    refine (awake _).mono ?_
    rintro r w6 ⟨rfl, hb6⟩
    go_wp2
    go_ret
    exact ⟨rfl, hb6⟩
  · obtain ⟨N, rfl⟩ := Int.eq_ofNat_of_zero_le (show 0 ≤ n by omega)
    have hp : ∀ w, Calls Try.prog 24 #[.int .i64 N] w fun e w' => e = .returned (.tuple #[.string (toBA (varB 10 N)), .int .i64 0]) ∧ Below w.heap.size w w' := fun w => putVar N w (by omega)
    have hq : ∀ w, Calls Try.prog 25 #[.int .i64 N] w fun e w' => e = .returned (.tuple #[.string (toBA (varB 10 N)), .int .i64 0]) ∧ Below w.heap.size w w' := fun w => refPutVar N w (by omega)
    have hr := var_back N s (by omega) hs
    have hl : (toBA (varB 10 N)).size ≤ 10 := by rw [toBA_len]; exact varB_length 10 N
    generalize toBA (varB 10 N) = a at hp hq hr hl
    have hsz : a.size + s.size ≤ 9223372036854775807 := by omega
    go_enter Try.func6, Try.ntmps6
    go_wp2_with fail
    refine (hp _).mono ?_
    rintro r w1 ⟨rfl, hb1⟩
    go_wp2_with fail
    refine (hq _).mono ?_
    rintro r w2 ⟨rfl, hb2⟩
    have hB2 : Hid (Below w.heap.size w w2) := hb1.trans (hb2.mono hb1.size)
    clear hb1 hb2
    go_wp2_with fail
    refine (hx _).mono ?_
    rintro r w3 ⟨rfl, hw⟩
    subst hw
    go_wp2_with fail
    refine (hy _).mono ?_
    rintro r w4 ⟨rfl, hw⟩
    subst hw
    go_wp2_with fail
    refine (hr _).mono ?_
    rintro r w5 ⟨rfl, hw⟩
    subst hw
    go_wp2_with fail
    refine (awake _).mono ?_
    rintro r w6 ⟨rfl, hb6⟩
    go_wp2
    go_ret
    exact ⟨rfl, hB2.out.trans (hb6.mono hB2.out.size)⟩
theorem vars_any (n : Int) (s : ByteArray) (w : World) (hn : (Lit.int .i64 n).wf = true) (hs : s.size ≤ 140737488351232) :
    Calls Try.prog 6 #[.int .i64 n, .string s] w fun e w' => e = .returned (.bool true) ∧ Below w.heap.size w w' := by
  have h1 : IntKind.i64.min = -9223372036854775808 := rfl
  have h2 : IntKind.i64.max = 9223372036854775807 := rfl
  simp only [Lit.wf, Bool.and_eq_true, decide_eq_true_eq] at hn
  exact vars_walk n s w (by omega) (by omega) hs
end Go.Proofs.Ytjjbbfiogkpodaa
