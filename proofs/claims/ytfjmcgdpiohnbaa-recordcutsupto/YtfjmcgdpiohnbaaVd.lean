/- The walk of BitsVars. -/
import Derived.Test.YtfjmcgdpiohnbaaVc
namespace Go.Proofs.Ytfjmcgdpiohnbaa
open Go.RowKit
set_option linter.unusedVariables false

theorem var_both (s : ByteArray) (hsz : s.size ≤ 9223372036854775807) : ∃ (x k g : Int),
    (∀ w, Calls Try.prog 31 #[.string s] w fun r w' => r = .returned (.tuple #[.int .i64 x, .int .i64 k, .int .i64 g]) ∧ w' = w) ∧
    (∀ w, Calls Try.prog 25 #[.string s] w fun r w' => r = .returned (.tuple #[.int .i64 x, .int .i64 k, .int .i64 g]) ∧ w' = w) := by
  by_cases h : ∃ i, i < min s.size 9 ∧ byteN s i < 128
  · obtain ⟨k, hk, hb, hl⟩ := least _ h
    have hall : ∀ j, j < k → 128 ≤ byteN s j := fun j hj => by have := hl j hj; omega
    by_cases h0 : byteN s k = 0 ∧ 0 < k
    · exact ⟨0, 0, 10, fun w => var_zero s k w (by omega) (by omega) hall h0.1 h0.2 hsz, fun w => refVar_zero s k w (by omega) (by omega) hall h0.1 h0.2 hsz⟩
    · have hz : byteN s k = 0 → k = 0 := fun hh => by
        rcases Nat.eq_zero_or_pos k with e | e
        · exact e
        · exact absurd ⟨hh, e⟩ h0
      exact ⟨_, _, 0, fun w => var_ok s k w (by omega) (by omega) hall hb hz hsz, fun w => refVar_ok s k w (by omega) (by omega) hall hb hz hsz⟩
  · have hall : ∀ j, j < min s.size 9 → 128 ≤ byteN s j := fun j hj => by
      rcases Nat.lt_or_ge (byteN s j) 128 with hh | hh
      · exact absurd ⟨j, hj, hh⟩ h
      · exact hh
    by_cases hs : s.size < 9
    · exact ⟨0, 0, 5, fun w => var_short s w hs (fun j hj => hall j (by omega)), fun w => refVar_short s w hs (fun j hj => hall j (by omega))⟩
    · exact ⟨0, 0, 10, fun w => var_long s w (by omega) (fun j hj => hall j (by omega)) hsz, fun w => refVar_long s w (by omega) (fun j hj => hall j (by omega)) hsz⟩
theorem toBA_len (l : List Nat) : (toBA l).size = l.length := by
  show ((l.map UInt8.ofNat).toArray).size = _
  simp
/-- What PutVar gave, with whatever behind it, is read as the number. -/
theorem var_back (n : Nat) (s : ByteArray) (hn : n ≤ 9223372036854775807) (hs : s.size ≤ 140737488351232) (w : World) :
    Calls Try.prog 31 #[.string (toBA (varB 10 n) ++ s)] w fun r w' => r = .returned (.tuple #[.int .i64 n, .int .i64 (toBA (varB 10 n)).size, .int .i64 0]) ∧ w' = w := by
  have e9 : varB 10 n = varB 9 n := varB_fuel 9 n (by omega) (by omega)
  rw [e9]
  obtain ⟨k, h1, h2, h3, h4, h5, h6⟩ := varB_shape 9 n (by omega) (by omega)
  have hlt := varB_lt 9 n
  have hb : ∀ i, i < (varB 9 n).length → byteN (toBA (varB 9 n) ++ s) i = (varB 9 n).getD i 0 := fun i hi => byteN_append _ _ _ hi hlt
  have hsize : (toBA (varB 9 n) ++ s).size = k + 1 + s.size := by rw [ByteArray.size_append, toBA_len, h1]
  have hv : varN (toBA (varB 9 n) ++ s) (k + 1) = n := by
    rw [varN_gsum _ (varB 9 n) hb (k + 1) (by omega), ← h1, List.take_length, h6]
  have h := var_ok (toBA (varB 9 n) ++ s) k w (by omega) (by omega) (fun j hj => by rw [hb j (by omega)]; exact h3 j hj) (by rw [hb k (by omega)]; exact h4)
    (fun hz => by
      rw [hb k (by omega)] at hz
      rcases Nat.eq_zero_or_pos k with e | e
      · exact e
      · exact absurd hz (h5 e)) (by omega)
  rw [hv] at h
  have e2 : ((toBA (varB 9 n)).size : Int) = (k : Int) + 1 := by rw [toBA_len, h1]; omega
  rw [e2]
  exact h
end Go.Proofs.Ytfjmcgdpiohnbaa
