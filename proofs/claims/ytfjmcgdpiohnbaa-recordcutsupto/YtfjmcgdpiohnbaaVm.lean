/- Plain mathematics of numbers as groups of seven bits. -/
import Derived.Test.YtfjmcgdpiohnbaaVa
import Derived.Test.YtfjmcgdpiohnbaaXm
namespace Go.Proofs.Ytfjmcgdpiohnbaa
open Go.RowKit
set_option linter.unusedVariables false

/-- Byte i of a text. -/
def byteN (s : ByteArray) (i : Nat) : Nat := (s.data.toList.getD i 0).toNat
theorem byteN_lt (s : ByteArray) (i : Nat) : byteN s i < 256 := byte_lt s i
theorem byteN_eq (s : ByteArray) (i : Nat) (h : i < s.size) : s[i].toNat = byteN s i := byte_eq s i h
/-- The number of the first groups of a text. -/
def varN (s : ByteArray) : Nat → Nat
  | 0 => 0
  | i + 1 => varN s i + byteN s i % 128 * 2 ^ (7 * i)
theorem varN_lt (s : ByteArray) (k : Nat) : varN s k < 2 ^ (7 * k) := by
  induction k with
  | zero => simp [varN]
  | succ k ih =>
    have hm : byteN s k % 128 * 2 ^ (7 * k) ≤ 127 * 2 ^ (7 * k) := Nat.mul_le_mul_right _ (by omega)
    have e : 2 ^ (7 * (k + 1)) = 128 * 2 ^ (7 * k) := by rw [show 7 * (k + 1) = 7 * k + 7 by omega, Nat.pow_add]; omega
    simp only [varN]; omega
theorem varN_63 (s : ByteArray) (k : Nat) (h : k ≤ 9) : varN s k ≤ 9223372036854775807 := by
  have h1 := varN_lt s k
  have h2 := pow_le (7 * k) 63 (by omega)
  omega
theorem andNot128 (b : Nat) (h : b < 256) : bits .andNot .u8 (b : Int) 128 = ((b % 128 : Nat) : Int) := by
  have h2 := u8_andNot_nat b 128 h (by omega)
  rw [show (128 : Int) = ((128 : Nat) : Int) from rfl, h2, show 255 - 128 = 127 from rfl, nat_mask7]
theorem and127 (b : Nat) (h : b < 256) : bits .and .u8 (b : Int) 127 = ((b % 128 : Nat) : Int) := by
  have h2 := u8_and_nat b 127 h (by omega)
  rw [show (127 : Int) = ((127 : Nat) : Int) from rfl, h2, nat_mask7]
theorem or_group (x y k : Nat) (hx : x < 2 ^ (7 * k)) (hy : y < 128) (hk : k ≤ 8) :
    bits .or .u64 (x : Int) (IntKind.u64.wrap ((y : Int) * 2 ^ (7 * k))) = ((x + y * 2 ^ (7 * k) : Nat) : Int) := by
  have h56 := pow_le (7 * k) 56 (by omega)
  have hm : y * 2 ^ (7 * k) ≤ 127 * 2 ^ (7 * k) := Nat.mul_le_mul_right _ (by omega)
  have e2 : (y : Int) * 2 ^ (7 * k) = ((y * 2 ^ (7 * k) : Nat) : Int) := by simp
  rw [e2, wrap_u64_nat _ (by omega), u64_or_nat _ _ (by omega) (by omega), Nat.or_comm, nat_join (7 * k) (y * 2 ^ (7 * k)) x (by simp) hx]
  omega
theorem or_zero (x : Nat) (hx : x < 9223372036854775808) : bits .or .u64 (x : Int) 0 = (x : Int) := by
  have h := u64_or_nat x 0 (by omega) (by omega)
  rw [Nat.or_zero] at h
  exact h
theorem varN_zero (s : ByteArray) (j : Nat) (h : ((byteN s j : Nat) : Int) % 128 = 0) : varN s (j + 1) = varN s j := by
  have : byteN s j % 128 = 0 := by omega
  rw [varN, this]; omega
theorem add_group (x y k : Nat) (hx : x < 2 ^ (7 * k)) (hy : y < 128) (hk : k ≤ 8) :
    wrap64 ((x : Int) + wrap64 ((y : Int) * 2 ^ (7 * k))) = ((x + y * 2 ^ (7 * k) : Nat) : Int) := by
  have h56 := pow_le (7 * k) 56 (by omega)
  have hm : y * 2 ^ (7 * k) ≤ 127 * 2 ^ (7 * k) := Nat.mul_le_mul_right _ (by omega)
  have e2 : (y : Int) * 2 ^ (7 * k) = ((y * 2 ^ (7 * k) : Nat) : Int) := by simp
  obtain ⟨z, hz⟩ : ∃ z, z = y * 2 ^ (7 * k) := ⟨_, rfl⟩
  rw [e2, ← hz]
  rw [← hz] at hm
  rw [IntWalk.wrap64_in (z : Int) ⟨by omega, by omega⟩, IntWalk.wrap64_in _ ⟨by omega, by omega⟩]
  omega
/-- The least one of those that there are. -/
theorem least {P : Nat → Prop} (m : Nat) (h : ∃ i, i < m ∧ P i) : ∃ i, i < m ∧ P i ∧ ∀ j, j < i → ¬ P j := by
  induction m with
  | zero => obtain ⟨i, hi, _⟩ := h; omega
  | succ m ih =>
    by_cases h2 : ∃ i, i < m ∧ P i
    · obtain ⟨i, h3, h4, h5⟩ := ih h2
      exact ⟨i, by omega, h4, h5⟩
    · obtain ⟨i, h3, h4⟩ := h
      have : i = m := by
        rcases Nat.lt_or_ge i m with h5 | h5
        · exact absurd ⟨i, h5, h4⟩ h2
        · omega
      subst this
      exact ⟨i, by omega, h4, fun j hj hP => h2 ⟨j, hj, hP⟩⟩
def gsum : List Nat → Nat
  | [] => 0
  | b :: r => b % 128 + 128 * gsum r
theorem gsum_snoc (L : List Nat) (b : Nat) : gsum (L ++ [b]) = gsum L + b % 128 * 2 ^ (7 * L.length) := by
  induction L with
  | nil => simp [gsum]
  | cons a r ih =>
    simp only [List.cons_append, gsum, ih, List.length_cons]
    rw [show 7 * (r.length + 1) = 7 * r.length + 7 by omega, Nat.pow_add, Nat.mul_add, ← Nat.mul_assoc (b % 128), Nat.mul_comm 128 (b % 128 * _)]
    omega
theorem varN_gsum (s : ByteArray) (L : List Nat) (h : ∀ i, i < L.length → byteN s i = L.getD i 0) : ∀ j, j ≤ L.length → varN s j = gsum (L.take j) := by
  intro j hj
  induction j with
  | zero => simp [varN, gsum]
  | succ j ih =>
    have e : L.getD j 0 = L[j] := by rw [List.getD_eq_getElem?_getD, List.getElem?_eq_getElem (by omega)]; rfl
    rw [varN, ih (by omega), h j (by omega), List.take_succ_eq_append_getElem (by omega), gsum_snoc, List.length_take, Nat.min_eq_left (by omega), e]
theorem varB_fuel (f x : Nat) (hf : 0 < f) (hx : x < 2 ^ (7 * f)) : varB (f + 1) x = varB f x := by
  induction f generalizing x with
  | zero => omega
  | succ f ih =>
    by_cases h : x < 128
    · rw [varB_last _ _ h, varB_last _ _ h]
    · have hf1 : 0 < f := by
        rcases Nat.eq_zero_or_pos f with e | e
        · subst e; simp at hx; omega
        · exact e
      rw [varB_step (f + 1) x (by omega), varB_step f x (by omega), ih (x / 128) hf1]
      rw [show 7 * (f + 1) = 7 * f + 7 by omega, Nat.pow_add] at hx
      exact Nat.div_lt_of_lt_mul (by rw [Nat.mul_comm]; exact hx)
theorem varB_shape (f x : Nat) (hf : 0 < f) (hx : x < 2 ^ (7 * f)) : ∃ k, (varB f x).length = k + 1 ∧ k < f ∧ (∀ j, j < k → 128 ≤ (varB f x).getD j 0) ∧ (varB f x).getD k 0 < 128 ∧ (0 < k → (varB f x).getD k 0 ≠ 0) ∧ gsum (varB f x) = x := by
  induction f generalizing x with
  | zero => omega
  | succ f ih =>
    by_cases h : x < 128
    · rw [varB_last _ _ h]
      exact ⟨0, rfl, by omega, (fun j hj => by omega), by simpa using h, (fun h => by omega), by simp [gsum]; omega⟩
    · have hf1 : 0 < f := by
        rcases Nat.eq_zero_or_pos f with e | e
        · subst e; simp at hx; omega
        · exact e
      rw [show 7 * (f + 1) = 7 * f + 7 by omega, Nat.pow_add] at hx
      obtain ⟨k, h1, h2, h3, h4, h5, h6⟩ := ih (x / 128) hf1 (Nat.div_lt_of_lt_mul (by rw [Nat.mul_comm]; exact hx))
      rw [varB_step _ _ (by omega)]
      refine ⟨k + 1, by simp [h1], by omega, ?_, by simpa using h4, ?_, ?_⟩
      · intro j hj
        cases j with
        | zero => simp
        | succ j => simpa using h3 j (by omega)
      · intro _
        by_cases hk : 0 < k
        · simpa using h5 hk
        · have hk0 : k = 0 := by omega
          subst hk0
          intro h0
          have h0' : (varB f (x / 128)).getD 0 0 = 0 := by simpa using h0
          match e : varB f (x / 128), h1 with
          | [y], _ =>
            rw [e] at h0' h6
            simp [gsum] at h0' h6
            omega
      · simp only [gsum, h6]; omega
/-- The bytes of a text that begins with others. -/
theorem byteN_append (l : List Nat) (s : ByteArray) (i : Nat) (hi : i < l.length) (hl : ∀ x ∈ l, x < 256) : byteN (toBA l ++ s) i = l.getD i 0 := by
  unfold byteN
  have e : (toBA l ++ s).data.toList = l.map UInt8.ofNat ++ s.data.toList := by
    rw [ByteArray.data_append, Array.toList_append]; rfl
  have hx := hl l[i] (List.getElem_mem hi)
  rw [e, List.getD_eq_getElem?_getD, List.getElem?_append_left (by simpa using hi), List.getElem?_map, List.getElem?_eq_getElem hi, List.getD_eq_getElem?_getD, List.getElem?_eq_getElem hi]
  simp
  omega
end Go.Proofs.Ytfjmcgdpiohnbaa
