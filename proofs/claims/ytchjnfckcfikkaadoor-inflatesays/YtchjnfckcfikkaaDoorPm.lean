/- Plain mathematics: bits that were packed are the bits that are read. -/
import Derived.Test.YtchjnfckcfikkaaDoorWn
namespace Go.Proofs.YtchjnfckcfikkaaDoor
open Go.RowKit
set_option linter.unusedVariables false

theorem i64_mask (k : Nat) (hk : k ≤ 62) (n : Int) : bits .and .i64 n ((2 ^ k - 1 : Nat) : Int) = n % ((2 ^ k : Nat) : Int) := by
  have hp := pow_le k 62 hk
  have hpos : 0 < 2 ^ k := Nat.pos_of_ne_zero (by simp)
  have hm : (BitVec.ofInt 64 ((2 ^ k - 1 : Nat) : Int)).toNat = 2 ^ k - 1 := ofInt_u64 _ (by omega)
  have key : (BitVec.ofInt 64 n &&& BitVec.ofInt 64 ((2 ^ k - 1 : Nat) : Int)).toNat = (n % ((2 ^ 64 : Nat) : Int)).toNat % 2 ^ k := by
    rw [BitVec.toNat_and, BitVec.toNat_ofInt, hm, Nat.and_two_pow_sub_one_eq_mod]
  show IntKind.i64.wrap ((BitVec.ofInt 64 n &&& BitVec.ofInt 64 ((2 ^ k - 1 : Nat) : Int)).toNat : Nat) = _
  rw [key, IntKind.wrap_i64]
  have hd : (n % ((2 ^ 64 : Nat) : Int)) % ((2 ^ k : Nat) : Int) = n % ((2 ^ k : Nat) : Int) := by
    apply Int.emod_emod_of_dvd
    exact ⟨((2 ^ (64 - k) : Nat) : Int), by rw [← Int.natCast_mul, ← Nat.pow_add, show k + (64 - k) = 64 by omega]⟩
  have h0 : 0 ≤ n % ((2 ^ 64 : Nat) : Int) := Int.emod_nonneg _ (by omega)
  obtain ⟨y, hy⟩ := Int.eq_ofNat_of_zero_le h0
  rw [hy] at hd ⊢
  rw [← hd]
  have e : ((y : Int).toNat % 2 ^ k : Nat) = y % 2 ^ k := by simp
  have hlt : y % 2 ^ k < 2 ^ k := Nat.mod_lt _ hpos
  rw [e]
  have e2 : (y : Int) % ((2 ^ k : Nat) : Int) = ((y % 2 ^ k : Nat) : Int) := by simp
  rw [e2]
  omega
theorem and63 (n : Int) : ∃ K : Nat, K < 64 ∧ bits .and .i64 n 63 = (K : Int) := by
  have h := i64_mask 6 (by omega) n
  have h0 : 0 ≤ n % 64 := Int.emod_nonneg _ (by omega)
  have h1 : n % 64 < 64 := Int.emod_lt_of_pos _ (by omega)
  exact ⟨(n % 64).toNat, by omega, by rw [show ((63 : Int)) = ((2 ^ 6 - 1 : Nat) : Int) from rfl, h]; show n % 64 = _; omega⟩
theorem and255i (n : Int) : ∃ K : Nat, K < 256 ∧ bits .and .i64 n 255 = (K : Int) := by
  have h := i64_mask 8 (by omega) n
  have h0 : 0 ≤ n % 256 := Int.emod_nonneg _ (by omega)
  have h1 : n % 256 < 256 := Int.emod_lt_of_pos _ (by omega)
  exact ⟨(n % 256).toNat, by omega, by rw [show ((255 : Int)) = ((2 ^ 8 - 1 : Nat) : Int) from rfl, h]; show n % 256 = _; omega⟩
theorem and31 (n : Int) : ∃ K : Nat, K < 32 ∧ bits .and .i64 n 31 = (K : Int) := by
  have h := i64_mask 5 (by omega) n
  have h0 : 0 ≤ n % 32 := Int.emod_nonneg _ (by omega)
  have h1 : n % 32 < 32 := Int.emod_lt_of_pos _ (by omega)
  exact ⟨(n % 32).toNat, by omega, by rw [show ((31 : Int)) = ((2 ^ 5 - 1 : Nat) : Int) from rfl, h]; show n % 32 = _; omega⟩
theorem low_mask (x a : Nat) (ha : a ≤ 57) : bits .and .i64 (x : Int) (wrap64 (wrap64 (2 ^ a) - 1)) = ((x % 2 ^ a : Nat) : Int) := by
  have hp := pow_le a 57 ha
  have hpos : 0 < 2 ^ a := Nat.pos_of_ne_zero (by simp)
  have e : ((2 ^ a : Nat) : Int) = 2 ^ a := by simp
  rw [wrap_pow a ha, ← e, IntWalk.wrap64_in _ ⟨by omega, by omega⟩]
  have e2 : ((2 ^ a : Nat) : Int) - 1 = ((2 ^ a - 1 : Nat) : Int) := by omega
  rw [e2, i64_mask a (by omega)]
  simp
/-- A digit of a number that was put together. -/
theorem bsum_digit {f : Nat → Nat} {n r : Nat} (h : ∀ i, i < n → f i < 2) (hr : r < n) : bsum f n / 2 ^ r % 2 = f r := by
  induction n with
  | zero => omega
  | succ n ih =>
    simp only [bsum]
    by_cases e : r = n
    · subst e
      have hl := bsum_lt (f := f) (n := r) (fun i hi => h i (by omega))
      have hf := h r (by omega)
      rw [Nat.add_mul_div_right _ _ (Nat.pos_of_ne_zero (by simp)), Nat.div_eq_of_lt hl]
      omega
    · have e2 : f n * 2 ^ n = (f n * 2 ^ (n - r - 1) * 2) * 2 ^ r := by
        rw [Nat.mul_assoc, Nat.mul_assoc, ← Nat.pow_succ', ← Nat.pow_add, show n - r - 1 + r.succ = n by omega]
      rw [e2, Nat.add_mul_div_right _ _ (Nat.pos_of_ne_zero (by simp))]
      have := ih (fun i hi => h i (by omega)) (by omega)
      omega
theorem bitAt_pack {L : List Nat} (h : Bits01 L) (i : Nat) (hi : i < 8 * ((L.length + 7) / 8)) : bitAt (toBA (pack L)) i = L.getD i 0 := by
  unfold bitAt
  have e : (toBA (pack L)).data.toList.getD (i / 8) 0 = UInt8.ofNat (byteOf L (i / 8)) := by
    show ((pack L).map UInt8.ofNat).getD (i / 8) 0 = _
    rw [List.getD_eq_getElem?_getD, List.getElem?_map, pack_get L (i / 8) (by omega)]; rfl
  have hb := byteOf_lt h (i / 8)
  rw [e, UInt8.toNat_ofNat', Nat.mod_eq_of_lt hb]
  unfold byteOf
  rw [bsum_digit (fun j _ => h.getD _) (by omega), show 8 * (i / 8) + i % 8 = i by omega]
theorem num_pack {L : List Nat} (h : Bits01 L) (p n : Nat) (hp : p + n ≤ L.length) : num (toBA (pack L)) p n = bsum (fun i => L.getD (p + i) 0) n := by
  rw [num_bsum]
  exact bsum_congr (fun i hi => bitAt_pack h (p + i) (by omega))
theorem bitsOf_getD (x k i : Nat) (h : i < k) : (bitsOf x k).getD i 0 = x / 2 ^ i % 2 := by
  rw [List.getD_eq_getElem?_getD, bitsOf_get x k i h]; rfl
theorem num_bitsOf (x k p n : Nat) (hp : p + n ≤ k) : num (toBA (pack (bitsOf x k))) p n = x / 2 ^ p % 2 ^ n := by
  rw [num_pack (bitsOf_01 x k) p n (by rw [bitsOf_length]; exact hp)]
  have e : bsum (fun i => (bitsOf x k).getD (p + i) 0) n = bsum (fun i => x / 2 ^ p % 2 ^ n / 2 ^ i % 2) n := by
    refine bsum_congr (fun i hi => ?_)
    rw [bitsOf_getD x k (p + i) (by omega), Nat.pow_add, ← Nat.div_div_eq_div_mul]
    have hd : 2 ^ n = 2 ^ i * 2 ^ (n - i) := by rw [← Nat.pow_add]; congr 1; omega
    rw [hd, Nat.mod_mul_right_div_self, show n - i = (n - i - 1) + 1 by omega, Nat.pow_succ, Nat.mod_mul_left_mod]
  rw [e, bsum_bits _ n (Nat.mod_lt _ (Nat.pos_of_ne_zero (by simp)))]
theorem bitsOf_split (x a k : Nat) (h : a ≤ k) : bitsOf (x % 2 ^ a) a ++ bitsOf (x / 2 ^ a) (k - a) = bitsOf x k := by
  refine List.ext_getElem? (fun i => ?_)
  by_cases hi : i < k
  · rw [bitsOf_get x k i hi]
    by_cases h1 : i < a
    · rw [List.getElem?_append_left (by rw [bitsOf_length]; exact h1), bitsOf_get _ _ _ h1]
      have hd : 2 ^ a = 2 ^ i * 2 ^ (a - i) := by rw [← Nat.pow_add]; congr 1; omega
      rw [hd, Nat.mod_mul_right_div_self, show a - i = (a - i - 1) + 1 by omega, Nat.pow_succ, Nat.mod_mul_left_mod]
    · rw [List.getElem?_append_right (by rw [bitsOf_length]; omega), bitsOf_length, bitsOf_get _ _ _ (by omega), Nat.div_div_eq_div_mul, ← Nat.pow_add, show a + (i - a) = i by omega]
  · rw [List.getElem?_eq_none (by rw [List.length_append, bitsOf_length, bitsOf_length]; omega), List.getElem?_eq_none (by rw [bitsOf_length]; omega)]
end Go.Proofs.YtchjnfckcfikkaaDoor
