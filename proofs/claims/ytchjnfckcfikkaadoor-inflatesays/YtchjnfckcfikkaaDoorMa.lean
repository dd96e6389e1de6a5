/- Plain mathematics of bits: a text's bits, the number of some of them, and how machine arithmetic comes to it. -/
import Derived.Laws.BitsAllLaws
import Derived.IntWalk
namespace Go.Proofs.YtchjnfckcfikkaaDoor
open Go.RowKit

/-- A bit of a text: the lowest one of a byte first. -/
def bitAt (s : ByteArray) (i : Nat) : Nat := (s.data.toList.getD (i / 8) 0).toNat / 2 ^ (i % 8) % 2
/-- The number of n bits from a place on. -/
def num (s : ByteArray) (p : Nat) : Nat → Nat
  | 0 => 0
  | n + 1 => num s p n + bitAt s (p + n) * 2 ^ n
theorem bitAt_lt (s : ByteArray) (i : Nat) : bitAt s i < 2 := Nat.mod_lt _ (by omega)
theorem bitAt_eq (s : ByteArray) (i : Nat) (h : i / 8 < s.size) : bitAt s i = s[i / 8].toNat / 2 ^ (i % 8) % 2 := by
  unfold bitAt
  have : s.data.toList.getD (i / 8) 0 = s[i / 8] := by
    have h' : i / 8 < s.data.size := h
    rw [List.getD_eq_getElem?_getD, Array.getElem?_toList, Array.getElem?_eq_getElem h']; rfl
  rw [this]
theorem num_lt (s : ByteArray) (p n : Nat) : num s p n < 2 ^ n := by
  induction n with
  | zero => simp [num]
  | succ n ih => 
    have h := bitAt_lt s (p + n)
    have : bitAt s (p + n) * 2 ^ n ≤ 1 * 2 ^ n := Nat.mul_le_mul_right _ (by omega)
    simp only [num, Nat.pow_succ]; omega
theorem pow_le (k m : Nat) (h : k ≤ m) : 2 ^ k ≤ 2 ^ m := Nat.pow_le_pow_right (by omega) h
theorem and1_u8 (y m : Nat) (hy : y < 256) : bits .and .u8 ((y : Int) / 2 ^ m) 1 = ((y / 2 ^ m % 2 : Nat) : Int) := by
  have e : (y : Int) / 2 ^ m = ((y / 2 ^ m : Nat) : Int) := by simp
  have hl : y / 2 ^ m ≤ y := Nat.div_le_self _ _
  have h := u8_and_nat (y / 2 ^ m) 1 (by omega) (by omega)
  rw [e, show (1 : Int) = ((1 : Nat) : Int) from rfl, h, nat_mask1]
theorem wrap_u64_nat (a : Nat) (h : a < 18446744073709551616) : IntKind.u64.wrap (a : Int) = (a : Int) := by
  rw [IntKind.wrap_u64]; omega
theorem or_step (x c k : Nat) (hx : x < 2 ^ k) (hc : c < 2) (hk : k ≤ 62) :
    bits .or .u64 (x : Int) (IntKind.u64.wrap (IntKind.u64.wrap (c : Int) * 2 ^ k)) = ((x + c * 2 ^ k : Nat) : Int) := by
  have h62 := pow_le k 62 hk
  have hm : c * 2 ^ k ≤ 1 * 2 ^ k := Nat.mul_le_mul_right _ (by omega)
  have e1 : IntKind.u64.wrap (c : Int) = (c : Int) := wrap_u64_nat c (by omega)
  have e2 : (c : Int) * 2 ^ k = ((c * 2 ^ k : Nat) : Int) := by simp
  rw [e1, e2, wrap_u64_nat _ (by omega), u64_or_nat _ _ (by omega) (by omega), Nat.or_comm, nat_join k (c * 2 ^ k) x (by simp) hx]
  omega
theorem num_step (s : ByteArray) (p k : Nat) (hk : k ≤ 62) (h : (p + k) / 8 < s.size) :
    bits .or .u64 (num s p k : Nat) (IntKind.u64.wrap (IntKind.u64.wrap (bits .and .u8 ((s[(p + k) / 8].toNat : Int) / 2 ^ ((p + k) % 8)) 1) * 2 ^ k)) = ((num s p (k + 1) : Nat) : Int) := by
  have hy : s[(p + k) / 8].toNat < 256 := UInt8.toNat_lt _
  rw [and1_u8 _ _ hy, ← bitAt_eq s (p + k) h, or_step _ _ _ (num_lt s p k) (bitAt_lt _ _) hk]
  rfl
end Go.Proofs.YtchjnfckcfikkaaDoor
