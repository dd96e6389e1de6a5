/- Plain mathematics of numbers as so many bytes. -/
import Derived.Test.YtfjmcgdpiohnbaaWn
namespace Go.Proofs.Ytfjmcgdpiohnbaa
open Go.RowKit
set_option linter.unusedVariables false

theorem i64_and_nat (a b : Nat) (ha : a < 9223372036854775808) (hb : b < 9223372036854775808) : bits .and .i64 (a : Int) (b : Int) = ((a &&& b : Nat) : Int) := by
  have hx : a &&& b < 2 ^ 63 := Nat.and_lt_two_pow _ (by omega)
  show IntKind.i64.wrap ((BitVec.ofInt 64 (a : Int) &&& BitVec.ofInt 64 (b : Int)).toNat : Int) = _
  rw [BitVec.toNat_and, ofInt_u64 a (by omega), ofInt_u64 b (by omega), IntKind.wrap_i64]
  omega
/-- A number as so many bytes, the lowest first. -/
def fixB (n k : Nat) : List Nat := (List.range k).map fun i => n / 2 ^ (8 * i) % 256
theorem fixB_length (n k : Nat) : (fixB n k).length = k := by simp [fixB]
theorem fixB_lt (n k : Nat) : ∀ x ∈ fixB n k, x < 256 := by
  intro x hx
  simp only [fixB, List.mem_map] at hx
  obtain ⟨i, _, rfl⟩ := hx
  omega
theorem fixB_succ (n k : Nat) : fixB n (k + 1) = fixB n k ++ [n / 2 ^ (8 * k) % 256] := by simp [fixB, List.range_succ]
/-- The number of the first bytes of a text. -/
def fixN (s : ByteArray) : Nat → Nat
  | 0 => 0
  | i + 1 => fixN s i + (s.data.toList.getD i 0).toNat * 2 ^ (8 * i)
theorem byte_lt (s : ByteArray) (i : Nat) : (s.data.toList.getD i 0).toNat < 256 := UInt8.toNat_lt _
theorem byte_eq (s : ByteArray) (i : Nat) (h : i < s.size) : s[i].toNat = (s.data.toList.getD i 0).toNat := by
  have : s.data.toList.getD i 0 = s[i] := by
    have h' : i < s.data.size := h
    rw [List.getD_eq_getElem?_getD, Array.getElem?_toList, Array.getElem?_eq_getElem h']; rfl
  rw [this]
theorem fixN_lt (s : ByteArray) (k : Nat) : fixN s k < 2 ^ (8 * k) := by
  induction k with
  | zero => simp [fixN]
  | succ k ih =>
    have hb := byte_lt s k
    have hm : (s.data.toList.getD k 0).toNat * 2 ^ (8 * k) ≤ 255 * 2 ^ (8 * k) := Nat.mul_le_mul_right _ (by omega)
    have e : 2 ^ (8 * (k + 1)) = 256 * 2 ^ (8 * k) := by rw [show 8 * (k + 1) = 8 * k + 8 by omega, Nat.pow_add]; omega
    simp only [fixN]; omega
theorem or_byte (x y k : Nat) (hx : x < 2 ^ (8 * k)) (hy : y < 256) (hk : k ≤ 7) :
    bits .or .u64 (x : Int) (IntKind.u64.wrap ((y : Int) * 2 ^ (8 * k))) = ((x + y * 2 ^ (8 * k) : Nat) : Int) := by
  have h56 := pow_le (8 * k) 56 (by omega)
  have hm : y * 2 ^ (8 * k) ≤ 255 * 2 ^ (8 * k) := Nat.mul_le_mul_right _ (by omega)
  have e2 : (y : Int) * 2 ^ (8 * k) = ((y * 2 ^ (8 * k) : Nat) : Int) := by simp
  rw [e2, wrap_u64_nat _ (by omega), u64_or_nat _ _ (by omega) (by omega), Nat.or_comm, nat_join (8 * k) (y * 2 ^ (8 * k)) x (by simp) hx]
  omega
theorem fixN_top (s : ByteArray) : 2 ^ 63 ≤ fixN s 8 ↔ 127 < (s.data.toList.getD 7 0).toNat := by
  have h := fixN_lt s 7
  have e : fixN s 8 = fixN s 7 + (s.data.toList.getD 7 0).toNat * 2 ^ (8 * 7) := rfl
  rw [e]
  omega
theorem fixN_le (s : ByteArray) (i k : Nat) (h : i ≤ k) : fixN s i ≤ fixN s k := by
  induction k with
  | zero => rw [show i = 0 by omega]; exact Nat.le_refl _
  | succ k ih =>
    by_cases e : i = k + 1
    · rw [e]; exact Nat.le_refl _
    · exact Nat.le_trans (ih (by omega)) (by simp only [fixN]; omega)
/-- Its bytes, then whatever: the number. -/
theorem fixN_fixB (n k : Nat) (s : ByteArray) (h : n < 2 ^ (8 * k)) : fixN (toBA (fixB n k) ++ s) k = n := by
  have hg : ∀ i, i < k → ((toBA (fixB n k) ++ s).data.toList.getD i 0).toNat = n / 2 ^ (8 * i) % 256 := by
    intro i hi
    have hl : (fixB n k).length = k := fixB_length n k
    rw [List.getD_eq_getElem?_getD]
    have e : (toBA (fixB n k) ++ s).data.toList = (fixB n k).map UInt8.ofNat ++ s.data.toList := by
      rw [ByteArray.data_append, Array.toList_append]; rfl
    rw [e, List.getElem?_append_left (by simp [hl]; exact hi)]
    simp [fixB, hi]
  have hm : ∀ j, j ≤ k → fixN (toBA (fixB n k) ++ s) j = n % 2 ^ (8 * j) := by
    intro j hj
    induction j with
    | zero => simp [fixN, Nat.mod_one]
    | succ j ih =>
      simp only [fixN]
      rw [ih (by omega), hg j (by omega), show 8 * (j + 1) = 8 * j + 8 by omega, Nat.pow_add, Nat.mod_mul, Nat.mul_comm (2 ^ (8 * j))]
  rw [hm k (Nat.le_refl _), Nat.mod_eq_of_lt h]
theorem rep_set (l : List Nat) (m x : Nat) : (l ++ List.replicate (m + 1) 0).set l.length x = (l ++ [x]) ++ List.replicate m 0 := by
  rw [List.set_append_right _ _ (Nat.le_refl _), Nat.sub_self, List.replicate_succ, List.set_cons_zero, List.append_assoc]; rfl
theorem fix_store (n i k : Nat) (h : i < k) : (u8cells (fixB n i ++ List.replicate (k - i) 0)).set i (.int .u8 (n / 2 ^ (8 * i) % 256 : Nat)) = u8cells (fixB n (i + 1) ++ List.replicate (k - (i + 1)) 0) := by
  unfold u8cells
  rw [← List.map_set, show k - i = (k - (i + 1)) + 1 by omega]
  congr 1
  have := rep_set (fixB n i) (k - (i + 1)) (n / 2 ^ (8 * i) % 256)
  rw [fixB_length] at this
  rw [this, fixB_succ]
theorem made_u8 (n k : Nat) : (madeCells #[Value.int .u8 0] k).toList = u8cells (fixB n 0 ++ List.replicate (k - 0) 0) := by
  rw [toList_madeCells_one (.int .u8 0) k]
  simp [u8cells, fixB]
end Go.Proofs.Ytfjmcgdpiohnbaa
