/- A writer's step: one bit more. -/
import Derived.Test.YtchjnfckcfikkaaDoorWa
namespace Go.Proofs.YtchjnfckcfikkaaDoor
open Go.RowKit
set_option linter.unusedVariables false

/-- The n lowest bits of a number, the lowest first. -/
def bitsOf (x : Nat) : Nat → List Nat
  | 0 => []
  | n + 1 => bitsOf x n ++ [x / 2 ^ n % 2]
theorem bitsOf_length (x n : Nat) : (bitsOf x n).length = n := by
  induction n with
  | zero => rfl
  | succ n ih => simp [bitsOf, ih]
theorem wrap_pow (n : Nat) (h : n ≤ 57) : wrap64 ((2 : Int) ^ n) = 2 ^ n := by
  have h1 := pow_le n 57 h
  have h2 : ((2 ^ n : Nat) : Int) = 2 ^ n := by simp
  rw [← h2]
  generalize 2 ^ n = y at h1 ⊢
  exact IntWalk.wrap64_in _ ⟨by omega, by omega⟩
theorem bit_x (x k : Nat) (hx : x < 18446744073709551616) : bits .and .u64 ((x : Int) / 2 ^ k) 1 = ((x / 2 ^ k % 2 : Nat) : Int) := by
  have e : (x : Int) / 2 ^ k = ((x / 2 ^ k : Nat) : Int) := by simp
  have hl : x / 2 ^ k ≤ x := Nat.div_le_self _ _
  have h := u64_and_nat (x / 2 ^ k) 1 (by omega) (by omega)
  rw [e, show (1 : Int) = ((1 : Nat) : Int) from rfl, h, nat_mask1]
theorem or_u8 (y c q : Nat) (hq : q < 8) (hy : y < 2 ^ q) (hc : c < 2) : bits .or .u8 (y : Int) ((c : Int) % 256 * 2 ^ q % 256) = ((y + c * 2 ^ q : Nat) : Int) := by
  have h7 := pow_le q 7 (by omega)
  have hm : c * 2 ^ q ≤ 1 * 2 ^ q := Nat.mul_le_mul_right _ (by omega)
  have e0 : (c : Int) % 256 = (c : Int) := by omega
  have e2 : (c : Int) * 2 ^ q = ((c * 2 ^ q : Nat) : Int) := by simp
  have e3 : ((c * 2 ^ q : Nat) : Int) % 256 = ((c * 2 ^ q : Nat) : Int) := by generalize c * 2 ^ q = z at *; omega
  rw [e0, e2, e3, u8_or_nat _ _ (by omega) (by omega), Nat.or_comm, nat_join q (c * 2 ^ q) y (by simp) hy]
  omega
theorem step_y (x k y q : Nat) (hx : x < 18446744073709551616) (hq : q < 8) (hy : y < 2 ^ q) :
    bits .or .u8 (y : Int) (bits .and .u64 ((x : Int) / 2 ^ k) 1 % 256 * 2 ^ q % 256) = ((y + x / 2 ^ k % 2 * 2 ^ q : Nat) : Int) := by
  rw [bit_x x k hx]
  exact or_u8 y (x / 2 ^ k % 2) q hq hy (Nat.mod_lt _ (by omega))

theorem step_0 (x k : Nat) (hx : x < 18446744073709551616) : bits .or .u8 (0 : Int) (bits .and .u64 ((x : Int) / 2 ^ k) 1 % 256) = ((x / 2 ^ k % 2 : Nat) : Int) := by
  have h := step_y x k 0 0 hx (by omega) (by simp)
  have h2 : x / 2 ^ k % 2 < 2 := Nat.mod_lt _ (by omega)
  rw [bit_x x k hx] at h ⊢
  generalize x / 2 ^ k % 2 = c at *
  have e : (c : Int) % 256 * 2 ^ 0 % 256 = (c : Int) % 256 := by omega
  rw [e] at h
  rw [show (0 : Int) = ((0 : Nat) : Int) from rfl, h]
  omega
theorem pcells_snoc {M : List Nat} (c : Nat) (h : M.length % 8 ≠ 0) : (pcells M).set (M.length / 8) (.int .u8 (byteOf M (M.length / 8) + c * 2 ^ (M.length % 8) : Nat)) = pcells (M ++ [c]) := by
  unfold pcells
  rw [pack_snoc c h, List.map_set]
theorem pcells_snoc0 {M : List Nat} (c : Nat) (h : M.length % 8 = 0) : (pcells M ++ [Value.int .u8 0]).set (M.length / 8) (.int .u8 (c : Nat)) = pcells (M ++ [c]) := by
  unfold pcells
  rw [pack_snoc0 c h, List.map_set, List.map_append]
  rfl
theorem ownsRow_block {w w' : World} {B : Nat} {E : TypeId} {size g n cap : Nat} {xs : List Value} (h : w.ownsRow B E size (.slice (some ⟨g, 0, none⟩) n cap) n xs) (e : w'.heap[g]? = w.heap[g]?) : w'.ownsRow B E size (.slice (some ⟨g, 0, none⟩) n cap) n xs := by
  refine ⟨h.1, .inr ?_⟩
  rcases h.2 with ⟨he, _⟩ | ⟨g', cap', cur, he, hB, hh, r⟩
  · cases he
  · cases he
    exact ⟨g, cap, cur, rfl, hB, e.trans hh, r⟩
theorem ownsRow_heap {w : World} {B : Nat} {E : TypeId} {size g n cap : Nat} {xs : List Value} (h : w.ownsRow B E size (.slice (some ⟨g, 0, none⟩) n cap) n xs) : B ≤ g ∧ ∃ cur, w.heap[g]? = some (.cells cur E (0, 0)) := by
  rcases h.2 with ⟨he, _⟩ | ⟨g', cap', cur, he, hB, hh, r⟩
  · cases he
  · cases he
    exact ⟨hB, cur, hh⟩
end Go.Proofs.YtchjnfckcfikkaaDoor
