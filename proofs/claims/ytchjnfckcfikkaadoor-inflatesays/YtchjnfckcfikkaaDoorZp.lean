/- Stored blocks, one behind the other: the mathematics. -/
import Derived.Test.YtchjnfckcfikkaaDoorZo
namespace Go.Proofs.YtchjnfckcfikkaaDoor
open Go.RowKit
set_option linter.unusedVariables false

def byteAt (s : ByteArray) (i : Nat) : Nat := (s.data.toList.getD i 0).toNat
theorem byteAt_lt (s : ByteArray) (i : Nat) : byteAt s i < 256 := UInt8.toNat_lt _
theorem bitAt_byte (s : ByteArray) (i j : Nat) (hj : j < 8) : bitAt s (8 * i + j) = byteAt s i / 2 ^ j % 2 := by
  unfold bitAt byteAt
  rw [show (8 * i + j) / 8 = i by omega, show (8 * i + j) % 8 = j by omega]
theorem num_add (s : ByteArray) (p n : Nat) : ∀ m, num s p (n + m) = num s p n + 2 ^ n * num s (p + n) m
  | 0 => by simp [num]
  | m + 1 => by
    rw [← Nat.add_assoc]
    simp only [num]
    rw [num_add s p n m, Nat.mul_add, ← Nat.add_assoc, Nat.pow_add]
    rw [← Nat.mul_assoc, ← Nat.mul_assoc, Nat.mul_comm (bitAt s (p + n + m)) (2 ^ n), Nat.add_assoc]
theorem num_byte (s : ByteArray) (i : Nat) : num s (8 * i) 8 = byteAt s i := by
  rw [num_bsum, bsum_congr (g := fun j => byteAt s i / 2 ^ j % 2) (fun j hj => bitAt_byte s i j hj)]
  exact bsum_bits _ 8 (byteAt_lt s i)
theorem num_16 (s : ByteArray) (i : Nat) : num s (8 * i) 16 = byteAt s i + 256 * byteAt s (i + 1) := by
  rw [show 16 = 8 + 8 from rfl, num_add, num_byte, show 8 * i + 8 = 8 * (i + 1) by omega, num_byte]
theorem num_head (s : ByteArray) (i : Nat) : num s (8 * i) 1 = byteAt s i % 2 ∧ num s (8 * i + 1) 2 = byteAt s i / 2 % 4 := by
  have h0 := bitAt_byte s i 0 (by omega)
  have h1 := bitAt_byte s i 1 (by omega)
  have h2 := bitAt_byte s i 2 (by omega)
  constructor
  · simp only [num]; rw [h0]; simp
  · simp only [num]
    rw [show 8 * i + 1 + 0 = 8 * i + 1 from rfl, show 8 * i + 1 + 1 = 8 * i + 2 from rfl, h1, h2]
    simp; omega
theorem xor16 (n : Nat) (h : n < 65536) : n ^^^ (65535 - n) = 65535 := by
  apply Nat.eq_of_testBit_eq
  intro i
  rw [Nat.testBit_xor, show 65535 - n = 2 ^ 16 - (n + 1) by omega, Nat.testBit_two_pow_sub_succ (by omega : n < 2 ^ 16), show 65535 = 2 ^ 16 - 1 from rfl, Nat.testBit_two_pow_sub_one]
  by_cases hi : i < 16
  · simp [hi]
  · have : n.testBit i = false := Nat.testBit_lt_two_pow (Nat.lt_of_lt_of_le (show n < 2 ^ 16 by omega) (Nat.pow_le_pow_right (by decide) (by omega)))
    simp [hi, this]
def bytesOf (s : ByteArray) : List Nat := s.data.toList.map UInt8.toNat
theorem stored_block (told : Nat → Nat × Nat × List Nat × List Nat) (s : ByteArray) (i n most : Nat) (l : List Nat) (h0 : byteAt s i < 2) (h1 : byteAt s (i + 1) = n % 256) (h2 : byteAt s (i + 2) = n / 256) (h3 : byteAt s (i + 3) = 255 - n % 256) (h4 : byteAt s (i + 4) = 255 - n / 256) (hn : n < 65536) (hs : i + 5 + n ≤ s.size) (hm : l.length + n ≤ most) :
    blockF told s most (8 * i) l = (0, 8 * (i + 5 + n), l ++ bytesOf (s.extract (i + 5) (i + 5 + n))) ∧ num s (8 * i) 1 = byteAt s i ∧ num s (8 * i + 1) 2 = 0 := by
  obtain ⟨g1, g2⟩ := num_head s i
  have e1 : num s (8 * i) 1 = byteAt s i := by rw [g1]; omega
  have e2 : num s (8 * i + 1) 2 = 0 := by rw [g2]; omega
  refine ⟨?_, e1, e2⟩
  unfold blockF
  rw [if_neg (by omega), if_neg (by omega), if_pos e2]
  unfold storedF
  simp only
  rw [show (8 * i + 3 + 7) / 8 * 8 = 8 * (i + 1) by omega]
  have n1 : num s (8 * (i + 1)) 16 = n := by rw [num_16, h1, show i + 1 + 1 = i + 2 from rfl, h2]; omega
  have n2 : num s (8 * (i + 1) + 16) 16 = 65535 - n := by rw [show 8 * (i + 1) + 16 = 8 * (i + 3) by omega, num_16, h3, show i + 3 + 1 = i + 4 from rfl, h4]; omega
  rw [n1, n2, if_neg (by omega), if_neg (by omega), if_neg (by rw [xor16 n hn]; simp), if_neg (by omega), if_neg (by omega)]
  rw [show (8 * (i + 1) + 32) / 8 = i + 5 by omega, show 8 * (i + 1) + 32 + 8 * n = 8 * (i + 5 + n) by omega]
  rfl
theorem byteAt_toBA (Z : List Nat) (h : Bytes Z) (i : Nat) : byteAt (toBA Z) i = Z.getD i 0 := by
  unfold byteAt toBA
  rw [List.getD_eq_getElem?_getD, List.getD_eq_getElem?_getD]
  simp only [List.getElem?_map]
  by_cases hi : i < Z.length
  · have hx := h Z[i] (List.getElem_mem hi)
    rw [List.getElem?_eq_getElem hi]
    simp; omega
  · rw [List.getElem?_eq_none (by omega)]; simp
theorem toBA_size (Z : List Nat) : (toBA Z).size = Z.length := by
  show (Z.map UInt8.ofNat).toArray.size = _
  simp
theorem bytesOf_extract (A P R : List Nat) (h : Bytes P) : bytesOf ((toBA (A ++ P ++ R)).extract A.length (A.length + P.length)) = P := by
  have e : ((toBA (A ++ P ++ R)).extract A.length (A.length + P.length)).data.toList = P.map UInt8.ofNat := by
    simp [toBA]
  unfold bytesOf
  rw [e, List.map_map]
  conv => rhs; rw [← List.map_id P]
  exact List.map_congr_left (fun x hx => by have := h x hx; simp; omega)
def headZ (n : Nat) : List Nat := [0, n % 256, n / 256, 255 - n % 256, 255 - n / 256]
def flatZ (f : Nat → List Nat) : Nat → List Nat
  | 0 => []
  | k + 1 => flatZ f k ++ (headZ (f k).length ++ f k)
def allZ (f : Nat → List Nat) : Nat → List Nat
  | 0 => []
  | k + 1 => allZ f k ++ f k
def endZ : List Nat := [1, 0, 0, 255, 255]
theorem flatZ_pre (f : Nat → List Nat) (k : Nat) : ∀ d, ∃ R, flatZ f (k + d) = flatZ f k ++ R
  | 0 => ⟨[], by simp⟩
  | d + 1 => by
    obtain ⟨R, hR⟩ := flatZ_pre f k d
    exact ⟨R ++ (headZ (f (k + d)).length ++ f (k + d)), by show flatZ f (k + d) ++ (headZ (f (k + d)).length ++ f (k + d)) = _; rw [hR, List.append_assoc]⟩
theorem allZ_mono (f : Nat → List Nat) (k : Nat) : ∀ d, (allZ f k).length ≤ (allZ f (k + d)).length
  | 0 => Nat.le_refl _
  | d + 1 => Nat.le_trans (allZ_mono f k d) (by show _ ≤ (allZ f (k + d) ++ f (k + d)).length; rw [List.length_append]; omega)
theorem headZ_bytes (n : Nat) (h : n < 65536) : Bytes (headZ n) := by
  intro x hx
  simp only [headZ, List.mem_cons, List.not_mem_nil, or_false] at hx
  omega
theorem flatZ_bytes (f : Nat → List Nat) (hf : ∀ k, Bytes (f k)) (hn : ∀ k, (f k).length < 65536) : ∀ k, Bytes (flatZ f k)
  | 0 => fun x hx => by simp [flatZ] at hx
  | k + 1 => fun x hx => by
    rcases List.mem_append.1 hx with h | h
    · exact flatZ_bytes f hf hn k x h
    · rcases List.mem_append.1 h with h | h
      · exact headZ_bytes _ (hn k) x h
      · exact hf k x h
section
variable {f : Nat → List Nat} (hf : ∀ k, Bytes (f k)) (hn : ∀ k, (f k).length < 65536)
theorem getD_mid (A B : List Nat) (j : Nat) : (A ++ B).getD (A.length + j) 0 = B.getD j 0 := by
  rw [List.getD_eq_getElem?_getD, List.getD_eq_getElem?_getD, List.getElem?_append_right (by omega), Nat.add_sub_cancel_left]
include hf hn in
/-- One of the blocks. -/
theorem flat_step (told : Nat → Nat × Nat × List Nat × List Nat) (N k most : Nat) (hk : k < N) (hm : (allZ f N).length ≤ most) :
    blockF told (toBA (flatZ f N ++ endZ)) most (8 * (flatZ f k).length) (allZ f k) = (0, 8 * (flatZ f (k + 1)).length, allZ f (k + 1)) ∧ num (toBA (flatZ f N ++ endZ)) (8 * (flatZ f k).length) 1 = 0 ∧ num (toBA (flatZ f N ++ endZ)) (8 * (flatZ f k).length + 1) 2 = 0 := by
  obtain ⟨d, rfl⟩ : ∃ d, N = k + 1 + d := ⟨N - (k + 1), by omega⟩
  obtain ⟨R, hR⟩ := flatZ_pre f (k + 1) d
  have hz : flatZ f (k + 1 + d) ++ endZ = flatZ f k ++ (headZ (f k).length ++ (f k ++ (R ++ endZ))) := by
    rw [hR]; show flatZ f k ++ (headZ (f k).length ++ f k) ++ R ++ endZ = _; simp only [List.append_assoc]
  have hB : Bytes (flatZ f (k + 1 + d) ++ endZ) := by
    intro x hx
    rcases List.mem_append.1 hx with h | h
    · exact flatZ_bytes f hf hn _ x h
    · simp only [endZ, List.mem_cons, List.not_mem_nil, or_false] at h; omega
  have hb : ∀ j, byteAt (toBA (flatZ f (k + 1 + d) ++ endZ)) ((flatZ f k).length + j) = (headZ (f k).length ++ (f k ++ (R ++ endZ))).getD j 0 := fun j => by
    rw [byteAt_toBA _ hB, hz, getD_mid]
  have hsz : (toBA (flatZ f (k + 1 + d) ++ endZ)).size = (flatZ f k).length + (5 + ((f k).length + (R ++ endZ).length)) := by
    rw [toBA_size, hz]; simp [headZ]; omega
  have hal : (allZ f k).length + (f k).length ≤ most := by
    have := allZ_mono f (k + 1) d
    have e : (allZ f (k + 1)).length = (allZ f k).length + (f k).length := by show (allZ f k ++ f k).length = _; rw [List.length_append]
    omega
  have h0 : byteAt (toBA (flatZ f (k + 1 + d) ++ endZ)) (flatZ f k).length = 0 := hb 0
  obtain ⟨g1, g2, g3⟩ := stored_block told (toBA (flatZ f (k + 1 + d) ++ endZ)) (flatZ f k).length (f k).length most (allZ f k) (by rw [h0]; omega) (hb 1) (hb 2) (hb 3) (hb 4) (hn k) (by rw [hsz]; omega) hal
  refine ⟨?_, by rw [g2, h0], g3⟩
  rw [g1]
  have e1 : (flatZ f (k + 1)).length = (flatZ f k).length + 5 + (f k).length := by show (flatZ f k ++ (headZ (f k).length ++ f k)).length = _; simp [headZ]; omega
  have e2 : bytesOf ((toBA (flatZ f (k + 1 + d) ++ endZ)).extract ((flatZ f k).length + 5) ((flatZ f k).length + 5 + (f k).length)) = f k := by
    have := bytesOf_extract (flatZ f k ++ headZ (f k).length) (f k) (R ++ endZ) (hf k)
    rw [show (flatZ f k ++ headZ (f k).length).length = (flatZ f k).length + 5 by simp [headZ]] at this
    rw [hz]
    rw [show flatZ f k ++ (headZ (f k).length ++ (f k ++ (R ++ endZ))) = flatZ f k ++ headZ (f k).length ++ f k ++ (R ++ endZ) by simp only [List.append_assoc]]
    exact this
  rw [e1, e2]; rfl
include hf hn in
/-- The last one. -/
theorem flat_last (told : Nat → Nat × Nat × List Nat × List Nat) (N most : Nat) (hm : (allZ f N).length ≤ most) :
    blockF told (toBA (flatZ f N ++ endZ)) most (8 * (flatZ f N).length) (allZ f N) = (0, 8 * (toBA (flatZ f N ++ endZ)).size, allZ f N) ∧ num (toBA (flatZ f N ++ endZ)) (8 * (flatZ f N).length) 1 = 1 ∧ num (toBA (flatZ f N ++ endZ)) (8 * (flatZ f N).length + 1) 2 = 0 := by
  have hB : Bytes (flatZ f N ++ endZ) := by
    intro x hx
    rcases List.mem_append.1 hx with h | h
    · exact flatZ_bytes f hf hn _ x h
    · simp only [endZ, List.mem_cons, List.not_mem_nil, or_false] at h; omega
  have hb : ∀ j, byteAt (toBA (flatZ f N ++ endZ)) ((flatZ f N).length + j) = endZ.getD j 0 := fun j => by rw [byteAt_toBA _ hB, getD_mid]
  have hsz : (toBA (flatZ f N ++ endZ)).size = (flatZ f N).length + 5 := by rw [toBA_size]; simp [endZ]
  have h0 : byteAt (toBA (flatZ f N ++ endZ)) (flatZ f N).length = 1 := hb 0
  obtain ⟨g1, g2, g3⟩ := stored_block told (toBA (flatZ f N ++ endZ)) (flatZ f N).length 0 most (allZ f N) (by rw [h0]; omega) (hb 1) (hb 2) (hb 3) (hb 4) (by omega) (by rw [hsz]; omega) (by omega)
  refine ⟨?_, by rw [g2, h0], g3⟩
  rw [g1, hsz]
  have : bytesOf ((toBA (flatZ f N ++ endZ)).extract ((flatZ f N).length + 5) ((flatZ f N).length + 5 + 0)) = [] := by
    have := bytesOf_extract (flatZ f N ++ endZ) [] [] (fun x hx => by simp at hx)
    simpa [endZ] using this
  rw [this, List.append_nil]
include hf hn in
theorem flat_all (N : Nat) : ∀ (d k : Nat), k + d = N → blocksF noTold (toBA (flatZ f N ++ endZ)) (allZ f N).length (8 * (toBA (flatZ f N ++ endZ)).size + 1 - 8 * (flatZ f k).length) (8 * (flatZ f k).length) (allZ f k) = (0, 8 * (toBA (flatZ f N ++ endZ)).size, allZ f N)
  | 0, k, h => by
    obtain rfl : k = N := by omega
    obtain ⟨g1, g2, g3⟩ := flat_last hf hn noTold k _ (Nat.le_refl _)
    rw [blocks_end (by rw [toBA_size, List.length_append]; omega) (by rw [g1]) g2, g1]
  | d + 1, k, h => by
    obtain ⟨g1, g2, g3⟩ := flat_step hf hn noTold N k _ (by omega) (Nat.le_refl _)
    have hal : (allZ f k).length ≤ (allZ f N).length := by have := allZ_mono f k (d + 1); rw [h] at this; exact this
    have hp : 8 * (flatZ f k).length ≤ 8 * (toBA (flatZ f N ++ endZ)).size := by
      obtain ⟨R, hR⟩ := flatZ_pre f k (d + 1)
      rw [toBA_size, ← h, hR]; simp only [List.length_append]; omega
    rw [blocks_more (noTold_ok _) hal hp (by rw [g1]) (by rw [g2]; omega), g1]
    exact flat_all N d (k + 1) (by omega)
end
end Go.Proofs.YtchjnfckcfikkaaDoor
