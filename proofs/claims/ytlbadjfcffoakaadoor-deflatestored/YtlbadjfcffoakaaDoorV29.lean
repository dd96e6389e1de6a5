/- Stored blocks, one behind the other: the mathematics. -/
/- The document's reader: the fixed codes. -/
import Derived.Test.YtlbadjfcffoakaaDoorV27
import Derived.Test.YtlbadjfcffoakaaDoorV28
namespace Go.Proofs.YtlbadjfcffoakaaDoor
open Go.RowKit
set_option linter.unusedVariables false
set_option maxRecDepth 20000

def byteAt (s : ByteArray) (i : Nat) : Nat := (s.data.toList.getD i 0).toNat
theorem byteAt_lt (s : ByteArray) (i : Nat) : byteAt s i < 256 := UInt8.toNat_lt _
theorem bitAt_byte (s : ByteArray) (i j : Nat) (hj : j < 8) : bitAt s (8 * i + j) = byteAt s i / 2 ^ j % 2 := by
  unfold bitAt byteAt
  rw [show (8 * i + j) / 8 = i by omega, show (8 * i + j) % 8 = j by omega]
theorem num_add (s : ByteArray) (p n : Nat) : ∀ m, num s p (n + m) = num s p n + 2 ^ n * num s (p + n) m
  | 0 => by simp [num]
  | m + 1 => by
    rw [← Nat.add_assoc]
    simp only [num]
    rw [num_add s p n m, Nat.mul_add, ← Nat.add_assoc, Nat.pow_add]
    rw [← Nat.mul_assoc, ← Nat.mul_assoc, Nat.mul_comm (bitAt s (p + n + m)) (2 ^ n), Nat.add_assoc]
theorem num_byte (s : ByteArray) (i : Nat) : num s (8 * i) 8 = byteAt s i := by
  rw [num_bsum, bsum_congr (g := fun j => byteAt s i / 2 ^ j % 2) (fun j hj => bitAt_byte s i j hj)]
  exact bsum_bits _ 8 (byteAt_lt s i)
theorem num_16 (s : ByteArray) (i : Nat) : num s (8 * i) 16 = byteAt s i + 256 * byteAt s (i + 1) := by
  rw [show 16 = 8 + 8 from rfl, num_add, num_byte, show 8 * i + 8 = 8 * (i + 1) by omega, num_byte]
theorem num_head (s : ByteArray) (i : Nat) : num s (8 * i) 1 = byteAt s i % 2 ∧ num s (8 * i + 1) 2 = byteAt s i / 2 % 4 := by
  have h0 := bitAt_byte s i 0 (by omega)
  have h1 := bitAt_byte s i 1 (by omega)
  have h2 := bitAt_byte s i 2 (by omega)
  constructor
  · simp only [num]; rw [h0]; simp
  · simp only [num]
    rw [show 8 * i + 1 + 0 = 8 * i + 1 from rfl, show 8 * i + 1 + 1 = 8 * i + 2 from rfl, h1, h2]
    simp; omega
theorem xor16 (n : Nat) (h : n < 65536) : n ^^^ (65535 - n) = 65535 := by
  apply Nat.eq_of_testBit_eq
  intro i
  rw [Nat.testBit_xor, show 65535 - n = 2 ^ 16 - (n + 1) by omega, Nat.testBit_two_pow_sub_succ (by omega : n < 2 ^ 16), show 65535 = 2 ^ 16 - 1 from rfl, Nat.testBit_two_pow_sub_one]
  by_cases hi : i < 16
  · simp [hi]
  · have : n.testBit i = false := Nat.testBit_lt_two_pow (Nat.lt_of_lt_of_le (show n < 2 ^ 16 by omega) (Nat.pow_le_pow_right (by decide) (by omega)))
    simp [hi, this]
def bytesOf (s : ByteArray) : List Nat := s.data.toList.map UInt8.toNat
theorem stored_block (told : Nat → Nat × Nat × List Nat × List Nat) (s : ByteArray) (i n most : Nat) (l : List Nat) (h0 : byteAt s i < 2) (h1 : byteAt s (i + 1) = n % 256) (h2 : byteAt s (i + 2) = n / 256) (h3 : byteAt s (i + 3) = 255 - n % 256) (h4 : byteAt s (i + 4) = 255 - n / 256) (hn : n < 65536) (hs : i + 5 + n ≤ s.size) (hm : l.length + n ≤ most) :
    blockF told s most (8 * i) l = (0, 8 * (i + 5 + n), l ++ bytesOf (s.extract (i + 5) (i + 5 + n))) ∧ num s (8 * i) 1 = byteAt s i ∧ num s (8 * i + 1) 2 = 0 := by
  obtain ⟨g1, g2⟩ := num_head s i
  have e1 : num s (8 * i) 1 = byteAt s i := by rw [g1]; omega
  have e2 : num s (8 * i + 1) 2 = 0 := by rw [g2]; omega
  refine ⟨?_, e1, e2⟩
  unfold blockF
  rw [if_neg (by omega), if_neg (by omega), if_pos e2]
  unfold storedF
  simp only
  rw [show (8 * i + 3 + 7) / 8 * 8 = 8 * (i + 1) by omega]
  have n1 : num s (8 * (i + 1)) 16 = n := by rw [num_16, h1, show i + 1 + 1 = i + 2 from rfl, h2]; omega
  have n2 : num s (8 * (i + 1) + 16) 16 = 65535 - n := by rw [show 8 * (i + 1) + 16 = 8 * (i + 3) by omega, num_16, h3, show i + 3 + 1 = i + 4 from rfl, h4]; omega
  rw [n1, n2, if_neg (by omega), if_neg (by omega), if_neg (by rw [xor16 n hn]; simp), if_neg (by omega), if_neg (by omega)]
  rw [show (8 * (i + 1) + 32) / 8 = i + 5 by omega, show 8 * (i + 1) + 32 + 8 * n = 8 * (i + 5 + n) by omega]
  rfl
theorem byteAt_toBA (Z : List Nat) (h : Bytes Z) (i : Nat) : byteAt (toBA Z) i = Z.getD i 0 := by
  unfold byteAt toBA
  rw [List.getD_eq_getElem?_getD, List.getD_eq_getElem?_getD]
  simp only [List.getElem?_map]
  by_cases hi : i < Z.length
  · have hx := h Z[i] (List.getElem_mem hi)
    rw [List.getElem?_eq_getElem hi]
    simp; omega
  · rw [List.getElem?_eq_none (by omega)]; simp
theorem toBA_size (Z : List Nat) : (toBA Z).size = Z.length := by
  show (Z.map UInt8.ofNat).toArray.size = _
  simp
theorem bytesOf_extract (A P R : List Nat) (h : Bytes P) : bytesOf ((toBA (A ++ P ++ R)).extract A.length (A.length + P.length)) = P := by
  have e : ((toBA (A ++ P ++ R)).extract A.length (A.length + P.length)).data.toList = P.map UInt8.ofNat := by
    simp [toBA]
  unfold bytesOf
  rw [e, List.map_map]
  conv => rhs; rw [← List.map_id P]
  exact List.map_congr_left (fun x hx => by have := h x hx; simp; omega)
def headZ (n : Nat) : List Nat := [0, n % 256, n / 256, 255 - n % 256, 255 - n / 256]
def flatZ (f : Nat → List Nat) : Nat → List Nat
  | 0 => []
  | k + 1 => flatZ f k ++ (headZ (f k).length ++ f k)
def allZ (f : Nat → List Nat) : Nat → List Nat
  | 0 => []
  | k + 1 => allZ f k ++ f k
def endZ : List Nat := [1, 0, 0, 255, 255]
theorem flatZ_pre (f : Nat → List Nat) (k : Nat) : ∀ d, ∃ R, flatZ f (k + d) = flatZ f k ++ R
  | 0 => ⟨[], by simp⟩
  | d + 1 => by
    obtain ⟨R, hR⟩ := flatZ_pre f k d
    exact ⟨R ++ (headZ (f (k + d)).length ++ f (k + d)), by show flatZ f (k + d) ++ (headZ (f (k + d)).length ++ f (k + d)) = _; rw [hR, List.append_assoc]⟩
theorem allZ_mono (f : Nat → List Nat) (k : Nat) : ∀ d, (allZ f k).length ≤ (allZ f (k + d)).length
  | 0 => Nat.le_refl _
  | d + 1 => Nat.le_trans (allZ_mono f k d) (by show _ ≤ (allZ f (k + d) ++ f (k + d)).length; rw [List.length_append]; omega)
theorem headZ_bytes (n : Nat) (h : n < 65536) : Bytes (headZ n) := by
  intro x hx
  simp only [headZ, List.mem_cons, List.not_mem_nil, or_false] at hx
  omega
theorem flatZ_bytes (f : Nat → List Nat) (hf : ∀ k, Bytes (f k)) (hn : ∀ k, (f k).length < 65536) : ∀ k, Bytes (flatZ f k)
  | 0 => fun x hx => by simp [flatZ] at hx
  | k + 1 => fun x hx => by
    rcases List.mem_append.1 hx with h | h
    · exact flatZ_bytes f hf hn k x h
    · rcases List.mem_append.1 h with h | h
      · exact headZ_bytes _ (hn k) x h
      · exact hf k x h
section
variable {f : Nat → List Nat} (hf : ∀ k, Bytes (f k)) (hn : ∀ k, (f k).length < 65536)
theorem getD_mid (A B : List Nat) (j : Nat) : (A ++ B).getD (A.length + j) 0 = B.getD j 0 := by
  rw [List.getD_eq_getElem?_getD, List.getD_eq_getElem?_getD, List.getElem?_append_right (by omega), Nat.add_sub_cancel_left]
include hf hn in
theorem flat_step (told : Nat → Nat × Nat × List Nat × List Nat) (N k most : Nat) (hk : k < N) (hm : (allZ f N).length ≤ most) :
    blockF told (toBA (flatZ f N ++ endZ)) most (8 * (flatZ f k).length) (allZ f k) = (0, 8 * (flatZ f (k + 1)).length, allZ f (k + 1)) ∧ num (toBA (flatZ f N ++ endZ)) (8 * (flatZ f k).length) 1 = 0 ∧ num (toBA (flatZ f N ++ endZ)) (8 * (flatZ f k).length + 1) 2 = 0 := by
  obtain ⟨d, rfl⟩ : ∃ d, N = k + 1 + d := ⟨N - (k + 1), by omega⟩
  obtain ⟨R, hR⟩ := flatZ_pre f (k + 1) d
  have hz : flatZ f (k + 1 + d) ++ endZ = flatZ f k ++ (headZ (f k).length ++ (f k ++ (R ++ endZ))) := by
    rw [hR]; show flatZ f k ++ (headZ (f k).length ++ f k) ++ R ++ endZ = _; simp only [List.append_assoc]
  have hB : Bytes (flatZ f (k + 1 + d) ++ endZ) := by
    intro x hx
    rcases List.mem_append.1 hx with h | h
    · exact flatZ_bytes f hf hn _ x h
    · simp only [endZ, List.mem_cons, List.not_mem_nil, or_false] at h; omega
  have hb : ∀ j, byteAt (toBA (flatZ f (k + 1 + d) ++ endZ)) ((flatZ f k).length + j) = (headZ (f k).length ++ (f k ++ (R ++ endZ))).getD j 0 := fun j => by
    rw [byteAt_toBA _ hB, hz, getD_mid]
  have hsz : (toBA (flatZ f (k + 1 + d) ++ endZ)).size = (flatZ f k).length + (5 + ((f k).length + (R ++ endZ).length)) := by
    rw [toBA_size, hz]; simp [headZ]; omega
  have hal : (allZ f k).length + (f k).length ≤ most := by
    have := allZ_mono f (k + 1) d
    have e : (allZ f (k + 1)).length = (allZ f k).length + (f k).length := by show (allZ f k ++ f k).length = _; rw [List.length_append]
    omega
  have h0 : byteAt (toBA (flatZ f (k + 1 + d) ++ endZ)) (flatZ f k).length = 0 := hb 0
  obtain ⟨g1, g2, g3⟩ := stored_block told (toBA (flatZ f (k + 1 + d) ++ endZ)) (flatZ f k).length (f k).length most (allZ f k) (by rw [h0]; omega) (hb 1) (hb 2) (hb 3) (hb 4) (hn k) (by rw [hsz]; omega) hal
  refine ⟨?_, by rw [g2, h0], g3⟩
  rw [g1]
  have e1 : (flatZ f (k + 1)).length = (flatZ f k).length + 5 + (f k).length := by show (flatZ f k ++ (headZ (f k).length ++ f k)).length = _; simp [headZ]; omega
  have e2 : bytesOf ((toBA (flatZ f (k + 1 + d) ++ endZ)).extract ((flatZ f k).length + 5) ((flatZ f k).length + 5 + (f k).length)) = f k := by
    have := bytesOf_extract (flatZ f k ++ headZ (f k).length) (f k) (R ++ endZ) (hf k)
    rw [show (flatZ f k ++ headZ (f k).length).length = (flatZ f k).length + 5 by simp [headZ]] at this
    rw [hz]
    rw [show flatZ f k ++ (headZ (f k).length ++ (f k ++ (R ++ endZ))) = flatZ f k ++ headZ (f k).length ++ f k ++ (R ++ endZ) by simp only [List.append_assoc]]
    exact this
  rw [e1, e2]; rfl
include hf hn in
theorem flat_last (told : Nat → Nat × Nat × List Nat × List Nat) (N most : Nat) (hm : (allZ f N).length ≤ most) :
    blockF told (toBA (flatZ f N ++ endZ)) most (8 * (flatZ f N).length) (allZ f N) = (0, 8 * (toBA (flatZ f N ++ endZ)).size, allZ f N) ∧ num (toBA (flatZ f N ++ endZ)) (8 * (flatZ f N).length) 1 = 1 ∧ num (toBA (flatZ f N ++ endZ)) (8 * (flatZ f N).length + 1) 2 = 0 := by
  have hB : Bytes (flatZ f N ++ endZ) := by
    intro x hx
    rcases List.mem_append.1 hx with h | h
    · exact flatZ_bytes f hf hn _ x h
    · simp only [endZ, List.mem_cons, List.not_mem_nil, or_false] at h; omega
  have hb : ∀ j, byteAt (toBA (flatZ f N ++ endZ)) ((flatZ f N).length + j) = endZ.getD j 0 := fun j => by rw [byteAt_toBA _ hB, getD_mid]
  have hsz : (toBA (flatZ f N ++ endZ)).size = (flatZ f N).length + 5 := by rw [toBA_size]; simp [endZ]
  have h0 : byteAt (toBA (flatZ f N ++ endZ)) (flatZ f N).length = 1 := hb 0
  obtain ⟨g1, g2, g3⟩ := stored_block told (toBA (flatZ f N ++ endZ)) (flatZ f N).length 0 most (allZ f N) (by rw [h0]; omega) (hb 1) (hb 2) (hb 3) (hb 4) (by omega) (by rw [hsz]; omega) (by omega)
  refine ⟨?_, by rw [g2, h0], g3⟩
  rw [g1, hsz]
  have : bytesOf ((toBA (flatZ f N ++ endZ)).extract ((flatZ f N).length + 5) ((flatZ f N).length + 5 + 0)) = [] := by
    have := bytesOf_extract (flatZ f N ++ endZ) [] [] (fun x hx => by simp at hx)
    simpa [endZ] using this
  rw [this, List.append_nil]
include hf hn in
theorem flat_all (N : Nat) : ∀ (d k : Nat), k + d = N → blocksF noTold (toBA (flatZ f N ++ endZ)) (allZ f N).length (8 * (toBA (flatZ f N ++ endZ)).size + 1 - 8 * (flatZ f k).length) (8 * (flatZ f k).length) (allZ f k) = (0, 8 * (toBA (flatZ f N ++ endZ)).size, allZ f N)
  | 0, k, h => by
    obtain rfl : k = N := by omega
    obtain ⟨g1, g2, g3⟩ := flat_last hf hn noTold k _ (Nat.le_refl _)
    rw [blocks_end (by rw [toBA_size, List.length_append]; omega) (by rw [g1]) g2, g1]
  | d + 1, k, h => by
    obtain ⟨g1, g2, g3⟩ := flat_step hf hn noTold N k _ (by omega) (Nat.le_refl _)
    have hal : (allZ f k).length ≤ (allZ f N).length := by have := allZ_mono f k (d + 1); rw [h] at this; exact this
    have hp : 8 * (flatZ f k).length ≤ 8 * (toBA (flatZ f N ++ endZ)).size := by
      obtain ⟨R, hR⟩ := flatZ_pre f k (d + 1)
      rw [toBA_size, ← h, hR]; simp only [List.length_append]; omega
    rw [blocks_more (noTold_ok _) hal hp (by rw [g1]) (by rw [g2]; omega), g1]
    exact flat_all N d (k + 1) (by omega)
end
end Go.Proofs.YtlbadjfcffoakaaDoor
namespace Go.Proofs.YtlbadjfcffoakaaDoor
open Go.RowKit
set_option linter.unusedVariables false
set_option maxRecDepth 20000

def Bet (lo hi : Nat) : Nat → Prop := fun k => lo ≤ k ∧ k < hi
def FixdEnd (w : World) (en : Ending) (w' : World) : Prop :=
  Below w.heap.size w w' ∧ ∃ cv dv, en = .returned (.tuple #[cv, dv]) ∧ CodeAt w' (Bet w.heap.size w'.heap.size) cv fixS ∧ CodeAt w' (Bet w.heap.size w'.heap.size) dv fixD
theorem fixS_times : (((([] : List Nat) ++ List.replicate 144 8) ++ List.replicate 112 9) ++ List.replicate 24 7) ++ List.replicate 8 8 = fixS := by decide +kernel
theorem fixD_times : ([] : List Nat) ++ List.replicate 32 5 = fixD := by decide +kernel
theorem fixS_15 : ∀ i, fixS.getD i 0 ≤ 15 := fun i => by
  rcases Nat.lt_or_ge i 288 with h | h
  · exact (show ∀ k : Fin 288, fixS.getD k.val 0 ≤ 15 by decide +kernel) ⟨i, h⟩
  · rw [List.getD_eq_getElem?_getD, List.getElem?_eq_none (by rw [fixS_len]; exact h)]; simp
theorem fixD_15 : ∀ i, fixD.getD i 0 ≤ 15 := fun i => by
  rcases Nat.lt_or_ge i 32 with h | h
  · exact (show ∀ k : Fin 32, fixD.getD k.val 0 ≤ 15 by decide +kernel) ⟨i, h⟩
  · rw [List.getD_eq_getElem?_getD, List.getElem?_eq_none (by rw [fixD_len]; exact h)]; simp
theorem fixS_ew : ew fixS 15 ≤ 32768 := by decide +kernel
theorem fixD_ew : ew fixD 15 ≤ 32768 := by decide +kernel
theorem fixS_zer : zer fixS fixS.length = false := zer_false (i := 0) (by rw [fixS_len]; omega) (by decide +kernel)
theorem below_of_uf {w W : World} {n : Nat} (h : UF (fun k => k < n) w W) : Below n w W := ⟨h.os, h.tape, h.output, h.size, h.block⟩
set_option maxRecDepth 20000 in
set_option maxHeartbeats 1000000 in
theorem rfixed_ok (w0 : World) : Calls Tryd.prog 15 #[] w0 fun en w' => FixdEnd w0 en w' := by
  obtain ⟨o, hoo⟩ : ∃ o, Obj.cells #[Value.slice none 0 0, Value.slice none 0 0] 43 = o := ⟨_, rfl⟩
  have e1 : (w0.alloc o).heap.size = w0.heap.size + 1 := by simp
  have HB0 : Hid (Below w0.heap.size w0 ((w0.alloc o).alloc o) ∧ ((w0.alloc o).alloc o).heap[w0.heap.size]? = some o ∧ ((w0.alloc o).alloc o).heap[w0.heap.size + 1]? = some o ∧ ((w0.alloc o).alloc o).heap.size = w0.heap.size + 2) := ⟨((Below.refl _ _).alloc (Nat.le_refl _) _).alloc (by simp) _, by rw [heap_alloc_old _ _ (by rw [e1]; omega)]; exact heap_alloc_new _ _, by rw [← e1]; exact heap_alloc_new _ _, by simp⟩
  obtain ⟨w, hW0⟩ : ∃ w, (w0.alloc o).alloc o = w := ⟨_, rfl⟩
  rw [hW0] at HB0
  clear e1
  have T1 : Hid (∀ _ : Unit, Calls Tryd.prog 29 #[.slice none 0 0, .int .i64 (8 : Nat), .int .i64 (144 : Nat)] w fun en w' => ∃ v', en = .returned v' ∧ RI w' (fun k => k < w.heap.size) v' ([] ++ List.replicate 144 8) ∧ UF (fun k => k < w.heap.size) w w') := fun _ => rtimes_ok [] (.slice none 0 0) 8 144 (RI.nil w _ (fun k h => h)) (by simp) (by omega)
  have TT : Hid (∀ (W : World) (v : Value) (xs : List Nat) (x n : Nat), xs.length ≤ 1000 → x ≤ 15 → n ≤ 1000 → RI W (fun k => k < w.heap.size) v xs → Calls Tryd.prog 29 #[v, .int .i64 (x : Nat), .int .i64 (n : Nat)] W fun en w' => ∃ v', en = .returned v' ∧ RI w' (fun k => k < w.heap.size) v' (xs ++ List.replicate n x) ∧ UF (fun k => k < w.heap.size) W w') := fun W v xs x n h1 h2 h3 hv => rtimes_ok xs v x n hv (by omega) (by omega)
  go_enter Tryd.func15, Tryd.ntmps15
  go_wp2_with fail
  try rw [hoo]
  try rw [hW0]
  have HOO : Hid (Obj.cells #[Value.slice none 0 0, Value.slice none 0 0] 43 = o) := hoo
  clear hW0 hoo
  refine (T1.out ()).mono ?_
  rintro e w1 ⟨v1, rfl, hr, hf⟩
  have H1 : Hid (UF (fun k => k < w.heap.size) w w1) := hf
  have C2 : Hid (∀ _ : Unit, Calls Tryd.prog 29 #[v1, .int .i64 (9 : Nat), .int .i64 (112 : Nat)] w1 fun en w' => ∃ v', en = .returned v' ∧ RI w' (fun k => k < w.heap.size) v' (([] ++ List.replicate 144 8) ++ List.replicate 112 9) ∧ UF (fun k => k < w.heap.size) w1 w') := fun _ => TT.out w1 v1 _ 9 112 (by simp) (by omega) (by omega) hr
  clear hr hf T1
  go_wp2_with fail
  refine (C2.out ()).mono ?_
  rintro e w2 ⟨v2, rfl, hr, hf⟩
  have H2 : Hid (UF (fun k => k < w.heap.size) w w2) := H1.out.trans hf
  have C3 : Hid (∀ _ : Unit, Calls Tryd.prog 29 #[v2, .int .i64 (7 : Nat), .int .i64 (24 : Nat)] w2 fun en w' => ∃ v', en = .returned v' ∧ RI w' (fun k => k < w.heap.size) v' ((([] ++ List.replicate 144 8) ++ List.replicate 112 9) ++ List.replicate 24 7) ∧ UF (fun k => k < w.heap.size) w2 w') := fun _ => TT.out w2 v2 _ 7 24 (by simp) (by omega) (by omega) hr
  clear hr hf C2 H1
  go_wp2_with fail
  refine (C3.out ()).mono ?_
  rintro e w3 ⟨v3, rfl, hr, hf⟩
  have H3 : Hid (UF (fun k => k < w.heap.size) w w3) := H2.out.trans hf
  have C4 : Hid (∀ _ : Unit, Calls Tryd.prog 29 #[v3, .int .i64 (8 : Nat), .int .i64 (8 : Nat)] w3 fun en w' => ∃ v', en = .returned v' ∧ RI w' (fun k => k < w.heap.size) v' fixS ∧ UF (fun k => k < w.heap.size) w3 w') := fun _ => by
    have := TT.out w3 v3 _ 8 8 (by simp) (by omega) (by omega) hr
    rw [fixS_times] at this
    exact this
  clear hr hf C3 H2 TT
  go_wp2_with fail
  refine (C4.out ()).mono ?_
  rintro e w4 ⟨v4, rfl, hr, hf⟩
  have H4 : Hid (UF (fun k => k < w.heap.size) w w4) := H3.out.trans hf
  obtain ⟨ao, cp, hv⟩ := hr.form
  rw [fixS_len] at hv
  subst hv
  obtain ⟨r1, r2⟩ := hr.row
  have HR : Hid (IRow w4 ao (inN fixS) ∧ (∀ b o, ao = some ⟨b, o, none⟩ → ¬ b < w.heap.size ∧ b < w4.heap.size)) := ⟨r1, r2⟩
  have M1 : Hid (∀ _ : Unit, Calls Tryd.prog 30 #[.slice ao 288 cp] w4 fun e w' => MadeEnd w4 ao 288 cp (inN fixS) e w') := fun _ => rmade_ok (inN fixS) ao cp 288 w4 (by rw [inN_length, fixS_len]) r1 (by omega)
  clear hr hf C4 H3 r1 r2
  go_wp2_with fail
  refine (M1.out ()).mono ?_
  intro e w5 hm
  have hm' : MadeEnd w4 ao fixS.length cp (inN fixS) e w5 := by rw [fixS_len]; exact hm
  obtain ⟨hb, cv, rfl, hc⟩ := hm'.code (K := Bet w.heap.size w5.heap.size) HR.out.1 (fun b o e => ⟨by have := (HR.out.2 b o e).1; omega, by have := (HR.out.2 b o e).2; have := hm.1.size; omega⟩) fixS_15 (by rw [fixS_len]; omega) fixS_ew (fun k h1 h2 => ⟨by have := H4.out.size; omega, h2⟩)
  have H5 : Hid (Below w.heap.size w w5 ∧ CodeAt w5 (Bet w.heap.size w5.heap.size) cv fixS) := ⟨(below_of_uf H4.out).trans (hb.mono H4.out.size), hc⟩
  have T2 : Hid (∀ _ : Unit, Calls Tryd.prog 29 #[.slice none 0 0, .int .i64 (5 : Nat), .int .i64 (32 : Nat)] w5 fun en w' => ∃ v', en = .returned v' ∧ RI w' (fun k => k < w5.heap.size) v' fixD ∧ UF (fun k => k < w5.heap.size) w5 w') := fun _ => by
    have := rtimes_ok [] (.slice none 0 0) 5 32 (RI.nil w5 _ (fun k h => h)) (by simp) (by omega)
    rw [fixD_times] at this
    exact this
  clear hb hc hm hm' M1 HR H4
  go_wp2_with fail
  refine (T2.out ()).mono ?_
  rintro e w6 ⟨v6, rfl, hr, hf⟩
  have H6 : Hid (Below w5.heap.size w5 w6) := below_of_uf hf
  obtain ⟨ao, cp, hv⟩ := hr.form
  rw [fixD_len] at hv
  subst hv
  obtain ⟨r1, r2⟩ := hr.row
  have HR : Hid (IRow w6 ao (inN fixD) ∧ (∀ b o, ao = some ⟨b, o, none⟩ → ¬ b < w5.heap.size ∧ b < w6.heap.size)) := ⟨r1, r2⟩
  have M2 : Hid (∀ _ : Unit, Calls Tryd.prog 30 #[.slice ao 32 cp] w6 fun e w' => MadeEnd w6 ao 32 cp (inN fixD) e w') := fun _ => rmade_ok (inN fixD) ao cp 32 w6 (by rw [inN_length, fixD_len]) r1 (by omega)
  clear hr hf T2 r1 r2
  go_wp2_with fail
  refine (M2.out ()).mono ?_
  intro e w7 hm
  have hm' : MadeEnd w6 ao fixD.length cp (inN fixD) e w7 := by rw [fixD_len]; exact hm
  obtain ⟨hb, dv, rfl, hc⟩ := hm'.code (K := Bet w.heap.size w7.heap.size) HR.out.1 (fun b o e => ⟨by have := (HR.out.2 b o e).1; have := H5.out.1.size; omega, by have := (HR.out.2 b o e).2; have := hm.1.size; omega⟩) fixD_15 (by rw [fixD_len]; omega) fixD_ew (fun k h1 h2 => ⟨by have := H6.out.size; have := H5.out.1.size; omega, h2⟩)
  have b57 : Below w5.heap.size w5 w7 := H6.out.trans (hb.mono H6.out.size)
  have b07 : Below w.heap.size w w7 := H5.out.1.trans (b57.mono H5.out.1.size)
  have hb1 : w7.heap[w0.heap.size]? = some (.cells #[Value.slice none 0 0, Value.slice none 0 0] 43) := by
    rw [b07.block _ (by rw [HB0.out.2.2.2]; omega), HB0.out.2.1, HOO.out]
  have hb2 : w7.heap[w0.heap.size + 1]? = some (.cells #[Value.slice none 0 0, Value.slice none 0 0] 43) := by
    rw [b07.block _ (by rw [HB0.out.2.2.2]; omega), HB0.out.2.2.1, HOO.out]
  have hcc := (H5.out.2.uf (UF.below b57 (fun k h => h.2))).more (K' := Bet w.heap.size w7.heap.size) (fun k h => ⟨h.1, Nat.lt_of_lt_of_le h.2 b57.size⟩)
  obtain ⟨x1, x2, x3, x4, rfl, hX⟩ : ∃ x1 x2 x3 x4, cv = .agg #[.slice x1 288 x2, .slice x3 288 x4] ∧ True := by
    obtain ⟨x1, x2, x3, x4, e, -⟩ := hcc
    rw [fixS_len] at e
    exact ⟨x1, x2, x3, x4, e, trivial⟩
  obtain ⟨y1, y2, y3, y4, rfl, hY⟩ : ∃ x1 x2 x3 x4, dv = .agg #[.slice x1 32 x2, .slice x3 32 x4] ∧ True := by
    obtain ⟨x1, x2, x3, x4, e, -⟩ := hc
    rw [fixD_len] at e
    exact ⟨x1, x2, x3, x4, e, trivial⟩
  have H7 : Hid (∀ W, (∀ k, k < w7.heap.size → k ≠ w0.heap.size → k ≠ w0.heap.size + 1 → W.heap[k]? = w7.heap[k]?) → W.os = w7.os → W.tape = w7.tape → W.output = w7.output → w7.heap.size ≤ W.heap.size → FixdEnd w0 (.returned (.tuple #[.agg #[.slice x1 288 x2, .slice x3 288 x4], .agg #[.slice y1 32 y2, .slice y3 32 y4]])) W) := fun W g1 g2 g3 g4 g5 => by
    have hs := HB0.out.2.2.2
    have hs2 := b07.size
    have hUF : UF (Bet w.heap.size w7.heap.size) w7 W := ⟨g2, g3, g4, g5, fun k hk => g1 k hk.2 (by have := hk.1; omega) (by have := hk.1; omega)⟩
    refine ⟨⟨g2.trans (b07.os.trans HB0.out.1.os), g3.trans (b07.tape.trans HB0.out.1.tape), g4.trans (b07.output.trans HB0.out.1.output), by omega, fun k hk => by rw [g1 k (by omega) (by omega) (by omega), b07.block k (by omega), HB0.out.1.block k hk]⟩, _, _, rfl, ?_, ?_⟩
    · exact (hcc.uf hUF).more (fun k h => ⟨by have := h.1; omega, by have := h.2; omega⟩)
    · exact (hc.uf hUF).more (fun k h => ⟨by have := h.1; omega, by have := h.2; omega⟩)
  obtain ⟨c0, c1, f0, f1⟩ := code_blk hb1
  obtain ⟨c2, c3, f2, f3⟩ := code_blk hb2
  clear hb hc hm hm' M2 HR H5 H6 hb1 hb2 hcc b57 b07 HB0 HOO hX hY
  go_wp2
  refine bodyPost_ret (v := .tuple #[.agg #[.slice x1 288 x2, .slice x3 288 x4], .agg #[.slice y1 32 y2, .slice y3 32 y4]]) ?_ rfl ?_
  · rw [results_two rfl]
    go_simp
  refine H7.out _ (fun k h1 h2 h3 => ?_) ?_ ?_ ?_ ?_
  · rw [Below.heap_setCell _ _ _ _ h3, Below.heap_setCell _ _ _ _ h3, Below.heap_setCell _ _ _ _ h2, Below.heap_setCell _ _ _ _ h2]
  · rfl
  · rfl
  · rfl
  · simp
end Go.Proofs.YtlbadjfcffoakaaDoor
