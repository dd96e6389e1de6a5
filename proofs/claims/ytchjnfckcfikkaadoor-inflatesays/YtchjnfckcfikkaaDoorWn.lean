/- Bytes as a text: what string(b) gives of a row of bytes that the call owns. Bits of a text, and noughts up to a byte's end. -/
import Derived.Test.YtchjnfckcfikkaaDoorWm
import Derived.Laws.IdiomStrings
import Derived.Lib.AppendStr
namespace Go.Proofs.YtchjnfckcfikkaaDoor
open Go.RowKit
set_option linter.unusedVariables false

/-- Numbers below 256 as a text. -/
def toBA (l : List Nat) : ByteArray := ⟨(l.map UInt8.ofNat).toArray⟩
def u8cells (l : List Nat) : List Value := l.map fun x => Value.int .u8 (x : Nat)
theorem conv_row {P : Program} (w : World) (src dst e : TypeId) (B : Nat) (v : Value) (l : List Nat) (hs : P.underlying src = some (.slice e)) (he : P.underlying e = some (.int .u8)) (hd : P.underlying dst = some .string)
    (hown : w.ownsRow B e 1 v l.length (u8cells l)) (hl : ∀ x ∈ l, x < 256) : (convert src dst v).run P w = .ok (.string (toBA l)) w := by
  rcases hown.2 with ⟨rfl, h0⟩ | ⟨g, cap, cur, rfl, hB, hh, hnc, hcm, hcs, htk⟩
  · have : l = [] := List.length_eq_zero_iff.1 h0
    subst this
    rw [run_convert_bytes_string w src dst e none 0 0 hs he hd]
    simp [Conv.bytesToString]
    rfl
  · have hlen : (l.map UInt8.ofNat).length = l.length := by simp
    have := run_convert_bytes_back (P := P) w src dst e ⟨g, 0, none⟩ cap (l.map UInt8.ofNat) hs he hd (fun j hj => by
      have hj' : j < l.length := by simpa using hj
      have hx := hl l[j] (List.getElem_mem hj')
      refine hown.cells (g := g) rfl j _ ?_
      simp [u8cells, List.getElem?_eq_getElem hj']
      omega)
    rw [hlen] at this
    exact this
/-- The bits of a text. -/
def textBits (s : ByteArray) : List Nat := (List.range (8 * s.size)).map (bitAt s)
theorem textBits_length (s : ByteArray) : (textBits s).length = 8 * s.size := by simp [textBits]
theorem textBits_01 (s : ByteArray) : Bits01 (textBits s) := by
  intro x hx
  simp only [textBits, List.mem_map] at hx
  obtain ⟨i, _, rfl⟩ := hx
  exact bitAt_lt s i
theorem Bits01.append {L M : List Nat} (h : Bits01 L) (k : Bits01 M) : Bits01 (L ++ M) := by
  intro x hx; rcases List.mem_append.1 hx with hx | hx
  · exact h x hx
  · exact k x hx
theorem bitsOf_01 (x n : Nat) : Bits01 (bitsOf x n) := by
  induction n with
  | zero => intro y hy; cases hy
  | succ n ih => exact ih.snoc (Nat.mod_lt _ (by omega))
theorem bitsOf_get (x n i : Nat) (h : i < n) : (bitsOf x n)[i]? = some (x / 2 ^ i % 2) := by
  induction n with
  | zero => omega
  | succ n ih =>
    unfold bitsOf
    by_cases e : i = n
    · subst e; rw [List.getElem?_append_right (by rw [bitsOf_length]; exact Nat.le_refl _), bitsOf_length]; simp
    · rw [List.getElem?_append_left (by rw [bitsOf_length]; omega)]; exact ih (by omega)
theorem bsum_bits (y n : Nat) (hy : y < 2 ^ n) : bsum (fun i => y / 2 ^ i % 2) n = y := by
  have h : ∀ n, bsum (fun i => y / 2 ^ i % 2) n = y % 2 ^ n := by
    intro n
    induction n with
    | zero => simp [bsum, Nat.mod_one]
    | succ n ih => simp only [bsum]; rw [ih, Nat.mod_pow_succ, Nat.mul_comm (2 ^ n)]
  rw [h, Nat.mod_eq_of_lt hy]
theorem byteOf_text (L : List Nat) (s : ByteArray) (j : Nat) (h8 : L.length % 8 = 0) (hj : j < s.size) : byteOf (L ++ textBits s) (L.length / 8 + j) = (s.data.toList.getD j 0).toNat := by
  have e : byteOf (L ++ textBits s) (L.length / 8 + j) = bsum (fun i => (s.data.toList.getD j 0).toNat / 2 ^ i % 2) 8 := by
    refine bsum_congr (fun i hi => ?_)
    rw [List.getD_eq_getElem?_getD, List.getElem?_append_right (by omega), show 8 * (L.length / 8 + j) + i - L.length = 8 * j + i by omega]
    simp only [textBits]
    rw [List.getElem?_map, List.getElem?_range (by omega)]
    simp only [Option.map_some, Option.getD_some, bitAt]
    rw [show (8 * j + i) / 8 = j by omega, show (8 * j + i) % 8 = i by omega]
  rw [e]
  exact bsum_bits _ 8 (UInt8.toNat_lt _)
theorem byteOf_left (L M : List Nat) (j : Nat) (h : 8 * j + 8 ≤ L.length) : byteOf (L ++ M) j = byteOf L j := by
  refine bsum_congr (fun i hi => ?_)
  rw [List.getD_eq_getElem?_getD, List.getD_eq_getElem?_getD, List.getElem?_append_left (by omega)]
/-- Whole bytes behind whole bytes. -/
theorem pack_text (L : List Nat) (s : ByteArray) (h8 : L.length % 8 = 0) : pack (L ++ textBits s) = pack L ++ s.data.toList.map UInt8.toNat := by
  have hl := textBits_length s
  have hs : s.data.toList.length = s.size := by simp
  refine List.ext_getElem? (fun j => ?_)
  by_cases hj : j < L.length / 8
  · rw [pack_get _ _ (by rw [List.length_append]; omega), byteOf_left _ _ _ (by omega), List.getElem?_append_left (by rw [pack_length]; omega), pack_get _ _ (by omega)]
  · by_cases hj2 : j < L.length / 8 + s.size
    · rw [pack_get _ _ (by rw [List.length_append]; omega), List.getElem?_append_right (by rw [pack_length]; omega), pack_length, show j - (L.length + 7) / 8 = j - L.length / 8 by omega]
      have := byteOf_text L s (j - L.length / 8) h8 (by omega)
      rw [show L.length / 8 + (j - L.length / 8) = j by omega] at this
      rw [this, List.getElem?_map, List.getD_eq_getElem?_getD, List.getElem?_eq_getElem (by omega)]
      rfl
    · rw [List.getElem?_eq_none (by rw [pack_length, List.length_append]; omega), List.getElem?_eq_none (by rw [List.length_append, pack_length, List.length_map]; omega)]
/-- How many noughts there are up to a byte's end. -/
def padOf (n : Nat) : Nat := (n + 7) / 8 * 8 - n
def padded (L : List Nat) : List Nat := L ++ List.replicate (padOf L.length) 0
theorem padded_length (L : List Nat) : (padded L).length = (L.length + 7) / 8 * 8 := by simp [padded, padOf]; omega
theorem padded_01 {L : List Nat} (h : Bits01 L) : Bits01 (padded L) := h.append (fun x hx => by have := (List.mem_replicate.1 hx).2; omega)
theorem pack_padded (L : List Nat) : pack (padded L) = pack L := by
  refine List.ext_getElem? (fun j => ?_)
  have hl := padded_length L
  by_cases hj : j < (L.length + 7) / 8
  · rw [pack_get _ _ (by rw [hl]; omega), pack_get _ _ hj]
    refine congrArg some (bsum_congr (fun i hi => ?_))
    rw [List.getD_eq_getElem?_getD, List.getD_eq_getElem?_getD]
    by_cases hi2 : 8 * j + i < L.length
    · rw [padded, List.getElem?_append_left hi2]
    · rw [padded, List.getElem?_append_right (by omega), List.getElem?_eq_none (l := L) (by omega), List.getElem?_replicate]
      split <;> rfl
  · rw [List.getElem?_eq_none (by rw [pack_length, hl]; omega), List.getElem?_eq_none (by rw [pack_length]; omega)]
end Go.Proofs.YtchjnfckcfikkaaDoor
