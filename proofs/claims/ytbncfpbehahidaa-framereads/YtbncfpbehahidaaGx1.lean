/- Plain mathematics of bits: a text's bits, the number of some of them, and how machine arithmetic comes to it. -/
/- Plain mathematics of packing: bits as bytes, the lowest bit of a byte first. -/
/- What PutFixed and Fixed want of layer 1: bytes as a text, a row of bytes. -/
/- Plain mathematics of numbers as so many bytes. -/
/- PutFixed and Fixed, the program's and the document's. -/
/- Fixed, the program's and the document's. -/
import Derived.Laws.BitsAllLaws
import Derived.IntWalk
import Derived.Test.YtbncfpbehahidaaProg
import Derived.WalkKit
import Derived.WalkLawsBesides
import Derived.WalkSpells
import Derived.Outline
import Derived.LaidEqlPtr
import Derived.BigQuiet
import Derived.Deep.QuietTactic
import Derived.Laws.IdiomStrings
import Derived.Lib.AppendStr
import Derived.Deep.AppendLies
import Derived.Deep.OwnRows
import Derived.ProofKit
namespace Go.Proofs.Ytbncfpbehahidaa.B1
open Go.RowKit

/-- A bit of a text: the lowest one of a byte first. -/
def bitAt (s : ByteArray) (i : Nat) : Nat := (s.data.toList.getD (i / 8) 0).toNat / 2 ^ (i % 8) % 2
/-- The number of n bits from a place on. -/
def num (s : ByteArray) (p : Nat) : Nat → Nat
  | 0 => 0
  | n + 1 => num s p n + bitAt s (p + n) * 2 ^ n
theorem bitAt_lt (s : ByteArray) (i : Nat) : bitAt s i < 2 := Nat.mod_lt _ (by omega)
theorem bitAt_eq (s : ByteArray) (i : Nat) (h : i / 8 < s.size) : bitAt s i = s[i / 8].toNat / 2 ^ (i % 8) % 2 := by
  unfold bitAt
  have : s.data.toList.getD (i / 8) 0 = s[i / 8] := by
    have h' : i / 8 < s.data.size := h
    rw [List.getD_eq_getElem?_getD, Array.getElem?_toList, Array.getElem?_eq_getElem h']; rfl
  rw [this]
theorem num_lt (s : ByteArray) (p n : Nat) : num s p n < 2 ^ n := by
  induction n with
  | zero => simp [num]
  | succ n ih => 
    have h := bitAt_lt s (p + n)
    have : bitAt s (p + n) * 2 ^ n ≤ 1 * 2 ^ n := Nat.mul_le_mul_right _ (by omega)
    simp only [num, Nat.pow_succ]; omega
theorem pow_le (k m : Nat) (h : k ≤ m) : 2 ^ k ≤ 2 ^ m := Nat.pow_le_pow_right (by omega) h
theorem and1_u8 (y m : Nat) (hy : y < 256) : bits .and .u8 ((y : Int) / 2 ^ m) 1 = ((y / 2 ^ m % 2 : Nat) : Int) := by
  have e : (y : Int) / 2 ^ m = ((y / 2 ^ m : Nat) : Int) := by simp
  have hl : y / 2 ^ m ≤ y := Nat.div_le_self _ _
  have h := u8_and_nat (y / 2 ^ m) 1 (by omega) (by omega)
  rw [e, show (1 : Int) = ((1 : Nat) : Int) from rfl, h, nat_mask1]
theorem wrap_u64_nat (a : Nat) (h : a < 18446744073709551616) : IntKind.u64.wrap (a : Int) = (a : Int) := by
  rw [IntKind.wrap_u64]; omega
theorem or_step (x c k : Nat) (hx : x < 2 ^ k) (hc : c < 2) (hk : k ≤ 62) :
    bits .or .u64 (x : Int) (IntKind.u64.wrap (IntKind.u64.wrap (c : Int) * 2 ^ k)) = ((x + c * 2 ^ k : Nat) : Int) := by
  have h62 := pow_le k 62 hk
  have hm : c * 2 ^ k ≤ 1 * 2 ^ k := Nat.mul_le_mul_right _ (by omega)
  have e1 : IntKind.u64.wrap (c : Int) = (c : Int) := wrap_u64_nat c (by omega)
  have e2 : (c : Int) * 2 ^ k = ((c * 2 ^ k : Nat) : Int) := by simp
  rw [e1, e2, wrap_u64_nat _ (by omega), u64_or_nat _ _ (by omega) (by omega), Nat.or_comm, nat_join k (c * 2 ^ k) x (by simp) hx]
  omega
theorem num_step (s : ByteArray) (p k : Nat) (hk : k ≤ 62) (h : (p + k) / 8 < s.size) :
    bits .or .u64 (num s p k : Nat) (IntKind.u64.wrap (IntKind.u64.wrap (bits .and .u8 ((s[(p + k) / 8].toNat : Int) / 2 ^ ((p + k) % 8)) 1) * 2 ^ k)) = ((num s p (k + 1) : Nat) : Int) := by
  have hy : s[(p + k) / 8].toNat < 256 := UInt8.toNat_lt _
  rw [and1_u8 _ _ hy, ← bitAt_eq s (p + k) h, or_step _ _ _ (num_lt s p k) (bitAt_lt _ _) hk]
  rfl
end Go.Proofs.Ytbncfpbehahidaa.B1
namespace Go.Proofs.Ytbncfpbehahidaa.B1
open Go.RowKit

/-- The number whose bits are f 0, f 1, .. -/
def bsum (f : Nat → Nat) : Nat → Nat
  | 0 => 0
  | n + 1 => bsum f n + f n * 2 ^ n
theorem bsum_congr {f g : Nat → Nat} {n : Nat} (h : ∀ i, i < n → f i = g i) : bsum f n = bsum g n := by
  induction n with
  | zero => rfl
  | succ n ih => simp only [bsum]; rw [ih (fun i hi => h i (by omega)), h n (by omega)]
theorem bsum_lt {f : Nat → Nat} {n : Nat} (h : ∀ i, i < n → f i < 2) : bsum f n < 2 ^ n := by
  induction n with
  | zero => simp [bsum]
  | succ n ih =>
    have h1 := h n (by omega)
    have h2 := ih (fun i hi => h i (by omega))
    have : f n * 2 ^ n ≤ 1 * 2 ^ n := Nat.mul_le_mul_right _ (by omega)
    simp only [bsum, Nat.pow_succ]; omega
theorem num_bsum (s : ByteArray) (p n : Nat) : num s p n = bsum (fun i => bitAt s (p + i)) n := by
  induction n with
  | zero => rfl
  | succ n ih => simp only [num, bsum, ih]
/-- f turned at one place. -/
theorem bsum_add {f g : Nat → Nat} {n k c : Nat} (hk : k < n) (h0 : f k = 0) (h1 : g k = c) (h : ∀ i, i < n → i ≠ k → g i = f i) : bsum g n = bsum f n + c * 2 ^ k := by
  induction n with
  | zero => omega
  | succ n ih =>
    simp only [bsum]
    by_cases e : k = n
    · subst e
      rw [bsum_congr (f := g) (g := f) (fun i hi => h i (by omega) (by omega)), h0, h1]; omega
    · rw [ih (by omega) (fun i hi hne => h i (by omega) hne), h n (by omega) (fun e' => e e'.symm)]; omega
/-- The bits of a number of which all from some place on are noughts. -/
theorem bsum_high {f : Nat → Nat} {m n : Nat} (hm : m ≤ n) (h : ∀ i, m ≤ i → i < n → f i = 0) : bsum f n = bsum f m := by
  induction n with
  | zero => rw [show m = 0 by omega]
  | succ n ih =>
    by_cases e : m = n + 1
    · rw [e]
    · simp only [bsum]; rw [ih (by omega) (fun i h1 h2 => h i h1 (by omega)), h n (by omega) (by omega)]; omega

/-- Byte j of a list of bits. -/
def byteOf (L : List Nat) (j : Nat) : Nat := bsum (fun i => L.getD (8 * j + i) 0) 8
/-- Bits as bytes: the last one with noughts behind its bits. -/
def pack (L : List Nat) : List Nat := (List.range ((L.length + 7) / 8)).map (byteOf L)
theorem pack_length (L : List Nat) : (pack L).length = (L.length + 7) / 8 := by simp [pack]
theorem pack_get (L : List Nat) (j : Nat) (h : j < (L.length + 7) / 8) : (pack L)[j]? = some (byteOf L j) := by
  simp [pack, List.getElem?_range h]
def Bits01 (L : List Nat) : Prop := ∀ x ∈ L, x < 2
theorem Bits01.getD {L : List Nat} (h : Bits01 L) (i : Nat) : L.getD i 0 < 2 := by
  rw [List.getD_eq_getElem?_getD]
  cases e : L[i]? with
  | none => simp
  | some x => exact h x (List.mem_of_getElem? e)
theorem Bits01.snoc {L : List Nat} (h : Bits01 L) {c : Nat} (hc : c < 2) : Bits01 (L ++ [c]) := by
  intro x hx; rcases List.mem_append.1 hx with hx | hx
  · exact h x hx
  · simp at hx; omega
theorem byteOf_lt {L : List Nat} (h : Bits01 L) (j : Nat) : byteOf L j < 256 := bsum_lt (n := 8) (fun _ _ => h.getD _)
/-- The byte in which the next bit comes: what is there lies below that bit. -/
theorem byteOf_last {L : List Nat} (h : Bits01 L) : byteOf L (L.length / 8) < 2 ^ (L.length % 8) := by
  unfold byteOf
  rw [bsum_high (m := L.length % 8) (by omega) (fun i h1 h2 => by
    rw [List.getD_eq_getElem?_getD, List.getElem?_eq_none (by omega)]; rfl)]
  exact bsum_lt (fun _ _ => h.getD _)
theorem byteOf_snoc (L : List Nat) (c j : Nat) : byteOf (L ++ [c]) j = if j = L.length / 8 then byteOf L j + c * 2 ^ (L.length % 8) else byteOf L j := by
  unfold byteOf
  split
  · next e =>
    subst e
    refine bsum_add (k := L.length % 8) (by omega) ?_ ?_ ?_
    · rw [List.getD_eq_getElem?_getD, List.getElem?_eq_none (by omega)]; rfl
    · rw [List.getD_eq_getElem?_getD, show 8 * (L.length / 8) + L.length % 8 = L.length by omega]; simp
    · intro i hi hne
      rw [List.getD_eq_getElem?_getD, List.getD_eq_getElem?_getD]
      by_cases hl : 8 * (L.length / 8) + i < L.length
      · rw [List.getElem?_append_left hl]
      · rw [List.getElem?_eq_none (by simp; omega), List.getElem?_eq_none (by omega)]
  · next e =>
    refine bsum_congr (fun i hi => ?_)
    rw [List.getD_eq_getElem?_getD, List.getD_eq_getElem?_getD]
    by_cases hl : 8 * j + i < L.length
    · rw [List.getElem?_append_left hl]
    · rw [List.getElem?_eq_none (by simp; omega), List.getElem?_eq_none (by omega)]
/-- A bit more, within a byte. -/
theorem pack_snoc {L : List Nat} (c : Nat) (h : L.length % 8 ≠ 0) : pack (L ++ [c]) = (pack L).set (L.length / 8) (byteOf L (L.length / 8) + c * 2 ^ (L.length % 8)) := by
  refine List.ext_getElem? (fun j => ?_)
  by_cases hj : j < (L.length + 7) / 8
  · rw [pack_get _ _ (by simp; omega), byteOf_snoc]
    by_cases e : j = L.length / 8
    · subst e
      rw [if_pos rfl, List.getElem?_set_self (by rw [pack_length]; omega)]
    · rw [if_neg e, List.getElem?_set_ne (by omega), pack_get _ _ hj]
  · rw [List.getElem?_eq_none (by rw [pack_length]; simp; omega), List.getElem?_eq_none (by rw [List.length_set, pack_length]; omega)]
/-- A bit more, the first of a byte. -/
theorem pack_snoc0 {L : List Nat} (c : Nat) (h : L.length % 8 = 0) : pack (L ++ [c]) = (pack L ++ [0]).set (L.length / 8) c := by
  have hn : (L.length + 7) / 8 = L.length / 8 := by omega
  refine List.ext_getElem? (fun j => ?_)
  by_cases hj : j < L.length / 8
  · rw [pack_get _ _ (by simp; omega), byteOf_snoc, if_neg (by omega), List.getElem?_set_ne (by omega), List.getElem?_append_left (by rw [pack_length]; omega), pack_get _ _ (by omega)]
  · by_cases e : j = L.length / 8
    · subst e
      rw [pack_get _ _ (by simp; omega), byteOf_snoc, if_pos rfl, List.getElem?_set_self (by simp [pack_length]; omega), h]
      have : byteOf L (L.length / 8) = 0 := by
        unfold byteOf
        rw [bsum_high (m := 0) (by omega) (fun i _ _ => by rw [List.getD_eq_getElem?_getD, List.getElem?_eq_none (by omega)]; rfl)]; rfl
      rw [this]; simp
    · rw [List.getElem?_eq_none (by rw [pack_length]; simp; omega), List.getElem?_eq_none (by rw [List.length_set, List.length_append, pack_length]; simp; omega)]
end Go.Proofs.Ytbncfpbehahidaa.B1
namespace Go.Proofs.Ytbncfpbehahidaa.B1
open Go.RowKit
set_option linter.unusedVariables false

/-- Numbers below 256 as a text. -/
def toBA (l : List Nat) : ByteArray := ⟨(l.map UInt8.ofNat).toArray⟩
def u8cells (l : List Nat) : List Value := l.map fun x => Value.int .u8 (x : Nat)
theorem conv_row {P : Program} (w : World) (src dst e : TypeId) (B : Nat) (v : Value) (l : List Nat) (hs : P.underlying src = some (.slice e)) (he : P.underlying e = some (.int .u8)) (hd : P.underlying dst = some .string)
    (hown : w.ownsRow B e 1 v l.length (u8cells l)) (hl : ∀ x ∈ l, x < 256) : (convert src dst v).run P w = .ok (.string (toBA l)) w := by
  rcases hown.2 with ⟨rfl, h0⟩ | ⟨g, cap, cur, rfl, hB, hh, hnc, hcm, hcs, htk⟩
  · have : l = [] := List.length_eq_zero_iff.1 h0
    subst this
    rw [run_convert_bytes_string w src dst e none 0 0 hs he hd]
    simp [Conv.bytesToString]
    rfl
  · have hlen : (l.map UInt8.ofNat).length = l.length := by simp
    have := run_convert_bytes_back (P := P) w src dst e ⟨g, 0, none⟩ cap (l.map UInt8.ofNat) hs he hd (fun j hj => by
      have hj' : j < l.length := by simpa using hj
      have hx := hl l[j] (List.getElem_mem hj')
      refine hown.cells (g := g) rfl j _ ?_
      simp [u8cells, List.getElem?_eq_getElem hj']
      omega)
    rw [hlen] at this
    exact this
theorem Try.infoU8 : (Try.prog.info? 5).map (fun i => (i.zero, i.size, i.bytes)) = some (some (.int .u8 0), 1, 1) := by kernel_rfl
theorem u8c_snoc (l : List Nat) (x : Nat) : u8cells l ++ [Value.int .u8 (x : Nat)] = u8cells (l ++ [x]) := by simp [u8cells]
end Go.Proofs.Ytbncfpbehahidaa.B1
namespace Go.Proofs.Ytbncfpbehahidaa.B1
open Go.RowKit
set_option linter.unusedVariables false

theorem i64_and_nat (a b : Nat) (ha : a < 9223372036854775808) (hb : b < 9223372036854775808) : bits .and .i64 (a : Int) (b : Int) = ((a &&& b : Nat) : Int) := by
  have hx : a &&& b < 2 ^ 63 := Nat.and_lt_two_pow _ (by omega)
  show IntKind.i64.wrap ((BitVec.ofInt 64 (a : Int) &&& BitVec.ofInt 64 (b : Int)).toNat : Int) = _
  rw [BitVec.toNat_and, ofInt_u64 a (by omega), ofInt_u64 b (by omega), IntKind.wrap_i64]
  omega
/-- A number as so many bytes, the lowest first. -/
def fixB (n k : Nat) : List Nat := (List.range k).map fun i => n / 2 ^ (8 * i) % 256
theorem fixB_length (n k : Nat) : (fixB n k).length = k := by simp [fixB]
theorem fixB_lt (n k : Nat) : ∀ x ∈ fixB n k, x < 256 := by
  intro x hx
  simp only [fixB, List.mem_map] at hx
  obtain ⟨i, _, rfl⟩ := hx
  omega
theorem fixB_succ (n k : Nat) : fixB n (k + 1) = fixB n k ++ [n / 2 ^ (8 * k) % 256] := by simp [fixB, List.range_succ]
/-- The number of the first bytes of a text. -/
def fixN (s : ByteArray) : Nat → Nat
  | 0 => 0
  | i + 1 => fixN s i + (s.data.toList.getD i 0).toNat * 2 ^ (8 * i)
theorem byte_lt (s : ByteArray) (i : Nat) : (s.data.toList.getD i 0).toNat < 256 := UInt8.toNat_lt _
theorem byte_eq (s : ByteArray) (i : Nat) (h : i < s.size) : s[i].toNat = (s.data.toList.getD i 0).toNat := by
  have : s.data.toList.getD i 0 = s[i] := by
    have h' : i < s.data.size := h
    rw [List.getD_eq_getElem?_getD, Array.getElem?_toList, Array.getElem?_eq_getElem h']; rfl
  rw [this]
theorem fixN_lt (s : ByteArray) (k : Nat) : fixN s k < 2 ^ (8 * k) := by
  induction k with
  | zero => simp [fixN]
  | succ k ih =>
    have hb := byte_lt s k
    have hm : (s.data.toList.getD k 0).toNat * 2 ^ (8 * k) ≤ 255 * 2 ^ (8 * k) := Nat.mul_le_mul_right _ (by omega)
    have e : 2 ^ (8 * (k + 1)) = 256 * 2 ^ (8 * k) := by rw [show 8 * (k + 1) = 8 * k + 8 by omega, Nat.pow_add]; omega
    simp only [fixN]; omega
theorem or_byte (x y k : Nat) (hx : x < 2 ^ (8 * k)) (hy : y < 256) (hk : k ≤ 7) :
    bits .or .u64 (x : Int) (IntKind.u64.wrap ((y : Int) * 2 ^ (8 * k))) = ((x + y * 2 ^ (8 * k) : Nat) : Int) := by
  have h56 := pow_le (8 * k) 56 (by omega)
  have hm : y * 2 ^ (8 * k) ≤ 255 * 2 ^ (8 * k) := Nat.mul_le_mul_right _ (by omega)
  have e2 : (y : Int) * 2 ^ (8 * k) = ((y * 2 ^ (8 * k) : Nat) : Int) := by simp
  rw [e2, wrap_u64_nat _ (by omega), u64_or_nat _ _ (by omega) (by omega), Nat.or_comm, nat_join (8 * k) (y * 2 ^ (8 * k)) x (by simp) hx]
  omega
theorem fixN_top (s : ByteArray) : 2 ^ 63 ≤ fixN s 8 ↔ 127 < (s.data.toList.getD 7 0).toNat := by
  have h := fixN_lt s 7
  have e : fixN s 8 = fixN s 7 + (s.data.toList.getD 7 0).toNat * 2 ^ (8 * 7) := rfl
  rw [e]
  omega
theorem fixN_le (s : ByteArray) (i k : Nat) (h : i ≤ k) : fixN s i ≤ fixN s k := by
  induction k with
  | zero => rw [show i = 0 by omega]; exact Nat.le_refl _
  | succ k ih =>
    by_cases e : i = k + 1
    · rw [e]; exact Nat.le_refl _
    · exact Nat.le_trans (ih (by omega)) (by simp only [fixN]; omega)
/-- Its bytes, then whatever: the number. -/
theorem fixN_fixB (n k : Nat) (s : ByteArray) (h : n < 2 ^ (8 * k)) : fixN (toBA (fixB n k) ++ s) k = n := by
  have hg : ∀ i, i < k → ((toBA (fixB n k) ++ s).data.toList.getD i 0).toNat = n / 2 ^ (8 * i) % 256 := by
    intro i hi
    have hl : (fixB n k).length = k := fixB_length n k
    rw [List.getD_eq_getElem?_getD]
    have e : (toBA (fixB n k) ++ s).data.toList = (fixB n k).map UInt8.ofNat ++ s.data.toList := by
      rw [ByteArray.data_append, Array.toList_append]; rfl
    rw [e, List.getElem?_append_left (by simp [hl]; exact hi)]
    simp [fixB, hi]
  have hm : ∀ j, j ≤ k → fixN (toBA (fixB n k) ++ s) j = n % 2 ^ (8 * j) := by
    intro j hj
    induction j with
    | zero => simp [fixN, Nat.mod_one]
    | succ j ih =>
      simp only [fixN]
      rw [ih (by omega), hg j (by omega), show 8 * (j + 1) = 8 * j + 8 by omega, Nat.pow_add, Nat.mod_mul, Nat.mul_comm (2 ^ (8 * j))]
  rw [hm k (Nat.le_refl _), Nat.mod_eq_of_lt h]
theorem rep_set (l : List Nat) (m x : Nat) : (l ++ List.replicate (m + 1) 0).set l.length x = (l ++ [x]) ++ List.replicate m 0 := by
  rw [List.set_append_right _ _ (Nat.le_refl _), Nat.sub_self, List.replicate_succ, List.set_cons_zero, List.append_assoc]; rfl
theorem fix_store (n i k : Nat) (h : i < k) : (u8cells (fixB n i ++ List.replicate (k - i) 0)).set i (.int .u8 (n / 2 ^ (8 * i) % 256 : Nat)) = u8cells (fixB n (i + 1) ++ List.replicate (k - (i + 1)) 0) := by
  unfold u8cells
  rw [← List.map_set, show k - i = (k - (i + 1)) + 1 by omega]
  congr 1
  have := rep_set (fixB n i) (k - (i + 1)) (n / 2 ^ (8 * i) % 256)
  rw [fixB_length] at this
  rw [this, fixB_succ]
theorem made_u8 (n k : Nat) : (madeCells #[Value.int .u8 0] k).toList = u8cells (fixB n 0 ++ List.replicate (k - 0) 0) := by
  rw [toList_madeCells_one (.int .u8 0) k]
  simp [u8cells, fixB]
end Go.Proofs.Ytbncfpbehahidaa.B1
namespace Go.Proofs.Ytbncfpbehahidaa.B1
open Go.RowKit
set_option linter.unusedVariables false
set_option maxRecDepth 20000

set_option maxHeartbeats 400000 in
theorem putFixed_bytes (n k : Int) (w : World) (h : k < 1 ∨ 8 < k) :
    Calls Try.prog 46 #[.int .i64 n, .int .i64 k] w fun e w' => e = .returned (.tuple #[.string ⟨#[]⟩, .int .i64 1]) ∧ w' = w := by
  rcases h with h | h
  · go_enter Try.func46, Try.ntmps46
    go_wp2
    go_ret2
    exact ⟨rfl, rfl⟩
  · have h1 : ¬ k < 1 := by omega
    go_enter Try.func46, Try.ntmps46
    go_wp2
    go_ret2
    exact ⟨rfl, rfl⟩
theorem putFixed_neg (n k : Int) (w : World) (h1 : 1 ≤ k) (h2 : k ≤ 8) (h : n < 0) :
    Calls Try.prog 46 #[.int .i64 n, .int .i64 k] w fun e w' => e = .returned (.tuple #[.string ⟨#[]⟩, .int .i64 1]) ∧ w' = w := by
  go_enter Try.func46, Try.ntmps46
  go_wp2
  go_ret2
  exact ⟨rfl, rfl⟩
theorem putFixed_big (n k : Nat) (w : World) (h1 : 1 ≤ k) (h2 : k ≤ 8) (h : ((n : Int) / 2 ^ (8 * k) != 0) = true) :
    Calls Try.prog 46 #[.int .i64 n, .int .i64 k] w fun e w' => e = .returned (.tuple #[.string ⟨#[]⟩, .int .i64 1]) ∧ w' = w := by
  go_enter Try.func46, Try.ntmps46
  go_wp2
  go_ret2
  exact ⟨rfl, rfl⟩
set_option maxHeartbeats 400000 in
theorem putFixed (n k : Nat) (w : World) (h1 : 1 ≤ k) (h2 : k ≤ 8) (hn : n ≤ 9223372036854775807) (h : ((n : Int) / 2 ^ (8 * k) != 0) = false) :
    Calls Try.prog 46 #[.int .i64 n, .int .i64 k] w fun e w' => e = .returned (.tuple #[.string (toBA (fixB n k)), .int .i64 0]) ∧ Below w.heap.size w w' := by
  obtain ⟨i0, hi, hz0, hz1, hz2⟩ := info_parts Try.infoU8
  go_enter Try.func46, Try.ntmps46
  go_wp2_with (at_make; refine wpList_make_full _ rfl _ _ 30 rfl w.heap.size 5 i0 (.int .u8 0) 1 Try.underlying30 hi hz0 hz1 .i64 .i64 _ _ k rfl rfl rfl rfl ?c1 ?c2 (Nat.le_refl _) ?_)
  case c1 => rw [hz2]; omega
  case c2 => unfold maxLen; omega
  intro w1 hown hgrow
  rw [made_u8 n] at hown
  have hst : Hid (w1.ownsRow w.heap.size 5 1 (.slice (some ⟨w.heap.size, 0, none⟩) k k) k (u8cells (fixB n 0 ++ List.replicate (k - 0) 0)) ∧ Below w.heap.size w w1) :=
    ⟨hown, (Below.refl _ _).grown hgrow (Nat.le_refl _) (fun k hk => by cases hk)⟩
  clear hown hgrow
  go_wp2
  go_loopw [28] (fun i wr => ∃ j : Nat, j ≤ k ∧ i = .int .i64 j ∧ wr.ownsRow w.heap.size 5 1 (.slice (some ⟨w.heap.size, 0, none⟩) k k) k (u8cells (fixB n j ++ List.replicate (k - j) 0)) ∧ Below w.heap.size w wr) (fun i _ => k - (intOf i).toNat)
  case atStart => exact ⟨0, Nat.zero_le _, rfl, hst.out.1, hst.out.2⟩
  case round =>
    obtain ⟨j, hj, rfl, hown, hbel⟩ := hrel
    by_cases hlt : j < k
    · have hfz := hown.frozenAt j
      have hc : wr.cell? ⟨w.heap.size, j, none⟩ = some (.int .u8 0) := by
        rw [hown.cellAt j (by omega)]
        unfold u8cells
        rw [List.map_append, List.getElem?_append_right (by simp [fixB_length])]
        simp [fixB_length, List.getElem?_replicate]; omega
      have HS : Hid _ := (⟨(hown.stored j (.int .u8 (n / 2 ^ (8 * j) % 256 : Nat))).1, hbel.setCell (Nat.le_refl _) (p := ⟨w.heap.size, j, none⟩) (.int .u8 (n / 2 ^ (8 * j) % 256 : Nat))⟩ : _ ∧ _)
      clear hown hbel
      go_wp2
      go_roundw
      case rel =>
        have e : ((n / 2 ^ (8 * j) % 256 : Nat) : Int) = (n : Int) / 2 ^ (8 * j) % 256 := by simp
        have hS := HS.out
        rw [fix_store n j k hlt, e] at hS
        exact ⟨j + 1, by omega, by go_num, hS.1, hS.2⟩
      case measure => simp [intOf]; omega
    · obtain rfl : j = k := by omega
      have hcv : (convert 30 9 (.slice (some ⟨w.heap.size, 0, none⟩) j j)).run Try.prog wr = .ok (.string (toBA (fixB n j))) wr := by
        refine conv_row wr _ _ 5 w.heap.size _ (fixB n j) Try.underlying30 Try.underlying5 Try.underlying9 ?_ (fixB_lt n j)
        rw [fixB_length]; simpa using hown
      have HB : Hid (Below w.heap.size w wr) := hbel
      clear hown hbel
      go_wp2
      go_ret2
      exact ⟨rfl, HB.out⟩
theorem and255 (n j : Nat) (hn : n < 9223372036854775808) : bits .and .i64 ((n : Int) / 2 ^ (8 * j)) 255 % 256 = ((n / 2 ^ (8 * j) % 256 : Nat) : Int) := by
  have e : (n : Int) / 2 ^ (8 * j) = ((n / 2 ^ (8 * j) : Nat) : Int) := by simp
  have hl : n / 2 ^ (8 * j) ≤ n := Nat.div_le_self _ _
  have h := i64_and_nat (n / 2 ^ (8 * j)) 255 (by omega) (by omega)
  rw [e, show (255 : Int) = ((255 : Nat) : Int) from rfl, h, nat_mask8]
  generalize n / 2 ^ (8 * j) = y
  omega
end Go.Proofs.Ytbncfpbehahidaa.B1
namespace Go.Proofs.Ytbncfpbehahidaa.B1
open Go.RowKit
set_option linter.unusedVariables false
set_option maxRecDepth 20000

theorem fixed_arg (s : ByteArray) (k : Int) (w : World) (h : k < 1 ∨ 8 < k) :
    Calls Try.prog 48 #[.string s, .int .i64 k] w fun e w' => e = .returned (.tuple #[.int .i64 0, .int .i64 1]) ∧ w' = w := by
  rcases h with h | h
  · go_enter Try.func48, Try.ntmps48
    go_wp2
    go_ret2
    exact ⟨rfl, rfl⟩
  · have h1 : ¬ k < 1 := by omega
    go_enter Try.func48, Try.ntmps48
    go_wp2
    go_ret2
    exact ⟨rfl, rfl⟩
theorem fixed_short (s : ByteArray) (k : Nat) (w : World) (h1 : 1 ≤ k) (h2 : k ≤ 8) (h : s.size < k) :
    Calls Try.prog 48 #[.string s, .int .i64 k] w fun e w' => e = .returned (.tuple #[.int .i64 0, .int .i64 5]) ∧ w' = w := by
  go_enter Try.func48, Try.ntmps48
  go_wp2
  go_ret2
  exact ⟨rfl, rfl⟩
theorem refFixed_arg (s : ByteArray) (k : Int) (w : World) (h : k < 1 ∨ 8 < k) :
    Calls Try.prog 13 #[.string s, .int .i64 k] w fun e w' => e = .returned (.tuple #[.int .i64 0, .int .i64 1]) ∧ w' = w := by
  rcases h with h | h
  · go_enter Try.func13, Try.ntmps13
    go_wp2
    go_ret2
    exact ⟨rfl, rfl⟩
  · have h1 : ¬ k < 1 := by omega
    go_enter Try.func13, Try.ntmps13
    go_wp2
    go_ret2
    exact ⟨rfl, rfl⟩
theorem refFixed_short (s : ByteArray) (k : Nat) (w : World) (h1 : 1 ≤ k) (h2 : k ≤ 8) (h : s.size < k) :
    Calls Try.prog 13 #[.string s, .int .i64 k] w fun e w' => e = .returned (.tuple #[.int .i64 0, .int .i64 5]) ∧ w' = w := by
  go_enter Try.func13, Try.ntmps13
  go_wp2
  go_ret2
  exact ⟨rfl, rfl⟩
theorem big_no (x : Nat) (h : x ≤ 9223372036854775807) : decide ((9223372036854775808 : Int) ≤ (x : Int)) = false := by
  rw [decide_eq_false_iff_not]; omega
theorem big_yes (x : Nat) (h : 9223372036854775807 < x) : decide ((9223372036854775808 : Int) ≤ (x : Int)) = true := by
  rw [decide_eq_true_iff]; omega
set_option maxHeartbeats 400000 in
theorem fixed (s : ByteArray) (k : Nat) (w : World) (h1 : 1 ≤ k) (h2 : k ≤ 8) (hs : k ≤ s.size) (hb : fixN s k ≤ 9223372036854775807) :
    Calls Try.prog 48 #[.string s, .int .i64 k] w fun e w' => e = .returned (.tuple #[.int .i64 (fixN s k : Nat), .int .i64 0]) ∧ w' = w := by
  have HB : Hid (fixN s k ≤ 9223372036854775807) := hb
  clear hb
  go_enter Try.func48, Try.ntmps48
  go_wp2
  go_loop [6, 19] (fun x i => ∃ j : Nat, j ≤ k ∧ i = .int .i64 j ∧ x = .int .u64 (fixN s j : Nat)) (fun _ i => k - (intOf i).toNat)
  case atStart => exact ⟨0, Nat.zero_le _, rfl, rfl⟩
  case round =>
    obtain ⟨j, hj, rfl, rfl⟩ := hrel
    by_cases hlt : j < k
    · have hix : j < s.size := by omega
      go_wp2
      go_round
      case rel =>
        refine ⟨j + 1, by omega, by go_num, congrArg (Value.int .u64) ?_⟩
        rw [wrap_u64_nat _ (by have := UInt8.toNat_lt s[j]; omega), byte_eq s j hix, or_byte _ _ _ (fixN_lt s j) (byte_lt s j) (by omega)]
        rfl
      case measure => simp [intOf]; omega
    · obtain rfl : j = k := by omega
      iterate 28 go_step
      simp only [big_no _ HB.out]
      go_wp2
      exact bodyPost_ret (v := .tuple #[.int .i64 (fixN s j : Nat), .int .i64 0]) (by simp [results, Try.results48, go_sem]; exact IntWalk.wrap64_in _ ⟨by omega, by have := HB.out; omega⟩) rfl ⟨rfl, rfl⟩
set_option maxHeartbeats 400000 in
theorem fixed_big (s : ByteArray) (k : Nat) (w : World) (h1 : 1 ≤ k) (h2 : k ≤ 8) (hs : k ≤ s.size) (hb : 9223372036854775807 < fixN s k) :
    Calls Try.prog 48 #[.string s, .int .i64 k] w fun e w' => e = .returned (.tuple #[.int .i64 0, .int .i64 10]) ∧ w' = w := by
  have HB : Hid (9223372036854775807 < fixN s k) := hb
  clear hb
  go_enter Try.func48, Try.ntmps48
  go_wp2
  go_loop [6, 19] (fun x i => ∃ j : Nat, j ≤ k ∧ i = .int .i64 j ∧ x = .int .u64 (fixN s j : Nat)) (fun _ i => k - (intOf i).toNat)
  case atStart => exact ⟨0, Nat.zero_le _, rfl, rfl⟩
  case round =>
    obtain ⟨j, hj, rfl, rfl⟩ := hrel
    by_cases hlt : j < k
    · have hix : j < s.size := by omega
      go_wp2
      go_round
      case rel =>
        refine ⟨j + 1, by omega, by go_num, congrArg (Value.int .u64) ?_⟩
        rw [wrap_u64_nat _ (by have := UInt8.toNat_lt s[j]; omega), byte_eq s j hix, or_byte _ _ _ (fixN_lt s j) (byte_lt s j) (by omega)]
        rfl
      case measure => simp [intOf]; omega
    · obtain rfl : j = k := by omega
      iterate 28 go_step
      simp only [big_yes _ HB.out]
      go_wp2
      exact bodyPost_ret (v := .tuple #[.int .i64 0, .int .i64 10]) (by simp [results, Try.results48, go_sem]) rfl ⟨rfl, rfl⟩
theorem add_byte (x y k : Nat) (hx : x < 2 ^ (8 * k)) (hk : k ≤ 7) (hb : x + y * 2 ^ (8 * k) < 9223372036854775808) :
    wrap64 ((x : Int) + wrap64 ((y : Int) * 2 ^ (8 * k))) = ((x + y * 2 ^ (8 * k) : Nat) : Int) := by
  have e2 : (y : Int) * 2 ^ (8 * k) = ((y * 2 ^ (8 * k) : Nat) : Int) := by simp
  obtain ⟨z, hz⟩ : ∃ z, z = y * 2 ^ (8 * k) := ⟨_, rfl⟩
  rw [e2, ← hz]
  rw [← hz] at hb
  rw [IntWalk.wrap64_in (z : Int) ⟨by omega, by omega⟩, IntWalk.wrap64_in _ ⟨by omega, by omega⟩]
  omega
set_option maxHeartbeats 400000 in
theorem refFixed_big (s : ByteArray) (w : World) (hs : 8 ≤ s.size) (hb : 127 < (s[7].toNat : Int)) :
    Calls Try.prog 13 #[.string s, .int .i64 8] w fun e w' => e = .returned (.tuple #[.int .i64 0, .int .i64 10]) ∧ w' = w := by
  have h7 : 7 < s.size := by omega
  go_enter Try.func13, Try.ntmps13
  go_wp2
  go_ret2
  exact ⟨rfl, rfl⟩
set_option maxHeartbeats 400000 in
theorem refFixed (s : ByteArray) (k : Nat) (w : World) (h1 : 1 ≤ k) (h2 : k ≤ 8) (hs : k ≤ s.size) (hb : fixN s k ≤ 9223372036854775807) (h7 : k = 8 → ∀ h : 7 < s.size, (s[7].toNat : Int) ≤ 127) :
    Calls Try.prog 13 #[.string s, .int .i64 k] w fun e w' => e = .returned (.tuple #[.int .i64 (fixN s k : Nat), .int .i64 0]) ∧ w' = w := by
  have HB : Hid (fixN s k ≤ 9223372036854775807) := hb
  clear hb
  by_cases e8 : k = 8
  · have h7' := h7 e8
    clear h7
    subst e8
    have hl : 7 < s.size := by omega
    have h8 := h7' hl
    clear h7'
    go_enter Try.func13, Try.ntmps13
    go_wp2
    go_loop [6, 7] (fun x i => ∃ j : Nat, j ≤ 8 ∧ i = .int .i64 j ∧ x = .int .i64 (fixN s j : Nat)) (fun _ i => 8 - (intOf i).toNat)
    case atStart => exact ⟨0, Nat.zero_le _, rfl, rfl⟩
    case round =>
      obtain ⟨j, hj, rfl, rfl⟩ := hrel
      by_cases hlt : j < 8
      · have hix : j < s.size := by omega
        go_wp2
        go_round
        case rel =>
          refine ⟨j + 1, by omega, by go_num, congrArg (Value.int .i64) ?_⟩
          have hle := fixN_le s (j + 1) 8 (by omega)
          have hB := HB.out
          have hbl := byte_lt s j
          rw [byte_eq s j hix, IntWalk.wrap64_in ((s.data.toList.getD j 0).toNat : Int) ⟨by omega, by omega⟩, add_byte _ _ _ (fixN_lt s j) (by omega) (by rw [show fixN s (j + 1) = fixN s j + (s.data.toList.getD j 0).toNat * 2 ^ (8 * j) from rfl] at hle; omega)]
          rfl
        case measure => simp [intOf]; omega
      · obtain rfl : j = 8 := by omega
        go_wp2
        go_ret2
        exact ⟨rfl, rfl⟩
  · have hd8 : ((k : Int) == 8) = false := by simp; omega
    clear h7
    go_enter Try.func13, Try.ntmps13
    go_wp2
    go_loop [6, 7] (fun x i => ∃ j : Nat, j ≤ k ∧ i = .int .i64 j ∧ x = .int .i64 (fixN s j : Nat)) (fun _ i => k - (intOf i).toNat)
    case atStart => exact ⟨0, Nat.zero_le _, rfl, rfl⟩
    case round =>
      obtain ⟨j, hj, rfl, rfl⟩ := hrel
      by_cases hlt : j < k
      · have hix : j < s.size := by omega
        go_wp2
        go_round
        case rel =>
          refine ⟨j + 1, by omega, by go_num, congrArg (Value.int .i64) ?_⟩
          have hle := fixN_le s (j + 1) k (by omega)
          have hB := HB.out
          have hbl := byte_lt s j
          rw [byte_eq s j hix, IntWalk.wrap64_in ((s.data.toList.getD j 0).toNat : Int) ⟨by omega, by omega⟩, add_byte _ _ _ (fixN_lt s j) (by omega) (by rw [show fixN s (j + 1) = fixN s j + (s.data.toList.getD j 0).toNat * 2 ^ (8 * j) from rfl] at hle; omega)]
          rfl
        case measure => simp [intOf]; omega
      · obtain rfl : j = k := by omega
        go_wp2
        go_ret2
        exact ⟨rfl, rfl⟩
end Go.Proofs.Ytbncfpbehahidaa.B1
