/- Plain mathematics of canonical words: they fit, and no word begins another one. -/
/- Plain mathematics of bits: a text's bits, the number of some of them, and how machine arithmetic comes to it. -/
/- Plain mathematics of packing: bits as bytes, the lowest bit of a byte first. -/
import Derived.Laws.BitsAllLaws
import Derived.IntWalk
namespace Go.Proofs.YtlbadjfcffoakaaDoor
open Go.RowKit
set_option linter.unusedVariables false
set_option maxRecDepth 20000

def lcnt (lens : List Nat) (l : Nat) : Nat → Nat
  | 0 => 0
  | n + 1 => lcnt lens l n + (if lens.getD n 0 = l then 1 else 0)
theorem lcnt_mono (lens : List Nat) (l n m : Nat) (h : n ≤ m) : lcnt lens l n ≤ lcnt lens l m := by
  induction m with
  | zero => rw [show n = 0 by omega]; exact Nat.le_refl _
  | succ m ih =>
    by_cases e : n = m + 1
    · rw [e]; exact Nat.le_refl _
    · simp only [lcnt]
      have := ih (by omega)
      omega
theorem lcnt_lt (lens : List Nat) (l i n : Nat) (hi : i < n) (h : lens.getD i 0 = l) : lcnt lens l i < lcnt lens l n := by
  have h1 : lcnt lens l (i + 1) = lcnt lens l i + 1 := by simp only [lcnt]; rw [if_pos h]
  have h2 := lcnt_mono lens l (i + 1) n (by omega)
  omega
def fstW (lens : List Nat) : Nat → Nat
  | 0 => 0
  | 1 => 0
  | l + 2 => 2 * (fstW lens (l + 1) + lcnt lens (l + 1) lens.length)
def endW (lens : List Nat) (l : Nat) : Nat := fstW lens l + lcnt lens l lens.length
theorem fstW_succ (lens : List Nat) (l : Nat) (h : 1 ≤ l) : fstW lens (l + 1) = 2 * endW lens l := by
  obtain ⟨k, rfl⟩ : ∃ k, l = k + 1 := ⟨l - 1, by omega⟩
  rfl
def codeW (lens : List Nat) (i : Nat) : Nat := fstW lens (lens.getD i 0) + lcnt lens (lens.getD i 0) i
def shareTo (lens : List Nat) : Nat → Nat
  | 0 => 0
  | l + 1 => shareTo lens l + lcnt lens (l + 1) lens.length * 2 ^ (15 - (l + 1))
theorem endW_share (lens : List Nat) (l : Nat) (h : l + 1 ≤ 15) : endW lens (l + 1) * 2 ^ (15 - (l + 1)) = shareTo lens (l + 1) := by
  induction l with
  | zero => simp [endW, fstW, shareTo]
  | succ l ih =>
    have e := ih (by omega)
    simp only [shareTo] at e ⊢
    rw [← e]
    show (fstW lens (l + 1 + 1) + lcnt lens (l + 1 + 1) lens.length) * _ = _
    rw [fstW_succ lens (l + 1) (by omega), Nat.add_mul]
    congr 1
    rw [show 15 - (l + 1) = (15 - (l + 1 + 1)) + 1 by omega, Nat.pow_succ, Nat.mul_comm 2, Nat.mul_assoc, Nat.mul_comm 2]
theorem shareTo_mono (lens : List Nat) (l m : Nat) (h : l ≤ m) : shareTo lens l ≤ shareTo lens m := by
  induction m with
  | zero => rw [show l = 0 by omega]; exact Nat.le_refl _
  | succ m ih =>
    by_cases e : l = m + 1
    · rw [e]; exact Nat.le_refl _
    · simp only [shareTo]
      have := ih (by omega)
      omega
theorem endW_le (lens : List Nat) (l : Nat) (h1 : 1 ≤ l) (h2 : l ≤ 15) (hs : shareTo lens 15 ≤ 2 ^ 15) : endW lens l ≤ 2 ^ l := by
  obtain ⟨k, rfl⟩ : ∃ k, l = k + 1 := ⟨l - 1, by omega⟩
  have e := endW_share lens k h2
  have m := shareTo_mono lens (k + 1) 15 h2
  have hp : 2 ^ 15 = 2 ^ (k + 1) * 2 ^ (15 - (k + 1)) := by rw [← Nat.pow_add]; congr 1; omega
  have hpos : 0 < 2 ^ (15 - (k + 1)) := Nat.pos_of_ne_zero (by simp)
  refine Nat.le_of_mul_le_mul_right ?_ hpos
  rw [e, ← hp]
  omega
theorem fstW_above (lens : List Nat) (l d : Nat) (h1 : 1 ≤ l) : endW lens l * 2 ^ (d + 1) ≤ fstW lens (l + d + 1) := by
  induction d with
  | zero => rw [Nat.add_zero, fstW_succ lens l h1]; omega
  | succ d ih =>
    rw [show l + (d + 1) + 1 = (l + d + 1) + 1 by omega, fstW_succ lens (l + d + 1) (by omega), Nat.pow_succ, ← Nat.mul_assoc, Nat.mul_comm _ 2]
    have : fstW lens (l + d + 1) ≤ endW lens (l + d + 1) := Nat.le_add_right _ _
    omega
theorem codeW_end (lens : List Nat) (i : Nat) (hi : i < lens.length) : codeW lens i < endW lens (lens.getD i 0) := by
  have := lcnt_lt lens _ i lens.length hi rfl
  unfold codeW endW
  omega
theorem codeW_fits (lens : List Nat) (i : Nat) (hi : i < lens.length) (h1 : 1 ≤ lens.getD i 0) (h2 : lens.getD i 0 ≤ 15) (hs : shareTo lens 15 ≤ 2 ^ 15) : codeW lens i < 2 ^ lens.getD i 0 :=
  Nat.lt_of_lt_of_le (codeW_end lens i hi) (endW_le lens _ h1 h2 hs)
theorem codeW_apart (lens : List Nat) (i k : Nat) (hi : i < lens.length) (hk : k < lens.length) (hne : i ≠ k) (h1 : 1 ≤ lens.getD i 0) (hle : lens.getD i 0 ≤ lens.getD k 0) :
    codeW lens k / 2 ^ (lens.getD k 0 - lens.getD i 0) ≠ codeW lens i := by
  by_cases he : lens.getD k 0 = lens.getD i 0
  · rw [he, Nat.sub_self, Nat.pow_zero, Nat.div_one]
    unfold codeW
    rw [he]
    intro e
    have e2 : lcnt lens (lens.getD i 0) k = lcnt lens (lens.getD i 0) i := by omega
    rcases Nat.lt_or_gt_of_ne hne with h | h
    · have := lcnt_lt lens (lens.getD i 0) i k h rfl
      omega
    · have := lcnt_lt lens (lens.getD i 0) k i h he
      omega
  · obtain ⟨d, hd⟩ : ∃ d, lens.getD k 0 = lens.getD i 0 + d + 1 := ⟨lens.getD k 0 - lens.getD i 0 - 1, by omega⟩
    have ha := fstW_above lens (lens.getD i 0) d h1
    have hc : fstW lens (lens.getD k 0) ≤ codeW lens k := Nat.le_add_right _ _
    rw [hd] at hc
    have hlt := codeW_end lens i hi
    have hge : endW lens (lens.getD i 0) ≤ codeW lens k / 2 ^ (lens.getD k 0 - lens.getD i 0) := by
      rw [Nat.le_div_iff_mul_le (Nat.pos_of_ne_zero (by simp)), hd, show lens.getD i 0 + d + 1 - lens.getD i 0 = d + 1 by omega]
      omega
    omega
end Go.Proofs.YtlbadjfcffoakaaDoor
namespace Go.Proofs.YtlbadjfcffoakaaDoor
open Go.RowKit

def bitAt (s : ByteArray) (i : Nat) : Nat := (s.data.toList.getD (i / 8) 0).toNat / 2 ^ (i % 8) % 2
def num (s : ByteArray) (p : Nat) : Nat → Nat
  | 0 => 0
  | n + 1 => num s p n + bitAt s (p + n) * 2 ^ n
theorem bitAt_lt (s : ByteArray) (i : Nat) : bitAt s i < 2 := Nat.mod_lt _ (by omega)
theorem bitAt_eq (s : ByteArray) (i : Nat) (h : i / 8 < s.size) : bitAt s i = s[i / 8].toNat / 2 ^ (i % 8) % 2 := by
  unfold bitAt
  have : s.data.toList.getD (i / 8) 0 = s[i / 8] := by
    have h' : i / 8 < s.data.size := h
    rw [List.getD_eq_getElem?_getD, Array.getElem?_toList, Array.getElem?_eq_getElem h']; rfl
  rw [this]
theorem num_lt (s : ByteArray) (p n : Nat) : num s p n < 2 ^ n := by
  induction n with
  | zero => simp [num]
  | succ n ih => 
    have h := bitAt_lt s (p + n)
    have : bitAt s (p + n) * 2 ^ n ≤ 1 * 2 ^ n := Nat.mul_le_mul_right _ (by omega)
    simp only [num, Nat.pow_succ]; omega
theorem pow_le (k m : Nat) (h : k ≤ m) : 2 ^ k ≤ 2 ^ m := Nat.pow_le_pow_right (by omega) h
theorem and1_u8 (y m : Nat) (hy : y < 256) : bits .and .u8 ((y : Int) / 2 ^ m) 1 = ((y / 2 ^ m % 2 : Nat) : Int) := by
  have e : (y : Int) / 2 ^ m = ((y / 2 ^ m : Nat) : Int) := by simp
  have hl : y / 2 ^ m ≤ y := Nat.div_le_self _ _
  have h := u8_and_nat (y / 2 ^ m) 1 (by omega) (by omega)
  rw [e, show (1 : Int) = ((1 : Nat) : Int) from rfl, h, nat_mask1]
theorem wrap_u64_nat (a : Nat) (h : a < 18446744073709551616) : IntKind.u64.wrap (a : Int) = (a : Int) := by
  rw [IntKind.wrap_u64]; omega
theorem or_step (x c k : Nat) (hx : x < 2 ^ k) (hc : c < 2) (hk : k ≤ 62) :
    bits .or .u64 (x : Int) (IntKind.u64.wrap (IntKind.u64.wrap (c : Int) * 2 ^ k)) = ((x + c * 2 ^ k : Nat) : Int) := by
  have h62 := pow_le k 62 hk
  have hm : c * 2 ^ k ≤ 1 * 2 ^ k := Nat.mul_le_mul_right _ (by omega)
  have e1 : IntKind.u64.wrap (c : Int) = (c : Int) := wrap_u64_nat c (by omega)
  have e2 : (c : Int) * 2 ^ k = ((c * 2 ^ k : Nat) : Int) := by simp
  rw [e1, e2, wrap_u64_nat _ (by omega), u64_or_nat _ _ (by omega) (by omega), Nat.or_comm, nat_join k (c * 2 ^ k) x (by simp) hx]
  omega
theorem num_step (s : ByteArray) (p k : Nat) (hk : k ≤ 62) (h : (p + k) / 8 < s.size) :
    bits .or .u64 (num s p k : Nat) (IntKind.u64.wrap (IntKind.u64.wrap (bits .and .u8 ((s[(p + k) / 8].toNat : Int) / 2 ^ ((p + k) % 8)) 1) * 2 ^ k)) = ((num s p (k + 1) : Nat) : Int) := by
  have hy : s[(p + k) / 8].toNat < 256 := UInt8.toNat_lt _
  rw [and1_u8 _ _ hy, ← bitAt_eq s (p + k) h, or_step _ _ _ (num_lt s p k) (bitAt_lt _ _) hk]
  rfl
end Go.Proofs.YtlbadjfcffoakaaDoor
namespace Go.Proofs.YtlbadjfcffoakaaDoor
open Go.RowKit

def bsum (f : Nat → Nat) : Nat → Nat
  | 0 => 0
  | n + 1 => bsum f n + f n * 2 ^ n
theorem bsum_congr {f g : Nat → Nat} {n : Nat} (h : ∀ i, i < n → f i = g i) : bsum f n = bsum g n := by
  induction n with
  | zero => rfl
  | succ n ih => simp only [bsum]; rw [ih (fun i hi => h i (by omega)), h n (by omega)]
theorem bsum_lt {f : Nat → Nat} {n : Nat} (h : ∀ i, i < n → f i < 2) : bsum f n < 2 ^ n := by
  induction n with
  | zero => simp [bsum]
  | succ n ih =>
    have h1 := h n (by omega)
    have h2 := ih (fun i hi => h i (by omega))
    have : f n * 2 ^ n ≤ 1 * 2 ^ n := Nat.mul_le_mul_right _ (by omega)
    simp only [bsum, Nat.pow_succ]; omega
theorem num_bsum (s : ByteArray) (p n : Nat) : num s p n = bsum (fun i => bitAt s (p + i)) n := by
  induction n with
  | zero => rfl
  | succ n ih => simp only [num, bsum, ih]
theorem bsum_add {f g : Nat → Nat} {n k c : Nat} (hk : k < n) (h0 : f k = 0) (h1 : g k = c) (h : ∀ i, i < n → i ≠ k → g i = f i) : bsum g n = bsum f n + c * 2 ^ k := by
  induction n with
  | zero => omega
  | succ n ih =>
    simp only [bsum]
    by_cases e : k = n
    · subst e
      rw [bsum_congr (f := g) (g := f) (fun i hi => h i (by omega) (by omega)), h0, h1]; omega
    · rw [ih (by omega) (fun i hi hne => h i (by omega) hne), h n (by omega) (fun e' => e e'.symm)]; omega
theorem bsum_high {f : Nat → Nat} {m n : Nat} (hm : m ≤ n) (h : ∀ i, m ≤ i → i < n → f i = 0) : bsum f n = bsum f m := by
  induction n with
  | zero => rw [show m = 0 by omega]
  | succ n ih =>
    by_cases e : m = n + 1
    · rw [e]
    · simp only [bsum]; rw [ih (by omega) (fun i h1 h2 => h i h1 (by omega)), h n (by omega) (by omega)]; omega

def byteOf (L : List Nat) (j : Nat) : Nat := bsum (fun i => L.getD (8 * j + i) 0) 8
def pack (L : List Nat) : List Nat := (List.range ((L.length + 7) / 8)).map (byteOf L)
theorem pack_length (L : List Nat) : (pack L).length = (L.length + 7) / 8 := by simp [pack]
theorem pack_get (L : List Nat) (j : Nat) (h : j < (L.length + 7) / 8) : (pack L)[j]? = some (byteOf L j) := by
  simp [pack, List.getElem?_range h]
def Bits01 (L : List Nat) : Prop := ∀ x ∈ L, x < 2
theorem Bits01.getD {L : List Nat} (h : Bits01 L) (i : Nat) : L.getD i 0 < 2 := by
  rw [List.getD_eq_getElem?_getD]
  cases e : L[i]? with
  | none => simp
  | some x => exact h x (List.mem_of_getElem? e)
theorem Bits01.snoc {L : List Nat} (h : Bits01 L) {c : Nat} (hc : c < 2) : Bits01 (L ++ [c]) := by
  intro x hx; rcases List.mem_append.1 hx with hx | hx
  · exact h x hx
  · simp at hx; omega
theorem byteOf_lt {L : List Nat} (h : Bits01 L) (j : Nat) : byteOf L j < 256 := bsum_lt (n := 8) (fun _ _ => h.getD _)
theorem byteOf_last {L : List Nat} (h : Bits01 L) : byteOf L (L.length / 8) < 2 ^ (L.length % 8) := by
  unfold byteOf
  rw [bsum_high (m := L.length % 8) (by omega) (fun i h1 h2 => by
    rw [List.getD_eq_getElem?_getD, List.getElem?_eq_none (by omega)]; rfl)]
  exact bsum_lt (fun _ _ => h.getD _)
theorem byteOf_snoc (L : List Nat) (c j : Nat) : byteOf (L ++ [c]) j = if j = L.length / 8 then byteOf L j + c * 2 ^ (L.length % 8) else byteOf L j := by
  unfold byteOf
  split
  · next e =>
    subst e
    refine bsum_add (k := L.length % 8) (by omega) ?_ ?_ ?_
    · rw [List.getD_eq_getElem?_getD, List.getElem?_eq_none (by omega)]; rfl
    · rw [List.getD_eq_getElem?_getD, show 8 * (L.length / 8) + L.length % 8 = L.length by omega]; simp
    · intro i hi hne
      rw [List.getD_eq_getElem?_getD, List.getD_eq_getElem?_getD]
      by_cases hl : 8 * (L.length / 8) + i < L.length
      · rw [List.getElem?_append_left hl]
      · rw [List.getElem?_eq_none (by simp; omega), List.getElem?_eq_none (by omega)]
  · next e =>
    refine bsum_congr (fun i hi => ?_)
    rw [List.getD_eq_getElem?_getD, List.getD_eq_getElem?_getD]
    by_cases hl : 8 * j + i < L.length
    · rw [List.getElem?_append_left hl]
    · rw [List.getElem?_eq_none (by simp; omega), List.getElem?_eq_none (by omega)]
theorem pack_snoc {L : List Nat} (c : Nat) (h : L.length % 8 ≠ 0) : pack (L ++ [c]) = (pack L).set (L.length / 8) (byteOf L (L.length / 8) + c * 2 ^ (L.length % 8)) := by
  refine List.ext_getElem? (fun j => ?_)
  by_cases hj : j < (L.length + 7) / 8
  · rw [pack_get _ _ (by simp; omega), byteOf_snoc]
    by_cases e : j = L.length / 8
    · subst e
      rw [if_pos rfl, List.getElem?_set_self (by rw [pack_length]; omega)]
    · rw [if_neg e, List.getElem?_set_ne (by omega), pack_get _ _ hj]
  · rw [List.getElem?_eq_none (by rw [pack_length]; simp; omega), List.getElem?_eq_none (by rw [List.length_set, pack_length]; omega)]
theorem pack_snoc0 {L : List Nat} (c : Nat) (h : L.length % 8 = 0) : pack (L ++ [c]) = (pack L ++ [0]).set (L.length / 8) c := by
  have hn : (L.length + 7) / 8 = L.length / 8 := by omega
  refine List.ext_getElem? (fun j => ?_)
  by_cases hj : j < L.length / 8
  · rw [pack_get _ _ (by simp; omega), byteOf_snoc, if_neg (by omega), List.getElem?_set_ne (by omega), List.getElem?_append_left (by rw [pack_length]; omega), pack_get _ _ (by omega)]
  · by_cases e : j = L.length / 8
    · subst e
      rw [pack_get _ _ (by simp; omega), byteOf_snoc, if_pos rfl, List.getElem?_set_self (by simp [pack_length]; omega), h]
      have : byteOf L (L.length / 8) = 0 := by
        unfold byteOf
        rw [bsum_high (m := 0) (by omega) (fun i _ _ => by rw [List.getD_eq_getElem?_getD, List.getElem?_eq_none (by omega)]; rfl)]; rfl
      rw [this]; simp
    · rw [List.getElem?_eq_none (by rw [pack_length]; simp; omega), List.getElem?_eq_none (by rw [List.length_set, List.length_append, pack_length]; simp; omega)]
end Go.Proofs.YtlbadjfcffoakaaDoor
