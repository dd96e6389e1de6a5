/- Plain mathematics of bits: a text's bits, the number of some of them, and how machine arithmetic comes to it. -/
/- Plain mathematics of packing: bits as bytes, the lowest bit of a byte first. -/
/- Plain mathematics of sums: CRC-32C is linear and tells what differs within 32 bits; the steps of xxHash32 are one to one. -/
/- Plain mathematics of xxHash32: each of its steps is one to one. -/
/- xxHash32 of a list of bytes, by the document's words; one byte that is another one is told. -/
import Derived.Laws.BitsAllLaws
import Derived.IntWalk
namespace Go.Proofs.YtcjlcieheepegaaGreatDoor
open Go.RowKit

/-- A bit of a text: the lowest one of a byte first. -/
def bitAt (s : ByteArray) (i : Nat) : Nat := (s.data.toList.getD (i / 8) 0).toNat / 2 ^ (i % 8) % 2
/-- The number of n bits from a place on. -/
def num (s : ByteArray) (p : Nat) : Nat → Nat
  | 0 => 0
  | n + 1 => num s p n + bitAt s (p + n) * 2 ^ n
theorem bitAt_lt (s : ByteArray) (i : Nat) : bitAt s i < 2 := Nat.mod_lt _ (by omega)
theorem bitAt_eq (s : ByteArray) (i : Nat) (h : i / 8 < s.size) : bitAt s i = s[i / 8].toNat / 2 ^ (i % 8) % 2 := by
  unfold bitAt
  have : s.data.toList.getD (i / 8) 0 = s[i / 8] := by
    have h' : i / 8 < s.data.size := h
    rw [List.getD_eq_getElem?_getD, Array.getElem?_toList, Array.getElem?_eq_getElem h']; rfl
  rw [this]
theorem num_lt (s : ByteArray) (p n : Nat) : num s p n < 2 ^ n := by
  induction n with
  | zero => simp [num]
  | succ n ih => 
    have h := bitAt_lt s (p + n)
    have : bitAt s (p + n) * 2 ^ n ≤ 1 * 2 ^ n := Nat.mul_le_mul_right _ (by omega)
    simp only [num, Nat.pow_succ]; omega
theorem pow_le (k m : Nat) (h : k ≤ m) : 2 ^ k ≤ 2 ^ m := Nat.pow_le_pow_right (by omega) h
theorem and1_u8 (y m : Nat) (hy : y < 256) : bits .and .u8 ((y : Int) / 2 ^ m) 1 = ((y / 2 ^ m % 2 : Nat) : Int) := by
  have e : (y : Int) / 2 ^ m = ((y / 2 ^ m : Nat) : Int) := by simp
  have hl : y / 2 ^ m ≤ y := Nat.div_le_self _ _
  have h := u8_and_nat (y / 2 ^ m) 1 (by omega) (by omega)
  rw [e, show (1 : Int) = ((1 : Nat) : Int) from rfl, h, nat_mask1]
theorem wrap_u64_nat (a : Nat) (h : a < 18446744073709551616) : IntKind.u64.wrap (a : Int) = (a : Int) := by
  rw [IntKind.wrap_u64]; omega
theorem or_step (x c k : Nat) (hx : x < 2 ^ k) (hc : c < 2) (hk : k ≤ 62) :
    bits .or .u64 (x : Int) (IntKind.u64.wrap (IntKind.u64.wrap (c : Int) * 2 ^ k)) = ((x + c * 2 ^ k : Nat) : Int) := by
  have h62 := pow_le k 62 hk
  have hm : c * 2 ^ k ≤ 1 * 2 ^ k := Nat.mul_le_mul_right _ (by omega)
  have e1 : IntKind.u64.wrap (c : Int) = (c : Int) := wrap_u64_nat c (by omega)
  have e2 : (c : Int) * 2 ^ k = ((c * 2 ^ k : Nat) : Int) := by simp
  rw [e1, e2, wrap_u64_nat _ (by omega), u64_or_nat _ _ (by omega) (by omega), Nat.or_comm, nat_join k (c * 2 ^ k) x (by simp) hx]
  omega
theorem num_step (s : ByteArray) (p k : Nat) (hk : k ≤ 62) (h : (p + k) / 8 < s.size) :
    bits .or .u64 (num s p k : Nat) (IntKind.u64.wrap (IntKind.u64.wrap (bits .and .u8 ((s[(p + k) / 8].toNat : Int) / 2 ^ ((p + k) % 8)) 1) * 2 ^ k)) = ((num s p (k + 1) : Nat) : Int) := by
  have hy : s[(p + k) / 8].toNat < 256 := UInt8.toNat_lt _
  rw [and1_u8 _ _ hy, ← bitAt_eq s (p + k) h, or_step _ _ _ (num_lt s p k) (bitAt_lt _ _) hk]
  rfl
end Go.Proofs.YtcjlcieheepegaaGreatDoor
namespace Go.Proofs.YtcjlcieheepegaaGreatDoor
open Go.RowKit

/-- The number whose bits are f 0, f 1, .. -/
def bsum (f : Nat → Nat) : Nat → Nat
  | 0 => 0
  | n + 1 => bsum f n + f n * 2 ^ n
theorem bsum_congr {f g : Nat → Nat} {n : Nat} (h : ∀ i, i < n → f i = g i) : bsum f n = bsum g n := by
  induction n with
  | zero => rfl
  | succ n ih => simp only [bsum]; rw [ih (fun i hi => h i (by omega)), h n (by omega)]
theorem bsum_lt {f : Nat → Nat} {n : Nat} (h : ∀ i, i < n → f i < 2) : bsum f n < 2 ^ n := by
  induction n with
  | zero => simp [bsum]
  | succ n ih =>
    have h1 := h n (by omega)
    have h2 := ih (fun i hi => h i (by omega))
    have : f n * 2 ^ n ≤ 1 * 2 ^ n := Nat.mul_le_mul_right _ (by omega)
    simp only [bsum, Nat.pow_succ]; omega
theorem num_bsum (s : ByteArray) (p n : Nat) : num s p n = bsum (fun i => bitAt s (p + i)) n := by
  induction n with
  | zero => rfl
  | succ n ih => simp only [num, bsum, ih]
/-- f turned at one place. -/
theorem bsum_add {f g : Nat → Nat} {n k c : Nat} (hk : k < n) (h0 : f k = 0) (h1 : g k = c) (h : ∀ i, i < n → i ≠ k → g i = f i) : bsum g n = bsum f n + c * 2 ^ k := by
  induction n with
  | zero => omega
  | succ n ih =>
    simp only [bsum]
    by_cases e : k = n
    · subst e
      rw [bsum_congr (f := g) (g := f) (fun i hi => h i (by omega) (by omega)), h0, h1]; omega
    · rw [ih (by omega) (fun i hi hne => h i (by omega) hne), h n (by omega) (fun e' => e e'.symm)]; omega
/-- The bits of a number of which all from some place on are noughts. -/
theorem bsum_high {f : Nat → Nat} {m n : Nat} (hm : m ≤ n) (h : ∀ i, m ≤ i → i < n → f i = 0) : bsum f n = bsum f m := by
  induction n with
  | zero => rw [show m = 0 by omega]
  | succ n ih =>
    by_cases e : m = n + 1
    · rw [e]
    · simp only [bsum]; rw [ih (by omega) (fun i h1 h2 => h i h1 (by omega)), h n (by omega) (by omega)]; omega

/-- Byte j of a list of bits. -/
def byteOf (L : List Nat) (j : Nat) : Nat := bsum (fun i => L.getD (8 * j + i) 0) 8
/-- Bits as bytes: the last one with noughts behind its bits. -/
def pack (L : List Nat) : List Nat := (List.range ((L.length + 7) / 8)).map (byteOf L)
theorem pack_length (L : List Nat) : (pack L).length = (L.length + 7) / 8 := by simp [pack]
theorem pack_get (L : List Nat) (j : Nat) (h : j < (L.length + 7) / 8) : (pack L)[j]? = some (byteOf L j) := by
  simp [pack, List.getElem?_range h]
def Bits01 (L : List Nat) : Prop := ∀ x ∈ L, x < 2
theorem Bits01.getD {L : List Nat} (h : Bits01 L) (i : Nat) : L.getD i 0 < 2 := by
  rw [List.getD_eq_getElem?_getD]
  cases e : L[i]? with
  | none => simp
  | some x => exact h x (List.mem_of_getElem? e)
theorem Bits01.snoc {L : List Nat} (h : Bits01 L) {c : Nat} (hc : c < 2) : Bits01 (L ++ [c]) := by
  intro x hx; rcases List.mem_append.1 hx with hx | hx
  · exact h x hx
  · simp at hx; omega
theorem byteOf_lt {L : List Nat} (h : Bits01 L) (j : Nat) : byteOf L j < 256 := bsum_lt (n := 8) (fun _ _ => h.getD _)
/-- The byte in which the next bit comes: what is there lies below that bit. -/
theorem byteOf_last {L : List Nat} (h : Bits01 L) : byteOf L (L.length / 8) < 2 ^ (L.length % 8) := by
  unfold byteOf
  rw [bsum_high (m := L.length % 8) (by omega) (fun i h1 h2 => by
    rw [List.getD_eq_getElem?_getD, List.getElem?_eq_none (by omega)]; rfl)]
  exact bsum_lt (fun _ _ => h.getD _)
theorem byteOf_snoc (L : List Nat) (c j : Nat) : byteOf (L ++ [c]) j = if j = L.length / 8 then byteOf L j + c * 2 ^ (L.length % 8) else byteOf L j := by
  unfold byteOf
  split
  · next e =>
    subst e
    refine bsum_add (k := L.length % 8) (by omega) ?_ ?_ ?_
    · rw [List.getD_eq_getElem?_getD, List.getElem?_eq_none (by omega)]; rfl
    · rw [List.getD_eq_getElem?_getD, show 8 * (L.length / 8) + L.length % 8 = L.length by omega]; simp
    · intro i hi hne
      rw [List.getD_eq_getElem?_getD, List.getD_eq_getElem?_getD]
      by_cases hl : 8 * (L.length / 8) + i < L.length
      · rw [List.getElem?_append_left hl]
      · rw [List.getElem?_eq_none (by simp; omega), List.getElem?_eq_none (by omega)]
  · next e =>
    refine bsum_congr (fun i hi => ?_)
    rw [List.getD_eq_getElem?_getD, List.getD_eq_getElem?_getD]
    by_cases hl : 8 * j + i < L.length
    · rw [List.getElem?_append_left hl]
    · rw [List.getElem?_eq_none (by simp; omega), List.getElem?_eq_none (by omega)]
/-- A bit more, within a byte. -/
theorem pack_snoc {L : List Nat} (c : Nat) (h : L.length % 8 ≠ 0) : pack (L ++ [c]) = (pack L).set (L.length / 8) (byteOf L (L.length / 8) + c * 2 ^ (L.length % 8)) := by
  refine List.ext_getElem? (fun j => ?_)
  by_cases hj : j < (L.length + 7) / 8
  · rw [pack_get _ _ (by simp; omega), byteOf_snoc]
    by_cases e : j = L.length / 8
    · subst e
      rw [if_pos rfl, List.getElem?_set_self (by rw [pack_length]; omega)]
    · rw [if_neg e, List.getElem?_set_ne (by omega), pack_get _ _ hj]
  · rw [List.getElem?_eq_none (by rw [pack_length]; simp; omega), List.getElem?_eq_none (by rw [List.length_set, pack_length]; omega)]
/-- A bit more, the first of a byte. -/
theorem pack_snoc0 {L : List Nat} (c : Nat) (h : L.length % 8 = 0) : pack (L ++ [c]) = (pack L ++ [0]).set (L.length / 8) c := by
  have hn : (L.length + 7) / 8 = L.length / 8 := by omega
  refine List.ext_getElem? (fun j => ?_)
  by_cases hj : j < L.length / 8
  · rw [pack_get _ _ (by simp; omega), byteOf_snoc, if_neg (by omega), List.getElem?_set_ne (by omega), List.getElem?_append_left (by rw [pack_length]; omega), pack_get _ _ (by omega)]
  · by_cases e : j = L.length / 8
    · subst e
      rw [pack_get _ _ (by simp; omega), byteOf_snoc, if_pos rfl, List.getElem?_set_self (by simp [pack_length]; omega), h]
      have : byteOf L (L.length / 8) = 0 := by
        unfold byteOf
        rw [bsum_high (m := 0) (by omega) (fun i _ _ => by rw [List.getD_eq_getElem?_getD, List.getElem?_eq_none (by omega)]; rfl)]; rfl
      rw [this]; simp
    · rw [List.getElem?_eq_none (by rw [pack_length]; simp; omega), List.getElem?_eq_none (by rw [List.length_set, List.length_append, pack_length]; simp; omega)]
end Go.Proofs.YtcjlcieheepegaaGreatDoor
namespace Go.Proofs.YtcjlcieheepegaaGreatDoor.S2
open Go.RowKit
set_option linter.unusedVariables false
set_option maxRecDepth 20000

/-- One bit of CRC-32C. -/
def cT (c : Nat) : Nat := if c % 2 = 1 then c / 2 ^^^ 2197175160 else c / 2
theorem xor_half (a b : Nat) : (a ^^^ b) / 2 = a / 2 ^^^ b / 2 := by
  have := Nat.shiftRight_xor_distrib (a := a) (b := b) (i := 1)
  simpa [Nat.shiftRight_succ] using this
theorem xor_par (a b : Nat) : (a ^^^ b) % 2 = (a + b) % 2 := by
  have h := Nat.xor_mod_two_pow (a := a) (b := b) (n := 1)
  rw [Nat.pow_one] at h
  rw [h]
  rcases Nat.mod_two_eq_zero_or_one a with ha | ha <;> rcases Nat.mod_two_eq_zero_or_one b with hb | hb <;> rw [ha, hb]
  · show 0 = _; omega
  · show 1 = _; omega
  · show 1 = _; omega
  · show 0 = _; omega
theorem xor_zero_eq {a b : Nat} (h : a ^^^ b = 0) : a = b := by
  have e : a ^^^ (a ^^^ b) = a ^^^ 0 := by rw [h]
  rw [← Nat.xor_assoc, Nat.xor_self, Nat.zero_xor, Nat.xor_zero] at e
  exact e.symm
theorem cT_xor (a b : Nat) : cT (a ^^^ b) = cT a ^^^ cT b := by
  have hp := xor_par a b
  have hh := xor_half a b
  unfold cT
  rcases Nat.mod_two_eq_zero_or_one a with ha | ha <;> rcases Nat.mod_two_eq_zero_or_one b with hb | hb
  · rw [if_neg (by omega), if_neg (by omega), if_neg (by omega), hh]
  · rw [if_pos (by omega), if_neg (by omega), if_pos (by omega), hh, Nat.xor_assoc]
  · rw [if_pos (by omega), if_pos (by omega), if_neg (by omega), hh, Nat.xor_assoc, Nat.xor_assoc, Nat.xor_comm (b / 2)]
  · rw [if_neg (by omega), if_pos (by omega), if_pos (by omega), hh]
    rw [Nat.xor_assoc (a / 2), ← Nat.xor_assoc 2197175160, Nat.xor_comm 2197175160 (b / 2), Nat.xor_assoc (b / 2), Nat.xor_self, Nat.xor_zero]
theorem cT_lt (c : Nat) (h : c < 4294967296) : cT c < 4294967296 := by
  unfold cT
  split
  · exact Nat.xor_lt_two_pow (n := 32) (by omega) (by omega)
  · omega
theorem cT_ker (c : Nat) (h : c < 4294967296) (h0 : cT c = 0) : c = 0 := by
  unfold cT at h0
  split at h0
  · have := xor_zero_eq h0; omega
  · omega
def cTn : Nat → Nat → Nat
  | 0, c => c
  | n + 1, c => cTn n (cT c)
theorem cTn_xor (n a b : Nat) : cTn n (a ^^^ b) = cTn n a ^^^ cTn n b := by
  induction n generalizing a b with
  | zero => rfl
  | succ n ih => simp only [cTn]; rw [cT_xor, ih]
theorem cTn_lt (n c : Nat) (h : c < 4294967296) : cTn n c < 4294967296 := by
  induction n generalizing c with
  | zero => exact h
  | succ n ih => exact ih _ (cT_lt c h)
theorem cTn_ker (n c : Nat) (h : c < 4294967296) (h0 : cTn n c = 0) : c = 0 := by
  induction n generalizing c with
  | zero => exact h0
  | succ n ih => exact cT_ker c h (ih _ (cT_lt c h) h0)
theorem cTn_add (m n c : Nat) : cTn (m + n) c = cTn n (cTn m c) := by
  induction m generalizing c with
  | zero => simp [cTn]
  | succ m ih => rw [show m + 1 + n = (m + n) + 1 by omega]; simp only [cTn]; exact ih _
theorem cTn_zero (n : Nat) : cTn n 0 = 0 := by
  induction n with
  | zero => rfl
  | succ n ih => simpa [cTn, cT] using ih
/-- One byte. -/
def cB (c b : Nat) : Nat := cTn 8 (c ^^^ b)
def cM (c : Nat) (l : List Nat) : Nat := l.foldl cB c
theorem cB_lt (c b : Nat) (h : c < 4294967296) (hb : b < 256) : cB c b < 4294967296 := cTn_lt 8 _ (Nat.xor_lt_two_pow (n := 32) (by omega) (by omega))
theorem cM_lt (l : List Nat) (c : Nat) (h : c < 4294967296) (hl : ∀ b ∈ l, b < 256) : cM c l < 4294967296 := by
  induction l generalizing c with
  | nil => exact h
  | cons b r ih => exact ih _ (cB_lt c b h (hl b (by simp))) (fun x hx => hl x (by simp [hx]))
theorem cB_xor (a b x y : Nat) : cB (a ^^^ b) (x ^^^ y) = cB a x ^^^ cB b y := by
  unfold cB
  rw [← cTn_xor]
  congr 1
  rw [Nat.xor_assoc, Nat.xor_assoc, ← Nat.xor_assoc b, Nat.xor_comm b x, Nat.xor_assoc x]
theorem cM_append (c : Nat) (l r : List Nat) : cM c (l ++ r) = cM (cM c l) r := by simp [cM]
/-- Linear: two lists of one length. -/
theorem cM_xor (l r : List Nat) (a b : Nat) (h : l.length = r.length) : cM (a ^^^ b) (List.zipWith (· ^^^ ·) l r) = cM a l ^^^ cM b r := by
  induction l generalizing r a b with
  | nil => cases r with
    | nil => rfl
    | cons _ _ => simp at h
  | cons x l ih => cases r with
    | nil => simp at h
    | cons y r =>
      simp only [List.zipWith_cons_cons, cM, List.foldl_cons]
      rw [cB_xor]
      exact ih r _ _ (by simpa using h)
/-- Behind the same bytes unlike states stay unlike. -/
theorem cM_inj (l : List Nat) (a b : Nat) (ha : a < 4294967296) (hb : b < 4294967296) (hl : ∀ x ∈ l, x < 256) (h : cM a l = cM b l) : a = b := by
  induction l generalizing a b with
  | nil => exact h
  | cons x r ih =>
    have hx := hl x (by simp)
    have e := ih (cB a x) (cB b x) (cB_lt a x ha hx) (cB_lt b x hb hx) (fun y hy => hl y (by simp [hy])) h
    unfold cB at e
    have hz : cTn 8 ((a ^^^ x) ^^^ (b ^^^ x)) = 0 := by rw [cTn_xor, e, Nat.xor_self]
    have hlt : (a ^^^ x) ^^^ (b ^^^ x) < 4294967296 := Nat.xor_lt_two_pow (n := 32) (Nat.xor_lt_two_pow (n := 32) (by omega) (by omega)) (Nat.xor_lt_two_pow (n := 32) (by omega) (by omega))
    have h0 := xor_zero_eq (cTn_ker 8 _ hlt hz)
    have := congrArg (· ^^^ x) h0
    simpa [Nat.xor_assoc] using this
theorem xor_join (i x y : Nat) (hx : x % 2 ^ i = 0) (hy : y < 2 ^ i) : x ^^^ y = x + y := by
  have h1 : x &&& y = 0 := by
    apply Nat.eq_of_testBit_eq
    intro j
    rw [Nat.testBit_and, Nat.zero_testBit]
    by_cases hj : j < i
    · have : x.testBit j = false := by
        have hm : (x % 2 ^ i).testBit j = x.testBit j := by rw [Nat.testBit_mod_two_pow]; simp [hj]
        rw [← hm, hx, Nat.zero_testBit]
      rw [this]; rfl
    · have : y.testBit j = false := Nat.testBit_lt_two_pow (Nat.lt_of_lt_of_le hy (Nat.pow_le_pow_right (by omega) (by omega)))
      rw [this]; simp
  have h2 : x ^^^ y = x ||| y := by
    apply Nat.eq_of_testBit_eq
    intro j
    have h3 : (x &&& y).testBit j = false := by rw [h1, Nat.zero_testBit]
    rw [Nat.testBit_and] at h3
    rw [Nat.testBit_xor, Nat.testBit_or]
    cases hx' : x.testBit j <;> cases hy' : y.testBit j <;> simp_all
  rw [h2]; exact nat_join i x y hx hy
/-- Four bytes at one time: the state's 32 bits take them all ahead of 32 bits' steps. -/
theorem cT_high (n c b : Nat) (hb : ∃ m, b = m * 2 ^ n) : cTn n (c ^^^ b) = cTn n c ^^^ b / 2 ^ n := by
  obtain ⟨m, rfl⟩ := hb
  rw [cTn_xor]
  congr 1
  induction n generalizing m with
  | zero => simp [cTn]
  | succ n ih =>
    have e : m * 2 ^ (n + 1) = 2 * (m * 2 ^ n) := by rw [Nat.pow_succ]; simp [Nat.mul_comm, Nat.mul_left_comm]
    simp only [cTn]
    have hc : cT (m * 2 ^ (n + 1)) = m * 2 ^ n := by unfold cT; rw [e, if_neg (by omega)]; omega
    rw [hc, ih m]
    rw [Nat.mul_div_cancel _ (Nat.pos_of_ne_zero (by simp)), Nat.mul_div_cancel _ (Nat.pos_of_ne_zero (by simp))]
theorem cM_four (c b0 b1 b2 b3 : Nat) : cM c [b0, b1, b2, b3] = cTn 32 (c ^^^ b0 ^^^ b1 * 2 ^ 8 ^^^ b2 * 2 ^ 16 ^^^ b3 * 2 ^ 24) := by
  have h3 : cTn 24 (c ^^^ b0 ^^^ b1 * 2 ^ 8 ^^^ b2 * 2 ^ 16 ^^^ b3 * 2 ^ 24) = cTn 24 (c ^^^ b0 ^^^ b1 * 2 ^ 8 ^^^ b2 * 2 ^ 16) ^^^ b3 := by
    rw [cT_high 24 _ _ ⟨b3, rfl⟩, Nat.mul_div_cancel _ (by decide)]
  have h2 : cTn 16 (c ^^^ b0 ^^^ b1 * 2 ^ 8 ^^^ b2 * 2 ^ 16) = cTn 16 (c ^^^ b0 ^^^ b1 * 2 ^ 8) ^^^ b2 := by
    rw [cT_high 16 _ _ ⟨b2, rfl⟩, Nat.mul_div_cancel _ (by decide)]
  have h1 : cTn 8 (c ^^^ b0 ^^^ b1 * 2 ^ 8) = cTn 8 (c ^^^ b0) ^^^ b1 := by
    rw [cT_high 8 _ _ ⟨b1, rfl⟩, Nat.mul_div_cancel _ (by decide)]
  simp only [cM, List.foldl_cons, List.foldl_nil, cB]
  rw [show 32 = 24 + 8 from rfl, cTn_add 24 8, h3, show 24 = 16 + 8 from rfl, cTn_add 16 8, h2, show 16 = 8 + 8 from rfl, cTn_add 8 8, h1]
/-- 32 bits that are not all noughts turn the state. -/
theorem cM_burst (c b0 b1 b2 b3 : Nat) (h0 : b0 < 256) (h1 : b1 < 256) (h2 : b2 < 256) (h3 : b3 < 256) (h : cM 0 [b0, b1, b2, b3] = 0) : b0 = 0 ∧ b1 = 0 ∧ b2 = 0 ∧ b3 = 0 := by
  rw [cM_four, Nat.zero_xor] at h
  have e3 : b0 ^^^ b1 * 2 ^ 8 ^^^ b2 * 2 ^ 16 ^^^ b3 * 2 ^ 24 = b0 + b1 * 2 ^ 8 + b2 * 2 ^ 16 + b3 * 2 ^ 24 := by
    have a1 : b0 ^^^ b1 * 2 ^ 8 = b0 + b1 * 2 ^ 8 := by rw [Nat.xor_comm, xor_join 8 (b1 * 2 ^ 8) b0 (by simp) (by omega)]; omega
    have a2 : (b0 + b1 * 2 ^ 8) ^^^ b2 * 2 ^ 16 = b0 + b1 * 2 ^ 8 + b2 * 2 ^ 16 := by rw [Nat.xor_comm, xor_join 16 (b2 * 2 ^ 16) _ (by simp) (by omega)]; omega
    have a3 : (b0 + b1 * 2 ^ 8 + b2 * 2 ^ 16) ^^^ b3 * 2 ^ 24 = b0 + b1 * 2 ^ 8 + b2 * 2 ^ 16 + b3 * 2 ^ 24 := by rw [Nat.xor_comm, xor_join 24 (b3 * 2 ^ 24) _ (by simp) (by omega)]; omega
    rw [a1, a2, a3]
  rw [e3] at h
  have := cTn_ker 32 _ (by omega) h
  omega
end Go.Proofs.YtcjlcieheepegaaGreatDoor.S2
namespace Go.Proofs.YtcjlcieheepegaaGreatDoor.S2
open Go.RowKit
set_option linter.unusedVariables false
set_option maxRecDepth 20000

/-- A product of 32 bits. -/
def hmul (a p : Nat) : Nat := a * p % 4294967296
theorem hmul_lt (a p : Nat) : hmul a p < 4294967296 := Nat.mod_lt _ (by omega)
theorem hmul_inj {p q : Nat} (hq : p * q % 4294967296 = 1) {a b : Nat} (ha : a < 4294967296) (hb : b < 4294967296) (h : hmul a p = hmul b p) : a = b := by
  have e : ∀ x, x < 4294967296 → hmul x p * q % 4294967296 = x := by
    intro x hx
    unfold hmul
    rw [Nat.mod_mul_mod, Nat.mul_assoc, Nat.mul_mod, hq, Nat.mul_one, Nat.mod_mod, Nat.mod_eq_of_lt hx]
  rw [← e a ha, ← e b hb, h]
theorem inv1 : 2654435761 * 244002641 % 4294967296 = 1 := by decide
theorem inv2 : 2246822519 * 3066638151 % 4294967296 = 1 := by decide
theorem inv3 : 3266489917 * 2828982549 % 4294967296 = 1 := by decide
theorem inv4 : 668265263 * 2701016015 % 4294967296 = 1 := by decide
theorem inv5 : 374761393 * 2923004241 % 4294967296 = 1 := by decide
/-- 32 bits turned left. -/
def rot (n x : Nat) : Nat := x * 2 ^ n % 4294967296 + x / 2 ^ (32 - n)
theorem rot_parts (n x : Nat) (hn : n ≤ 32) (hx : x < 4294967296) : rot n x = x % 2 ^ (32 - n) * 2 ^ n + x / 2 ^ (32 - n) ∧ x / 2 ^ (32 - n) < 2 ^ n := by
  have e32 : 4294967296 = 2 ^ (32 - n) * 2 ^ n := by rw [← Nat.pow_add, show 32 - n + n = 32 by omega]
  constructor
  · unfold rot
    rw [e32, Nat.mul_mod_mul_right]
  · exact Nat.div_lt_of_lt_mul (by rw [← e32]; exact hx)
theorem rot_lt (n x : Nat) (hn : n ≤ 32) (hx : x < 4294967296) : rot n x < 4294967296 := by
  obtain ⟨h1, h2⟩ := rot_parts n x hn hx
  have e32 : 4294967296 = 2 ^ (32 - n) * 2 ^ n := by rw [← Nat.pow_add, show 32 - n + n = 32 by omega]
  have hm : x % 2 ^ (32 - n) < 2 ^ (32 - n) := Nat.mod_lt _ (Nat.pos_of_ne_zero (by simp))
  have h3 : (x % 2 ^ (32 - n) + 1) * 2 ^ n ≤ 2 ^ (32 - n) * 2 ^ n := Nat.mul_le_mul_right _ (by omega)
  rw [h1, e32]
  rw [Nat.add_mul] at h3
  omega
theorem rot_inj (n : Nat) {x y : Nat} (hn : n ≤ 32) (hx : x < 4294967296) (hy : y < 4294967296) (h : rot n x = rot n y) : x = y := by
  obtain ⟨a1, a2⟩ := rot_parts n x hn hx
  obtain ⟨b1, b2⟩ := rot_parts n y hn hy
  rw [a1, b1] at h
  have hp : 0 < 2 ^ n := Nat.pos_of_ne_zero (by simp)
  have e1 : x / 2 ^ (32 - n) = y / 2 ^ (32 - n) := by
    have := congrArg (· % 2 ^ n) h
    simpa [Nat.mul_add_mod_self_right, Nat.mod_eq_of_lt a2, Nat.mod_eq_of_lt b2] using this
  have e2 : x % 2 ^ (32 - n) = y % 2 ^ (32 - n) := by
    rw [e1] at h
    exact Nat.eq_of_mul_eq_mul_right hp (Nat.add_right_cancel h)
  rw [← Nat.div_add_mod x (2 ^ (32 - n)), ← Nat.div_add_mod y (2 ^ (32 - n)), e1, e2]
/-- A number and its higher bits, one xor the other. -/
theorem xshift_inj (k : Nat) (hk : 0 < k) {x y : Nat} (h : x ^^^ x / 2 ^ k = y ^^^ y / 2 ^ k) : x = y := by
  have hz : (x ^^^ y) ^^^ (x ^^^ y) / 2 ^ k = 0 := by
    have e : (x ^^^ y) / 2 ^ k = x / 2 ^ k ^^^ y / 2 ^ k := by
      rw [← Nat.shiftRight_eq_div_pow, ← Nat.shiftRight_eq_div_pow, ← Nat.shiftRight_eq_div_pow, Nat.shiftRight_xor_distrib]
    rw [e, Nat.xor_assoc, ← Nat.xor_assoc y, Nat.xor_comm y (x / 2 ^ k), Nat.xor_assoc (x / 2 ^ k), ← Nat.xor_assoc x, h, Nat.xor_self]
  have hd := xor_zero_eq hz
  have h0 : x ^^^ y = 0 := by
    rcases Nat.eq_zero_or_pos (x ^^^ y) with e | e
    · exact e
    · have := Nat.div_lt_self e (show 1 < 2 ^ k from Nat.one_lt_two_pow (by omega))
      omega
  exact xor_zero_eq h0
/-- A round: h + x p, turned, times q. -/
def hstep (p n q h x : Nat) : Nat := hmul (rot n ((h + hmul x p) % 4294967296)) q
theorem hstep_lt (p n q h x : Nat) : hstep p n q h x < 4294967296 := hmul_lt _ _
theorem add_inj {a b c : Nat} (ha : a < 4294967296) (hb : b < 4294967296) (h : (a + c) % 4294967296 = (b + c) % 4294967296) : a = b := by omega
theorem hstep_state {p n q q' : Nat} (hn : n ≤ 32) (hq : q * q' % 4294967296 = 1) {h h' x : Nat} (h1 : h < 4294967296) (h2 : h' < 4294967296) (e : hstep p n q h x = hstep p n q h' x) : h = h' := by
  have a := hmul_inj hq (rot_lt n _ hn (Nat.mod_lt _ (by omega))) (rot_lt n _ hn (Nat.mod_lt _ (by omega))) e
  exact add_inj h1 h2 (rot_inj n hn (Nat.mod_lt _ (by omega)) (Nat.mod_lt _ (by omega)) a)
theorem hstep_word {p p' n q q' : Nat} (hn : n ≤ 32) (hp : p * p' % 4294967296 = 1) (hq : q * q' % 4294967296 = 1) {h x y : Nat} (h1 : x < 4294967296) (h2 : y < 4294967296) (e : hstep p n q h x = hstep p n q h y) : x = y := by
  have a := hmul_inj hq (rot_lt n _ hn (Nat.mod_lt _ (by omega))) (rot_lt n _ hn (Nat.mod_lt _ (by omega))) e
  have b := rot_inj n hn (Nat.mod_lt _ (by omega)) (Nat.mod_lt _ (by omega)) a
  exact hmul_inj hp h1 h2 (add_inj (hmul_lt x p) (hmul_lt y p) (c := h) (by rw [Nat.add_comm _ h, Nat.add_comm _ h]; exact b))
end Go.Proofs.YtcjlcieheepegaaGreatDoor.S2
namespace Go.Proofs.YtcjlcieheepegaaGreatDoor.S2
open Go.RowKit
set_option linter.unusedVariables false
set_option maxRecDepth 20000

/-- A text's bytes as numbers. -/
def BL (s : ByteArray) : List Nat := s.data.toList.map (·.toNat)
theorem BL_length (s : ByteArray) : (BL s).length = s.size := by simp [BL]
theorem BL_lt (s : ByteArray) : ∀ x ∈ BL s, x < 256 := by
  intro x hx
  simp only [BL, List.mem_map] at hx
  obtain ⟨y, _, rfl⟩ := hx
  exact UInt8.toNat_lt y
theorem BL_get? (s : ByteArray) (i : Nat) (h : i < s.size) : (BL s)[i]? = some s[i].toNat := by
  have h' : i < s.data.size := h
  simp only [BL, List.getElem?_map, Array.getElem?_toList, Array.getElem?_eq_getElem h']
  rfl
theorem BL_getD (s : ByteArray) (i : Nat) (h : i < s.size) : s[i].toNat = (BL s).getD i 0 := by
  rw [List.getD_eq_getElem?_getD, BL_get? s i h]; rfl
theorem getD_lt {l : List Nat} (hl : ∀ x ∈ l, x < 256) (i : Nat) : l.getD i 0 < 256 := by
  rw [List.getD_eq_getElem?_getD]
  by_cases h : i < l.length
  · rw [List.getElem?_eq_getElem h]; exact hl _ (List.getElem_mem h)
  · rw [List.getElem?_eq_none (by omega)]; show 0 < 256; omega
theorem getD_app (l r : List Nat) (i : Nat) (h : i < l.length) : (l ++ r).getD i 0 = l.getD i 0 := by
  rw [List.getD_eq_getElem?_getD, List.getD_eq_getElem?_getD, List.getElem?_append_left h]
/-- Four bytes as a number, the lowest first. -/
def wd (l : List Nat) (p : Nat) : Nat := l.getD p 0 + l.getD (p + 1) 0 * 256 + l.getD (p + 2) 0 * 65536 + l.getD (p + 3) 0 * 16777216
theorem wd_lt {l : List Nat} (hl : ∀ x ∈ l, x < 256) (p : Nat) : wd l p < 4294967296 := by
  have h0 := getD_lt hl p
  have h1 := getD_lt hl (p + 1)
  have h2 := getD_lt hl (p + 2)
  have h3 := getD_lt hl (p + 3)
  unfold wd
  omega
theorem wd_app (l r : List Nat) (p : Nat) (h : p + 4 ≤ l.length) : wd (l ++ r) p = wd l p := by
  unfold wd
  rw [getD_app l r p (by omega), getD_app l r (p + 1) (by omega), getD_app l r (p + 2) (by omega), getD_app l r (p + 3) (by omega)]
/-- A lane behind so many stripes. -/
def lan (l : List Nat) (v i : Nat) : Nat → Nat
  | 0 => v
  | j + 1 => hstep 2246822519 13 2654435761 (lan l v i j) (wd l (16 * j + 4 * i))
theorem lan_lt (l : List Nat) (v i j : Nat) (hv : v < 4294967296) : lan l v i j < 4294967296 := by
  cases j with
  | zero => exact hv
  | succ j => exact hstep_lt _ _ _ _ _
theorem lan_app (l r : List Nat) (v i j : Nat) (hi : i < 4) (h : 16 * j ≤ l.length) : lan (l ++ r) v i j = lan l v i j := by
  induction j with
  | zero => rfl
  | succ j ih => simp only [lan]; rw [ih (by omega), wd_app l r _ (by omega)]
def ini (seed i : Nat) : Nat := (seed + (if i = 0 then 606290984 else if i = 1 then 2246822519 else if i = 2 then 0 else 1640531535)) % 4294967296
theorem ini_lt (seed i : Nat) : ini seed i < 4294967296 := Nat.mod_lt _ (by omega)
theorem ini0 (seed : Nat) : ini seed 0 = (seed + 606290984) % 4294967296 := by unfold ini; rw [if_pos rfl]
theorem ini1 (seed : Nat) : ini seed 1 = (seed + 2246822519) % 4294967296 := by unfold ini; rw [if_neg (by omega), if_pos rfl]
theorem ini2 (seed : Nat) : ini seed 2 = seed % 4294967296 := by unfold ini; rw [if_neg (by omega), if_neg (by omega), if_pos rfl, Nat.add_zero]
theorem ini3 (seed : Nat) : ini seed 3 = (seed + 1640531535) % 4294967296 := by unfold ini; rw [if_neg (by omega), if_neg (by omega), if_neg (by omega)]
/-- Four numbers turned and added. -/
def four4 (a b c d : Nat) : Nat := (rot 1 a + rot 7 b + rot 12 c + rot 18 d) % 4294967296
def hbeg (l : List Nat) (seed : Nat) : Nat :=
  if l.length < 16 then (seed + 374761393) % 4294967296
  else four4 (lan l (ini seed 0) 0 (l.length / 16)) (lan l (ini seed 1) 1 (l.length / 16)) (lan l (ini seed 2) 2 (l.length / 16)) (lan l (ini seed 3) 3 (l.length / 16))
theorem hbeg_lt (l : List Nat) (seed : Nat) : hbeg l seed < 4294967296 := by
  unfold hbeg
  split
  · exact Nat.mod_lt _ (by omega)
  · exact Nat.mod_lt _ (by omega)
/-- Words from a place on. -/
def hws (l : List Nat) (at0 h : Nat) : Nat → Nat
  | 0 => h
  | j + 1 => hstep 3266489917 17 668265263 (hws l at0 h j) (wd l (at0 + 4 * j))
theorem hws_lt (l : List Nat) (a h j : Nat) (hh : h < 4294967296) : hws l a h j < 4294967296 := by
  cases j with
  | zero => exact hh
  | succ j => exact hstep_lt _ _ _ _ _
/-- Bytes from a place on. -/
def hbs (l : List Nat) (at0 h : Nat) : Nat → Nat
  | 0 => h
  | j + 1 => hstep 374761393 11 2654435761 (hbs l at0 h j) (l.getD (at0 + j) 0)
theorem hbs_lt (l : List Nat) (a h j : Nat) (hh : h < 4294967296) : hbs l a h j < 4294967296 := by
  cases j with
  | zero => exact hh
  | succ j => exact hstep_lt _ _ _ _ _
def xsh (k x : Nat) : Nat := x ^^^ x / 2 ^ k
theorem xsh_lt (k x : Nat) (hx : x < 4294967296) : xsh k x < 4294967296 :=
  Nat.xor_lt_two_pow (n := 32) (by omega) (Nat.lt_of_le_of_lt (Nat.div_le_self _ _) (by omega))
def spr (h : Nat) : Nat := xsh 16 (hmul (xsh 13 (hmul (xsh 15 h) 2246822519)) 3266489917)
theorem spr_lt (h : Nat) : spr h < 4294967296 := xsh_lt _ _ (hmul_lt _ _)
theorem spr_inj {x y : Nat} (hx : x < 4294967296) (hy : y < 4294967296) (h : spr x = spr y) : x = y := by
  unfold spr at h
  have h1 := xshift_inj 16 (by omega) h
  have h2 := hmul_inj inv3 (xsh_lt _ _ (hmul_lt _ _)) (xsh_lt _ _ (hmul_lt _ _)) h1
  have h3 := xshift_inj 13 (by omega) h2
  have h4 := hmul_inj inv2 (xsh_lt _ _ hx) (xsh_lt _ _ hy) h3
  exact xshift_inj 15 (by omega) h4
/-- The sum ahead of its last turns. -/
def hrest (l : List Nat) (h : Nat) : Nat :=
  hbs l (l.length / 4 * 4) (hws l (l.length / 16 * 16) h (l.length % 16 / 4)) (l.length % 4)
theorem hrest_lt (l : List Nat) (h : Nat) (hh : h < 4294967296) : hrest l h < 4294967296 := hbs_lt _ _ _ _ (hws_lt _ _ _ _ hh)
def hashOf (l : List Nat) (seed : Nat) : Nat := spr (hrest l ((hbeg l seed + l.length) % 4294967296))
theorem hashOf_lt (l : List Nat) (seed : Nat) : hashOf l seed < 4294967296 := spr_lt _

/-- The other lists: two that are alike but at place k. -/
structure Unlike (l r : List Nat) (k : Nat) : Prop where
  len : l.length = r.length
  lt : k < l.length
  same : ∀ i, i ≠ k → l.getD i 0 = r.getD i 0
  other : l.getD k 0 ≠ r.getD k 0
  lb : ∀ x ∈ l, x < 256
  rb : ∀ x ∈ r, x < 256
theorem Unlike.wd_same {l r : List Nat} {k p : Nat} (h : Unlike l r k) (hp : k < p ∨ p + 4 ≤ k) : wd l p = wd r p := by
  unfold wd
  rw [h.same p (by omega), h.same (p + 1) (by omega), h.same (p + 2) (by omega), h.same (p + 3) (by omega)]
theorem Unlike.wd_other {l r : List Nat} {k p : Nat} (h : Unlike l r k) (h1 : p ≤ k) (h2 : k < p + 4) : wd l p ≠ wd r p := by
  have l0 := getD_lt h.lb p
  have l1 := getD_lt h.lb (p + 1)
  have l2 := getD_lt h.lb (p + 2)
  have l3 := getD_lt h.lb (p + 3)
  have r0 := getD_lt h.rb p
  have r1 := getD_lt h.rb (p + 1)
  have r2 := getD_lt h.rb (p + 2)
  have r3 := getD_lt h.rb (p + 3)
  have ho := h.other
  intro e
  unfold wd at e
  rcases (show k = p ∨ k = p + 1 ∨ k = p + 2 ∨ k = p + 3 by omega) with rfl | rfl | rfl | rfl <;> omega
theorem Unlike.lan_same {l r : List Nat} {k : Nat} (h : Unlike l r k) (v i j : Nat) (hi : ∀ j', j' < j → k < 16 * j' + 4 * i ∨ 16 * j' + 4 * i + 4 ≤ k) : lan l v i j = lan r v i j := by
  induction j with
  | zero => rfl
  | succ j ih => simp only [lan]; rw [ih (fun j' hj' => hi j' (by omega)), h.wd_same (hi j (by omega))]
theorem Unlike.lan_other {l r : List Nat} {k : Nat} (h : Unlike l r k) (v i j j0 : Nat) (hv : v < 4294967296) (hj : j0 < j) (h1 : 16 * j0 + 4 * i ≤ k) (h2 : k < 16 * j0 + 4 * i + 4) : lan l v i j ≠ lan r v i j := by
  induction j with
  | zero => omega
  | succ j ih =>
    intro e
    simp only [lan] at e
    by_cases hj' : j0 = j
    · subst hj'
      rw [h.lan_same v i j0 (fun j' hj' => by omega)] at e
      exact h.wd_other h1 h2 (hstep_word (by omega) inv2 inv1 (wd_lt h.lb _) (wd_lt h.rb _) e)
    · rw [h.wd_same (by omega)] at e
      exact ih (by omega) (hstep_state (by omega) inv1 (lan_lt _ _ _ _ hv) (lan_lt _ _ _ _ hv) e)
theorem hws_state {l r : List Nat} {k : Nat} (u : Unlike l r k) (a j h h' : Nat) (hk : k < a) (h1 : h < 4294967296) (h2 : h' < 4294967296) (e : hws l a h j = hws r a h' j) : h = h' := by
  induction j with
  | zero => exact e
  | succ j ih =>
    simp only [hws] at e
    rw [u.wd_same (by omega)] at e
    exact ih (hstep_state (by omega) inv4 (hws_lt _ _ _ _ h1) (hws_lt _ _ _ _ h2) e)
theorem hbs_state {l r : List Nat} {k : Nat} (u : Unlike l r k) (a j h h' : Nat) (hk : k < a) (h1 : h < 4294967296) (h2 : h' < 4294967296) (e : hbs l a h j = hbs r a h' j) : h = h' := by
  induction j with
  | zero => exact e
  | succ j ih =>
    simp only [hbs] at e
    rw [u.same _ (by omega)] at e
    exact ih (hstep_state (by omega) inv1 (hbs_lt _ _ _ _ h1) (hbs_lt _ _ _ _ h2) e)
theorem hws_same {l r : List Nat} {k : Nat} (u : Unlike l r k) (a j h : Nat) (hk : a + 4 * j ≤ k) : hws l a h j = hws r a h j := by
  induction j with
  | zero => rfl
  | succ j ih => simp only [hws]; rw [ih (by omega), u.wd_same (by omega)]
theorem hbs_same {l r : List Nat} {k : Nat} (u : Unlike l r k) (a j h : Nat) (hk : a + j ≤ k) : hbs l a h j = hbs r a h j := by
  induction j with
  | zero => rfl
  | succ j ih => simp only [hbs]; rw [ih (by omega), u.same _ (by omega)]
theorem hws_other {l r : List Nat} {k : Nat} (u : Unlike l r k) (a j h : Nat) (hh : h < 4294967296) (h1 : a ≤ k) (h2 : k < a + 4 * j) : hws l a h j ≠ hws r a h j := by
  induction j with
  | zero => omega
  | succ j ih =>
    intro e
    simp only [hws] at e
    by_cases hj : a + 4 * j ≤ k
    · rw [hws_same u a j h hj] at e
      exact u.wd_other (p := a + 4 * j) (by omega) (by omega) (hstep_word (by omega) inv3 inv4 (wd_lt u.lb _) (wd_lt u.rb _) e)
    · rw [u.wd_same (p := a + 4 * j) (by omega)] at e
      exact ih (by omega) (hstep_state (by omega) inv4 (hws_lt _ _ _ _ hh) (hws_lt _ _ _ _ hh) e)
theorem hbs_other {l r : List Nat} {k : Nat} (u : Unlike l r k) (a j h : Nat) (hh : h < 4294967296) (h1 : a ≤ k) (h2 : k < a + j) : hbs l a h j ≠ hbs r a h j := by
  induction j with
  | zero => omega
  | succ j ih =>
    intro e
    simp only [hbs] at e
    by_cases hj : a + j = k
    · rw [hbs_same u a j h (by omega)] at e
      have hx := hstep_word (by omega) inv5 inv1 (Nat.lt_trans (getD_lt u.lb _) (by omega)) (Nat.lt_trans (getD_lt u.rb _) (by omega)) e
      rw [hj] at hx
      exact u.other hx
    · rw [u.same _ hj] at e
      exact ih (by omega) (hstep_state (by omega) inv1 (hbs_lt _ _ _ _ hh) (hbs_lt _ _ _ _ hh) e)
theorem four4_0 {a a' b c d : Nat} (ha : a < 4294967296) (ha' : a' < 4294967296) (h : four4 a b c d = four4 a' b c d) : a = a' := by
  unfold four4 at h
  exact rot_inj 1 (by omega) ha ha' (add_inj (c := rot 7 b + rot 12 c + rot 18 d) (rot_lt 1 a (by omega) ha) (rot_lt 1 a' (by omega) ha') (by rw [← Nat.add_assoc, ← Nat.add_assoc, ← Nat.add_assoc, ← Nat.add_assoc]; exact h))
theorem four4_1 {a b b' c d : Nat} (ha : b < 4294967296) (ha' : b' < 4294967296) (h : four4 a b c d = four4 a b' c d) : b = b' := by
  unfold four4 at h
  have x := rot_lt 7 b (by omega) ha
  have y := rot_lt 7 b' (by omega) ha'
  exact rot_inj 7 (by omega) ha ha' (by omega)
theorem four4_2 {a b c c' d : Nat} (ha : c < 4294967296) (ha' : c' < 4294967296) (h : four4 a b c d = four4 a b c' d) : c = c' := by
  unfold four4 at h
  have x := rot_lt 12 c (by omega) ha
  have y := rot_lt 12 c' (by omega) ha'
  exact rot_inj 12 (by omega) ha ha' (by omega)
theorem four4_3 {a b c d d' : Nat} (ha : d < 4294967296) (ha' : d' < 4294967296) (h : four4 a b c d = four4 a b c d') : d = d' := by
  unfold four4 at h
  have x := rot_lt 18 d (by omega) ha
  have y := rot_lt 18 d' (by omega) ha'
  exact rot_inj 18 (by omega) ha ha' (by omega)
theorem hbeg_other {l r : List Nat} {k : Nat} (u : Unlike l r k) (seed : Nat) (hk : k < l.length / 16 * 16) : hbeg l seed ≠ hbeg r seed := by
  intro e
  have hlen := u.len
  unfold hbeg at e
  rw [if_neg (by omega), if_neg (by omega), ← hlen] at e
  have hs : ∀ i, i < 4 → i ≠ k % 16 / 4 → lan l (ini seed i) i (l.length / 16) = lan r (ini seed i) i (l.length / 16) := fun i hi hne => u.lan_same _ _ _ (fun j' hj' => by omega)
  have ho : lan l (ini seed (k % 16 / 4)) (k % 16 / 4) (l.length / 16) ≠ lan r (ini seed (k % 16 / 4)) (k % 16 / 4) (l.length / 16) :=
    u.lan_other _ _ _ (k / 16) (ini_lt _ _) (by omega) (by omega) (by omega)
  rcases (show k % 16 / 4 = 0 ∨ k % 16 / 4 = 1 ∨ k % 16 / 4 = 2 ∨ k % 16 / 4 = 3 by omega) with q | q | q | q <;> rw [q] at ho hs
  · rw [hs 1 (by omega) (by omega), hs 2 (by omega) (by omega), hs 3 (by omega) (by omega)] at e
    exact ho (four4_0 (lan_lt _ _ _ _ (ini_lt _ _)) (lan_lt _ _ _ _ (ini_lt _ _)) e)
  · rw [hs 0 (by omega) (by omega), hs 2 (by omega) (by omega), hs 3 (by omega) (by omega)] at e
    exact ho (four4_1 (lan_lt _ _ _ _ (ini_lt _ _)) (lan_lt _ _ _ _ (ini_lt _ _)) e)
  · rw [hs 0 (by omega) (by omega), hs 1 (by omega) (by omega), hs 3 (by omega) (by omega)] at e
    exact ho (four4_2 (lan_lt _ _ _ _ (ini_lt _ _)) (lan_lt _ _ _ _ (ini_lt _ _)) e)
  · rw [hs 0 (by omega) (by omega), hs 1 (by omega) (by omega), hs 2 (by omega) (by omega)] at e
    exact ho (four4_3 (lan_lt _ _ _ _ (ini_lt _ _)) (lan_lt _ _ _ _ (ini_lt _ _)) e)
theorem hbeg_same {l r : List Nat} {k : Nat} (u : Unlike l r k) (seed : Nat) (hk : l.length / 16 * 16 ≤ k) : hbeg l seed = hbeg r seed := by
  have hlen := u.len
  unfold hbeg
  rw [← hlen]
  split
  · rfl
  · rw [u.lan_same _ 0 _ (fun j' hj' => by omega), u.lan_same _ 1 _ (fun j' hj' => by omega), u.lan_same _ 2 _ (fun j' hj' => by omega), u.lan_same _ 3 _ (fun j' hj' => by omega)]
/-- One byte that is another one is told by xxHash32. -/
theorem hashOf_other {l r : List Nat} {k : Nat} (u : Unlike l r k) (seed : Nat) : hashOf l seed ≠ hashOf r seed := by
  intro e
  have hlen := u.len
  have hm : ∀ x, (hbeg x seed + l.length) % 4294967296 < 4294967296 := fun x => Nat.mod_lt _ (by omega)
  unfold hashOf at e
  rw [← hlen] at e
  have e1 := spr_inj (hrest_lt _ _ (hm l)) (hrest_lt _ _ (hm r)) e
  unfold hrest at e1
  rw [← hlen] at e1
  by_cases h1 : k < l.length / 16 * 16
  · have e2 := hbs_state u _ _ _ _ (by omega) (hws_lt _ _ _ _ (hm l)) (hws_lt _ _ _ _ (hm r)) e1
    have e3 := hws_state u _ _ _ _ (by omega) (hm l) (hm r) e2
    exact hbeg_other u seed h1 (add_inj (hbeg_lt _ _) (hbeg_lt _ _) e3)
  · rw [hbeg_same u seed (by omega)] at e1
    by_cases h2 : k < l.length / 4 * 4
    · have e2 := hbs_state u _ _ _ _ (by omega) (hws_lt _ _ _ _ (hm r)) (hws_lt _ _ _ _ (hm r)) e1
      exact hws_other u _ _ _ (hm r) (by omega) (by omega) e2
    · rw [hws_same u _ _ _ (by omega)] at e1
      exact hbs_other u _ _ _ (hws_lt _ _ _ _ (hm r)) (by omega) (by have := u.lt; omega) e1
/-- CRC-32C of bytes. -/
def crcFrom (c : Nat) (l : List Nat) : Nat := 4294967295 ^^^ cM (4294967295 ^^^ c) l
def crcOf (l : List Nat) : Nat := 4294967295 ^^^ cM 4294967295 l
theorem xor32_lt {a b : Nat} (ha : a < 4294967296) (hb : b < 4294967296) : a ^^^ b < 4294967296 := Nat.xor_lt_two_pow (n := 32) ha hb
theorem crcFrom_lt (c : Nat) (l : List Nat) (hc : c < 4294967296) (hl : ∀ x ∈ l, x < 256) : crcFrom c l < 4294967296 := xor32_lt (by omega) (cM_lt l _ (xor32_lt (by omega) hc) hl)
theorem crcOf_zero (l : List Nat) : crcFrom 0 l = crcOf l := rfl
theorem crcOf_lt (l : List Nat) (hl : ∀ x ∈ l, x < 256) : crcOf l < 4294967296 := crcFrom_lt 0 l (by omega) hl
theorem xor_back (a b : Nat) : a ^^^ (a ^^^ b) = b := by rw [← Nat.xor_assoc, Nat.xor_self, Nat.zero_xor]
theorem crcFrom_append (l r : List Nat) : crcFrom (crcOf l) r = crcOf (l ++ r) := by
  unfold crcFrom crcOf
  rw [xor_back, cM_append]
theorem list_split (l : List Nat) (k : Nat) (h : k < l.length) : l = l.take k ++ l.getD k 0 :: l.drop (k + 1) := by
  rw [List.getD_eq_getElem?_getD, List.getElem?_eq_getElem h]
  exact (List.take_append_drop k l).symm.trans (congrArg _ (List.drop_eq_getElem_cons h))
theorem getD_ext {l r : List Nat} (hlen : l.length = r.length) (h : ∀ i, i < l.length → l.getD i 0 = r.getD i 0) : l = r := by
  apply List.ext_getElem hlen
  intro i h1 h2
  have e := h i h1
  rw [List.getD_eq_getElem?_getD, List.getD_eq_getElem?_getD, List.getElem?_eq_getElem h1, List.getElem?_eq_getElem h2] at e
  exact e
theorem getD_take (l : List Nat) (k i : Nat) (h : i < k) : (l.take k).getD i 0 = l.getD i 0 := by
  rw [List.getD_eq_getElem?_getD, List.getD_eq_getElem?_getD, List.getElem?_take_of_lt h]
theorem getD_drop (l : List Nat) (k i : Nat) : (l.drop k).getD i 0 = l.getD (k + i) 0 := by
  rw [List.getD_eq_getElem?_getD, List.getD_eq_getElem?_getD, List.getElem?_drop]
theorem cB_inj {c x y : Nat} (hc : c < 4294967296) (hx : x < 256) (hy : y < 256) (h : cB c x = cB c y) : x = y := by
  unfold cB at h
  have hz : cTn 8 ((c ^^^ x) ^^^ (c ^^^ y)) = 0 := by rw [cTn_xor, h, Nat.xor_self]
  have h0 := xor_zero_eq (cTn_ker 8 _ (xor32_lt (xor32_lt hc (by omega)) (xor32_lt hc (by omega))) hz)
  have := congrArg (c ^^^ ·) h0
  simpa only [xor_back] using this
/-- One byte that is another one is told by CRC-32C. -/
theorem crcOf_other {l r : List Nat} {k : Nat} (u : Unlike l r k) : crcOf l ≠ crcOf r := by
  intro e
  unfold crcOf at e
  have e1 : cM 4294967295 l = cM 4294967295 r := by have := congrArg (4294967295 ^^^ ·) e; simpa only [xor_back] using this
  have hlen := u.len
  have hlt := u.lt
  have ht : l.take k = r.take k := getD_ext (by simp; omega) (fun i hi => by
    have hi' : i < k := by simp at hi; omega
    rw [getD_take _ _ _ hi', getD_take _ _ _ hi']; exact u.same i (by omega))
  have hd : l.drop (k + 1) = r.drop (k + 1) := getD_ext (by simp; omega) (fun i hi => by
    rw [getD_drop, getD_drop]; exact u.same _ (by omega))
  rw [list_split l k hlt, list_split r k (by omega), cM_append, cM_append, ht, hd] at e1
  have htb : ∀ x ∈ r.take k, x < 256 := fun x hx => u.rb x (List.mem_of_mem_take hx)
  have hdb : ∀ x ∈ r.drop (k + 1), x < 256 := fun x hx => u.rb x (List.mem_of_mem_drop hx)
  have hc := cM_lt (r.take k) 4294967295 (by omega) htb
  simp only [cM, List.foldl_cons] at e1
  have e2 := cM_inj _ _ _ (cB_lt _ _ hc (getD_lt u.lb k)) (cB_lt _ _ hc (getD_lt u.rb k)) hdb e1
  exact u.other (cB_inj hc (getD_lt u.lb k) (getD_lt u.rb k) e2)
end Go.Proofs.YtcjlcieheepegaaGreatDoor.S2
