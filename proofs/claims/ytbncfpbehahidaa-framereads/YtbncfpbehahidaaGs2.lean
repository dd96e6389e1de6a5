/- The small functions of package sums and of the document's answer: a step, a turn, a word, products, by contracts. -/
/- CRC-32C of the program and of the document: contracts. -/
/- CRC-32C of the program (Crc, CrcMore) and of the document (more, Crc, CrcMore): contracts. -/
/- Crc and CrcMore, the program's and the document's. -/
import Derived.Test.YtbncfpbehahidaaProg
import Derived.Test.YtbncfpbehahidaaGs1
import Derived.WalkKit
import Derived.WalkLawsBesides
import Derived.WalkSpells
import Derived.Outline
import Derived.LaidEqlPtr
import Derived.BigQuiet
import Derived.Deep.QuietTactic
import Derived.Deep.WholeRow
import Derived.Laws.CopyOwn
namespace Go.Proofs.Ytbncfpbehahidaa.S2
open Go.RowKit
set_option linter.unusedVariables false

theorem ret_int {k : IntKind} {a b : Int} (h : a = b) : Ending.returned (.int k a) = .returned (.int k b) := by rw [h]
theorem and1_u32 (c : Nat) (hc : c < 4294967296) : bits .and .u32 (c : Int) 1 = ((c % 2 : Nat) : Int) := by
  have h := u32_and_nat c 1 hc (by omega)
  rw [show (1 : Int) = ((1 : Nat) : Int) from rfl, h, nat_mask1]
theorem u32_wrap_nat (a : Nat) : IntKind.u32.wrap (a : Int) = ((a % 4294967296 : Nat) : Int) := by
  rw [IntKind.wrap_u32']; omega
theorem or_rot (x n : Nat) (hn : n ≤ 31) (hx : x < 4294967296) : (x * 2 ^ n % 4294967296) ||| (x / 2 ^ (32 - n)) = rot n x := by
  obtain ⟨h1, h2⟩ := rot_parts n x (by omega) hx
  have e32 : 4294967296 = 2 ^ (32 - n) * 2 ^ n := by rw [← Nat.pow_add, show 32 - n + n = 32 by omega]
  unfold rot
  refine nat_join n _ _ ?_ h2
  rw [e32, Nat.mul_mod_mul_right]
  simp
theorem rotate (x n : Nat) (w : World) (hx : x < 4294967296) (h1 : 1 ≤ n) (hn : n ≤ 31) :
    Calls Try.prog 68 #[.int .u32 x, .int .i64 n] w fun e w' => e = .returned (.int .u32 (rot n x : Nat)) ∧ w' = w := by
  have ha : bits .and .u64 (n : Int) 31 = (n : Int) := by
    have h := u64_and_nat n 31 (by omega) (by omega)
    rw [show (31 : Int) = ((31 : Nat) : Int) from rfl, h, nat_mask5]
    omega
  have hlt : (n : Int) < 64 := by omega
  go_enter Try.func68, Try.ntmps68
  go_wp2
  go_ret
  refine ⟨ret_int ?_, rfl⟩
  have e1 : (x : Int) * 2 ^ n % 4294967296 = ((x * 2 ^ n % 4294967296 : Nat) : Int) := by simp
  have e2 : (x : Int) / 2 ^ (32 - n) = ((x / 2 ^ (32 - n) : Nat) : Int) := by simp
  rw [e1, e2, u32_or_nat _ _ (Nat.mod_lt _ (by omega)) (Nat.lt_of_le_of_lt (Nat.div_le_self _ _) hx), or_rot x n hn hx]
theorem xsh_bits (x k d : Nat) (hx : x < 4294967296) (hd : d = 2 ^ k) : bits .xor .u32 (x : Int) ((x : Int) / (d : Nat)) = (xsh k x : Nat) := by
  have e : (x : Int) / (d : Nat) = ((x / d : Nat) : Int) := by simp
  rw [e, u32_xor_nat _ _ hx (Nat.lt_of_le_of_lt (Nat.div_le_self _ _) hx), hd]
  rfl
theorem hmul_bits (x p : Nat) : (x : Int) * (p : Nat) % 4294967296 = (hmul x p : Nat) := by simp [hmul]
theorem spread (x : Nat) (w : World) (hx : x < 4294967296) :
    Calls Try.prog 70 #[.int .u32 x] w fun e w' => e = .returned (.int .u32 (spr x : Nat)) ∧ w' = w := by
  go_enter Try.func70, Try.ntmps70
  go_wp2
  go_ret
  refine ⟨ret_int ?_, rfl⟩
  have a1 := xsh_bits x 15 32768 hx rfl
  have a2 := hmul_bits (xsh 15 x) 2246822519
  have a3 := xsh_bits (hmul (xsh 15 x) 2246822519) 13 8192 (hmul_lt _ _) rfl
  have a4 := hmul_bits (xsh 13 (hmul (xsh 15 x) 2246822519)) 3266489917
  have a5 := xsh_bits (hmul (xsh 13 (hmul (xsh 15 x) 2246822519)) 3266489917) 16 65536 (hmul_lt _ _) rfl
  simp only [Int.cast_ofNat_Int] at a1 a2 a3 a4 a5
  rw [a1, a2, a3, a4, a5]
  rfl
/-- The number that four bytes are, one by one. -/
def wdN (f : Nat → Nat) : Nat → Nat
  | 0 => 0
  | n + 1 => wdN f n + f n * 2 ^ (8 * n)
theorem wdN_lt (f : Nat → Nat) (hf : ∀ i, f i < 256) (n : Nat) : wdN f n < 2 ^ (8 * n) := by
  induction n with
  | zero => simp [wdN]
  | succ n ih =>
    have h : f n * 2 ^ (8 * n) ≤ 255 * 2 ^ (8 * n) := Nat.mul_le_mul_right _ (by have := hf n; omega)
    rw [show 8 * (n + 1) = 8 * n + 8 by omega, Nat.pow_add]
    simp only [wdN]
    omega
theorem wdN_four (f : Nat → Nat) : wdN f 4 = f 0 + f 1 * 256 + f 2 * 65536 + f 3 * 16777216 := by simp [wdN]
theorem or_byte32 (x y k : Nat) (hx : x < 2 ^ (8 * k)) (hy : y < 256) (hk : k ≤ 3) :
    bits .or .u32 (x : Int) ((y : Int) * 2 ^ (8 * k) % 4294967296) = ((x + y * 2 ^ (8 * k) : Nat) : Int) := by
  have hle : 2 ^ (8 * k) ≤ 2 ^ 24 := Nat.pow_le_pow_right (by omega) (by omega)
  have hm : y * 2 ^ (8 * k) ≤ 255 * 2 ^ (8 * k) := Nat.mul_le_mul_right _ (by omega)
  have e2 : (y : Int) * 2 ^ (8 * k) % 4294967296 = ((y * 2 ^ (8 * k) : Nat) : Int) := by
    have : (y : Int) * 2 ^ (8 * k) = ((y * 2 ^ (8 * k) : Nat) : Int) := by simp
    rw [this]
    omega
  rw [e2, u32_or_nat _ _ (by omega) (by omega), Nat.or_comm, nat_join (8 * k) (y * 2 ^ (8 * k)) x (by simp) hx]
  omega
/-- Four bytes of a row. -/
theorem word (b o n cap : Nat) (f : Nat → Nat) (w : World) (hn : 4 ≤ n) (hf : ∀ i, f i < 256) (hc : ∀ i, i < 4 → w.cell? ⟨b, o + i, none⟩ = some (.int .u8 (f i : Nat))) :
    Calls Try.prog 69 #[.slice (some ⟨b, o, none⟩) n cap] w fun e w' => e = .returned (.int .u32 (wdN f 4 : Nat)) ∧ w' = w := by
  have HF : Hid (∀ i, f i < 256) := hf
  have HC : Hid (∀ i, i < 4 → w.cell? ⟨b, o + i, none⟩ = some (.int .u8 (f i : Nat))) := hc
  clear hf hc
  go_enter Try.func69, Try.ntmps69
  go_wp2
  go_loop [3, 5] (fun x i => ∃ j : Nat, j ≤ 4 ∧ i = .int .i64 j ∧ x = .int .u32 (wdN f j : Nat)) (fun _ i => 4 - (intOf i).toNat)
  case atStart => exact ⟨0, Nat.zero_le _, rfl, rfl⟩
  case round =>
    obtain ⟨j, hj, rfl, rfl⟩ := hrel
    by_cases hlt : j < 4
    · have hix : j < n := by omega
      have hcell := HC.out j hlt
      go_wp2
      go_round
      case rel =>
        refine ⟨j + 1, by omega, by go_num, congrArg (Value.int .u32) ?_⟩
        have hb := HF.out j
        rw [show ((f j : Nat) : Int) % 4294967296 = (f j : Int) by omega, or_byte32 _ _ _ (wdN_lt f HF.out j) hb (by omega)]
        rfl
      case measure => simp [intOf]; omega
    · obtain rfl : j = 4 := by omega
      go_wp2
      go_ret
      exact ⟨rfl, rfl⟩
theorem and_all (n : Nat) : n &&& 4294967295 = n % 4294967296 := Nat.and_two_pow_sub_one_eq_mod n 32
theorem i64_and_all (n : Int) : bits .and .i64 n 4294967295 = n % 4294967296 := by
  have h127 : (BitVec.ofInt 64 4294967295).toNat = 2 ^ 32 - 1 := by decide
  have key : (BitVec.ofInt 64 n &&& BitVec.ofInt 64 4294967295).toNat = (n % ((2 ^ 64 : Nat) : Int)).toNat % 2 ^ 32 := by
    rw [BitVec.toNat_and, BitVec.toNat_ofInt, h127, Nat.and_two_pow_sub_one_eq_mod]
  show IntKind.i64.wrap ((BitVec.ofInt 64 n &&& BitVec.ofInt 64 4294967295).toNat : Nat) = n % 4294967296
  rw [key, IntKind.wrap_i64]
  omega
theorem i64_xor_nat (a b : Nat) (ha : a < 9223372036854775808) (hb : b < 9223372036854775808) : bits .xor .i64 (a : Int) (b : Int) = ((a ^^^ b : Nat) : Int) := by
  have h : a ^^^ b < 2 ^ 63 := Nat.xor_lt_two_pow (by omega) (by omega)
  have key : (BitVec.ofInt 64 (a : Int) ^^^ BitVec.ofInt 64 (b : Int)).toNat = a ^^^ b := by
    rw [BitVec.toNat_xor, ofInt_u64 a (by omega), ofInt_u64 b (by omega)]
  show IntKind.i64.wrap ((BitVec.ofInt 64 (a : Int) ^^^ BitVec.ofInt 64 (b : Int)).toNat : Nat) = _
  rw [key, IntKind.wrap_i64]
  omega
theorem i64_or_nat (a b : Nat) (ha : a < 9223372036854775808) (hb : b < 9223372036854775808) : bits .or .i64 (a : Int) (b : Int) = ((a ||| b : Nat) : Int) := by
  have h : a ||| b < 2 ^ 63 := Nat.or_lt_two_pow (by omega) (by omega)
  have key : (BitVec.ofInt 64 (a : Int) ||| BitVec.ofInt 64 (b : Int)).toNat = a ||| b := by
    rw [BitVec.toNat_or, ofInt_u64 a (by omega), ofInt_u64 b (by omega)]
  show IntKind.i64.wrap ((BitVec.ofInt 64 (a : Int) ||| BitVec.ofInt 64 (b : Int)).toNat : Nat) = _
  rw [key, IntKind.wrap_i64]
  omega
theorem mul_bits (a p : Nat) (ha : a < 4294967296) (hp : p < 4294967296) :
    wrap64 (wrap64 ((wrap64 ((a : Int) * ((p : Int) / 65536))).tmod 65536 * 65536) + wrap64 ((a : Int) * ((p : Int) % 65536))) % 4294967296 = ((hmul a p : Nat) : Int) := by
  have e1 : (a : Int) * ((p : Int) / 65536) = ((a * (p / 65536) : Nat) : Int) := by simp
  have e2 : (a : Int) * ((p : Int) % 65536) = ((a * (p % 65536) : Nat) : Int) := by simp
  have b1 : a * (p / 65536) ≤ 4294967295 * 65535 := Nat.mul_le_mul (by omega) (by omega)
  have b2 : a * (p % 65536) ≤ 4294967295 * 65535 := Nat.mul_le_mul (by omega) (by omega)
  have hm : a * p = a * (p / 65536) * 65536 + a * (p % 65536) := by
    rw [Nat.mul_assoc, ← Nat.mul_add, Nat.mul_comm (p / 65536) 65536, Nat.div_add_mod]
  unfold hmul
  rw [e1, e2, hm]
  generalize a * (p / 65536) = u at *
  generalize a * (p % 65536) = v at *
  rw [IntWalk.wrap64_in (u : Int) ⟨by omega, by omega⟩, IntWalk.wrap64_in (v : Int) ⟨by omega, by omega⟩]
  have e3 : (u : Int).tmod 65536 = ((u % 65536 : Nat) : Int) := by rw [Int.tmod_eq_emod_of_nonneg (by omega)]; omega
  rw [e3, IntWalk.wrap64_in (((u % 65536 : Nat) : Int) * 65536) ⟨by omega, by omega⟩, IntWalk.wrap64_in _ ⟨by omega, by omega⟩]
  omega
theorem turn_bits (x n : Nat) (hx : x < 4294967296) (h1 : 1 ≤ n) (hn : n ≤ 30) :
    bits .and .i64 (bits .or .i64 (wrap64 ((x : Int) * 2 ^ n)) ((x : Int) / 2 ^ (32 - n))) 4294967295 = ((rot n x : Nat) : Int) := by
  have e1 : (x : Int) * 2 ^ n = ((x * 2 ^ n : Nat) : Int) := by simp
  have e2 : (x : Int) / 2 ^ (32 - n) = ((x / 2 ^ (32 - n) : Nat) : Int) := by simp
  have hp : 2 ^ n ≤ 2 ^ 30 := Nat.pow_le_pow_right (by omega) hn
  have b1 : x * 2 ^ n ≤ 4294967295 * 2 ^ 30 := Nat.mul_le_mul (by omega) hp
  obtain ⟨q1, q2⟩ := rot_parts n x (by omega) hx
  have hle : x / 2 ^ (32 - n) ≤ x := Nat.div_le_self _ _
  rw [e1, e2, IntWalk.wrap64_in _ ⟨by omega, by omega⟩, i64_or_nat _ _ (by omega) (by omega), nat_join n (x * 2 ^ n) _ (by simp) q2, i64_and_all]
  have hr := rot_lt n x (by omega) hx
  have hj : rot n x = x * 2 ^ n % 4294967296 + x / 2 ^ (32 - n) := rfl
  omega
theorem refMul (a p : Nat) (w : World) (ha : a < 4294967296) (hp : p < 4294967296) :
    Calls Try.prog 51 #[.int .i64 a, .int .i64 p] w fun e w' => e = .returned (.int .i64 (hmul a p : Nat)) ∧ w' = w := by
  go_enter Try.func51, Try.ntmps51
  go_wp2
  go_ret
  refine ⟨ret_int ?_, rfl⟩
  rw [i64_and_all, mul_bits a p ha hp]
theorem refTurned (x n : Nat) (w : World) (hx : x < 4294967296) (h1 : 1 ≤ n) (hn : n ≤ 30) :
    Calls Try.prog 52 #[.int .i64 x, .int .i64 n] w fun e w' => e = .returned (.int .i64 (rot n x : Nat)) ∧ ∃ k, w' = w.drewN k := by
  have hlt : (n : Int) < 64 := by omega
  have hge : ¬ ((n : Int) < 0) := by omega
  have hge2 : ¬ ((32 - (n : Int)) < 0) := by omega
  have hlt2 : (32 - (n : Int)) < 64 := by omega
  go_enter Try.func52, Try.ntmps52
  go_wp2
  go_quiet (fail)
  go_wp2
  go_ret
  exact ⟨ret_int (turn_bits x n hx h1 hn), nq, rfl⟩
theorem refFour (s : ByteArray) (p : Nat) (w : World) (hp : p + 4 ≤ s.size) (hs : s.size ≤ 140737488351232) :
    Calls Try.prog 53 #[.string s, .int .i64 p] w fun e w' => e = .returned (.int .i64 (wd (BL s) p : Nat)) ∧ ∃ k, w' = w.drewN k := by
  have h0 : p < s.size := by omega
  have h1 : p + 1 < s.size := by omega
  have h2 : p + 2 < s.size := by omega
  have h3 : p + 3 < s.size := by omega
  have e1 : IntKind.i64.wrap ((p : Int) + 1) = (p : Int) + 1 := by rw [IntKind.wrap_i64]; omega
  have e2 : IntKind.i64.wrap ((p : Int) + 2) = (p : Int) + 2 := by rw [IntKind.wrap_i64]; omega
  have e3 : IntKind.i64.wrap ((p : Int) + 3) = (p : Int) + 3 := by rw [IntKind.wrap_i64]; omega
  have f1 : ¬ ((p : Int) + 1 < 0) := by omega
  have f2 : ¬ ((p : Int) + 2 < 0) := by omega
  have f3 : ¬ ((p : Int) + 3 < 0) := by omega
  have k1 : (p : Int) + 1 < (s.size : Int) := by omega
  have k2 : (p : Int) + 2 < (s.size : Int) := by omega
  have k3 : (p : Int) + 3 < (s.size : Int) := by omega
  have g1 : ((p : Int) + 1).toNat = p + 1 := by omega
  have g2 : ((p : Int) + 2).toNat = p + 2 := by omega
  have g3 : ((p : Int) + 3).toNat = p + 3 := by omega
  go_enter Try.func53, Try.ntmps53
  go_wp2
  go_quiet (fail)
  go_wp2
  go_ret
  refine ⟨ret_int ?_, nq, rfl⟩
  have a0 := UInt8.toNat_lt s[p]
  have a1 := UInt8.toNat_lt s[p + 1]
  have a2 := UInt8.toNat_lt s[p + 2]
  have a3 := UInt8.toNat_lt s[p + 3]
  unfold wd
  rw [← BL_getD s p h0, ← BL_getD s (p + 1) h1, ← BL_getD s (p + 2) h2, ← BL_getD s (p + 3) h3]
  generalize s[p].toNat = b0 at *
  generalize s[p + 1].toNat = b1 at *
  generalize s[p + 2].toNat = b2 at *
  generalize s[p + 3].toNat = b3 at *
  rw [IntWalk.wrap64_in (b0 : Int) ⟨by omega, by omega⟩, IntWalk.wrap64_in (b1 : Int) ⟨by omega, by omega⟩, IntWalk.wrap64_in (b2 : Int) ⟨by omega, by omega⟩, IntWalk.wrap64_in (b3 : Int) ⟨by omega, by omega⟩]
  rw [IntWalk.wrap64_in ((b1 : Int) * 256) ⟨by omega, by omega⟩, IntWalk.wrap64_in ((b2 : Int) * 65536) ⟨by omega, by omega⟩, IntWalk.wrap64_in ((b3 : Int) * 16777216) ⟨by omega, by omega⟩]
  rw [IntWalk.wrap64_in ((b0 : Int) + _) ⟨by omega, by omega⟩, IntWalk.wrap64_in ((b0 : Int) + _ + _) ⟨by omega, by omega⟩, IntWalk.wrap64_in _ ⟨by omega, by omega⟩]
  omega
end Go.Proofs.Ytbncfpbehahidaa.S2
namespace Go.Proofs.Ytbncfpbehahidaa.S2
open Go.RowKit
set_option linter.unusedVariables false

/-- w' is w but for block b, for draws and for new blocks. -/
structure Only (b : Nat) (w w' : World) : Prop where
  os : w'.os = w.os
  tape : w'.tape = w.tape
  output : w'.output = w.output
  size : w.heap.size ≤ w'.heap.size
  block : ∀ k, k < w.heap.size → k ≠ b → w'.heap[k]? = w.heap[k]?
theorem Only.refl (b : Nat) (w : World) : Only b w w := ⟨rfl, rfl, rfl, Nat.le_refl _, fun _ _ _ => rfl⟩
theorem Only.trans {b : Nat} {u v w : World} (h : Only b u v) (k : Only b v w) : Only b u w :=
  ⟨k.os.trans h.os, k.tape.trans h.tape, k.output.trans h.output, Nat.le_trans h.size k.size, fun i hl hi => (k.block i (Nat.lt_of_lt_of_le hl h.size) hi).trans (h.block i hl hi)⟩
theorem Only.drewN {b : Nat} {w w' : World} (h : Only b w w') (n : Nat) : Only b w (w'.drewN n) := ⟨h.os, h.tape, h.output, h.size, h.block⟩
theorem Only.undrew {b : Nat} {w w' : World} {n : Nat} (h : Only b (w.drewN n) w') : Only b w w' := ⟨h.os, h.tape, h.output, h.size, h.block⟩
theorem Only.setCell (b i : Nat) (w : World) (u : Value) : Only b w (w.setCell ⟨b, i, none⟩ u) :=
  ⟨rfl, rfl, rfl, by simp [World.setCell], fun k _ hk => Below.heap_setCell _ _ _ _ hk⟩
theorem Only.of_below {b : Nat} {w w' : World} (h : Below w.heap.size w w') : Only b w w' := ⟨h.os, h.tape, h.output, h.size, fun k hk _ => h.block k hk⟩
theorem Only.below {b B : Nat} {w w' : World} (h : Only b w w') (hb : B ≤ b) (hB : B ≤ w.heap.size) : Below B w w' :=
  ⟨h.os, h.tape, h.output, h.size, fun k hk => h.block k (by omega) (by omega)⟩
theorem below_drewN {B : Nat} {w w' : World} (h : Below B w w') (n : Nat) : Below B w (w'.drewN n) := ⟨h.os, h.tape, h.output, h.size, h.block⟩
theorem below_undrew {B : Nat} {w w' : World} {n : Nat} (h : Below B (w.drewN n) w') : Below B w w' := ⟨h.os, h.tape, h.output, h.size, h.block⟩
theorem block_setCell {w : World} {b i : Nat} {cs : Array Value} {t : TypeId} {u : Value} (h : w.heap[b]? = some (.cells cs t (0, 0))) : (w.setCell ⟨b, i, none⟩ u).heap[b]? = some (.cells (cs.setIfInBounds i u) t (0, 0)) := by
  have hlt := lt_of_block h
  have h' : w.heap[b] = .cells cs t (0, 0) := by simpa [Array.getElem?_eq_getElem hlt] using h
  show (w.heap.modify b _)[b]? = _
  rw [Array.getElem?_eq_getElem (by simpa using hlt), Array.getElem_modify_self, h']
  rfl

/-- The table as it grows: d divides a place, or bt does and the place is below h. -/
def tv (d bt h i : Nat) : Nat := if i % d = 0 ∨ (i % bt = 0 ∧ i < h) then cTn 8 i else 0
def tc (d bt h : Nat) : Array Value := ((List.range 256).map fun i => Value.int .u32 (tv d bt h i : Nat)).toArray
theorem tc_size (d bt h : Nat) : (tc d bt h).size = 256 := by simp [tc]
theorem tc_get (d bt h i : Nat) (hi : i < 256) : (tc d bt h)[i]? = some (.int .u32 (tv d bt h i : Nat)) := by
  simp [tc, hi]
theorem tc_ext {d bt h d' bt' h' : Nat} (e : ∀ i, i < 256 → tv d bt h i = tv d' bt' h' i) : tc d bt h = tc d' bt' h' := by
  unfold tc
  congr 1
  apply List.map_congr_left
  intro i hi
  rw [e i (by simpa using hi)]
theorem tc_zero : tc 256 1 0 = Array.replicate 256 (.int .u32 0) := by
  apply Array.ext_getElem?
  intro i
  by_cases hi : i < 256
  · rw [tc_get _ _ _ _ hi]
    have : tv 256 1 0 i = 0 := by
      unfold tv
      by_cases h0 : i = 0
      · subst h0; rfl
      · rw [if_neg (by omega)]
    rw [this]
    simp [hi]
  · rw [Array.getElem?_eq_none (by rw [tc_size]; omega)]
    simp [hi]
/-- The eight bits' shares, from the highest bit down. -/
def Pow8 (d j : Nat) : Prop := (d = 256 ∧ j = 0) ∨ (d = 128 ∧ j = 1) ∨ (d = 64 ∧ j = 2) ∨ (d = 32 ∧ j = 3) ∨ (d = 16 ∧ j = 4) ∨ (d = 8 ∧ j = 5) ∨ (d = 4 ∧ j = 6) ∨ (d = 2 ∧ j = 7) ∨ (d = 1 ∧ j = 8)
theorem share_at (j : Nat) (hj : j < 8) : cT (cTn j 1) = cTn 8 (2 ^ (7 - j)) ∧ cTn (j + 1) 1 = cT (cTn j 1) := by
  have h : ∀ j : Fin 8, (cT (cTn j.val 1) == cTn 8 (2 ^ (7 - j.val)) && cTn (j.val + 1) 1 == cT (cTn j.val 1)) = true := by decide +kernel
  have := h ⟨j, hj⟩
  simpa using this
theorem pow8_share {d j : Nat} (p : Pow8 d j) (hd : d ≠ 1) : cT (cTn j 1) = cTn 8 (d / 2) ∧ cTn (j + 1) 1 = cT (cTn j 1) := by
  have hj : j < 8 := by unfold Pow8 at p; omega
  have e := share_at j hj
  have hp : 2 ^ (7 - j) = d / 2 := by
    rcases p with ⟨rfl, rfl⟩ | ⟨rfl, rfl⟩ | ⟨rfl, rfl⟩ | ⟨rfl, rfl⟩ | ⟨rfl, rfl⟩ | ⟨rfl, rfl⟩ | ⟨rfl, rfl⟩ | ⟨rfl, rfl⟩ | ⟨rfl, rfl⟩
    all_goals first | rfl | exact absurd rfl hd
  rw [hp] at e
  exact e
theorem pow8_next {d j : Nat} (p : Pow8 d j) (hd : d ≠ 1) : Pow8 (d / 2) (j + 1) := by
  rcases p with ⟨rfl, rfl⟩ | ⟨rfl, rfl⟩ | ⟨rfl, rfl⟩ | ⟨rfl, rfl⟩ | ⟨rfl, rfl⟩ | ⟨rfl, rfl⟩ | ⟨rfl, rfl⟩ | ⟨rfl, rfl⟩ | ⟨rfl, rfl⟩
  all_goals first | exact absurd rfl hd | (unfold Pow8; omega)
theorem pow8_le {d j : Nat} (p : Pow8 d j) : 1 ≤ d ∧ d ≤ 256 ∧ d / 2 ≤ 128 := by
  rcases p with ⟨rfl, rfl⟩ | ⟨rfl, rfl⟩ | ⟨rfl, rfl⟩ | ⟨rfl, rfl⟩ | ⟨rfl, rfl⟩ | ⟨rfl, rfl⟩ | ⟨rfl, rfl⟩ | ⟨rfl, rfl⟩ | ⟨rfl, rfl⟩ <;> omega
theorem pow8_bounds {d j h : Nat} (p : Pow8 d j) (hd : d ≠ 1) (hh : h % d = 0) (hlt : h < 256) : 0 < d / 2 ∧ 2 * (d / 2) = d ∧ h + d / 2 < 256 ∧ h + d ≤ 256 ∧ (h + d) % d = 0 := by
  rcases p with ⟨rfl, rfl⟩ | ⟨rfl, rfl⟩ | ⟨rfl, rfl⟩ | ⟨rfl, rfl⟩ | ⟨rfl, rfl⟩ | ⟨rfl, rfl⟩ | ⟨rfl, rfl⟩ | ⟨rfl, rfl⟩ | ⟨rfl, rfl⟩
  all_goals first | exact absurd rfl hd | omega
theorem pow8_store {d j h : Nat} (p : Pow8 d j) (hd : d ≠ 1) (hh : h % d = 0) (hlt : h < 256) :
    (tc d (d / 2) h).setIfInBounds (h + d / 2) (.int .u32 (cTn 8 h ^^^ cTn 8 (d / 2) : Nat)) = tc d (d / 2) (h + d) := by
  have hx : cTn 8 (h + d / 2) = cTn 8 h ^^^ cTn 8 (d / 2) := by
    rw [← cTn_xor]
    congr 1
    rcases p with ⟨rfl, rfl⟩ | ⟨rfl, rfl⟩ | ⟨rfl, rfl⟩ | ⟨rfl, rfl⟩ | ⟨rfl, rfl⟩ | ⟨rfl, rfl⟩ | ⟨rfl, rfl⟩ | ⟨rfl, rfl⟩ | ⟨rfl, rfl⟩
    · exact (xor_join 8 h 128 hh (by omega)).symm
    · exact (xor_join 7 h 64 hh (by omega)).symm
    · exact (xor_join 6 h 32 hh (by omega)).symm
    · exact (xor_join 5 h 16 hh (by omega)).symm
    · exact (xor_join 4 h 8 hh (by omega)).symm
    · exact (xor_join 3 h 4 hh (by omega)).symm
    · exact (xor_join 2 h 2 hh (by omega)).symm
    · exact (xor_join 1 h 1 hh (by omega)).symm
    · exact absurd rfl hd
  have hin : h + d / 2 < 256 := by
    clear hx
    rcases p with ⟨rfl, rfl⟩ | ⟨rfl, rfl⟩ | ⟨rfl, rfl⟩ | ⟨rfl, rfl⟩ | ⟨rfl, rfl⟩ | ⟨rfl, rfl⟩ | ⟨rfl, rfl⟩ | ⟨rfl, rfl⟩ | ⟨rfl, rfl⟩ <;> omega
  apply Array.ext_getElem?
  intro i
  rw [Array.getElem?_setIfInBounds, tc_size]
  by_cases hi : i < 256
  · rw [tc_get _ _ _ _ hi, tc_get _ _ _ _ hi]
    by_cases he : h + d / 2 = i
    · subst he
      rw [if_pos rfl, if_pos hi]
      unfold tv
      rw [if_pos (by right; clear hx; rcases p with ⟨rfl, rfl⟩ | ⟨rfl, rfl⟩ | ⟨rfl, rfl⟩ | ⟨rfl, rfl⟩ | ⟨rfl, rfl⟩ | ⟨rfl, rfl⟩ | ⟨rfl, rfl⟩ | ⟨rfl, rfl⟩ | ⟨rfl, rfl⟩ <;> omega), hx]
    · rw [if_neg he]
      congr 3
      unfold tv
      by_cases ha : i % d = 0 ∨ i % (d / 2) = 0 ∧ i < h
      · rw [if_pos ha, if_pos (by omega)]
      · rw [if_neg ha, if_neg (by clear hx; rcases p with ⟨rfl, rfl⟩ | ⟨rfl, rfl⟩ | ⟨rfl, rfl⟩ | ⟨rfl, rfl⟩ | ⟨rfl, rfl⟩ | ⟨rfl, rfl⟩ | ⟨rfl, rfl⟩ | ⟨rfl, rfl⟩ | ⟨rfl, rfl⟩ <;> omega)]
  · rw [Array.getElem?_eq_none (by rw [tc_size]; omega), Array.getElem?_eq_none (by rw [tc_size]; omega), if_neg (by omega)]
theorem pow8_shut {d j : Nat} (p : Pow8 d j) (hd : d ≠ 1) : tc d (d / 2) 256 = tc (d / 2) 1 0 := tc_ext fun i hi => by
  unfold tv
  by_cases ha : i % (d / 2) = 0
  · rw [if_pos (by omega), if_pos (by omega)]
  · rw [if_neg (by rcases p with ⟨rfl, rfl⟩ | ⟨rfl, rfl⟩ | ⟨rfl, rfl⟩ | ⟨rfl, rfl⟩ | ⟨rfl, rfl⟩ | ⟨rfl, rfl⟩ | ⟨rfl, rfl⟩ | ⟨rfl, rfl⟩ | ⟨rfl, rfl⟩ <;> omega), if_neg (by omega)]
theorem pow8_open (d : Nat) : tc d 1 0 = tc d (d / 2) 0 := tc_ext fun i hi => by
  unfold tv
  by_cases ha : i % d = 0
  · rw [if_pos (by omega), if_pos (by omega)]
  · rw [if_neg (by omega), if_neg (by omega)]
/-- The whole table. -/
def tab : Array Value := tc 1 1 0
theorem tab_size : tab.size = 256 := tc_size _ _ _
theorem tab_get (i : Nat) (hi : i < 256) : tab[i]? = some (.int .u32 (cTn 8 i : Nat)) := by
  unfold tab
  rw [tc_get _ _ _ _ hi]
  unfold tv
  rw [if_pos (by omega)]
theorem tab_one : tab.all (·.oneCell') = true := by
  unfold tab tc
  simp [Value.oneCell']
theorem run_loadCells_at {P : Program} (w : World) (g : Nat) (t : TypeId) (c : Array Value) (n : Nat) (hn : c.size = n) (hg : w.heap[g]? = some (.cells c t (0, 0))) :
    (loadCellsFrom ⟨g, 0, none⟩ 0 n #[]).run P w = .ok c w := by
  subst hn
  have := run_loadCells_list (P := P) w ⟨g, 0, none⟩ c.toList (fun j v hv => by
    have hadd : (⟨g, 0, none⟩ : Addr).add j = ⟨g, j, none⟩ := by unfold Addr.add; split <;> simp_all
    rw [hadd, cell_of_row _ _ j c t (0, 0) hg]
    simpa using hv)
  simpa [loadCells] using this
theorem oper_load {P : Program} {o : Oper} {a : Act} {w : World} {K : Act → World → Prop} {Q : Exit → Act → World → Prop} (t : TypeId) (x : Operand) (ad : Addr) (v : Value) (ho : o.op = .load t x) (hx : a.eval x = .pointer (some ad))
    (hr : (loadVar t ad).run P w = .ok v w) (h : K (a.put o.dst v) w) : Oper.wp P o a w K Q := by
  have hl : (Instr.loadAt t (.pointer (some ad))).run P w = .ok v w := by
    simp only [Instr.loadAt, Instr.sureAddr, Sem.run_bind, Sem.run_pure, Result.andThen]
    exact hr
  unfold Oper.wp
  simp [execOp, ho, hx, hl, Result.andThen]
  exact h
theorem run_storeCells_blk {P : Program} (w : World) (g : Nat) (t ty : TypeId) (old cells : Array Value) (hg : w.heap[g]? = some (.cells old t (0, 0))) (hi : (P.info? ty).map (·.size) = some cells.size)
    (ho : old.size = cells.size) (h1 : cells.all (·.oneCell') = true) :
    (storeCells ⟨g, 0, none⟩ cells.toList 0).run P w = .ok () (w.setRow g cells) := by
  have := run_storeVar_row (P := P) w g t ty old cells hg hi ho h1
  cases hq : P.info? ty with
  | none => simp [hq] at hi
  | some i =>
    have hs : cells.size = i.size := by simp [hq] at hi; omega
    simpa [storeVar, sizeOf, typeInfo, hq, Value.cells, hs] using this
theorem results_cell {fn : Func} {p : Tmp} {ty : TypeId} (h : fn.results = #[.cell p ty]) (tmps : Array Value) (P : Program) (w : World) :
    (results fn tmps).run P w = ((asAddr (tmps.getD p undef)).run P w).andThen fun a w₁ => (loadVar ty a).run P w₁ := by
  simp only [results, h]
  simp [Sem.run_bind, Result.andThen]
end Go.Proofs.Ytbncfpbehahidaa.S2
namespace Go.Proofs.Ytbncfpbehahidaa.S2
open Go.RowKit
set_option linter.unusedVariables false

theorem take_BL (s : ByteArray) (i : Nat) (h : i < s.size) : (BL s).take (i + 1) = (BL s).take i ++ [s[i].toNat] := by
  rw [List.take_add_one, BL_get? s i h]; rfl
theorem take_all (s : ByteArray) : (BL s).take s.size = BL s := List.take_of_length_le (by rw [BL_length]; exact Nat.le_refl _)
/-- A byte by the table. -/
theorem tab_step (c b : Nat) (hb : b < 256) : c / 256 ^^^ cTn 8 ((c % 256) ^^^ b) = cB c b := by
  unfold cB
  have hc : c = (c / 256) * 2 ^ 8 ^^^ c % 256 := by
    rw [xor_join 8 _ _ (by simp) (by omega)]
    omega
  have e : c ^^^ b = ((c % 256) ^^^ b) ^^^ (c / 256) * 2 ^ 8 := by
    conv => lhs; rw [hc]
    rw [Nat.xor_comm ((c / 256) * 2 ^ 8), Nat.xor_assoc, Nat.xor_assoc, Nat.xor_comm b]
  rw [e, cT_high 8 _ _ ⟨c / 256, rfl⟩, Nat.mul_div_cancel _ (by decide), Nat.xor_comm]
theorem u32_not (c : Nat) (hc : c < 4294967296) : bits .xor .u32 IntKind.u32.max (c : Int) = ((4294967295 ^^^ c : Nat) : Int) := by
  have hm : IntKind.u32.max = ((4294967295 : Nat) : Int) := by decide
  rw [hm]
  exact u32_xor_nat 4294967295 c (by omega) hc
theorem u32_unsigned : IntKind.u32.signed = false := rfl
end Go.Proofs.Ytbncfpbehahidaa.S2
namespace Go.Proofs.Ytbncfpbehahidaa.S2
open Go.RowKit
set_option linter.unusedVariables false

theorem rem2 (y : Nat) : ((y : Int).tmod 2 == 1) = decide (y % 2 = 1) := by
  have e : (y : Int).tmod 2 = ((y % 2 : Nat) : Int) := by rw [Int.tmod_eq_emod_of_nonneg (by omega)]; omega
  rw [e]
  rcases Nat.mod_two_eq_zero_or_one y with h | h <;> rw [h] <;> rfl
end Go.Proofs.Ytbncfpbehahidaa.S2
