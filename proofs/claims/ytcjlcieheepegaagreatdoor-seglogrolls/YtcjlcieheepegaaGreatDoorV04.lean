/- The small functions of package sums and of the document's answer: a step, a turn, a word, products, by contracts. -/
import Derived.Test.YtcjlcieheepegaaGreatDoorProg
import Derived.Test.YtcjlcieheepegaaGreatDoorV01
import Derived.WalkKit
import Derived.WalkLawsBesides
import Derived.WalkSpells
import Derived.Outline
import Derived.LaidEqlPtr
import Derived.BigQuiet
import Derived.Deep.QuietTactic
namespace Go.Proofs.YtcjlcieheepegaaGreatDoor.S2
open Go.RowKit
set_option linter.unusedVariables false
set_option maxRecDepth 20000

theorem ret_int {k : IntKind} {a b : Int} (h : a = b) : Ending.returned (.int k a) = .returned (.int k b) := by rw [h]
theorem and1_u32 (c : Nat) (hc : c < 4294967296) : bits .and .u32 (c : Int) 1 = ((c % 2 : Nat) : Int) := by
  have h := u32_and_nat c 1 hc (by omega)
  rw [show (1 : Int) = ((1 : Nat) : Int) from rfl, h, nat_mask1]
theorem crcStep (c : Nat) (w : World) (hc : c < 4294967296) :
    Calls Tryz.prog 203 #[.int .u32 c] w fun e w' => e = .returned (.int .u32 (cT c : Nat)) ∧ w' = w := by
  have h1 := and1_u32 c hc
  by_cases hp : c % 2 = 1
  · have hb : (((c % 2 : Nat) : Int) == 1) = true := by rw [hp]; rfl
    have hx := u32_xor_nat (c / 2) 2197175160 (by omega) (by omega)
    go_enter Tryz.func203, Tryz.ntmps203
    go_wp2
    go_ret
    refine ⟨ret_int ?_, rfl⟩
    unfold cT
    rw [if_pos hp]
    exact hx
  · have hb : (((c % 2 : Nat) : Int) == 1) = false := by rw [show c % 2 = 0 by omega]; rfl
    go_enter Tryz.func203, Tryz.ntmps203
    go_wp2
    go_ret
    refine ⟨ret_int ?_, rfl⟩
    unfold cT
    rw [if_neg hp]
    omega
theorem u32_wrap_nat (a : Nat) : IntKind.u32.wrap (a : Int) = ((a % 4294967296 : Nat) : Int) := by
  rw [IntKind.wrap_u32']; omega
theorem or_rot (x n : Nat) (hn : n ≤ 31) (hx : x < 4294967296) : (x * 2 ^ n % 4294967296) ||| (x / 2 ^ (32 - n)) = rot n x := by
  obtain ⟨h1, h2⟩ := rot_parts n x (by omega) hx
  have e32 : 4294967296 = 2 ^ (32 - n) * 2 ^ n := by rw [← Nat.pow_add, show 32 - n + n = 32 by omega]
  unfold rot
  refine nat_join n _ _ ?_ h2
  rw [e32, Nat.mul_mod_mul_right]
  simp
theorem rotate (x n : Nat) (w : World) (hx : x < 4294967296) (h1 : 1 ≤ n) (hn : n ≤ 31) :
    Calls Tryz.prog 271 #[.int .u32 x, .int .i64 n] w fun e w' => e = .returned (.int .u32 (rot n x : Nat)) ∧ w' = w := by
  have ha : bits .and .u64 (n : Int) 31 = (n : Int) := by
    have h := u64_and_nat n 31 (by omega) (by omega)
    rw [show (31 : Int) = ((31 : Nat) : Int) from rfl, h, nat_mask5]
    omega
  have hlt : (n : Int) < 64 := by omega
  go_enter Tryz.func271, Tryz.ntmps271
  go_wp2
  go_ret
  refine ⟨ret_int ?_, rfl⟩
  have e1 : (x : Int) * 2 ^ n % 4294967296 = ((x * 2 ^ n % 4294967296 : Nat) : Int) := by simp
  have e2 : (x : Int) / 2 ^ (32 - n) = ((x / 2 ^ (32 - n) : Nat) : Int) := by simp
  rw [e1, e2, u32_or_nat _ _ (Nat.mod_lt _ (by omega)) (Nat.lt_of_le_of_lt (Nat.div_le_self _ _) hx), or_rot x n hn hx]
theorem xsh_bits (x k d : Nat) (hx : x < 4294967296) (hd : d = 2 ^ k) : bits .xor .u32 (x : Int) ((x : Int) / (d : Nat)) = (xsh k x : Nat) := by
  have e : (x : Int) / (d : Nat) = ((x / d : Nat) : Int) := by simp
  rw [e, u32_xor_nat _ _ hx (Nat.lt_of_le_of_lt (Nat.div_le_self _ _) hx), hd]
  rfl
theorem hmul_bits (x p : Nat) : (x : Int) * (p : Nat) % 4294967296 = (hmul x p : Nat) := by simp [hmul]
theorem spread (x : Nat) (w : World) (hx : x < 4294967296) :
    Calls Tryz.prog 273 #[.int .u32 x] w fun e w' => e = .returned (.int .u32 (spr x : Nat)) ∧ w' = w := by
  go_enter Tryz.func273, Tryz.ntmps273
  go_wp2
  go_ret
  refine ⟨ret_int ?_, rfl⟩
  have a1 := xsh_bits x 15 32768 hx rfl
  have a2 := hmul_bits (xsh 15 x) 2246822519
  have a3 := xsh_bits (hmul (xsh 15 x) 2246822519) 13 8192 (hmul_lt _ _) rfl
  have a4 := hmul_bits (xsh 13 (hmul (xsh 15 x) 2246822519)) 3266489917
  have a5 := xsh_bits (hmul (xsh 13 (hmul (xsh 15 x) 2246822519)) 3266489917) 16 65536 (hmul_lt _ _) rfl
  simp only [Int.cast_ofNat_Int] at a1 a2 a3 a4 a5
  rw [a1, a2, a3, a4, a5]
  rfl
/-- The number that four bytes are, one by one. -/
def wdN (f : Nat → Nat) : Nat → Nat
  | 0 => 0
  | n + 1 => wdN f n + f n * 2 ^ (8 * n)
theorem wdN_lt (f : Nat → Nat) (hf : ∀ i, f i < 256) (n : Nat) : wdN f n < 2 ^ (8 * n) := by
  induction n with
  | zero => simp [wdN]
  | succ n ih =>
    have h : f n * 2 ^ (8 * n) ≤ 255 * 2 ^ (8 * n) := Nat.mul_le_mul_right _ (by have := hf n; omega)
    rw [show 8 * (n + 1) = 8 * n + 8 by omega, Nat.pow_add]
    simp only [wdN]
    omega
theorem wdN_four (f : Nat → Nat) : wdN f 4 = f 0 + f 1 * 256 + f 2 * 65536 + f 3 * 16777216 := by simp [wdN]
theorem or_byte32 (x y k : Nat) (hx : x < 2 ^ (8 * k)) (hy : y < 256) (hk : k ≤ 3) :
    bits .or .u32 (x : Int) ((y : Int) * 2 ^ (8 * k) % 4294967296) = ((x + y * 2 ^ (8 * k) : Nat) : Int) := by
  have hle : 2 ^ (8 * k) ≤ 2 ^ 24 := Nat.pow_le_pow_right (by omega) (by omega)
  have hm : y * 2 ^ (8 * k) ≤ 255 * 2 ^ (8 * k) := Nat.mul_le_mul_right _ (by omega)
  have e2 : (y : Int) * 2 ^ (8 * k) % 4294967296 = ((y * 2 ^ (8 * k) : Nat) : Int) := by
    have : (y : Int) * 2 ^ (8 * k) = ((y * 2 ^ (8 * k) : Nat) : Int) := by simp
    rw [this]
    omega
  rw [e2, u32_or_nat _ _ (by omega) (by omega), Nat.or_comm, nat_join (8 * k) (y * 2 ^ (8 * k)) x (by simp) hx]
  omega
/-- Four bytes of a row. -/
theorem word (b o n cap : Nat) (f : Nat → Nat) (w : World) (hn : 4 ≤ n) (hf : ∀ i, f i < 256) (hc : ∀ i, i < 4 → w.cell? ⟨b, o + i, none⟩ = some (.int .u8 (f i : Nat))) :
    Calls Tryz.prog 272 #[.slice (some ⟨b, o, none⟩) n cap] w fun e w' => e = .returned (.int .u32 (wdN f 4 : Nat)) ∧ w' = w := by
  have HF : Hid (∀ i, f i < 256) := hf
  have HC : Hid (∀ i, i < 4 → w.cell? ⟨b, o + i, none⟩ = some (.int .u8 (f i : Nat))) := hc
  clear hf hc
  go_enter Tryz.func272, Tryz.ntmps272
  go_wp2
  go_loop [3, 5] (fun x i => ∃ j : Nat, j ≤ 4 ∧ i = .int .i64 j ∧ x = .int .u32 (wdN f j : Nat)) (fun _ i => 4 - (intOf i).toNat)
  case atStart => exact ⟨0, Nat.zero_le _, rfl, rfl⟩
  case round =>
    obtain ⟨j, hj, rfl, rfl⟩ := hrel
    by_cases hlt : j < 4
    · have hix : j < n := by omega
      have hcell := HC.out j hlt
      go_wp2
      go_round
      case rel =>
        refine ⟨j + 1, by omega, by go_num, congrArg (Value.int .u32) ?_⟩
        have hb := HF.out j
        rw [show ((f j : Nat) : Int) % 4294967296 = (f j : Int) by omega, or_byte32 _ _ _ (wdN_lt f HF.out j) hb (by omega)]
        rfl
      case measure => simp [intOf]; omega
    · obtain rfl : j = 4 := by omega
      go_wp2
      go_ret
      exact ⟨rfl, rfl⟩
theorem and_all (n : Nat) : n &&& 4294967295 = n % 4294967296 := Nat.and_two_pow_sub_one_eq_mod n 32
theorem i64_and_all (n : Int) : bits .and .i64 n 4294967295 = n % 4294967296 := by
  have h127 : (BitVec.ofInt 64 4294967295).toNat = 2 ^ 32 - 1 := by decide
  have key : (BitVec.ofInt 64 n &&& BitVec.ofInt 64 4294967295).toNat = (n % ((2 ^ 64 : Nat) : Int)).toNat % 2 ^ 32 := by
    rw [BitVec.toNat_and, BitVec.toNat_ofInt, h127, Nat.and_two_pow_sub_one_eq_mod]
  show IntKind.i64.wrap ((BitVec.ofInt 64 n &&& BitVec.ofInt 64 4294967295).toNat : Nat) = n % 4294967296
  rw [key, IntKind.wrap_i64]
  omega
theorem i64_xor_nat (a b : Nat) (ha : a < 9223372036854775808) (hb : b < 9223372036854775808) : bits .xor .i64 (a : Int) (b : Int) = ((a ^^^ b : Nat) : Int) := by
  have h : a ^^^ b < 2 ^ 63 := Nat.xor_lt_two_pow (by omega) (by omega)
  have key : (BitVec.ofInt 64 (a : Int) ^^^ BitVec.ofInt 64 (b : Int)).toNat = a ^^^ b := by
    rw [BitVec.toNat_xor, ofInt_u64 a (by omega), ofInt_u64 b (by omega)]
  show IntKind.i64.wrap ((BitVec.ofInt 64 (a : Int) ^^^ BitVec.ofInt 64 (b : Int)).toNat : Nat) = _
  rw [key, IntKind.wrap_i64]
  omega
theorem i64_or_nat (a b : Nat) (ha : a < 9223372036854775808) (hb : b < 9223372036854775808) : bits .or .i64 (a : Int) (b : Int) = ((a ||| b : Nat) : Int) := by
  have h : a ||| b < 2 ^ 63 := Nat.or_lt_two_pow (by omega) (by omega)
  have key : (BitVec.ofInt 64 (a : Int) ||| BitVec.ofInt 64 (b : Int)).toNat = a ||| b := by
    rw [BitVec.toNat_or, ofInt_u64 a (by omega), ofInt_u64 b (by omega)]
  show IntKind.i64.wrap ((BitVec.ofInt 64 (a : Int) ||| BitVec.ofInt 64 (b : Int)).toNat : Nat) = _
  rw [key, IntKind.wrap_i64]
  omega
theorem mul_bits (a p : Nat) (ha : a < 4294967296) (hp : p < 4294967296) :
    wrap64 (wrap64 ((wrap64 ((a : Int) * ((p : Int) / 65536))).tmod 65536 * 65536) + wrap64 ((a : Int) * ((p : Int) % 65536))) % 4294967296 = ((hmul a p : Nat) : Int) := by
  have e1 : (a : Int) * ((p : Int) / 65536) = ((a * (p / 65536) : Nat) : Int) := by simp
  have e2 : (a : Int) * ((p : Int) % 65536) = ((a * (p % 65536) : Nat) : Int) := by simp
  have b1 : a * (p / 65536) ≤ 4294967295 * 65535 := Nat.mul_le_mul (by omega) (by omega)
  have b2 : a * (p % 65536) ≤ 4294967295 * 65535 := Nat.mul_le_mul (by omega) (by omega)
  have hm : a * p = a * (p / 65536) * 65536 + a * (p % 65536) := by
    rw [Nat.mul_assoc, ← Nat.mul_add, Nat.mul_comm (p / 65536) 65536, Nat.div_add_mod]
  unfold hmul
  rw [e1, e2, hm]
  generalize a * (p / 65536) = u at *
  generalize a * (p % 65536) = v at *
  rw [IntWalk.wrap64_in (u : Int) ⟨by omega, by omega⟩, IntWalk.wrap64_in (v : Int) ⟨by omega, by omega⟩]
  have e3 : (u : Int).tmod 65536 = ((u % 65536 : Nat) : Int) := by rw [Int.tmod_eq_emod_of_nonneg (by omega)]; omega
  rw [e3, IntWalk.wrap64_in (((u % 65536 : Nat) : Int) * 65536) ⟨by omega, by omega⟩, IntWalk.wrap64_in _ ⟨by omega, by omega⟩]
  omega
theorem turn_bits (x n : Nat) (hx : x < 4294967296) (h1 : 1 ≤ n) (hn : n ≤ 30) :
    bits .and .i64 (bits .or .i64 (wrap64 ((x : Int) * 2 ^ n)) ((x : Int) / 2 ^ (32 - n))) 4294967295 = ((rot n x : Nat) : Int) := by
  have e1 : (x : Int) * 2 ^ n = ((x * 2 ^ n : Nat) : Int) := by simp
  have e2 : (x : Int) / 2 ^ (32 - n) = ((x / 2 ^ (32 - n) : Nat) : Int) := by simp
  have hp : 2 ^ n ≤ 2 ^ 30 := Nat.pow_le_pow_right (by omega) hn
  have b1 : x * 2 ^ n ≤ 4294967295 * 2 ^ 30 := Nat.mul_le_mul (by omega) hp
  obtain ⟨q1, q2⟩ := rot_parts n x (by omega) hx
  have hle : x / 2 ^ (32 - n) ≤ x := Nat.div_le_self _ _
  rw [e1, e2, IntWalk.wrap64_in _ ⟨by omega, by omega⟩, i64_or_nat _ _ (by omega) (by omega), nat_join n (x * 2 ^ n) _ (by simp) q2, i64_and_all]
  have hr := rot_lt n x (by omega) hx
  have hj : rot n x = x * 2 ^ n % 4294967296 + x / 2 ^ (32 - n) := rfl
  omega
end Go.Proofs.YtcjlcieheepegaaGreatDoor.S2
