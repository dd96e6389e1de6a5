/- A word turned about: its last bit first. -/
import Derived.Test.YtchjnfckcfikkaaDoorGj
import Derived.Test.YtchjnfckcfikkaaDoorQm
import Derived.Lib.Tables
import Derived.Deep.QuietTactic
namespace Go.Proofs.YtchjnfckcfikkaaDoor
open Go.RowKit
set_option linter.unusedVariables false

/-- The lowest n bits, the lowest first, as a number whose highest bit is the first. -/
def rv (x : Nat) : Nat → Nat
  | 0 => 0
  | n + 1 => 2 * rv x n + x / 2 ^ n % 2
theorem rv_lt (x n : Nat) : rv x n < 2 ^ n := by
  induction n with
  | zero => simp [rv]
  | succ n ih => simp only [rv, Nat.pow_succ]; have := Nat.mod_lt (x / 2 ^ n) (show 0 < 2 by omega); omega
theorem rv_low (x n k : Nat) (hk : k ≤ n) : rv (x % 2 ^ n) k = rv x k := by
  induction k with
  | zero => rfl
  | succ k ih =>
    simp only [rv, ih (by omega)]
    congr 1
    rw [← Nat.toNat_testBit, ← Nat.toNat_testBit, Nat.testBit_mod_two_pow, decide_eq_true (by omega), Bool.true_and]
theorem rv_split (x n m : Nat) : rv x (n + m) = rv x n * 2 ^ m + rv (x / 2 ^ n) m := by
  induction m with
  | zero => simp [rv]
  | succ m ih =>
    rw [show n + (m + 1) = n + m + 1 by omega]
    simp only [rv, ih]
    rw [Nat.div_div_eq_div_mul, ← Nat.pow_add, Nat.pow_succ, ← Nat.mul_assoc]
    omega
theorem rv_zero (n : Nat) : rv 0 n = 0 := by
  induction n with
  | zero => rfl
  | succ n ih => simp [rv, ih]
theorem rv_top (x n m : Nat) (h : x < 2 ^ n) : rv x (n + m) / 2 ^ m = rv x n := by
  rw [rv_split, Nat.div_eq_of_lt h, rv_zero, Nat.add_zero, Nat.mul_div_cancel _ (Nat.pos_of_ne_zero (by simp))]
theorem rev8_rv : ∀ y : Fin 256, Lib.rev8 (y.val : Int) = ((rv y.val 8 : Nat) : Int) := by decide +kernel
/-- Eight bits and eight more. -/
theorem rv_both (hi lo : Nat) (h : hi < 256) (h2 : lo < 256) : rv (hi * 256 + lo) 16 = rv lo 8 * 256 + rv hi 8 := by
  have h1 := rv_split (hi * 256 + lo) 8 8
  have h3 := rv_low (hi * 256 + lo) 8 8 (Nat.le_refl _)
  rw [← h3] at h1
  simp only [show (2 : Nat) ^ 8 = 256 from rfl, show 8 + 8 = 16 from rfl] at h1
  rw [show (hi * 256 + lo) % 256 = lo by omega, show (hi * 256 + lo) / 256 = hi by omega] at h1
  exact h1
theorem or_add (a b : Nat) (h : a < 256) : a ||| (b * 256) = b * 256 + a := by
  have e := Nat.two_pow_add_eq_or_of_lt (i := 8) (show a < 2 ^ 8 by omega) b
  rw [Nat.or_comm, show b * 256 = 2 ^ 8 * b by omega, ← e]

set_option maxRecDepth 20000 in
set_option maxHeartbeats 1000000 in
theorem reverse16_ok (x : Nat) (hx : x < 65536) (w : World) :
    Calls Tryd.prog 76 #[.int .u16 x] w fun e w' => e = .returned (.int .u16 (rv x 16 : Nat)) ∧ ∃ k, w' = w.drewN k := by
  obtain ⟨hi, hhi⟩ : ∃ hi, x / 256 = hi := ⟨_, rfl⟩
  obtain ⟨lo, hlo⟩ : ∃ lo, x % 256 = lo := ⟨_, rfl⟩
  have hsh : (x : Int) / 2 ^ 8 = (hi : Int) := by omega
  have hsh2 : (x : Int) / 256 = (hi : Int) := by omega
  have han : bits .and .u16 (x : Int) 255 = (lo : Int) := by
    have h := u16_and_nat x 255 hx (by omega)
    rw [← hlo, show (255 : Int) = ((255 : Nat) : Int) from rfl, h, show 255 = 2 ^ 8 - 1 from rfl, Nat.and_two_pow_sub_one_eq_mod]
  have hhb : hi < 256 := by omega
  have hlb : lo < 256 := by omega
  have r1 := rev8_rv ⟨hi, hhb⟩
  have r2 := rev8_rv ⟨lo, hlb⟩
  have b1 := rv_lt hi 8
  have b2 := rv_lt lo 8
  have hr := rv_both hi lo hhb hlb
  rw [show hi * 256 + lo = x by omega] at hr
  obtain ⟨p, hp⟩ : ∃ p, rv hi 8 = p := ⟨_, rfl⟩
  obtain ⟨q, hq⟩ : ∃ q, rv lo 8 = q := ⟨_, rfl⟩
  simp only [hp] at r1 b1 hr
  simp only [hq] at r2 b2 hr
  have HR : Hid (rv x 16 = q * 256 + p) := hr
  have hor : bits .or .u16 (p : Int) ((q : Int) * 256) = ((q * 256 + p : Nat) : Int) := by
    have h := u16_or_nat p (q * 256) (by omega) (by omega)
    rw [← or_add p q (by omega), ← h]; simp
  have j1 : (hi : Int) ≤ 255 := by omega
  have j2 : (lo : Int) ≤ 255 := by omega
  have j3 : (0 : Int) ≤ (hi : Int) := by omega
  have j4 : (0 : Int) ≤ (lo : Int) := by omega
  have k1 : IntKind.u16.wrap ((q : Int) * 2 ^ 8) = (q : Int) * 256 := by rw [IntKind.wrap_u16]; omega
  have k2 : IntKind.u16.wrap ((q : Int) * 256) = (q : Int) * 256 := by rw [IntKind.wrap_u16]; omega
  have k3 : (p : Int) % 65536 = (p : Int) := by omega
  have k4 : (q : Int) % 65536 = (q : Int) := by omega
  clear hp hq hr hhi hlo hx
  go_enter Tryd.func76, Tryd.ntmps76
  generalize hT : ByteArray.mk _ = T
  obtain rfl : T = Lib.rev8tab := by rw [← hT]; rfl
  clear hT
  go_wp2_with fail
  go_quiet (fail)
  go_wp2
  go_ret
  exact ⟨by rw [HR.out]; simp only [Int.natCast_add, Int.natCast_mul]; rfl, nq, rfl⟩
set_option maxRecDepth 20000 in
set_option maxHeartbeats 1000000 in
theorem turn_ok (x n : Nat) (hn : n ≤ 15) (hx : x < 2 ^ n) (w : World) :
    Calls Tryd.prog 75 #[.int .i64 x, .int .i64 n] w fun e w' => e = .returned (.int .i64 (rv x n : Nat)) ∧ ∃ k, w' = w.drewN k := by
  have hx16 : x < 65536 := Nat.lt_of_lt_of_le hx (Nat.le_trans (Nat.pow_le_pow_right (by omega) hn) (by decide))
  have HC : Hid (∀ W, Calls Tryd.prog 76 #[.int .u16 x] W fun e w' => e = .returned (.int .u16 (rv x 16 : Nat)) ∧ ∃ k, w' = W.drewN k) := fun W => reverse16_ok x hx16 W
  have htop := rv_top x n (16 - n) hx
  rw [show n + (16 - n) = 16 by omega] at htop
  have hb := rv_lt x 16
  obtain ⟨y, hy⟩ : ∃ y, rv x 16 = y := ⟨_, rfl⟩
  obtain ⟨z, hz⟩ : ∃ z, rv x n = z := ⟨_, rfl⟩
  obtain ⟨d, hd⟩ : ∃ d : Nat, 16 - n = d := ⟨_, rfl⟩
  rw [hy] at htop hb HC
  rw [hz] at htop ⊢
  rw [hd] at htop
  have hdi : (16 : Int) - (n : Int) = (d : Int) := by omega
  have hdw : IntKind.i64.wrap ((16 : Int) - (n : Int)) = (d : Int) := by rw [IntKind.wrap_i64]; omega
  have hsh : (y : Int) / 2 ^ d = (z : Int) := by rw [← htop]; simp
  have hxm : (x : Int) % 65536 = (x : Int) := by omega
  have hxw : IntKind.u16.wrap (x : Int) = (x : Int) := by rw [IntKind.wrap_u16]; omega
  have hzb : z < 65536 := by rw [← htop]; exact Nat.lt_of_le_of_lt (Nat.div_le_self _ _) hb
  have hzw : IntKind.i64.wrap (z : Int) = (z : Int) := by rw [IntKind.wrap_i64]; omega
  clear htop hy hz hd hx
  go_enter Tryd.func75, Tryd.ntmps75
  go_wp2_with fail
  refine (HC.out _).mono ?_
  rintro e w1 ⟨rfl, k, rfl⟩
  go_wp2
  go_ret
  exact ⟨rfl, k, rfl⟩
end Go.Proofs.YtchjnfckcfikkaaDoor
