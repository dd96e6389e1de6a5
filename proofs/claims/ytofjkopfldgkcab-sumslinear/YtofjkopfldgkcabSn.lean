/- Plain mathematics of xxHash32: each of its steps is one to one. -/
import Derived.Test.YtofjkopfldgkcabSm
namespace Go.Proofs.Ytofjkopfldgkcab
open Go.RowKit
set_option linter.unusedVariables false

/-- A product of 32 bits. -/
def hmul (a p : Nat) : Nat := a * p % 4294967296
theorem hmul_lt (a p : Nat) : hmul a p < 4294967296 := Nat.mod_lt _ (by omega)
theorem hmul_inj {p q : Nat} (hq : p * q % 4294967296 = 1) {a b : Nat} (ha : a < 4294967296) (hb : b < 4294967296) (h : hmul a p = hmul b p) : a = b := by
  have e : ∀ x, x < 4294967296 → hmul x p * q % 4294967296 = x := by
    intro x hx
    unfold hmul
    rw [Nat.mod_mul_mod, Nat.mul_assoc, Nat.mul_mod, hq, Nat.mul_one, Nat.mod_mod, Nat.mod_eq_of_lt hx]
  rw [← e a ha, ← e b hb, h]
theorem inv1 : 2654435761 * 244002641 % 4294967296 = 1 := by decide
theorem inv2 : 2246822519 * 3066638151 % 4294967296 = 1 := by decide
theorem inv3 : 3266489917 * 2828982549 % 4294967296 = 1 := by decide
theorem inv4 : 668265263 * 2701016015 % 4294967296 = 1 := by decide
theorem inv5 : 374761393 * 2923004241 % 4294967296 = 1 := by decide
/-- 32 bits turned left. -/
def rot (n x : Nat) : Nat := x * 2 ^ n % 4294967296 + x / 2 ^ (32 - n)
theorem rot_parts (n x : Nat) (hn : n ≤ 32) (hx : x < 4294967296) : rot n x = x % 2 ^ (32 - n) * 2 ^ n + x / 2 ^ (32 - n) ∧ x / 2 ^ (32 - n) < 2 ^ n := by
  have e32 : 4294967296 = 2 ^ (32 - n) * 2 ^ n := by rw [← Nat.pow_add, show 32 - n + n = 32 by omega]
  constructor
  · unfold rot
    rw [e32, Nat.mul_mod_mul_right]
  · exact Nat.div_lt_of_lt_mul (by rw [← e32]; exact hx)
theorem rot_lt (n x : Nat) (hn : n ≤ 32) (hx : x < 4294967296) : rot n x < 4294967296 := by
  obtain ⟨h1, h2⟩ := rot_parts n x hn hx
  have e32 : 4294967296 = 2 ^ (32 - n) * 2 ^ n := by rw [← Nat.pow_add, show 32 - n + n = 32 by omega]
  have hm : x % 2 ^ (32 - n) < 2 ^ (32 - n) := Nat.mod_lt _ (Nat.pos_of_ne_zero (by simp))
  have h3 : (x % 2 ^ (32 - n) + 1) * 2 ^ n ≤ 2 ^ (32 - n) * 2 ^ n := Nat.mul_le_mul_right _ (by omega)
  rw [h1, e32]
  rw [Nat.add_mul] at h3
  omega
theorem rot_inj (n : Nat) {x y : Nat} (hn : n ≤ 32) (hx : x < 4294967296) (hy : y < 4294967296) (h : rot n x = rot n y) : x = y := by
  obtain ⟨a1, a2⟩ := rot_parts n x hn hx
  obtain ⟨b1, b2⟩ := rot_parts n y hn hy
  rw [a1, b1] at h
  have hp : 0 < 2 ^ n := Nat.pos_of_ne_zero (by simp)
  have e1 : x / 2 ^ (32 - n) = y / 2 ^ (32 - n) := by
    have := congrArg (· % 2 ^ n) h
    simpa [Nat.mul_add_mod_self_right, Nat.mod_eq_of_lt a2, Nat.mod_eq_of_lt b2] using this
  have e2 : x % 2 ^ (32 - n) = y % 2 ^ (32 - n) := by
    rw [e1] at h
    exact Nat.eq_of_mul_eq_mul_right hp (Nat.add_right_cancel h)
  rw [← Nat.div_add_mod x (2 ^ (32 - n)), ← Nat.div_add_mod y (2 ^ (32 - n)), e1, e2]
/-- A number and its higher bits, one xor the other. -/
theorem xshift_inj (k : Nat) (hk : 0 < k) {x y : Nat} (h : x ^^^ x / 2 ^ k = y ^^^ y / 2 ^ k) : x = y := by
  have hz : (x ^^^ y) ^^^ (x ^^^ y) / 2 ^ k = 0 := by
    have e : (x ^^^ y) / 2 ^ k = x / 2 ^ k ^^^ y / 2 ^ k := by
      rw [← Nat.shiftRight_eq_div_pow, ← Nat.shiftRight_eq_div_pow, ← Nat.shiftRight_eq_div_pow, Nat.shiftRight_xor_distrib]
    rw [e, Nat.xor_assoc, ← Nat.xor_assoc y, Nat.xor_comm y (x / 2 ^ k), Nat.xor_assoc (x / 2 ^ k), ← Nat.xor_assoc x, h, Nat.xor_self]
  have hd := xor_zero_eq hz
  have h0 : x ^^^ y = 0 := by
    rcases Nat.eq_zero_or_pos (x ^^^ y) with e | e
    · exact e
    · have := Nat.div_lt_self e (show 1 < 2 ^ k from Nat.one_lt_two_pow (by omega))
      omega
  exact xor_zero_eq h0
/-- A round: h + x p, turned, times q. -/
def hstep (p n q h x : Nat) : Nat := hmul (rot n ((h + hmul x p) % 4294967296)) q
theorem hstep_lt (p n q h x : Nat) : hstep p n q h x < 4294967296 := hmul_lt _ _
theorem add_inj {a b c : Nat} (ha : a < 4294967296) (hb : b < 4294967296) (h : (a + c) % 4294967296 = (b + c) % 4294967296) : a = b := by omega
theorem hstep_state {p n q q' : Nat} (hn : n ≤ 32) (hq : q * q' % 4294967296 = 1) {h h' x : Nat} (h1 : h < 4294967296) (h2 : h' < 4294967296) (e : hstep p n q h x = hstep p n q h' x) : h = h' := by
  have a := hmul_inj hq (rot_lt n _ hn (Nat.mod_lt _ (by omega))) (rot_lt n _ hn (Nat.mod_lt _ (by omega))) e
  exact add_inj h1 h2 (rot_inj n hn (Nat.mod_lt _ (by omega)) (Nat.mod_lt _ (by omega)) a)
theorem hstep_word {p p' n q q' : Nat} (hn : n ≤ 32) (hp : p * p' % 4294967296 = 1) (hq : q * q' % 4294967296 = 1) {h x y : Nat} (h1 : x < 4294967296) (h2 : y < 4294967296) (e : hstep p n q h x = hstep p n q h y) : x = y := by
  have a := hmul_inj hq (rot_lt n _ hn (Nat.mod_lt _ (by omega))) (rot_lt n _ hn (Nat.mod_lt _ (by omega))) e
  have b := rot_inj n hn (Nat.mod_lt _ (by omega)) (Nat.mod_lt _ (by omega)) a
  exact hmul_inj hp h1 h2 (add_inj (hmul_lt x p) (hmul_lt y p) (c := h) (by rw [Nat.add_comm _ h, Nat.add_comm _ h]; exact b))
end Go.Proofs.Ytofjkopfldgkcab
