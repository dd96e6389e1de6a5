/- Plain mathematics of sums: CRC-32C is linear and tells what differs within 32 bits; the steps of xxHash32 are one to one. -/
import Derived.Laws.BitsAllLaws
import Derived.IntWalk
namespace Go.Proofs.Ytofjkopfldgkcab
open Go.RowKit
set_option linter.unusedVariables false

/-- One bit of CRC-32C. -/
def cT (c : Nat) : Nat := if c % 2 = 1 then c / 2 ^^^ 2197175160 else c / 2
theorem xor_half (a b : Nat) : (a ^^^ b) / 2 = a / 2 ^^^ b / 2 := by
  have := Nat.shiftRight_xor_distrib (a := a) (b := b) (i := 1)
  simpa [Nat.shiftRight_succ] using this
theorem xor_par (a b : Nat) : (a ^^^ b) % 2 = (a + b) % 2 := by
  have h := Nat.xor_mod_two_pow (a := a) (b := b) (n := 1)
  rw [Nat.pow_one] at h
  rw [h]
  rcases Nat.mod_two_eq_zero_or_one a with ha | ha <;> rcases Nat.mod_two_eq_zero_or_one b with hb | hb <;> rw [ha, hb]
  · show 0 = _; omega
  · show 1 = _; omega
  · show 1 = _; omega
  · show 0 = _; omega
theorem xor_zero_eq {a b : Nat} (h : a ^^^ b = 0) : a = b := by
  have e : a ^^^ (a ^^^ b) = a ^^^ 0 := by rw [h]
  rw [← Nat.xor_assoc, Nat.xor_self, Nat.zero_xor, Nat.xor_zero] at e
  exact e.symm
theorem cT_xor (a b : Nat) : cT (a ^^^ b) = cT a ^^^ cT b := by
  have hp := xor_par a b
  have hh := xor_half a b
  unfold cT
  rcases Nat.mod_two_eq_zero_or_one a with ha | ha <;> rcases Nat.mod_two_eq_zero_or_one b with hb | hb
  · rw [if_neg (by omega), if_neg (by omega), if_neg (by omega), hh]
  · rw [if_pos (by omega), if_neg (by omega), if_pos (by omega), hh, Nat.xor_assoc]
  · rw [if_pos (by omega), if_pos (by omega), if_neg (by omega), hh, Nat.xor_assoc, Nat.xor_assoc, Nat.xor_comm (b / 2)]
  · rw [if_neg (by omega), if_pos (by omega), if_pos (by omega), hh]
    rw [Nat.xor_assoc (a / 2), ← Nat.xor_assoc 2197175160, Nat.xor_comm 2197175160 (b / 2), Nat.xor_assoc (b / 2), Nat.xor_self, Nat.xor_zero]
theorem cT_lt (c : Nat) (h : c < 4294967296) : cT c < 4294967296 := by
  unfold cT
  split
  · exact Nat.xor_lt_two_pow (n := 32) (by omega) (by omega)
  · omega
theorem cT_ker (c : Nat) (h : c < 4294967296) (h0 : cT c = 0) : c = 0 := by
  unfold cT at h0
  split at h0
  · have := xor_zero_eq h0; omega
  · omega
def cTn : Nat → Nat → Nat
  | 0, c => c
  | n + 1, c => cTn n (cT c)
theorem cTn_xor (n a b : Nat) : cTn n (a ^^^ b) = cTn n a ^^^ cTn n b := by
  induction n generalizing a b with
  | zero => rfl
  | succ n ih => simp only [cTn]; rw [cT_xor, ih]
theorem cTn_lt (n c : Nat) (h : c < 4294967296) : cTn n c < 4294967296 := by
  induction n generalizing c with
  | zero => exact h
  | succ n ih => exact ih _ (cT_lt c h)
theorem cTn_ker (n c : Nat) (h : c < 4294967296) (h0 : cTn n c = 0) : c = 0 := by
  induction n generalizing c with
  | zero => exact h0
  | succ n ih => exact cT_ker c h (ih _ (cT_lt c h) h0)
theorem cTn_add (m n c : Nat) : cTn (m + n) c = cTn n (cTn m c) := by
  induction m generalizing c with
  | zero => simp [cTn]
  | succ m ih => rw [show m + 1 + n = (m + n) + 1 by omega]; simp only [cTn]; exact ih _
theorem cTn_zero (n : Nat) : cTn n 0 = 0 := by
  induction n with
  | zero => rfl
  | succ n ih => simpa [cTn, cT] using ih
/-- One byte. -/
def cB (c b : Nat) : Nat := cTn 8 (c ^^^ b)
def cM (c : Nat) (l : List Nat) : Nat := l.foldl cB c
theorem cB_lt (c b : Nat) (h : c < 4294967296) (hb : b < 256) : cB c b < 4294967296 := cTn_lt 8 _ (Nat.xor_lt_two_pow (n := 32) (by omega) (by omega))
theorem cM_lt (l : List Nat) (c : Nat) (h : c < 4294967296) (hl : ∀ b ∈ l, b < 256) : cM c l < 4294967296 := by
  induction l generalizing c with
  | nil => exact h
  | cons b r ih => exact ih _ (cB_lt c b h (hl b (by simp))) (fun x hx => hl x (by simp [hx]))
theorem cB_xor (a b x y : Nat) : cB (a ^^^ b) (x ^^^ y) = cB a x ^^^ cB b y := by
  unfold cB
  rw [← cTn_xor]
  congr 1
  rw [Nat.xor_assoc, Nat.xor_assoc, ← Nat.xor_assoc b, Nat.xor_comm b x, Nat.xor_assoc x]
theorem cM_append (c : Nat) (l r : List Nat) : cM c (l ++ r) = cM (cM c l) r := by simp [cM]
/-- Linear: two lists of one length. -/
theorem cM_xor (l r : List Nat) (a b : Nat) (h : l.length = r.length) : cM (a ^^^ b) (List.zipWith (· ^^^ ·) l r) = cM a l ^^^ cM b r := by
  induction l generalizing r a b with
  | nil => cases r with
    | nil => rfl
    | cons _ _ => simp at h
  | cons x l ih => cases r with
    | nil => simp at h
    | cons y r =>
      simp only [List.zipWith_cons_cons, cM, List.foldl_cons]
      rw [cB_xor]
      exact ih r _ _ (by simpa using h)
/-- Behind the same bytes unlike states stay unlike. -/
theorem cM_inj (l : List Nat) (a b : Nat) (ha : a < 4294967296) (hb : b < 4294967296) (hl : ∀ x ∈ l, x < 256) (h : cM a l = cM b l) : a = b := by
  induction l generalizing a b with
  | nil => exact h
  | cons x r ih =>
    have hx := hl x (by simp)
    have e := ih (cB a x) (cB b x) (cB_lt a x ha hx) (cB_lt b x hb hx) (fun y hy => hl y (by simp [hy])) h
    unfold cB at e
    have hz : cTn 8 ((a ^^^ x) ^^^ (b ^^^ x)) = 0 := by rw [cTn_xor, e, Nat.xor_self]
    have hlt : (a ^^^ x) ^^^ (b ^^^ x) < 4294967296 := Nat.xor_lt_two_pow (n := 32) (Nat.xor_lt_two_pow (n := 32) (by omega) (by omega)) (Nat.xor_lt_two_pow (n := 32) (by omega) (by omega))
    have h0 := xor_zero_eq (cTn_ker 8 _ hlt hz)
    have := congrArg (· ^^^ x) h0
    simpa [Nat.xor_assoc] using this
theorem xor_join (i x y : Nat) (hx : x % 2 ^ i = 0) (hy : y < 2 ^ i) : x ^^^ y = x + y := by
  have h1 : x &&& y = 0 := by
    apply Nat.eq_of_testBit_eq
    intro j
    rw [Nat.testBit_and, Nat.zero_testBit]
    by_cases hj : j < i
    · have : x.testBit j = false := by
        have hm : (x % 2 ^ i).testBit j = x.testBit j := by rw [Nat.testBit_mod_two_pow]; simp [hj]
        rw [← hm, hx, Nat.zero_testBit]
      rw [this]; rfl
    · have : y.testBit j = false := Nat.testBit_lt_two_pow (Nat.lt_of_lt_of_le hy (Nat.pow_le_pow_right (by omega) (by omega)))
      rw [this]; simp
  have h2 : x ^^^ y = x ||| y := by
    apply Nat.eq_of_testBit_eq
    intro j
    have h3 : (x &&& y).testBit j = false := by rw [h1, Nat.zero_testBit]
    rw [Nat.testBit_and] at h3
    rw [Nat.testBit_xor, Nat.testBit_or]
    cases hx' : x.testBit j <;> cases hy' : y.testBit j <;> simp_all
  rw [h2]; exact nat_join i x y hx hy
/-- Four bytes at one time: the state's 32 bits take them all ahead of 32 bits' steps. -/
theorem cT_high (n c b : Nat) (hb : ∃ m, b = m * 2 ^ n) : cTn n (c ^^^ b) = cTn n c ^^^ b / 2 ^ n := by
  obtain ⟨m, rfl⟩ := hb
  rw [cTn_xor]
  congr 1
  induction n generalizing m with
  | zero => simp [cTn]
  | succ n ih =>
    have e : m * 2 ^ (n + 1) = 2 * (m * 2 ^ n) := by rw [Nat.pow_succ]; simp [Nat.mul_comm, Nat.mul_left_comm]
    simp only [cTn]
    have hc : cT (m * 2 ^ (n + 1)) = m * 2 ^ n := by unfold cT; rw [e, if_neg (by omega)]; omega
    rw [hc, ih m]
    rw [Nat.mul_div_cancel _ (Nat.pos_of_ne_zero (by simp)), Nat.mul_div_cancel _ (Nat.pos_of_ne_zero (by simp))]
theorem cM_four (c b0 b1 b2 b3 : Nat) : cM c [b0, b1, b2, b3] = cTn 32 (c ^^^ b0 ^^^ b1 * 2 ^ 8 ^^^ b2 * 2 ^ 16 ^^^ b3 * 2 ^ 24) := by
  have h3 : cTn 24 (c ^^^ b0 ^^^ b1 * 2 ^ 8 ^^^ b2 * 2 ^ 16 ^^^ b3 * 2 ^ 24) = cTn 24 (c ^^^ b0 ^^^ b1 * 2 ^ 8 ^^^ b2 * 2 ^ 16) ^^^ b3 := by
    rw [cT_high 24 _ _ ⟨b3, rfl⟩, Nat.mul_div_cancel _ (by decide)]
  have h2 : cTn 16 (c ^^^ b0 ^^^ b1 * 2 ^ 8 ^^^ b2 * 2 ^ 16) = cTn 16 (c ^^^ b0 ^^^ b1 * 2 ^ 8) ^^^ b2 := by
    rw [cT_high 16 _ _ ⟨b2, rfl⟩, Nat.mul_div_cancel _ (by decide)]
  have h1 : cTn 8 (c ^^^ b0 ^^^ b1 * 2 ^ 8) = cTn 8 (c ^^^ b0) ^^^ b1 := by
    rw [cT_high 8 _ _ ⟨b1, rfl⟩, Nat.mul_div_cancel _ (by decide)]
  simp only [cM, List.foldl_cons, List.foldl_nil, cB]
  rw [show 32 = 24 + 8 from rfl, cTn_add 24 8, h3, show 24 = 16 + 8 from rfl, cTn_add 16 8, h2, show 16 = 8 + 8 from rfl, cTn_add 8 8, h1]
/-- 32 bits that are not all noughts turn the state. -/
theorem cM_burst (c b0 b1 b2 b3 : Nat) (h0 : b0 < 256) (h1 : b1 < 256) (h2 : b2 < 256) (h3 : b3 < 256) (h : cM 0 [b0, b1, b2, b3] = 0) : b0 = 0 ∧ b1 = 0 ∧ b2 = 0 ∧ b3 = 0 := by
  rw [cM_four, Nat.zero_xor] at h
  have e3 : b0 ^^^ b1 * 2 ^ 8 ^^^ b2 * 2 ^ 16 ^^^ b3 * 2 ^ 24 = b0 + b1 * 2 ^ 8 + b2 * 2 ^ 16 + b3 * 2 ^ 24 := by
    have a1 : b0 ^^^ b1 * 2 ^ 8 = b0 + b1 * 2 ^ 8 := by rw [Nat.xor_comm, xor_join 8 (b1 * 2 ^ 8) b0 (by simp) (by omega)]; omega
    have a2 : (b0 + b1 * 2 ^ 8) ^^^ b2 * 2 ^ 16 = b0 + b1 * 2 ^ 8 + b2 * 2 ^ 16 := by rw [Nat.xor_comm, xor_join 16 (b2 * 2 ^ 16) _ (by simp) (by omega)]; omega
    have a3 : (b0 + b1 * 2 ^ 8 + b2 * 2 ^ 16) ^^^ b3 * 2 ^ 24 = b0 + b1 * 2 ^ 8 + b2 * 2 ^ 16 + b3 * 2 ^ 24 := by rw [Nat.xor_comm, xor_join 24 (b3 * 2 ^ 24) _ (by simp) (by omega)]; omega
    rw [a1, a2, a3]
  rw [e3] at h
  have := cTn_ker 32 _ (by omega) h
  omega
end Go.Proofs.Ytofjkopfldgkcab
