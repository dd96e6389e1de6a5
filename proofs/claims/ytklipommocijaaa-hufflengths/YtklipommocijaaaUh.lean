/- A word's bits, highest first; a word that stands there is read as its symbol (plain mathematics). -/
import Derived.Test.YtklipommocijaaaUd
import Derived.Test.YtklipommocijaaaWn
import Derived.Test.YtklipommocijaaaPm
namespace Go.Proofs.Ytklipommocijaaa
open Go.RowKit
set_option linter.unusedVariables false

/-- The bits of a word of length n, highest first. -/
def wbitsOf (x : Nat) : Nat → List Nat
  | 0 => []
  | n + 1 => (x / 2 ^ n % 2) :: wbitsOf x n
theorem wbitsOf_length (x n : Nat) : (wbitsOf x n).length = n := by
  induction n with
  | zero => rfl
  | succ n ih => simp [wbitsOf, ih]
theorem wbitsOf_get (x n i : Nat) (h : i < n) : (wbitsOf x n).getD i 0 = x / 2 ^ (n - 1 - i) % 2 := by
  induction n generalizing i with
  | zero => omega
  | succ n ih =>
    cases i with
    | zero => simp [wbitsOf]
    | succ i =>
      show (wbitsOf x n).getD i 0 = _
      rw [ih i (by omega)]
      congr 3
      omega
theorem wbitsOf_01 (x n : Nat) : Bits01 (wbitsOf x n) := by
  induction n with
  | zero => intro y hy; simp [wbitsOf] at hy
  | succ n ih =>
    intro y hy
    rcases List.mem_cons.1 hy with rfl | hy
    · exact Nat.mod_lt _ (by omega)
    · exact ih y hy
theorem rv_bit (x n i : Nat) (h : i < n) : rv x n / 2 ^ i % 2 = x / 2 ^ (n - 1 - i) % 2 := by
  induction n generalizing i with
  | zero => omega
  | succ n ih =>
    simp only [rv]
    cases i with
    | zero => simp
    | succ i =>
      have := ih i (by omega)
      rw [Nat.pow_succ, Nat.mul_comm (2 ^ i) 2, ← Nat.div_div_eq_div_mul, show (2 * rv x n + x / 2 ^ n % 2) / 2 = rv x n by have := Nat.mod_lt (x / 2 ^ n) (show 0 < 2 by omega); omega, this]
      congr 3
      omega
/-- What the program writes are the word's bits. -/
theorem bitsOf_rv (x n : Nat) : bitsOf (rv x n) n = wbitsOf x n := by
  refine List.ext_getElem? (fun i => ?_)
  by_cases h : i < n
  · rw [bitsOf_get _ _ _ h, rv_bit x n i h, List.getElem?_eq_getElem (by rw [wbitsOf_length]; exact h)]
    have := wbitsOf_get x n i h
    rw [getD_in (by rw [wbitsOf_length]; exact h)] at this
    rw [this]
  · rw [List.getElem?_eq_none (by rw [bitsOf_length]; omega), List.getElem?_eq_none (by rw [wbitsOf_length]; omega)]

theorem endW_above (ns : List Nat) (l d : Nat) (h1 : 1 ≤ l) : endW ns l * 2 ^ d ≤ endW ns (l + d) := by
  cases d with
  | zero => simp
  | succ d => exact Nat.le_trans (fstW_above ns l d h1) (Nat.le_add_right _ _)
/-- A beginning of a word, shorter than it: no word yet, and more may come. -/
theorem begins {ns : List Nat} {i l k : Nat} (hi : i < ns.length) (hl : ns.getD i 0 = l) (h15 : l ≤ 15) (hk : k < l) : ew ns k ≤ codeW ns i / 2 ^ (l - k) ∧ codeW ns i / 2 ^ (l - k) * 2 ^ (15 - k) < ew ns 15 := by
  have hend := codeW_end ns i hi
  rw [hl] at hend
  have hge : fstW ns l ≤ codeW ns i := by unfold codeW; rw [hl]; exact Nat.le_add_right _ _
  refine ⟨?_, ?_⟩
  · cases k with
    | zero => simp [ew]
    | succ k =>
      rw [Nat.le_div_iff_mul_le (Nat.pos_of_ne_zero (by simp))]
      have := fstW_above ns (k + 1) (l - (k + 1) - 1) (by omega)
      rw [show k + 1 + (l - (k + 1) - 1) + 1 = l by omega, show l - (k + 1) - 1 + 1 = l - (k + 1) by omega] at this
      exact Nat.le_trans this hge
  · have h1 : codeW ns i / 2 ^ (l - k) * 2 ^ (l - k) ≤ codeW ns i := Nat.div_mul_le_self _ _
    have h2 := endW_above ns l (15 - l) (by omega)
    rw [show l + (15 - l) = 15 by omega] at h2
    have h3 : codeW ns i / 2 ^ (l - k) * 2 ^ (15 - k) = codeW ns i / 2 ^ (l - k) * 2 ^ (l - k) * 2 ^ (15 - l) := by rw [Nat.mul_assoc, ← Nat.pow_add, show l - k + (15 - l) = 15 - k by omega]
    rw [h3]
    have h4 : codeW ns i / 2 ^ (l - k) * 2 ^ (l - k) * 2 ^ (15 - l) ≤ codeW ns i * 2 ^ (15 - l) := Nat.mul_le_mul_right _ h1
    have h5 : codeW ns i * 2 ^ (15 - l) < endW ns l * 2 ^ (15 - l) := Nat.mul_lt_mul_of_pos_right hend (Nat.pos_of_ne_zero (by simp))
    have h6 : endW ns 15 = ew ns 15 := rfl
    omega
theorem rd_word {ns : List Nat} {s : ByteArray} {p i l : Nat} (hi : i < ns.length) (hl : ns.getD i 0 = l) (h1 : 1 ≤ l) (h15 : l ≤ 15) (hp : p + l ≤ 8 * s.size) (hb : ∀ j, j < l → bitAt s (p + j) = codeW ns i / 2 ^ (l - 1 - j) % 2) (hlt : codeW ns i < 2 ^ l) : rd ns s p = (i, l, 0) := by
  have key : ∀ m k, k + m = l → rdS ns s p (16 - k) k (codeW ns i / 2 ^ (l - k)) = (i, l, 0) := by
    intro m
    induction m with
    | zero =>
      intro k hk
      obtain rfl : k = l := by omega
      rw [Nat.sub_self, Nat.pow_zero, Nat.div_one, show 16 - k = (15 - k) + 1 by omega]
      simp only [rdS]
      have hend := codeW_end ns i hi
      rw [hl] at hend
      have hew : ew ns k = endW ns k := by
        cases k with
        | zero => omega
        | succ k => rfl
      rw [if_pos (by rw [hew]; exact hend)]
      have hge : fstW ns k ≤ codeW ns i := by unfold codeW; rw [hl]; exact Nat.le_add_right _ _
      obtain ⟨a1, a2, a3⟩ := symW_ok ns k (codeW ns i) (by omega) hge hend
      rw [codeW_inj ns _ i a1 hi (by rw [a2, hl]) a3]
    | succ m ih =>
      intro k hk
      rw [show 16 - k = (16 - (k + 1)) + 1 by omega]
      simp only [rdS]
      obtain ⟨b1, b2⟩ := begins hi hl h15 (show k < l by omega)
      rw [if_neg (by omega), if_neg (by omega), if_neg (by omega), hb k (by omega)]
      have e : 2 * (codeW ns i / 2 ^ (l - k)) + codeW ns i / 2 ^ (l - 1 - k) % 2 = codeW ns i / 2 ^ (l - (k + 1)) := by
        rw [show l - k = (l - 1 - k) + 1 by omega, Nat.pow_succ, ← Nat.div_div_eq_div_mul, show l - (k + 1) = l - 1 - k by omega]
        omega
      rw [e]
      exact ih (k + 1) (by omega)
  have h := key l 0 (by omega)
  rw [show l - 0 = l from rfl, Nat.div_eq_of_lt hlt] at h
  exact h
end Go.Proofs.Ytklipommocijaaa
