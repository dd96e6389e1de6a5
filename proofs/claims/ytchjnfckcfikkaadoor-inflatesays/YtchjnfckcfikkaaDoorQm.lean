/- Plain mathematics of canonical words: they fit, and no word begins another one. -/
import Derived.Laws.BitsAllLaws
import Derived.IntWalk
namespace Go.Proofs.YtchjnfckcfikkaaDoor
open Go.RowKit
set_option linter.unusedVariables false

/-- How many of the first n lengths are l. -/
def lcnt (lens : List Nat) (l : Nat) : Nat → Nat
  | 0 => 0
  | n + 1 => lcnt lens l n + (if lens.getD n 0 = l then 1 else 0)
theorem lcnt_mono (lens : List Nat) (l n m : Nat) (h : n ≤ m) : lcnt lens l n ≤ lcnt lens l m := by
  induction m with
  | zero => rw [show n = 0 by omega]; exact Nat.le_refl _
  | succ m ih =>
    by_cases e : n = m + 1
    · rw [e]; exact Nat.le_refl _
    · simp only [lcnt]
      have := ih (by omega)
      omega
theorem lcnt_lt (lens : List Nat) (l i n : Nat) (hi : i < n) (h : lens.getD i 0 = l) : lcnt lens l i < lcnt lens l n := by
  have h1 : lcnt lens l (i + 1) = lcnt lens l i + 1 := by simp only [lcnt]; rw [if_pos h]
  have h2 := lcnt_mono lens l (i + 1) n (by omega)
  omega
/-- The first word of a length: twice what comes behind the last word of the length below; a symbol of length 0 has none. -/
def fstW (lens : List Nat) : Nat → Nat
  | 0 => 0
  | 1 => 0
  | l + 2 => 2 * (fstW lens (l + 1) + lcnt lens (l + 1) lens.length)
def endW (lens : List Nat) (l : Nat) : Nat := fstW lens l + lcnt lens l lens.length
theorem fstW_succ (lens : List Nat) (l : Nat) (h : 1 ≤ l) : fstW lens (l + 1) = 2 * endW lens l := by
  obtain ⟨k, rfl⟩ : ∃ k, l = k + 1 := ⟨l - 1, by omega⟩
  rfl
/-- The word of a symbol. -/
def codeW (lens : List Nat) (i : Nat) : Nat := fstW lens (lens.getD i 0) + lcnt lens (lens.getD i 0) i
/-- The share of the lengths 1 to l, in parts of 2^15. -/
def shareTo (lens : List Nat) : Nat → Nat
  | 0 => 0
  | l + 1 => shareTo lens l + lcnt lens (l + 1) lens.length * 2 ^ (15 - (l + 1))
theorem endW_share (lens : List Nat) (l : Nat) (h : l + 1 ≤ 15) : endW lens (l + 1) * 2 ^ (15 - (l + 1)) = shareTo lens (l + 1) := by
  induction l with
  | zero => simp [endW, fstW, shareTo]
  | succ l ih =>
    have e := ih (by omega)
    simp only [shareTo] at e ⊢
    rw [← e]
    show (fstW lens (l + 1 + 1) + lcnt lens (l + 1 + 1) lens.length) * _ = _
    rw [fstW_succ lens (l + 1) (by omega), Nat.add_mul]
    congr 1
    rw [show 15 - (l + 1) = (15 - (l + 1 + 1)) + 1 by omega, Nat.pow_succ, Nat.mul_comm 2, Nat.mul_assoc, Nat.mul_comm 2]
theorem shareTo_mono (lens : List Nat) (l m : Nat) (h : l ≤ m) : shareTo lens l ≤ shareTo lens m := by
  induction m with
  | zero => rw [show l = 0 by omega]; exact Nat.le_refl _
  | succ m ih =>
    by_cases e : l = m + 1
    · rw [e]; exact Nat.le_refl _
    · simp only [shareTo]
      have := ih (by omega)
      omega
theorem endW_le (lens : List Nat) (l : Nat) (h1 : 1 ≤ l) (h2 : l ≤ 15) (hs : shareTo lens 15 ≤ 2 ^ 15) : endW lens l ≤ 2 ^ l := by
  obtain ⟨k, rfl⟩ : ∃ k, l = k + 1 := ⟨l - 1, by omega⟩
  have e := endW_share lens k h2
  have m := shareTo_mono lens (k + 1) 15 h2
  have hp : 2 ^ 15 = 2 ^ (k + 1) * 2 ^ (15 - (k + 1)) := by rw [← Nat.pow_add]; congr 1; omega
  have hpos : 0 < 2 ^ (15 - (k + 1)) := Nat.pos_of_ne_zero (by simp)
  refine Nat.le_of_mul_le_mul_right ?_ hpos
  rw [e, ← hp]
  omega
theorem fstW_above (lens : List Nat) (l d : Nat) (h1 : 1 ≤ l) : endW lens l * 2 ^ (d + 1) ≤ fstW lens (l + d + 1) := by
  induction d with
  | zero => rw [Nat.add_zero, fstW_succ lens l h1]; omega
  | succ d ih =>
    rw [show l + (d + 1) + 1 = (l + d + 1) + 1 by omega, fstW_succ lens (l + d + 1) (by omega), Nat.pow_succ, ← Nat.mul_assoc, Nat.mul_comm _ 2]
    have : fstW lens (l + d + 1) ≤ endW lens (l + d + 1) := Nat.le_add_right _ _
    omega
theorem codeW_end (lens : List Nat) (i : Nat) (hi : i < lens.length) : codeW lens i < endW lens (lens.getD i 0) := by
  have := lcnt_lt lens _ i lens.length hi rfl
  unfold codeW endW
  omega
/-- A word fits into its length. -/
theorem codeW_fits (lens : List Nat) (i : Nat) (hi : i < lens.length) (h1 : 1 ≤ lens.getD i 0) (h2 : lens.getD i 0 ≤ 15) (hs : shareTo lens 15 ≤ 2 ^ 15) : codeW lens i < 2 ^ lens.getD i 0 :=
  Nat.lt_of_lt_of_le (codeW_end lens i hi) (endW_le lens _ h1 h2 hs)
/-- No word begins another one. -/
theorem codeW_apart (lens : List Nat) (i k : Nat) (hi : i < lens.length) (hk : k < lens.length) (hne : i ≠ k) (h1 : 1 ≤ lens.getD i 0) (hle : lens.getD i 0 ≤ lens.getD k 0) :
    codeW lens k / 2 ^ (lens.getD k 0 - lens.getD i 0) ≠ codeW lens i := by
  by_cases he : lens.getD k 0 = lens.getD i 0
  · rw [he, Nat.sub_self, Nat.pow_zero, Nat.div_one]
    unfold codeW
    rw [he]
    intro e
    have e2 : lcnt lens (lens.getD i 0) k = lcnt lens (lens.getD i 0) i := by omega
    rcases Nat.lt_or_gt_of_ne hne with h | h
    · have := lcnt_lt lens (lens.getD i 0) i k h rfl
      omega
    · have := lcnt_lt lens (lens.getD i 0) k i h he
      omega
  · obtain ⟨d, hd⟩ : ∃ d, lens.getD k 0 = lens.getD i 0 + d + 1 := ⟨lens.getD k 0 - lens.getD i 0 - 1, by omega⟩
    have ha := fstW_above lens (lens.getD i 0) d h1
    have hc : fstW lens (lens.getD k 0) ≤ codeW lens k := Nat.le_add_right _ _
    rw [hd] at hc
    have hlt := codeW_end lens i hi
    have hge : endW lens (lens.getD i 0) ≤ codeW lens k / 2 ^ (lens.getD k 0 - lens.getD i 0) := by
      rw [Nat.le_div_iff_mul_le (Nat.pos_of_ne_zero (by simp)), hd, show lens.getD i 0 + d + 1 - lens.getD i 0 = d + 1 by omega]
      omega
    omega
end Go.Proofs.YtchjnfckcfikkaaDoor
