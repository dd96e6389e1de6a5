/- What a table tells: the mathematics of reading a symbol. -/
import Derived.Test.YtchjnfckcfikkaaDoorUc
import Derived.Test.YtchjnfckcfikkaaDoorRc
namespace Go.Proofs.YtchjnfckcfikkaaDoor
open Go.RowKit
set_option linter.unusedVariables false

theorem symsOf_length (ns : List Nat) (l : Nat) (hl : 0 < l) : ∀ i, (symsOf ns l i).length = lcnt ns l i
  | 0 => rfl
  | i + 1 => by
    rw [symsOf_succ]
    simp only [lcnt]
    by_cases e : ns.getD i 0 = l
    · rw [if_pos ⟨e, hl⟩, if_pos e, List.length_append, symsOf_length ns l hl i]; rfl
    · rw [if_neg (fun h => e h.1), if_neg e, symsOf_length ns l hl i]; rfl
theorem symsOf_zero (ns : List Nat) (i : Nat) : symsOf ns 0 i = [] := by
  unfold symsOf
  rw [List.filter_eq_nil_iff]
  intro a _
  simp
/-- The symbol at a place of its length's row has as many of its length ahead. -/
theorem symsOf_at (ns : List Nat) (l : Nat) (hl : 0 < l) : ∀ (i j : Nat), j < lcnt ns l i → ∃ s, (symsOf ns l i)[j]? = some s ∧ s < i ∧ ns.getD s 0 = l ∧ lcnt ns l s = j
  | 0, j, h => by simp [lcnt] at h
  | i + 1, j, h => by
    rw [symsOf_succ]
    simp only [lcnt] at h
    by_cases e : ns.getD i 0 = l
    · rw [if_pos ⟨e, hl⟩]
      rw [if_pos e] at h
      by_cases hj : j < lcnt ns l i
      · obtain ⟨s, h1, h2, h3, h4⟩ := symsOf_at ns l hl i j hj
        refine ⟨s, ?_, by omega, h3, h4⟩
        rw [List.getElem?_append_left (by rw [symsOf_length ns l hl]; exact hj)]; exact h1
      · have hj' : j = lcnt ns l i := by omega
        refine ⟨i, ?_, by omega, e, hj'.symm⟩
        rw [List.getElem?_append_right (by rw [symsOf_length ns l hl]; omega), symsOf_length ns l hl, hj']; simp
    · rw [if_neg (fun h => e h.1)]
      rw [if_neg e] at h
      obtain ⟨s, h1, h2, h3, h4⟩ := symsOf_at ns l hl i j (by omega)
      exact ⟨s, h1, by omega, h3, h4⟩
/-- The symbol whose word of length l is x. -/
def symW (ns : List Nat) (l x : Nat) : Nat := (symsOf ns l ns.length).getD (x - fstW ns l) 0
theorem symW_ok (ns : List Nat) (l x : Nat) (hl : 0 < l) (h1 : fstW ns l ≤ x) (h2 : x < endW ns l) : symW ns l x < ns.length ∧ ns.getD (symW ns l x) 0 = l ∧ codeW ns (symW ns l x) = x := by
  unfold endW at h2
  obtain ⟨s, e1, e2, e3, e4⟩ := symsOf_at ns l hl ns.length (x - fstW ns l) (by omega)
  have : symW ns l x = s := by unfold symW; rw [List.getD_eq_getElem?_getD, e1]; rfl
  rw [this]
  refine ⟨e2, e3, ?_⟩
  unfold codeW
  rw [e3, e4]; omega
/-- Two symbols of one length and one word are one. -/
theorem codeW_inj (ns : List Nat) (i k : Nat) (hi : i < ns.length) (hk : k < ns.length) (hl : ns.getD i 0 = ns.getD k 0) (hw : codeW ns i = codeW ns k) : i = k := by
  unfold codeW at hw
  rw [hl] at hw
  rcases Nat.lt_trichotomy i k with h | h | h
  · have := lcnt_lt ns (ns.getD k 0) i k h hl; omega
  · exact h
  · have := lcnt_lt ns (ns.getD k 0) k i h rfl; omega
/-- What is read: a symbol (err 0) and how many bits its word has, or why there is none. k lengths are left, l bits were taken: x. -/
def rdS (ns : List Nat) (s : ByteArray) (p : Nat) : Nat → Nat → Nat → Nat × Nat × Nat
  | 0, l, x => (0, l, 30)
  | k + 1, l, x => if x < ew ns l then (symW ns l x, l, 0) else if ew ns 15 ≤ x * 2 ^ (15 - l) then (0, l, 30) else if 8 * s.size ≤ p + l then (0, l, 5) else rdS ns s p k (l + 1) (2 * x + bitAt s (p + l))
def rd (ns : List Nat) (s : ByteArray) (p : Nat) : Nat × Nat × Nat := rdS ns s p 16 0 0
end Go.Proofs.YtchjnfckcfikkaaDoor
