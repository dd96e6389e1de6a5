/- Layer 18: offsets as bits of words; take. -/
import Derived.Test.YtebfpffilepfaaaUb
namespace Go.Proofs.Ytebfpffilepfaaa
open Go.RowKit Go.Maps
set_option linter.unusedVariables false
set_option maxRecDepth 20000

def mask (r m : Nat) : Nat := (2 ^ m - 1) * 2 ^ r
theorem mask_lt {r m : Nat} (h : r + m ≤ 64) : mask r m < 18446744073709551616 := by
  unfold mask
  have h1 : (2 ^ m - 1) * 2 ^ r < 2 ^ m * 2 ^ r := Nat.mul_lt_mul_of_pos_right (by have := Nat.two_pow_pos m; omega) (Nat.two_pow_pos r)
  rw [← Nat.pow_add] at h1
  have h2 : 2 ^ (m + r) ≤ 2 ^ 64 := Nat.pow_le_pow_right (by omega) (by omega)
  omega
theorem mask_bit (r m j : Nat) : (mask r m).testBit j = (decide (r ≤ j) && decide (j < r + m)) := by
  unfold mask
  rw [← Nat.shiftLeft_eq, Nat.testBit_shiftLeft, Nat.testBit_two_pow_sub_one]
  by_cases h : r ≤ j
  · simp [h]; omega
  · simp [h]
theorem and_zero {W r m : Nat} (h : W &&& mask r m = 0) (j : Nat) (h1 : r ≤ j) (h2 : j < r + m) : W.testBit j = false := by
  have := congrArg (fun x => Nat.testBit x j) h
  simp only [Nat.testBit_and, Nat.zero_testBit, mask_bit, h1, h2, decide_true, Bool.and_true] at this
  exact this
theorem and_some {W r m : Nat} (h : ¬ W &&& mask r m = 0) : ∃ j, r ≤ j ∧ j < r + m ∧ W.testBit j = true := by
  obtain ⟨j, hj⟩ := Nat.exists_testBit_of_ne_zero h
  rw [Nat.testBit_and, mask_bit] at hj
  simp only [Bool.and_eq_true, decide_eq_true_eq] at hj
  exact ⟨j, hj.2.1, hj.2.2, hj.1⟩
/-- Block mb holds just the offsets of T. -/
def OffS (w : World) (mb n : Nat) (T : Nat → Bool) : Prop :=
  ∃ g : Int → Option Int, WoMap w mb n g ∧ ∀ q : Nat, ∃ W : Nat, (g (q : Nat)).getD 0 = ((W : Nat) : Int) ∧ W < 18446744073709551616 ∧ ∀ j, j < 64 → W.testBit j = T (64 * q + j)
theorem OffS.lt {w : World} {mb n : Nat} {T : Nat → Bool} (h : OffS w mb n T) : mb < w.heap.size := by
  obtain ⟨g, h1, _⟩ := h
  exact h1.lt
theorem OffS.block {w w' : World} {mb n : Nat} {T : Nat → Bool} (h : OffS w mb n T) (hb : w'.heap[mb]? = w.heap[mb]?) : OffS w' mb n T := by
  obtain ⟨g, h1, h2⟩ := h
  exact ⟨g, h1.block hb, h2⟩
theorem OffS.mono {w : World} {mb n n' : Nat} {T : Nat → Bool} (h : OffS w mb n T) (hn : n ≤ n') : OffS w mb n' T := by
  obtain ⟨g, h1, h2⟩ := h
  exact ⟨g, h1.mono hn, h2⟩
/-- What a call turns that turns one block alone. -/
structure OnlyB (b : Nat) (w w' : World) : Prop where
  os : w'.os = w.os
  tape : w'.tape = w.tape
  output : w'.output = w.output
  size : w.heap.size ≤ w'.heap.size
  block : ∀ k, k < w.heap.size → k ≠ b → w'.heap[k]? = w.heap[k]?
theorem OnlyB.refl (b : Nat) (w : World) : OnlyB b w w := ⟨rfl, rfl, rfl, Nat.le_refl _, fun _ _ _ => rfl⟩
theorem OnlyB.trans {b : Nat} {u v w : World} (h : OnlyB b u v) (k : OnlyB b v w) : OnlyB b u w :=
  ⟨k.os.trans h.os, k.tape.trans h.tape, k.output.trans h.output, Nat.le_trans h.size k.size, fun i hl hi => (k.block i (Nat.lt_of_lt_of_le hl h.size) hi).trans (h.block i hl hi)⟩
theorem OnlyB.of_below {b : Nat} {w w' : World} (h : Below w.heap.size w w') : OnlyB b w w' := ⟨h.os, h.tape, h.output, h.size, fun k hk _ => h.block k hk⟩
theorem OnlyB.grown {b : Nat} {w w' : World} (h : w.grownBy w' (some b)) : OnlyB b w w' := ⟨h.os, h.tape, h.output, h.size, fun k hk hn => h.block k hk (fun e => hn (Option.some.inj e))⟩
theorem OnlyB.below {b B : Nat} {w w' : World} (h : OnlyB b w w') (hb : B ≤ b) (hB : B ≤ w.heap.size) : Below B w w' :=
  ⟨h.os, h.tape, h.output, h.size, fun k hk => h.block k (by omega) (by omega)⟩
/-- Offsets with a range more. -/
def more (T : Nat → Bool) (a e : Nat) : Nat → Bool := fun o => T o || (decide (a ≤ o) && decide (o < e))
theorem more_nil (T : Nat → Bool) (a : Nat) : more T a a = T := by
  funext o
  unfold more
  have : (decide (a ≤ o) && decide (o < a)) = false := by
    by_cases h : a ≤ o
    · simp [h]
    · simp [h]
  rw [this, Bool.or_false]
theorem more_more (T : Nat → Bool) {a b c : Nat} (h : a ≤ b) (h' : b ≤ c) : more (more T a b) b c = more T a c := by
  funext o
  unfold more
  rw [Bool.or_assoc]
  congr 1
  rw [Bool.eq_iff_iff]
  simp only [Bool.or_eq_true, Bool.and_eq_true, decide_eq_true_eq]
  omega
theorem OffS.look {w : World} {mb n : Nat} {T : Nat → Bool} (h : OffS w mb n T) (q : Nat) (hq : q ≤ 9223372036854775807) : ∃ W : Nat, W < 18446744073709551616 ∧ (∀ j, j < 64 → W.testBit j = T (64 * q + j)) ∧ (Instr.lookup 51 (.map (some mb)) (.int .i64 (q : Nat)) false).run Try.prog w = .ok (.int .u64 (W : Nat)) w := by
  obtain ⟨g, h1, h2⟩ := h
  obtain ⟨W, e, hW, hb⟩ := h2 q
  refine ⟨W, hW, hb, ?_⟩
  have := (h1.look kindO (q : Int) (keyN ⟨by omega, by omega⟩)).2
  rw [e] at this
  exact this
theorem OffS.put {w : World} {mb n : Nat} {T : Nat → Bool} (h : OffS w mb n T) (q r m W : Nat) (hq : q ≤ 9223372036854775807) (hr : r + m ≤ 64) (hW : W < 18446744073709551616) (hb : ∀ j, j < 64 → W.testBit j = T (64 * q + j)) (hn : n < 9223372036854775807) :
    ∃ w', (Instr.mapUpdate 51 (.map (some mb)) (.int .i64 (q : Nat)) (.int .u64 ((W ||| mask r m : Nat) : Int))).run Try.prog w = .ok () w' ∧ OffS w' mb (n + 1) (more T (64 * q + r) (64 * q + r + m)) ∧ OnlyB mb w w' := by
  obtain ⟨g, h1, h2⟩ := h
  obtain ⟨w', hrun, hm, hg⟩ := h1.put kindO (q : Int) ((W ||| mask r m : Nat) : Int) (keyN ⟨by omega, by omega⟩) (by unfold maxLen; omega) (fun y => if y = (q : Nat) then some ((W ||| mask r m : Nat) : Int) else g y) (by simp) (fun y hy => by rw [if_neg hy])
  refine ⟨w', hrun, ⟨_, hm, fun p => ?_⟩, OnlyB.grown hg⟩
  by_cases e : p = q
  · subst e
    refine ⟨W ||| mask r m, by simp, ?_, fun j hj => ?_⟩
    · exact Nat.or_lt_two_pow (n := 64) hW (mask_lt hr)
    · rw [Nat.testBit_or, hb j hj, mask_bit]
      unfold more
      congr 1
      rw [Bool.eq_iff_iff]
      simp only [Bool.and_eq_true, decide_eq_true_eq]
      omega
  · obtain ⟨V, e1, e2, e3⟩ := h2 p
    refine ⟨V, by rw [if_neg (by omega)]; exact e1, e2, fun j hj => ?_⟩
    rw [e3 j hj]
    unfold more
    have : (decide (64 * q + r ≤ 64 * p + j) && decide (64 * p + j < 64 * q + r + m)) = false := by
      rw [Bool.and_eq_false_iff, decide_eq_false_iff_not, decide_eq_false_iff_not]
      omega
    rw [this, Bool.or_false]
theorem and_word (W M : Nat) (h : W < 18446744073709551616) (h' : M < 18446744073709551616) : bits .and .u64 (W : Int) (M : Int) = ((W &&& M : Nat) : Int) := u64_and_nat _ _ (by omega) (by omega)
theorem or_word (W M : Nat) (h : W < 18446744073709551616) (h' : M < 18446744073709551616) : bits .or .u64 (W : Int) (M : Int) = ((W ||| M : Nat) : Int) := u64_or_nat _ _ (by omega) (by omega)
/-- What take leaves. -/
structure TakeE (w : World) (mb n : Nat) (T : Nat → Bool) (base cnt : Nat) (b : Bool) (w' : World) : Prop where
  yes : b = true → (∀ o, base ≤ o → o < base + cnt → T o = false) ∧ OffS w' mb (n + 256) (more T base (base + cnt))
  no : b = false → ∃ o, base ≤ o ∧ o < base + cnt ∧ T o = true
  only : OnlyB mb w w'
end Go.Proofs.Ytebfpffilepfaaa
