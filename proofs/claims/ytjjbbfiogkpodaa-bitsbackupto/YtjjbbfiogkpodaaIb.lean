/- One call of a writer, held against the document's bits. -/
import Derived.Test.YtjjbbfiogkpodaaIa
namespace Go.Proofs.Ytjjbbfiogkpodaa
open Go.RowKit
set_option linter.unusedVariables false

set_option maxHeartbeats 400000 in
theorem writes_other (k x n : Int) (t : ByteArray) (B b cp : Nat) (ao : Option Addr) (L : List Nat) (w : World) (h1 : k ≠ 1) (h2 : k ≠ 2) (h3 : k ≠ 3) (hB : B ≤ w.heap.size) (hI : IS w B (.slice ao L.length cp) L) (hw : WS w B b L) :
    Calls Try.prog 14 #[.pointer (some ⟨b, 0, none⟩), .slice ao L.length cp, .agg #[.int .i64 k, .int .i64 x, .int .i64 n, .string t]] w (WritesPost B b L t w) := by
  have H : Hid (IS w B (.slice ao L.length cp) L ∧ WS w B b L) := ⟨hI, hw⟩
  clear hI hw
  have e1 : (k == 1) = false := by simp [h1]
  have e2 : (k == 2) = false := by simp [h2]
  have e3 : (k == 3) = false := by simp [h3]
  clear h1 h2 h3
  go_enter Try.func14, Try.ntmps14
  go_wp2
  go_ret2
  exact ⟨ao, cp, L, rfl, by omega, H.out.1.alloc _, H.out.2.below ((Below.refl _ _).alloc (Nat.le_refl _) _), (Below.refl _ _).alloc hB _⟩
set_option maxHeartbeats 400000 in
theorem writes_bits_arg (x n : Int) (t : ByteArray) (B b cp : Nat) (ao : Option Addr) (L : List Nat) (w : World) (h : n < 0 ∨ 57 < n ∨ x < 0 ∨ ∃ m : Nat, n = m ∧ m ≤ 57 ∧ (2 : Int) ^ m ≤ x) (hB : B ≤ w.heap.size) (hI : IS w B (.slice ao L.length cp) L) (hw : WS w B b L) :
    Calls Try.prog 14 #[.pointer (some ⟨b, 0, none⟩), .slice ao L.length cp, .agg #[.int .i64 1, .int .i64 x, .int .i64 n, .string t]] w (WritesPost B b L t w) := by
  have H : Hid (IS w B (.slice ao L.length cp) L ∧ WS w B b L) := ⟨hI, hw⟩
  have HH : Hid (n < 0 ∨ 57 < n ∨ x < 0 ∨ ∃ m : Nat, n = m ∧ m ≤ 57 ∧ (2 : Int) ^ m ≤ x) := h
  clear hI hw
  have hcase : n < 0 ∨ (¬ n < 0 ∧ 57 < n) ∨ (¬ n < 0 ∧ ¬ 57 < n ∧ x < 0) ∨ (¬ n < 0 ∧ ¬ 57 < n ∧ ¬ x < 0 ∧ 0 < x / 2 ^ n.toNat) := by
    by_cases h1 : n < 0
    · exact .inl h1
    by_cases h2 : 57 < n
    · exact .inr (.inl ⟨h1, h2⟩)
    by_cases h3 : x < 0
    · exact .inr (.inr (.inl ⟨h1, h2, h3⟩))
    · refine .inr (.inr (.inr ⟨h1, h2, h3, ?_⟩))
      rcases h with h | h | h | ⟨m, rfl, hm, hx⟩
      · omega
      · omega
      · omega
      · obtain ⟨X, rfl⟩ := Int.eq_ofNat_of_zero_le (show 0 ≤ x by omega)
        have e : (X : Int) / 2 ^ m = ((X / 2 ^ m : Nat) : Int) := by simp
        have e2 : ((2 ^ m : Nat) : Int) = 2 ^ m := by simp
        have hp : 0 < X / 2 ^ m := Nat.div_pos (by omega) (Nat.pos_of_ne_zero (by simp))
        rw [Int.toNat_natCast, e]; omega
  clear h
  rcases hcase with h | ⟨h, h2⟩ | ⟨h, h2, h3⟩ | ⟨h, h2, h3, h4⟩
  all_goals
    go_enter Try.func14, Try.ntmps14
    go_wp2_with fail
    refine (wbits_arg B b L x n _ HH.out (H.out.2.below ((Below.refl _ _).alloc (Nat.le_refl _) _))).mono ?_
    rintro e w1 ⟨rfl, hw1⟩
    subst hw1
    go_wp2
    go_ret2
    exact ⟨ao, cp, L, rfl, by omega, H.out.1.alloc _, H.out.2.below ((Below.refl _ _).alloc (Nat.le_refl _) _), (Below.refl _ _).alloc hB _⟩
end Go.Proofs.Ytjjbbfiogkpodaa
