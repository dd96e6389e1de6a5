/- Layer 6: what a sequence leaves: the place grows, the plain bytes are bytes and not too many. -/
import Derived.Test.YtbncfpbehahidaaYa
namespace Go.Proofs.Ytbncfpbehahidaa
open Go.RowKit
set_option linter.unusedVariables false

theorem plainF_le (s : ByteArray) (most a : Nat) (l : List Nat) (n : Nat) (ha : a ≤ s.size) (h : (plainF s most a l n).1 = 0) : a ≤ (plainF s most a l n).2.1 ∧ (plainF s most a l n).2.1 ≤ s.size ∧ (plainF s most a l n).2.2.length ≤ most ∧ (Bytes l → Bytes (plainF s most a l n).2.2) := by
  revert h
  have b1 := numB_le s a n ha
  unfold plainF
  obtain ⟨r, hr⟩ : ∃ r, numB s a n = r := ⟨_, rfl⟩
  rw [hr] at b1 ⊢
  split
  · intro h; exact (‹r.1 ≠ 0› h).elim
  · split
    · intro h; simp at h
    · split
      · intro h; simp at h
      · intro _
        refine ⟨by simp only; omega, by simp only; omega, ?_, fun h => h.append (bytesOf_bytes _)⟩
        show (l ++ bytesOf _).length ≤ most
        rw [List.length_append, bytesOf_length, ByteArray.size_extract]; omega
theorem copyF_le (s : ByteArray) (most a : Nat) (l : List Nat) (n : Nat) (ha : a ≤ s.size) (h : (copyF s most a l n).1 = 0) : a ≤ (copyF s most a l n).2.1 ∧ (copyF s most a l n).2.1 ≤ s.size ∧ (copyF s most a l n).2.2.length ≤ most ∧ (Bytes l → Bytes (copyF s most a l n).2.2) := by
  revert h
  unfold copyF
  split
  · intro h; exact (‹(distF s a l).1 ≠ 0› h).elim
  · rename_i hd
    have h2 : a + 2 ≤ s.size := by
      unfold distF at hd
      split at hd
      · simp at hd
      · omega
    have b1 := numB_le s (a + 2) n h2
    obtain ⟨r, hr⟩ : ∃ r, numB s (a + 2) n = r := ⟨_, rfl⟩
    rw [hr] at b1 ⊢
    split
    · intro h; exact (‹r.1 ≠ 0› h).elim
    · split
      · intro h; simp at h
      · intro _
        refine ⟨by simp only; omega, by simp only; omega, ?_, fun h => copyL_bytes _ h⟩
        show (copyL _ _ l).length ≤ most
        rw [copyL_length]; omega
theorem seqF_le (s : ByteArray) (most a : Nat) (l : List Nat) (h : (seqF s most a l).1 = 0) : a < (seqF s most a l).2.2.1 ∧ (seqF s most a l).2.2.1 ≤ s.size ∧ (seqF s most a l).2.2.2.length ≤ most ∧ (Bytes l → Bytes (seqF s most a l).2.2.2) := by
  revert h
  unfold seqF
  split
  · intro h; simp at h
  · rename_i h0
    have b1 := plainF_le s most (a + 1) l (bt s a / 16) (by omega)
    obtain ⟨r, hr⟩ : ∃ r, plainF s most (a + 1) l (bt s a / 16) = r := ⟨_, rfl⟩
    rw [hr] at b1 ⊢
    split
    · intro h; exact (‹r.1 ≠ 0› h).elim
    · have b2 := b1 (by omega)
      split
      · intro _; exact ⟨by simp only; omega, b2.2.1, b2.2.2.1, b2.2.2.2⟩
      · have b3 := copyF_le s most r.2.1 r.2.2 (bt s a % 16) b2.2.1
        obtain ⟨t, ht⟩ : ∃ t, copyF s most r.2.1 r.2.2 (bt s a % 16) = t := ⟨_, rfl⟩
        rw [ht] at b3 ⊢
        split
        · intro h; exact (‹t.1 ≠ 0› h).elim
        · have b4 := b3 (by omega)
          intro _; exact ⟨by simp only; omega, b4.2.1, b4.2.2.1, fun h => b4.2.2.2 (b2.2.2.2 h)⟩
theorem unpF_more (s : ByteArray) (most : Nat) : ∀ (k k' a : Nat) (l : List Nat), a ≤ s.size → s.size - a < k → s.size - a < k' → unpF s most k a l = unpF s most k' a l
  | 0, _, _, _, _, h, _ => by omega
  | _ + 1, 0, _, _, _, _, h => by omega
  | k + 1, k' + 1, a, l, ha, h, h' => by
    unfold unpF
    split
    · rfl
    · rename_i h0
      have h1 := seqF_le s most a l (by omega)
      split
      · rfl
      · exact unpF_more s most k k' _ _ h1.2.1 (by omega) (by omega)
theorem unpF_bytes (s : ByteArray) (most : Nat) : ∀ (k a : Nat) (l : List Nat), Bytes l → Bytes (unpF s most k a l).2
  | 0, _, _, _ => by intro x hx; simp [unpF] at hx
  | k + 1, a, l, h => by
    unfold unpF
    split
    · intro x hx; simp at hx
    · rename_i h0
      have h1 := seqF_le s most a l (by omega)
      split
      · exact h1.2.2.2 h
      · exact unpF_bytes s most k _ _ (h1.2.2.2 h)
/-- What Unpack answers. -/
def lzR (r : Nat × List Nat) : Value := if r.1 = 0 then .tuple #[.string (toBA r.2), .int .i64 0] else .tuple #[.string ⟨#[]⟩, .int .i64 ((r.1 : Nat) : Int)]
end Go.Proofs.Ytbncfpbehahidaa
