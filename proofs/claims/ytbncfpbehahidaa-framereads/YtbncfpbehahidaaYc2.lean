/- Layer 6: a sequence, case by case. -/
import Derived.Test.YtbncfpbehahidaaYc
namespace Go.Proofs.Ytbncfpbehahidaa
open Go.RowKit
set_option linter.unusedVariables false

section
variable {s : ByteArray} {most a : Nat} {l : List Nat}
theorem unp_bad {k q : Nat} {x : Bool × Nat × List Nat} (h : seqF s most a l = (q, x)) (hq : q ≠ 0) : unpF s most (k + 1) a l = (q, []) := by
  unfold unpF; rw [h, if_pos hq]
theorem unp_last {k p : Nat} {m : List Nat} (h : seqF s most a l = (0, true, p, m)) : unpF s most (k + 1) a l = (0, m) := by
  unfold unpF; rw [h, if_neg (by simp), if_pos rfl]
theorem unp_more {k p : Nat} {m : List Nat} (h : seqF s most a l = (0, false, p, m)) : unpF s most (k + 1) a l = unpF s most k p m := by
  rw [unpF]; rw [h, if_neg (by simp), if_neg (by simp)]
theorem seq_end (h : s.size ≤ a) : seqF s most a l = (5, false, a, l) := by unfold seqF; rw [if_pos h]
theorem plain_num {n t0 N P : Nat} (ht : numB s a n = (t0, N, P)) (z : t0 ≠ 0) : plainF s most a l n = (t0, a, l) := by
  unfold plainF; rw [ht, if_pos z]
theorem plain_long {n N P : Nat} (ht : numB s a n = (0, N, P)) (h : most < l.length + N) : plainF s most a l n = (4, a, l) := by
  unfold plainF; rw [ht, if_neg (by simp), if_pos h]
theorem plain_short {n N P : Nat} (ht : numB s a n = (0, N, P)) (h : ¬ most < l.length + N) (h2 : s.size < P + N) : plainF s most a l n = (5, a, l) := by
  unfold plainF; rw [ht, if_neg (by simp), if_neg h, if_pos h2]
theorem plain_good {n N P : Nat} (ht : numB s a n = (0, N, P)) (h : ¬ most < l.length + N) (h2 : ¬ s.size < P + N) : plainF s most a l n = (0, P + N, l ++ bytesOf (s.extract P (P + N))) := by
  unfold plainF; rw [ht, if_neg (by simp), if_neg h, if_neg h2]
theorem copy_short {n : Nat} (h : s.size < a + 2) : copyF s most a l n = (5, a, l) := by
  unfold copyF
  have : distF s a l = (5, 0, a) := by unfold distF; rw [if_pos h]
  rw [this, if_pos (by simp)]
theorem copy_far {n : Nat} (h : ¬ s.size < a + 2) (h2 : bt s a + 256 * bt s (a + 1) = 0 ∨ l.length < bt s a + 256 * bt s (a + 1)) : copyF s most a l n = (60, a, l) := by
  unfold copyF
  have : distF s a l = (60, 0, a) := by unfold distF; rw [if_neg h, if_pos h2]
  rw [this, if_pos (by simp)]
theorem dist_good (h : ¬ s.size < a + 2) (h2 : ¬ (bt s a + 256 * bt s (a + 1) = 0 ∨ l.length < bt s a + 256 * bt s (a + 1))) : distF s a l = (0, bt s a + 256 * bt s (a + 1), a + 2) := by
  unfold distF; rw [if_neg h, if_neg h2]
theorem copy_num {n d p t0 N P : Nat} (h : distF s a l = (0, d, p)) (ht : numB s (a + 2) n = (t0, N, P)) (z : t0 ≠ 0) : copyF s most a l n = (t0, a, l) := by
  unfold copyF; rw [h, ht, if_neg (by simp), if_pos z]
theorem copy_long {n d p N P : Nat} (h : distF s a l = (0, d, p)) (ht : numB s (a + 2) n = (0, N, P)) (h4 : most < l.length + (N + 4)) : copyF s most a l n = (4, a, l) := by
  unfold copyF; rw [h, ht, if_neg (by simp), if_neg (by simp), if_pos h4]
theorem copy_good {n d p N P : Nat} (h : distF s a l = (0, d, p)) (ht : numB s (a + 2) n = (0, N, P)) (h4 : ¬ most < l.length + (N + 4)) : copyF s most a l n = (0, P, copyL d (N + 4) l) := by
  unfold copyF; rw [h, ht, if_neg (by simp), if_neg (by simp), if_neg h4]
theorem seq_plain {q : Nat} {x : Nat × List Nat} (h1 : a < s.size) (h : plainF s most (a + 1) l (bt s a / 16) = (q, x)) (hq : q ≠ 0) : seqF s most a l = (q, false, a, l) := by
  unfold seqF; rw [if_neg (by omega), h, if_pos hq]
theorem seq_last {m : List Nat} (h1 : a < s.size) (h : plainF s most (a + 1) l (bt s a / 16) = (0, s.size, m)) : seqF s most a l = (0, true, s.size, m) := by
  unfold seqF; rw [if_neg (by omega), h, if_neg (by simp), if_pos rfl]
theorem seq_bad' {M q : Nat} {m : List Nat} {x : Nat × List Nat} (h1 : a < s.size) (h : plainF s most (a + 1) l (bt s a / 16) = (0, M, m)) (hM : M ≠ s.size) (hc : copyF s most M m (bt s a % 16) = (q, x)) (hq : q ≠ 0) : seqF s most a l = (q, false, a, l) := by
  unfold seqF; rw [if_neg (by omega), h, if_neg (by simp), if_neg (by exact hM)]
  simp only
  rw [hc, if_pos hq]
theorem seq_good {M : Nat} {m : List Nat} {x : Nat × List Nat} (h1 : a < s.size) (h : plainF s most (a + 1) l (bt s a / 16) = (0, M, m)) (hM : M ≠ s.size) (hc : copyF s most M m (bt s a % 16) = (0, x)) : seqF s most a l = (0, false, x) := by
  unfold seqF; rw [if_neg (by omega), h, if_neg (by simp), if_neg (by exact hM)]
  simp only
  rw [hc, if_neg (by simp)]
end
theorem lzR_bad {r : Nat × List Nat} {q : Nat} (h : r = (q, [])) (hq : q ≠ 0) : lzR r = .tuple #[.string ⟨#[]⟩, .int .i64 (q : Nat)] := by
  subst h; unfold lzR; rw [if_neg hq]
theorem lzR_good {r : Nat × List Nat} {m : List Nat} (h : r = (0, m)) : lzR r = .tuple #[.string (toBA m), .int .i64 0] := by
  subst h; rfl
end Go.Proofs.Ytbncfpbehahidaa
