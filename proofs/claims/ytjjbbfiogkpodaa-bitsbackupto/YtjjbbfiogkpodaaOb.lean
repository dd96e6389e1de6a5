/- One call of a reader, held against the document's answer. -/
import Derived.Test.YtjjbbfiogkpodaaOa
namespace Go.Proofs.Ytjjbbfiogkpodaa
open Go.RowKit
set_option linter.unusedVariables false

/-- An operation's value. -/
def opV (k x n : Int) (t : ByteArray) : Value := .agg #[.int .i64 k, .int .i64 x, .int .i64 n, .string t]
/-- What one call leaves. -/
def ReadsPost (s : ByteArray) (b : Nat) (w : World) (e : Ending) (w' : World) : Prop :=
  ∃ nxt : Nat, e = .returned (.tuple #[.int .i64 nxt, .bool true]) ∧ nxt ≤ 8 * s.size ∧ RS w' b s nxt ∧ Only b w w'

set_option maxHeartbeats 400000 in
theorem reads_other (k x n : Int) (t s : ByteArray) (b p : Nat) (w : World) (h1 : k ≠ 1) (h2 : k ≠ 2) (h3 : k ≠ 3) (hp : p ≤ 8 * s.size) (hr : RS w b s p) :
    Calls Try.prog 10 #[.pointer (some ⟨b, 0, none⟩), .string s, .int .i64 p, .agg #[.int .i64 k, .int .i64 x, .int .i64 n, .string t]] w (ReadsPost s b w) := by
  have HR : Hid (RS w b s p) := hr
  clear hr
  have e1 : (k == 1) = false := by simp [h1]
  have e2 : (k == 2) = false := by simp [h2]
  have e3 : (k == 3) = false := by simp [h3]
  clear h1 h2 h3
  go_enter Try.func10, Try.ntmps10
  go_wp2
  go_ret2
  exact ⟨p, rfl, hp, HR.out.below ((Below.refl _ _).alloc (Nat.le_refl _) _) (lt_of_block HR.out), Only.of_below ((Below.refl _ _).alloc (Nat.le_refl _) _)⟩
theorem RS.alloc {w : World} {b : Nat} {s : ByteArray} {p : Nat} (h : RS w b s p) (o : Obj) : RS (w.alloc o) b s p := h.below ((Below.refl _ _).alloc (Nat.le_refl _) _) (lt_of_block h)
theorem Only.alloc (b : Nat) (w : World) (o : Obj) : Only b w (w.alloc o) := Only.of_below ((Below.refl _ _).alloc (Nat.le_refl _) _)
set_option maxHeartbeats 400000 in
theorem reads_align (x n : Int) (t s : ByteArray) (b p : Nat) (w : World) (hp : p ≤ 8 * s.size) (hs : s.size ≤ 281474976710656) (hr : RS w b s p) :
    Calls Try.prog 10 #[.pointer (some ⟨b, 0, none⟩), .string s, .int .i64 p, .agg #[.int .i64 2, .int .i64 x, .int .i64 n, .string t]] w (ReadsPost s b w) := by
  have HR : Hid (RS w b s p) := hr
  clear hr
  go_enter Try.func10, Try.ntmps10
  go_wp2_with fail
  refine (refAligned _ _ (by omega) (by omega)).mono ?_
  rintro e w1 ⟨rfl, hw1⟩
  subst hw1
  go_wp2_with fail
  refine (ralign b s p _ hp hs (HR.out.alloc _)).mono ?_
  rintro e w2 ⟨rfl, hr2, ho2⟩
  have H2 : Hid (RS w2 b s ((p + 7) / 8 * 8) ∧ Only b w w2) := ⟨hr2, (Only.alloc b w _).trans ho2⟩
  clear hr2 ho2
  go_wp2
  go_ret2
  exact ⟨(p + 7) / 8 * 8, rfl, by omega, H2.out.1, H2.out.2⟩
set_option maxHeartbeats 400000 in
theorem reads_bits_arg (x n : Int) (t s : ByteArray) (b p : Nat) (w : World) (hp : p ≤ 8 * s.size) (hn : n < 0 ∨ 57 < n) (hr : RS w b s p) :
    Calls Try.prog 10 #[.pointer (some ⟨b, 0, none⟩), .string s, .int .i64 p, .agg #[.int .i64 1, .int .i64 x, .int .i64 n, .string t]] w (ReadsPost s b w) := by
  have HR : Hid (RS w b s p) := hr
  have HN : Hid (n < 0 ∨ 57 < n) := hn
  clear hr
  by_cases h0 : n < 0
  · clear hn
    go_enter Try.func10, Try.ntmps10
    go_wp2_with fail
    refine (rbits_arg b s p n _ HN.out (HR.out.alloc _)).mono ?_
    rintro e w1 ⟨rfl, hw1⟩
    subst hw1
    go_wp2
    go_ret2
    exact ⟨p, rfl, hp, HR.out.alloc _, Only.alloc _ _ _⟩
  · have h57 : 57 < n := by omega
    clear hn
    go_enter Try.func10, Try.ntmps10
    go_wp2_with fail
    refine (rbits_arg b s p n _ HN.out (HR.out.alloc _)).mono ?_
    rintro e w1 ⟨rfl, hw1⟩
    subst hw1
    go_wp2
    go_ret2
    exact ⟨p, rfl, hp, HR.out.alloc _, Only.alloc _ _ _⟩
set_option maxHeartbeats 400000 in
theorem reads_bits_short (x : Int) (n : Nat) (t s : ByteArray) (b p : Nat) (w : World) (hp : p ≤ 8 * s.size) (hn : n ≤ 57) (hq : 8 * s.size < p + n) (hs : s.size ≤ 281474976710656) (hr : RS w b s p) :
    Calls Try.prog 10 #[.pointer (some ⟨b, 0, none⟩), .string s, .int .i64 p, .agg #[.int .i64 1, .int .i64 x, .int .i64 n, .string t]] w (ReadsPost s b w) := by
  have HR : Hid (RS w b s p) := hr
  clear hr
  go_enter Try.func10, Try.ntmps10
  go_wp2_with fail
  refine (rbits_short b s p n _ hn hp hq hs (HR.out.alloc _)).mono ?_
  rintro e w1 ⟨rfl, n1, hw1⟩
  subst hw1
  go_wp2_with fail
  refine (refBits_short s p n _ hn hp hq hs).mono ?_
  rintro e w2 ⟨rfl, hw2⟩
  subst hw2
  go_wp2
  go_ret2
  exact ⟨p, rfl, hp, (HR.out.alloc _).drewN n1, (Only.alloc _ _ _).drewN n1⟩
theorem box_kept {b : Nat} {w w1 : World} {k x n : Int} {t : ByteArray} {T : TypeId} (h : Only b (w.alloc (.cells #[.int .i64 k, .int .i64 x, .int .i64 n, .string t] T)) w1) (hb : b < w.heap.size) :
    w1.cell? ⟨w.heap.size, 0, none⟩ = some (.int .i64 k) ∧ w1.cell? ⟨w.heap.size, 1, none⟩ = some (.int .i64 x) ∧ w1.cell? ⟨w.heap.size, 2, none⟩ = some (.int .i64 n) ∧ w1.cell? ⟨w.heap.size, 3, none⟩ = some (.string t) := by
  have h1 : w1.heap[w.heap.size]? = some (.cells #[.int .i64 k, .int .i64 x, .int .i64 n, .string t] T (0, 0)) := (h.block w.heap.size (by simp) (by omega)).trans (heap_alloc_new _ _)
  exact ⟨by simp [World.cell?, h1], by simp [World.cell?, h1], by simp [World.cell?, h1], by simp [World.cell?, h1]⟩
set_option maxHeartbeats 400000 in
theorem reads_bits (x : Int) (n : Nat) (t s : ByteArray) (b p : Nat) (w : World) (hn : n ≤ 57) (hq : p + n ≤ 8 * s.size) (hs : s.size ≤ 281474976710656) (hr : RS w b s p) :
    Calls Try.prog 10 #[.pointer (some ⟨b, 0, none⟩), .string s, .int .i64 p, .agg #[.int .i64 1, .int .i64 x, .int .i64 n, .string t]] w (ReadsPost s b w) := by
  have HR : Hid (RS w b s p) := hr
  clear hr
  go_enter Try.func10, Try.ntmps10
  go_wp2_with fail
  refine (rbits b s p n _ hn hq hs (HR.out.alloc _)).mono ?_
  rintro e w1 ⟨rfl, hr1, ho1⟩
  obtain ⟨_, _, c2, _⟩ := box_kept ho1 (lt_of_block HR.out)
  have H1 : Hid (RS w1 b s (p + n) ∧ Only b w w1) := ⟨hr1, (Only.alloc _ _ _).trans ho1⟩
  clear hr1 ho1
  go_wp2_with fail
  refine (refBits s p n _ hn hq hs).mono ?_
  rintro e w2 ⟨rfl, hw2⟩
  subst hw2
  go_wp2
  go_ret2
  exact ⟨p + n, rfl, hq, H1.out.1, H1.out.2⟩
set_option maxHeartbeats 400000 in
theorem reads_bytes_arg (x n : Int) (t s : ByteArray) (b p : Nat) (w : World) (hp : p ≤ 8 * s.size) (hn : n < 0) (hr : RS w b s p) :
    Calls Try.prog 10 #[.pointer (some ⟨b, 0, none⟩), .string s, .int .i64 p, .agg #[.int .i64 3, .int .i64 x, .int .i64 n, .string t]] w (ReadsPost s b w) := by
  have HR : Hid (RS w b s p) := hr
  clear hr
  go_enter Try.func10, Try.ntmps10
  go_wp2_with fail
  refine (rbytes_arg b s p n _ hn (HR.out.alloc _)).mono ?_
  rintro e w1 ⟨rfl, hw1⟩
  subst hw1
  go_wp2
  go_ret2
  exact ⟨p, rfl, hp, HR.out.alloc _, Only.alloc _ _ _⟩
set_option maxHeartbeats 400000 in
theorem reads_bytes_bits (x n : Int) (t s : ByteArray) (b p : Nat) (w : World) (hp : p ≤ 8 * s.size) (hn : 0 ≤ n) (h8 : p % 8 ≠ 0) (hs : s.size ≤ 281474976710656) (hr : RS w b s p) :
    Calls Try.prog 10 #[.pointer (some ⟨b, 0, none⟩), .string s, .int .i64 p, .agg #[.int .i64 3, .int .i64 x, .int .i64 n, .string t]] w (ReadsPost s b w) := by
  have HR : Hid (RS w b s p) := hr
  clear hr
  go_enter Try.func10, Try.ntmps10
  go_wp2_with fail
  refine (rbytes_bits b s p n _ hn h8 hp hs (HR.out.alloc _)).mono ?_
  rintro e w1 ⟨rfl, hw1⟩
  subst hw1
  go_wp2
  go_ret2
  exact ⟨p, rfl, hp, HR.out.alloc _, Only.alloc _ _ _⟩
set_option maxHeartbeats 400000 in
theorem reads_bytes_short (x n : Int) (t s : ByteArray) (b p : Nat) (w : World) (hp : p ≤ 8 * s.size) (hn : 0 ≤ n) (h8 : p % 8 = 0) (hq : (s.size : Int) - (p / 8 : Nat) < n) (hs : s.size ≤ 281474976710656) (hr : RS w b s p) :
    Calls Try.prog 10 #[.pointer (some ⟨b, 0, none⟩), .string s, .int .i64 p, .agg #[.int .i64 3, .int .i64 x, .int .i64 n, .string t]] w (ReadsPost s b w) := by
  have HR : Hid (RS w b s p) := hr
  have H8 : Hid (p % 8 = 0) := h8
  have hp8 : ((p : Int) % 8 == 0) = true := by simp; omega
  clear hr h8
  go_enter Try.func10, Try.ntmps10
  go_wp2_with fail
  refine (rbytes_short b s p n _ hq H8.out hp hs (HR.out.alloc _)).mono ?_
  rintro e w1 ⟨rfl, n1, hw1⟩
  subst hw1
  go_wp2
  go_ret2
  exact ⟨p, rfl, hp, (HR.out.alloc _).drewN n1, (Only.alloc _ _ _).drewN n1⟩
set_option maxHeartbeats 400000 in
theorem reads_bytes (x : Int) (n : Nat) (t s : ByteArray) (b p : Nat) (w : World) (hp : p ≤ 8 * s.size) (h8 : p % 8 = 0) (hq : p / 8 + n ≤ s.size) (hs : s.size ≤ 281474976710656) (hr : RS w b s p) :
    Calls Try.prog 10 #[.pointer (some ⟨b, 0, none⟩), .string s, .int .i64 p, .agg #[.int .i64 3, .int .i64 x, .int .i64 n, .string t]] w (ReadsPost s b w) := by
  have HR : Hid (RS w b s p) := hr
  have H8 : Hid (p % 8 = 0) := h8
  have hp8 : ((p : Int) % 8 == 0) = true := by simp; omega
  clear hr h8
  go_enter Try.func10, Try.ntmps10
  go_wp2_with fail
  refine (rbytes b s p n _ hq H8.out hp hs (HR.out.alloc _) (lt_of_block (HR.out.alloc _))).mono ?_
  rintro e w1 ⟨rfl, hr1, ho1⟩
  obtain ⟨_, _, c2, _⟩ := box_kept ho1 (lt_of_block HR.out)
  have H1 : Hid (RS w1 b s (p + 8 * n) ∧ Only b w w1) := ⟨hr1, (Only.alloc _ _ _).trans ho1⟩
  clear hr1 ho1
  go_wp2
  go_quiet (fail)
  go_wp2
  go_ret2
  exact ⟨p + 8 * n, rfl, by have := H8.out; omega, H1.out.1.drewN nq, H1.out.2.drewN nq⟩
/-- Whatever the call: the two sides do not part. -/
theorem reads_any (k x n : Int) (t s : ByteArray) (b p : Nat) (w : World) (hp : p ≤ 8 * s.size) (hs : s.size ≤ 281474976710656) (hr : RS w b s p) :
    Calls Try.prog 10 #[.pointer (some ⟨b, 0, none⟩), .string s, .int .i64 p, .agg #[.int .i64 k, .int .i64 x, .int .i64 n, .string t]] w (ReadsPost s b w) := by
  by_cases h1 : k = 1
  · subst h1
    by_cases hn : n < 0 ∨ 57 < n
    · exact reads_bits_arg x n t s b p w hp hn hr
    · obtain ⟨N, rfl⟩ := Int.eq_ofNat_of_zero_le (show 0 ≤ n by omega)
      by_cases hq : p + N ≤ 8 * s.size
      · exact reads_bits x N t s b p w (by omega) hq hs hr
      · exact reads_bits_short x N t s b p w hp (by omega) (by omega) hs hr
  by_cases h2 : k = 2
  · subst h2; exact reads_align x n t s b p w hp hs hr
  by_cases h3 : k = 3
  · subst h3
    by_cases hn : n < 0
    · exact reads_bytes_arg x n t s b p w hp hn hr
    by_cases h8 : p % 8 = 0
    · by_cases hq : (s.size : Int) - (p / 8 : Nat) < n
      · exact reads_bytes_short x n t s b p w hp (by omega) h8 hq hs hr
      · obtain ⟨N, rfl⟩ := Int.eq_ofNat_of_zero_le (show 0 ≤ n by omega)
        exact reads_bytes x N t s b p w hp h8 (by omega) hs hr
    · exact reads_bytes_bits x n t s b p w hp (by omega) h8 hs hr
  exact reads_other k x n t s b p w h1 h2 h3 hp hr
end Go.Proofs.Ytjjbbfiogkpodaa
