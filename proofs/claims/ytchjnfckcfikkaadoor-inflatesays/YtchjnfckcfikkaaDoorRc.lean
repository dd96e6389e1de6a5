/- Reader.Bytes: the next bytes, from a byte's first bit on. -/
import Derived.Test.YtchjnfckcfikkaaDoorRb
namespace Go.Proofs.YtchjnfckcfikkaaDoor
open Go.RowKit
set_option linter.unusedVariables false

theorem ret_si {s t : ByteArray} {n : Int} (h : s = t) : Ending.returned (.tuple #[.string s, .int .i64 n]) = .returned (.tuple #[.string t, .int .i64 n]) := by rw [h]
theorem cut_cut (s : ByteArray) (a n : Nat) (h : a + n ≤ s.size) : (s.extract a s.size).extract 0 n = s.extract a (a + n) := by
  rw [ByteArray.extract_extract]; congr 1; omega
theorem rbytes_arg (b : Nat) (s : ByteArray) (p : Nat) (n : Int) (w : World) (hn : n < 0) (hr : RS w b s p) :
    Calls Tryd.prog 54 #[.pointer (some ⟨b, 0, none⟩), .int .i64 n] w fun e w' => e = .returned (.tuple #[.string ⟨#[]⟩, .int .i64 1]) ∧ w' = w := by
  obtain ⟨h0, h1, h2, hf⟩ := hr.cells
  clear hr
  go_enter Tryd.func54, Tryd.ntmps54
  go_wp2_with (go_at_call 32; refine (rgiven_yes _ _ h0).mono ?_; rintro e w' ⟨rfl, rfl⟩)
  go_ret2
  exact ⟨rfl, rfl⟩
theorem rbytes_bits (b : Nat) (s : ByteArray) (p : Nat) (n : Int) (w : World) (hn : 0 ≤ n) (hp : p % 8 ≠ 0) (hb : p ≤ 8 * s.size) (hs : s.size ≤ 281474976710656) (hr : RS w b s p) :
    Calls Tryd.prog 54 #[.pointer (some ⟨b, 0, none⟩), .int .i64 n] w fun e w' => e = .returned (.tuple #[.string ⟨#[]⟩, .int .i64 10]) ∧ w' = w := by
  obtain ⟨h0, h1, h2, hf⟩ := hr.cells
  clear hr
  go_enter Tryd.func54, Tryd.ntmps54
  go_wp2_with (go_at_call 32; refine (rgiven_yes _ _ h0).mono ?_; rintro e w' ⟨rfl, rfl⟩)
  go_ret2
  exact ⟨rfl, rfl⟩
theorem rbytes_short (b : Nat) (s : ByteArray) (p : Nat) (n : Int) (w : World) (hn : (s.size : Int) - (p / 8 : Nat) < n) (hp : p % 8 = 0) (hb : p ≤ 8 * s.size) (hs : s.size ≤ 281474976710656) (hr : RS w b s p) :
    Calls Tryd.prog 54 #[.pointer (some ⟨b, 0, none⟩), .int .i64 n] w fun e w' => e = .returned (.tuple #[.string ⟨#[]⟩, .int .i64 5]) ∧ ∃ k, w' = w.drewN k := by
  obtain ⟨h0, h1, h2, hf⟩ := hr.cells
  clear hr
  have hp' : ((p : Int) % 8 == 0) = true := by simp; omega
  have HP : Hid (p % 8 = 0) := hp
  clear hp
  go_enter Tryd.func54, Tryd.ntmps54
  go_wp2_with (go_at_call 32; refine (rgiven_yes _ _ h0).mono ?_; rintro e w' ⟨rfl, rfl⟩)
  go_quiet (fail)
  go_wp2
  go_ret2
  exact ⟨rfl, nq, rfl⟩
theorem rbytes (b : Nat) (s : ByteArray) (p n : Nat) (w : World) (hn : p / 8 + n ≤ s.size) (hp : p % 8 = 0) (hb : p ≤ 8 * s.size) (hs : s.size ≤ 281474976710656) (hr : RS w b s p) (hbl : b < w.heap.size) :
    Calls Tryd.prog 54 #[.pointer (some ⟨b, 0, none⟩), .int .i64 n] w fun e w' => e = .returned (.tuple #[.string (s.extract (p / 8) (p / 8 + n)), .int .i64 0]) ∧ RS w' b s (p + 8 * n) ∧ Only b w w' := by
  obtain ⟨h0, h1, h2, hf⟩ := hr.cells
  have HR : Hid (RS w b s p) := hr
  clear hr
  have hp' : ((p : Int) % 8 == 0) = true := by simp; omega
  have HP : Hid (p % 8 = 0) := hp
  clear hp
  go_enter Tryd.func54, Tryd.ntmps54
  go_wp2_with (go_at_call 32; refine (rgiven_yes _ _ h0).mono ?_; rintro e w' ⟨rfl, rfl⟩)
  go_quiet (fail)
  go_wp2_with fail
  refine (clone _ _ ?_).mono ?_
  · simp; omega
  rintro e w1 ⟨rfl, hb1⟩
  go_wp2
  go_ret2
  have hlt := lt_of_block HR.out
  refine ⟨ret_si (cut_cut s _ n (by omega)), ?_, ?_⟩
  · have h := HR.out.moved (p + 8 * n) nq
    have e : (((p + 8 * n : Nat)) : Int) = (p : Int) + (n : Int) * 8 := by omega
    unfold RS at h ⊢
    rw [e] at h ⊢
    exact (hb1.block b (by simpa [World.setCell, World.drewN] using hlt)).trans h
  · exact ((Only.setCell b 2 (w'.drewN nq) _).trans (Only.of_below hb1)).undrew
end Go.Proofs.YtchjnfckcfikkaaDoor
