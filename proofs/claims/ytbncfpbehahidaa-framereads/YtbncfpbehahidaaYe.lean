/- Layer 6: how far back, and a copy. -/
import Derived.Test.YtbncfpbehahidaaYd
namespace Go.Proofs.Ytbncfpbehahidaa
open Go.RowKit
set_option linter.unusedVariables false

theorem i64_or_nat (a b : Nat) (ha : a < 9223372036854775808) (hb : b < 9223372036854775808) : bits .or .i64 (a : Int) (b : Int) = ((a ||| b : Nat) : Int) := by
  have hx : a ||| b < 2 ^ 63 := Nat.or_lt_two_pow (by omega) (by omega)
  show IntKind.i64.wrap ((BitVec.ofInt 64 (a : Int) ||| BitVec.ofInt 64 (b : Int)).toNat : Int) = _
  have e : ∀ n : Nat, n < 9223372036854775808 → (BitVec.ofInt 64 (n : Int)).toNat = n := fun n hn => by
    rw [BitVec.toNat_ofInt]; omega
  rw [BitVec.toNat_or, e a ha, e b hb, IntKind.wrap_i64]
  omega
theorem or_256 (x y : Nat) (hx : x < 256) : x ||| y * 256 = x + 256 * y := by
  have h := Nat.two_pow_add_eq_or_of_lt (i := 8) (by omega : x < 2 ^ 8) y
  rw [Nat.or_comm, Nat.mul_comm y 256, Nat.add_comm]
  simpa using h.symm
theorem num_bad {B u : Nat} {s : ByteArray} {l : List Nat} {most : Nat} {v : Value} {w w' : World} {r : Nat × Nat × Nat} {q x p' : Nat} (hf : Below B w w') (hr : r = (q, x, p')) (hq : q ≠ 0) : NumEnd B u s l most v w r (.returned (.tuple #[.int .i64 0, .int .i64 (q : Nat)])) w' := by
  subst hr
  exact ⟨hf, .inl ⟨hq, rfl⟩⟩
set_option maxRecDepth 20000 in
set_option maxHeartbeats 4000000 in
theorem distance_ok (w : World) (B u : Nat) (s : ByteArray) (a : Nat) (l : List Nat) (most : Nat) (v : Value) (h : LU w B u s a l most v) (hl : l.length ≤ 1048576) :
    Calls Try.prog 76 #[.pointer (some ⟨u, 0, none⟩)] w fun e w' => NumEnd B u s l most v w (distF s a l) e w' := by
  have H : Hid (LU w B u s a l most v) := h
  have hs := h.small
  have hle := h.le
  clear h
  obtain ⟨r, hr⟩ : ∃ r, distF s a l = r := ⟨_, rfl⟩
  rw [hr]
  have HR : Hid (distF s a l = r) := hr
  clear hr
  by_cases h1 : a < s.size
  · have HN : Hid (∀ _ : Unit, Calls Try.prog 71 #[.pointer (some ⟨u, 0, none⟩)] w fun e w' => e = .returned (.tuple #[.int .i64 (bt s a : Nat), .int .i64 0]) ∧ LU w' B u s (a + 1) l most v ∧ Below B w w') := fun _ => next_ok w B u s a l most v H.out h1
    have hx1 := bt_lt s a
    obtain ⟨x, hx⟩ : ∃ x, bt s a = x := ⟨_, rfl⟩
    rw [hx] at HN hx1
    have HX : Hid (bt s a = x) := hx
    clear hx
    go_enter Try.func76, Try.ntmps76
    go_wp2_with fail
    refine (HN.out ()).mono ?_
    rintro e w1 ⟨rfl, hu1, hb1⟩
    have H1 : Hid (LU w1 B u s (a + 1) l most v ∧ Below B w w1) := ⟨hu1, hb1⟩
    clear hu1 hb1 HN
    by_cases h2 : a + 1 < s.size
    · have HN : Hid (∀ _ : Unit, Calls Try.prog 71 #[.pointer (some ⟨u, 0, none⟩)] w1 fun e w' => e = .returned (.tuple #[.int .i64 (bt s (a + 1) : Nat), .int .i64 0]) ∧ LU w' B u s (a + 2) l most v ∧ Below B w1 w') := fun _ => next_ok w1 B u s (a + 1) l most v H1.out.1 h2
      have hy1 := bt_lt s (a + 1)
      obtain ⟨y, hy⟩ : ∃ x, bt s (a + 1) = x := ⟨_, rfl⟩
      rw [hy] at HN hy1
      have HY : Hid (bt s (a + 1) = y) := hy
      clear hy
      go_wp2_with fail
      refine (HN.out ()).mono ?_
      rintro e w2 ⟨rfl, hu1, hb1⟩
      have H2 : Hid (LU w2 B u s (a + 2) l most v ∧ Below B w w2) := ⟨hu1, H1.out.2.trans hb1⟩
      obtain ⟨ao, cp, rfl⟩ := hu1.form
      obtain ⟨c0, c1, c2, c3, f1, f2⟩ := hu1.cells
      clear hu1 hb1 HN
      obtain ⟨d, hd⟩ : ∃ d, x + 256 * y = d := ⟨_, rfl⟩
      obtain ⟨L, hL⟩ : ∃ L, l.length = L := ⟨_, rfl⟩
      have HRR : Hid (r = if d = 0 ∨ L < d then (60, 0, a) else (0, d, a + 2)) := by
        show _ = _
        rw [← HR.out]; unfold distF
        rw [HX.out, HY.out, hd, hL, if_neg (by omega)]
      rw [hL] at c2 hl
      have hor : bits .or .i64 (x : Int) ((y : Int) * 256) = (d : Int) := by
        have h1 := i64_or_nat x (y * 256) (by omega) (by omega)
        rw [or_256 x y hx1, hd] at h1
        rw [← h1]; rfl
      clear hL hd HX HY HR H H1 c0 c1 c3 f1 f2
      by_cases d0 : d = 0
      · have d0i : ((d : Int) == 0) = true := by simp [d0]
        have d0j : (d : Int) = 0 := by omega
        go_wp2
        go_ret2
        exact num_bad H2.out.2 (by rw [HRR.out, if_pos (.inl d0)]) (by decide)
      · have d0i : ((d : Int) == 0) = false := by simp; omega
        have d0j : ¬ (d : Int) = 0 := by omega
        by_cases d1 : L < d
        · have d1i : decide ((L : Int) < (d : Int)) = true := by simp; omega
          go_wp2
          go_ret2
          exact num_bad H2.out.2 (by rw [HRR.out, if_pos (.inr d1)]) (by decide)
        · have d1i : decide ((L : Int) < (d : Int)) = false := by simp; omega
          go_wp2
          go_ret2
          rw [HRR.out, if_neg (by omega)]
          exact ⟨H2.out.2, .inr ⟨rfl, rfl, H2.out.1⟩⟩
    · have HN : Hid (∀ _ : Unit, Calls Try.prog 71 #[.pointer (some ⟨u, 0, none⟩)] w1 fun e w' => e = .returned (.tuple #[.int .i64 0, .int .i64 5]) ∧ ∃ k, w' = w1.drewN k) := fun _ => next_no w1 B u s l most v (by have := H1.out.1; rw [show a + 1 = s.size by omega] at this; exact this)
      go_wp2_with fail
      refine (HN.out ()).mono ?_
      rintro e w2 ⟨rfl, k, rfl⟩
      go_wp2
      go_ret2
      refine num_bad (H1.out.2.trans (Below.drewN' _ _ _)) (x := 0) (p' := a) ?_ (by decide)
      rw [← HR.out]; unfold distF; rw [if_pos (by omega)]
  · have HN : Hid (∀ _ : Unit, Calls Try.prog 71 #[.pointer (some ⟨u, 0, none⟩)] w fun e w' => e = .returned (.tuple #[.int .i64 0, .int .i64 5]) ∧ ∃ k, w' = w.drewN k) := fun _ => next_no w B u s l most v (by have := H.out; rw [show a = s.size by omega] at this; exact this)
    go_enter Try.func76, Try.ntmps76
    go_wp2_with fail
    refine (HN.out ()).mono ?_
    rintro e w2 ⟨rfl, k, rfl⟩
    go_wp2
    go_ret2
    refine num_bad (Below.drewN' _ _ _) (x := 0) (p' := a) ?_ (by decide)
    rw [← HR.out]; unfold distF; rw [if_pos (by omega)]
end Go.Proofs.Ytbncfpbehahidaa
