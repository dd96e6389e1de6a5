/- Layer 6: a sequence. -/
import Derived.Test.YtbncfpbehahidaaYf
namespace Go.Proofs.Ytbncfpbehahidaa
open Go.RowKit
set_option linter.unusedVariables false

/-- The end of a sequence. -/
def SeqEnd (B u : Nat) (s : ByteArray) (most : Nat) (w : World) (r : Nat × Bool × Nat × List Nat) (e : Ending) (w' : World) : Prop :=
  Below B w w' ∧ ((r.1 ≠ 0 ∧ e = .returned (.tuple #[.bool false, .int .i64 (r.1 : Nat)])) ∨ (r.1 = 0 ∧ e = .returned (.tuple #[.bool r.2.1, .int .i64 0]) ∧ ∃ v', LU w' B u s r.2.2.1 r.2.2.2 most v'))
theorem seq_bad {B u : Nat} {s : ByteArray} {most : Nat} {w w' : World} {r : Nat × Bool × Nat × List Nat} {q : Nat} {x : Bool × Nat × List Nat} (hf : Below B w w') (hr : r = (q, x)) (hq : q ≠ 0) : SeqEnd B u s most w r (.returned (.tuple #[.bool false, .int .i64 (q : Nat)])) w' := by
  subst hr
  exact ⟨hf, .inl ⟨hq, rfl⟩⟩
theorem i64_and_nat (a b : Nat) (ha : a < 9223372036854775808) (hb : b < 9223372036854775808) : bits .and .i64 (a : Int) (b : Int) = ((a &&& b : Nat) : Int) := by
  have hx : a &&& b ≤ a := Nat.and_le_left
  show IntKind.i64.wrap ((BitVec.ofInt 64 (a : Int) &&& BitVec.ofInt 64 (b : Int)).toNat : Int) = _
  have e : ∀ n : Nat, n < 9223372036854775808 → (BitVec.ofInt 64 (n : Int)).toNat = n := fun n hn => by
    rw [BitVec.toNat_ofInt]; omega
  rw [BitVec.toNat_and, e a ha, e b hb, IntKind.wrap_i64]
  omega
set_option maxRecDepth 20000 in
set_option maxHeartbeats 4000000 in
theorem sequence_ok (w : World) (B u : Nat) (s : ByteArray) (a : Nat) (l : List Nat) (most : Nat) (v : Value) (h : LU w B u s a l most v) (hm : most ≤ 1048576) (hl : l.length ≤ most) :
    Calls Try.prog 61 #[.pointer (some ⟨u, 0, none⟩)] w fun e w' => SeqEnd B u s most w (seqF s most a l) e w' := by
  have H : Hid (LU w B u s a l most v) := h
  have hs := h.small
  have hle := h.le
  clear h
  obtain ⟨r, hr⟩ : ∃ r, seqF s most a l = r := ⟨_, rfl⟩
  rw [hr]
  unfold seqF at hr
  have HR : Hid (_ = r) := hr
  clear hr
  by_cases h1 : a < s.size
  · have HN : Hid (∀ _ : Unit, Calls Try.prog 71 #[.pointer (some ⟨u, 0, none⟩)] w fun e w' => e = .returned (.tuple #[.int .i64 (bt s a : Nat), .int .i64 0]) ∧ LU w' B u s (a + 1) l most v ∧ Below B w w') := fun _ => next_ok w B u s a l most v H.out h1
    have hx1 := bt_lt s a
    have hpl := plainF_le s most (a + 1) l (bt s a / 16) (by omega)
    obtain ⟨x, hx⟩ : ∃ x, bt s a = x := ⟨_, rfl⟩
    rw [hx] at HN hx1 HR hpl
    have hr2 := HR.out
    rw [if_neg (by omega)] at hr2
    have HR2 : Hid (_ = r) := hr2
    clear hx HR hr2
    go_enter Try.func61, Try.ntmps61
    go_wp2_with fail
    refine (HN.out ()).mono ?_
    rintro e w1 ⟨rfl, hu1, hb1⟩
    have H1 : Hid (LU w1 B u s (a + 1) l most v ∧ Below B w w1) := ⟨hu1, hb1⟩
    clear hu1 hb1 HN
    have hsh : ((x : Int) / 16) = ((x / 16 : Nat) : Int) := by omega
    have HP : Hid (∀ _ : Unit, Calls Try.prog 72 #[.pointer (some ⟨u, 0, none⟩), .int .i64 (x / 16 : Nat)] w1 fun e w' => StEnd B u s most w1 (plainF s most (a + 1) l (x / 16)) e w') := fun _ => plain_ok w1 B u s (a + 1) l most v H1.out.1 hm hl (x / 16) (by omega)
    obtain ⟨x1, hx1'⟩ : ∃ x1, x / 16 = x1 := ⟨_, rfl⟩
    obtain ⟨x2, hx2'⟩ : ∃ x2, x % 16 = x2 := ⟨_, rfl⟩
    have hx2b : x2 ≤ 15 := by omega
    have hand : bits .and .i64 (x : Int) 15 = (x2 : Int) := by
      have h1 := i64_and_nat x 15 (by omega) (by omega)
      have h2 : x &&& 15 = x % 16 := Nat.and_two_pow_sub_one_eq_mod x 4
      rw [h2, hx2'] at h1
      exact h1
    rw [hx1', hx2'] at HR2
    rw [hx1'] at HP hsh hpl
    obtain ⟨t, ht⟩ : ∃ t, plainF s most (a + 1) l x1 = t := ⟨_, rfl⟩
    rw [ht] at HR2 HP hpl
    have HPL : Hid _ := hpl
    clear ht hx1' hx2' hpl
    go_wp2_with fail
    refine (HP.out ()).mono ?_
    rintro e w2 ⟨hf, ⟨h0, rfl⟩ | ⟨h0, rfl, v', hU⟩⟩
    · have h0i : ((t.1 : Int) != 0) = true := by simp; omega
      have HF : Hid (Below B w w2) := H1.out.2.trans hf
      have hr := HR2.out
      rw [if_pos h0] at hr
      have HE : Hid (r = (t.1, false, a, l)) := hr.symm
      clear hf hr
      obtain ⟨q, hq⟩ : ∃ q, t.1 = q := ⟨_, rfl⟩
      rw [hq] at h0i ⊢
      have HQ : Hid (t.1 = q) := hq
      clear hq
      go_wp2
      go_ret2
      rw [← HQ.out]
      exact seq_bad HF.out HE.out h0
    · have hpl := HPL.out h0
      have hr := HR2.out
      rw [if_neg (by omega)] at hr
      clear HPL HP HR2
      obtain ⟨t0, P, m⟩ := t
      simp only at h0 hr hU hpl ⊢
      have H2 : Hid (LU w2 B u s P m most v' ∧ Below B w w2) := ⟨hU, H1.out.2.trans hf⟩
      obtain ⟨c0, c1, c2, c3, f1, f2⟩ := hU.cells
      have hPs := hpl.2.1
      have hml := hpl.2.2.1
      by_cases h2 : P = s.size
      · have h2i : (P : Int) = (s.size : Int) := by omega
        have h2b : ((P : Int) == (s.size : Int)) = true := by simp; omega
        rw [if_pos h2] at hr
        have HE : Hid (r = (0, true, P, m)) := hr.symm
        clear hr hU hf h0 hpl H H1 hsh hand c2 c3
        go_wp2_with fail
        go_quiet (fail)
        go_wp2
        go_ret2
        rw [HE.out]
        exact ⟨H2.out.2.trans (Below.drewN' _ _ _), .inr ⟨rfl, rfl, v', H2.out.1.drewN _⟩⟩
      · have h2i : ¬ (P : Int) = (s.size : Int) := by omega
        have h2b : ((P : Int) == (s.size : Int)) = false := by simp; omega
        rw [if_neg h2] at hr
        have HR3 : Hid (_ = r) := hr
        clear hr hU hf h0 hpl H H1 hsh c2 c3
        go_wp2_with fail
        go_quiet (fail)
        have H3 : Hid (LU (w2.drewN nq) B u s P m most v' ∧ Below B w (w2.drewN nq)) := ⟨H2.out.1.drewN nq, H2.out.2.trans (Below.drewN' _ _ _)⟩
        obtain ⟨w3, hw3⟩ : ∃ w3, w2.drewN nq = w3 := ⟨_, rfl⟩
        rw [hw3] at H3 ⊢
        have HC : Hid (∀ _ : Unit, Calls Try.prog 73 #[.pointer (some ⟨u, 0, none⟩), .int .i64 x2] w3 fun e w' => StEnd B u s most w3 (copyF s most P m x2) e w') := fun _ => copy_ok w3 B u s P m most v' H3.out.1 hm hml x2 hx2b
        obtain ⟨t, ht⟩ : ∃ t, copyF s most P m x2 = t := ⟨_, rfl⟩
        rw [ht] at HR3 HC
        clear ht hw3 H2 c0 c1 f1 f2
        go_wp2_with fail
        refine (HC.out ()).mono ?_
        rintro e w4 ⟨hf, ⟨h0, rfl⟩ | ⟨h0, rfl, v'', hU⟩⟩
        · have HF : Hid (Below B w w4) := H3.out.2.trans hf
          have hr := HR3.out
          rw [if_pos h0] at hr
          have HE : Hid (r = (t.1, false, a, l)) := hr.symm
          clear hf hr
          obtain ⟨q, hq⟩ : ∃ q, t.1 = q := ⟨_, rfl⟩
          rw [hq]
          have HQ : Hid (t.1 = q) := hq
          clear hq
          go_wp2
          go_ret2
          rw [← HQ.out]
          exact seq_bad HF.out HE.out h0
        · have hr := HR3.out
          rw [if_neg (by omega)] at hr
          have HE : Hid (r = (0, false, t.2)) := hr.symm
          have H4 : Hid (LU w4 B u s t.2.1 t.2.2 most v'' ∧ Below B w w4) := ⟨hU, H3.out.2.trans hf⟩
          clear hr hU hf
          go_wp2
          go_ret2
          rw [HE.out]
          exact ⟨H4.out.2, .inr ⟨rfl, rfl, v'', H4.out.1⟩⟩
  · have HN : Hid (∀ _ : Unit, Calls Try.prog 71 #[.pointer (some ⟨u, 0, none⟩)] w fun e w' => e = .returned (.tuple #[.int .i64 0, .int .i64 5]) ∧ ∃ k, w' = w.drewN k) := fun _ => next_no w B u s l most v (by have := H.out; rw [show a = s.size by omega] at this; exact this)
    have HE : Hid (r = (5, false, a, l)) := by
      have hr := HR.out
      rw [if_pos (by omega)] at hr
      exact hr.symm
    go_enter Try.func61, Try.ntmps61
    go_wp2_with fail
    refine (HN.out ()).mono ?_
    rintro e w2 ⟨rfl, k, rfl⟩
    go_wp2
    go_ret2
    exact seq_bad (Below.drewN' _ _ _) HE.out (by decide)
end Go.Proofs.Ytbncfpbehahidaa
