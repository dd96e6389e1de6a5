/- The walk of BitsParts. -/
import Derived.Test.YtjjbbfiogkpodabPm
import Derived.Test.YtjjbbfiogkpodabAw
namespace Go.Proofs.Ytjjbbfiogkpodab
open Go.RowKit
set_option linter.unusedVariables false

theorem shr_pos (X K : Nat) (h : 2 ^ K ≤ X) : 0 < (X : Int) / 2 ^ K := by
  have e : (X : Int) / 2 ^ K = ((X / 2 ^ K : Nat) : Int) := by simp
  have hp : 0 < X / 2 ^ K := Nat.div_pos h (Nat.pos_of_ne_zero (by simp))
  rw [e]; omega
theorem shr_zero (X K : Nat) (h : X < 2 ^ K) : (X : Int) / 2 ^ K ≤ 0 := by
  have e : (X : Int) / 2 ^ K = ((X / 2 ^ K : Nat) : Int) := by simp
  rw [e, Nat.div_eq_of_lt h]; simp
set_option maxHeartbeats 400000 in
theorem parts_out (x n cut : Int) (K : Nat) (w : World) (hK : bits .and .i64 n 63 = (K : Int)) (h64 : K < 64) (h : 57 < K ∨ (K ≤ 57 ∧ x < 0) ∨ (K ≤ 57 ∧ 0 ≤ x ∧ 0 < x / 2 ^ K)) :
    Calls Try.prog 3 #[.int .i64 x, .int .i64 n, .int .i64 cut] w fun e w' => e = .returned (.bool true) ∧ Below w.heap.size w w' := by
  rcases h with h | ⟨h, h2⟩ | ⟨h, h2, h3⟩
  all_goals
    go_enter Try.func3, Try.ntmps3
    go_wp2_with fail
    refine (awake _).mono ?_
    rintro r w6 ⟨rfl, hb6⟩
    go_wp2
    go_ret
    exact ⟨rfl, hb6⟩
set_option maxHeartbeats 1000000 in
theorem parts_in1 (X K A0 low high m : Nat) (n cut : Int) (w : World) (hK : bits .and .i64 n 63 = (K : Int)) (hA : bits .and .i64 cut 63 = (A0 : Int)) (h57 : K ≤ 57) (hAK : A0 ≤ K) (hX : X < 2 ^ K)
    (hlow : bits .and .i64 (X : Int) (wrap64 (wrap64 (2 ^ A0) - 1)) = (low : Int)) (Hlow : Hid (low = X % 2 ^ A0)) (hhigh : (X : Int) / 2 ^ A0 = (high : Int)) (Hhigh : Hid (high = X / 2 ^ A0)) (hm : (K : Int) - (A0 : Int) = (m : Int)) (Hm : Hid (m = K - A0)) (hA0 : A0 ≤ K) (hz : (X : Int) / 2 ^ K ≤ 0) :
    Calls Try.prog 3 #[.int .i64 X, .int .i64 n, .int .i64 cut] w fun e w' => e = .returned (.bool true) ∧ Below w.heap.size w w' := by
  have HX : Hid (X < 2 ^ K) := hX
  clear hX
  have Hl : Hid (low < 2 ^ A0) := by rw [Hlow.out]; exact Nat.mod_lt _ (Nat.pos_of_ne_zero (by simp))
  have Hh : Hid (high < 2 ^ m) := by
    rw [Hhigh.out, Hm.out]
    refine Nat.div_lt_of_lt_mul ?_
    rw [← Nat.pow_add, show A0 + (K - A0) = K by omega]; exact HX.out
  have hm57 : m ≤ 57 := by have := Hm.out; omega
  have HS : Hid (([] ++ bitsOf low A0) ++ bitsOf high m = bitsOf X K) := by rw [Hlow.out, Hhigh.out, Hm.out]; exact bitsOf_split X A0 K hA0
  have HN1 : Hid (num (toBA (pack (bitsOf X K))) 0 A0 = low) := by unfold Hid; rw [num_bitsOf X K 0 A0 (by omega), Hlow.out]; simp
  have HN2 : Hid (num (toBA (pack (bitsOf X K))) (0 + A0) m = high) := by
    have h := Hh.out
    rw [num_bitsOf X K (0 + A0) m (by have := Hm.out; omega), Nat.zero_add, ← Hhigh.out]; exact Nat.mod_eq_of_lt h
  have HSZ : Hid (K ≤ 8 * (toBA (pack (bitsOf X K))).size ∧ (toBA (pack (bitsOf X K))).size ≤ 57) := by
    have e : (toBA (pack (bitsOf X K))).size = (K + 7) / 8 := by
      show (((pack (bitsOf X K)).map UInt8.ofNat).toArray).size = _
      simp [pack_length, bitsOf_length]
    unfold Hid; rw [e]; omega
  go_enter Try.func3, Try.ntmps3
  go_wp2_with fail
  refine (newWriter _).mono ?_
  rintro e w1 ⟨rfl, hw1⟩
  have hv1 : Hid ((∀ B, WS w1 B w.heap.size []) ∧ Below w.heap.size w w1 ∧ w1.heap.size = w.heap.size + 1) := by
    rw [hw1]; exact ⟨fun B => WS.new w B, (Below.refl _ _).alloc (Nat.le_refl _) _, by simp⟩
  clear hw1
  go_wp2_with fail
  refine (newWriter _).mono ?_
  rintro e w2 ⟨rfl, hw2⟩
  have hb2 : Hid (Below w1.heap.size w1 w2 ∧ w2.heap.size = w1.heap.size + 1 ∧ ∀ B, WS w2 B w1.heap.size []) := by
    rw [hw2]; exact ⟨(Below.refl _ _).alloc (Nat.le_refl _) _, by simp, fun B => WS.new w1 B⟩
  clear hw2
  have hv2 : Hid (∀ B, WS w2 B w.heap.size []) := fun B => (hv1.out.1 B).below hb2.out.1
  have hB2 : Hid (Below w.heap.size w w2) := hv1.out.2.1.trans (hb2.out.1.mono (by have := hv1.out.2.2; omega))
  have hne : Hid (w.heap.size ≠ w1.heap.size ∧ w.heap.size ≤ w1.heap.size) := by have := hv1.out.2.2; unfold Hid; omega
  go_wp2_with fail
  refine (wbits w2.heap.size w.heap.size [] X K _ h57 HX.out (by simp; omega) (hv2.out _) (Nat.le_refl _)).mono ?_
  rintro e w3 ⟨rfl, hws, hfr⟩
  have hv3 : Hid (WS w3 w2.heap.size w.heap.size (bitsOf X K)) := by unfold Hid; simpa using hws
  have hw3 : Hid (∀ B, WS w3 B w1.heap.size []) := fun B => (hb2.out.2.2 B).other (hv2.out 0) (fun h => hne.out.1 h.symm) hfr
  have hB3 : Hid (Below w.heap.size w w3) := hB2.out.trans (hfr.below_of (Nat.le_refl _) hB2.out.size hB2.out.size)
  clear hws hfr
  go_wp2_with fail
  refine (wbits w3.heap.size w1.heap.size [] low A0 _ (by omega) Hl.out (by simp; omega) (hw3.out _) (Nat.le_refl _)).mono ?_
  rintro e w4 ⟨rfl, hws, hfr⟩
  have hw4 : Hid (WS w4 w3.heap.size w1.heap.size ([] ++ bitsOf low A0)) := hws
  have hv4 : Hid (WS w4 w2.heap.size w.heap.size (bitsOf X K)) := hv3.out.other (hw3.out 0) hne.out.1 hfr
  have hB4 : Hid (Below w.heap.size w w4 ∧ w3.heap.size ≤ w4.heap.size) := ⟨hB3.out.trans (hfr.below_of hne.out.2 hB3.out.size hB3.out.size), hfr.size⟩
  have hV4 : Hid (∀ k, k < w3.heap.size → k ≠ w1.heap.size → w4.heap[k]? = w3.heap[k]?) := fun k h1 h2 => hfr.block k h1 h2 (.inl h1)
  clear hws hfr
  go_wp2_with fail
  refine (wbits w3.heap.size w1.heap.size ([] ++ bitsOf low A0) high m _ hm57 Hh.out (by simp [bitsOf_length]; omega) hw4.out hB4.out.2).mono ?_
  rintro e w5 ⟨rfl, hws, hfr⟩
  have hw5 : Hid (WS w5 w3.heap.size w1.heap.size (bitsOf X K)) := by rw [HS.out] at hws; exact hws
  have hv5 : Hid (WS w5 w2.heap.size w.heap.size (bitsOf X K)) := by
    have h5 : ∀ k, k < w3.heap.size → k ≠ w1.heap.size → w5.heap[k]? = w3.heap[k]? := fun k h1 h2 => (hfr.block k (Nat.lt_of_lt_of_le h1 hB4.out.2) h2 (.inl h1)).trans (hV4.out k h1 h2)
    obtain ⟨v2, hb2', _⟩ := hw3.out 0
    refine hv3.out.kept (h5 _ hv3.out.lt hne.out.1) (fun g cur hg => h5 g (lt_of_block hg) ?_)
    rintro rfl
    rw [hb2'] at hg; cases hg
  have hB5 : Hid (Below w.heap.size w w5) := hB4.out.1.trans (hfr.below_of hne.out.2 hB3.out.size hB4.out.1.size)
  clear hws hfr
  go_wp2_with fail
  refine (wdone _ _ _ _ hv5.out).mono ?_
  rintro e w6 ⟨rfl, hw6⟩
  subst hw6
  go_wp2_with fail
  refine (wdone _ _ _ _ hw5.out).mono ?_
  rintro e w7 ⟨rfl, hw7⟩
  subst hw7
  go_wp2_with fail
  refine (wdone _ _ _ _ hv5.out).mono ?_
  rintro e w8 ⟨rfl, hw8⟩
  subst hw8
  go_wp2_with fail
  refine (newReader _ _ (by have := HSZ.out.2; omega)).mono ?_
  rintro e w9 ⟨b, rfl, hbl, hbs, hrs, hb9⟩
  have HRS : Hid (RS w9 b (toBA (pack (bitsOf X K))) 0) := hrs
  have hB9 : Hid (Below w.heap.size w w9 ∧ w.heap.size ≤ b) := ⟨hB5.out.trans (hb9.mono hB5.out.size), Nat.le_trans hB5.out.size hbl⟩
  clear hrs hbl hbs hb9
  go_wp2_with fail
  have hr1 := rbits b (toBA (pack (bitsOf X K))) 0 A0 w9 (by omega) (by have := HSZ.out.1; omega) (by have := HSZ.out.2; omega) HRS.out
  rw [HN1.out] at hr1
  refine hr1.mono ?_
  clear hr1
  rintro e w10 ⟨rfl, hrs, ho⟩
  have HRS2 : Hid (RS w10 b (toBA (pack (bitsOf X K))) (0 + A0)) := hrs
  have hB10 : Hid (Below w.heap.size w w10) := hB9.out.1.trans (ho.below hB9.out.2 hB9.out.1.size)
  clear hrs ho
  go_wp2_with fail
  have hr2 := rbits b (toBA (pack (bitsOf X K))) (0 + A0) m w10 hm57 (by have := HSZ.out.1; have := Hm.out; omega) (by have := HSZ.out.2; omega) HRS2.out
  rw [HN2.out] at hr2
  refine hr2.mono ?_
  clear hr2
  rintro e w11 ⟨rfl, _, ho⟩
  have hB11 : Hid (Below w.heap.size w w11) := hB10.out.trans (ho.below hB9.out.2 hB10.out.size)
  clear ho
  go_wp2_with fail
  refine (awake _).mono ?_
  rintro r w12 ⟨rfl, hb12⟩
  go_wp2
  go_ret
  exact ⟨rfl, hB11.out.trans (hb12.mono hB11.out.size)⟩
set_option maxHeartbeats 1000000 in
theorem parts_in2 (X K A0 low high m : Nat) (n cut : Int) (w : World) (hK : bits .and .i64 n 63 = (K : Int)) (hA : bits .and .i64 cut 63 = (A0 : Int)) (h57 : K ≤ 57) (hAK : K < A0) (hX : X < 2 ^ K)
    (hlow : bits .and .i64 (X : Int) (wrap64 (wrap64 (2 ^ K) - 1)) = (low : Int)) (Hlow : Hid (low = X % 2 ^ K)) (hhigh : (X : Int) / 2 ^ K = (high : Int)) (Hhigh : Hid (high = X / 2 ^ K)) (hm : (K : Int) - (K : Int) = (m : Int)) (Hm : Hid (m = K - K)) (hK : K ≤ K) (hz : (X : Int) / 2 ^ K ≤ 0) :
    Calls Try.prog 3 #[.int .i64 X, .int .i64 n, .int .i64 cut] w fun e w' => e = .returned (.bool true) ∧ Below w.heap.size w w' := by
  have HX : Hid (X < 2 ^ K) := hX
  clear hX
  have Hl : Hid (low < 2 ^ K) := by rw [Hlow.out]; exact Nat.mod_lt _ (Nat.pos_of_ne_zero (by simp))
  have Hh : Hid (high < 2 ^ m) := by
    rw [Hhigh.out, Hm.out]
    refine Nat.div_lt_of_lt_mul ?_
    rw [← Nat.pow_add, show K + (K - K) = K by omega]; exact HX.out
  have hm57 : m ≤ 57 := by have := Hm.out; omega
  have HS : Hid (([] ++ bitsOf low K) ++ bitsOf high m = bitsOf X K) := by rw [Hlow.out, Hhigh.out, Hm.out]; exact bitsOf_split X K K hK
  have HN1 : Hid (num (toBA (pack (bitsOf X K))) 0 K = low) := by unfold Hid; rw [num_bitsOf X K 0 K (by omega), Hlow.out]; simp
  have HN2 : Hid (num (toBA (pack (bitsOf X K))) (0 + K) m = high) := by
    have h := Hh.out
    rw [num_bitsOf X K (0 + K) m (by have := Hm.out; omega), Nat.zero_add, ← Hhigh.out]; exact Nat.mod_eq_of_lt h
  have HSZ : Hid (K ≤ 8 * (toBA (pack (bitsOf X K))).size ∧ (toBA (pack (bitsOf X K))).size ≤ 57) := by
    have e : (toBA (pack (bitsOf X K))).size = (K + 7) / 8 := by
      show (((pack (bitsOf X K)).map UInt8.ofNat).toArray).size = _
      simp [pack_length, bitsOf_length]
    unfold Hid; rw [e]; omega
  go_enter Try.func3, Try.ntmps3
  go_wp2_with fail
  refine (newWriter _).mono ?_
  rintro e w1 ⟨rfl, hw1⟩
  have hv1 : Hid ((∀ B, WS w1 B w.heap.size []) ∧ Below w.heap.size w w1 ∧ w1.heap.size = w.heap.size + 1) := by
    rw [hw1]; exact ⟨fun B => WS.new w B, (Below.refl _ _).alloc (Nat.le_refl _) _, by simp⟩
  clear hw1
  go_wp2_with fail
  refine (newWriter _).mono ?_
  rintro e w2 ⟨rfl, hw2⟩
  have hb2 : Hid (Below w1.heap.size w1 w2 ∧ w2.heap.size = w1.heap.size + 1 ∧ ∀ B, WS w2 B w1.heap.size []) := by
    rw [hw2]; exact ⟨(Below.refl _ _).alloc (Nat.le_refl _) _, by simp, fun B => WS.new w1 B⟩
  clear hw2
  have hv2 : Hid (∀ B, WS w2 B w.heap.size []) := fun B => (hv1.out.1 B).below hb2.out.1
  have hB2 : Hid (Below w.heap.size w w2) := hv1.out.2.1.trans (hb2.out.1.mono (by have := hv1.out.2.2; omega))
  have hne : Hid (w.heap.size ≠ w1.heap.size ∧ w.heap.size ≤ w1.heap.size) := by have := hv1.out.2.2; unfold Hid; omega
  go_wp2_with fail
  refine (wbits w2.heap.size w.heap.size [] X K _ h57 HX.out (by simp; omega) (hv2.out _) (Nat.le_refl _)).mono ?_
  rintro e w3 ⟨rfl, hws, hfr⟩
  have hv3 : Hid (WS w3 w2.heap.size w.heap.size (bitsOf X K)) := by unfold Hid; simpa using hws
  have hw3 : Hid (∀ B, WS w3 B w1.heap.size []) := fun B => (hb2.out.2.2 B).other (hv2.out 0) (fun h => hne.out.1 h.symm) hfr
  have hB3 : Hid (Below w.heap.size w w3) := hB2.out.trans (hfr.below_of (Nat.le_refl _) hB2.out.size hB2.out.size)
  clear hws hfr
  go_wp2_with fail
  refine (wbits w3.heap.size w1.heap.size [] low K _ (by omega) Hl.out (by simp; omega) (hw3.out _) (Nat.le_refl _)).mono ?_
  rintro e w4 ⟨rfl, hws, hfr⟩
  have hw4 : Hid (WS w4 w3.heap.size w1.heap.size ([] ++ bitsOf low K)) := hws
  have hv4 : Hid (WS w4 w2.heap.size w.heap.size (bitsOf X K)) := hv3.out.other (hw3.out 0) hne.out.1 hfr
  have hB4 : Hid (Below w.heap.size w w4 ∧ w3.heap.size ≤ w4.heap.size) := ⟨hB3.out.trans (hfr.below_of hne.out.2 hB3.out.size hB3.out.size), hfr.size⟩
  have hV4 : Hid (∀ k, k < w3.heap.size → k ≠ w1.heap.size → w4.heap[k]? = w3.heap[k]?) := fun k h1 h2 => hfr.block k h1 h2 (.inl h1)
  clear hws hfr
  go_wp2_with fail
  refine (wbits w3.heap.size w1.heap.size ([] ++ bitsOf low K) high m _ hm57 Hh.out (by simp [bitsOf_length]; omega) hw4.out hB4.out.2).mono ?_
  rintro e w5 ⟨rfl, hws, hfr⟩
  have hw5 : Hid (WS w5 w3.heap.size w1.heap.size (bitsOf X K)) := by rw [HS.out] at hws; exact hws
  have hv5 : Hid (WS w5 w2.heap.size w.heap.size (bitsOf X K)) := by
    have h5 : ∀ k, k < w3.heap.size → k ≠ w1.heap.size → w5.heap[k]? = w3.heap[k]? := fun k h1 h2 => (hfr.block k (Nat.lt_of_lt_of_le h1 hB4.out.2) h2 (.inl h1)).trans (hV4.out k h1 h2)
    obtain ⟨v2, hb2', _⟩ := hw3.out 0
    refine hv3.out.kept (h5 _ hv3.out.lt hne.out.1) (fun g cur hg => h5 g (lt_of_block hg) ?_)
    rintro rfl
    rw [hb2'] at hg; cases hg
  have hB5 : Hid (Below w.heap.size w w5) := hB4.out.1.trans (hfr.below_of hne.out.2 hB3.out.size hB4.out.1.size)
  clear hws hfr
  go_wp2_with fail
  refine (wdone _ _ _ _ hv5.out).mono ?_
  rintro e w6 ⟨rfl, hw6⟩
  subst hw6
  go_wp2_with fail
  refine (wdone _ _ _ _ hw5.out).mono ?_
  rintro e w7 ⟨rfl, hw7⟩
  subst hw7
  go_wp2_with fail
  refine (wdone _ _ _ _ hv5.out).mono ?_
  rintro e w8 ⟨rfl, hw8⟩
  subst hw8
  go_wp2_with fail
  refine (newReader _ _ (by have := HSZ.out.2; omega)).mono ?_
  rintro e w9 ⟨b, rfl, hbl, hbs, hrs, hb9⟩
  have HRS : Hid (RS w9 b (toBA (pack (bitsOf X K))) 0) := hrs
  have hB9 : Hid (Below w.heap.size w w9 ∧ w.heap.size ≤ b) := ⟨hB5.out.trans (hb9.mono hB5.out.size), Nat.le_trans hB5.out.size hbl⟩
  clear hrs hbl hbs hb9
  go_wp2_with fail
  have hr1 := rbits b (toBA (pack (bitsOf X K))) 0 K w9 (by omega) (by have := HSZ.out.1; omega) (by have := HSZ.out.2; omega) HRS.out
  rw [HN1.out] at hr1
  refine hr1.mono ?_
  clear hr1
  rintro e w10 ⟨rfl, hrs, ho⟩
  have HRS2 : Hid (RS w10 b (toBA (pack (bitsOf X K))) (0 + K)) := hrs
  have hB10 : Hid (Below w.heap.size w w10) := hB9.out.1.trans (ho.below hB9.out.2 hB9.out.1.size)
  clear hrs ho
  go_wp2_with fail
  have hr2 := rbits b (toBA (pack (bitsOf X K))) (0 + K) m w10 hm57 (by have := HSZ.out.1; have := Hm.out; omega) (by have := HSZ.out.2; omega) HRS2.out
  rw [HN2.out] at hr2
  refine hr2.mono ?_
  clear hr2
  rintro e w11 ⟨rfl, _, ho⟩
  have hB11 : Hid (Below w.heap.size w w11) := hB10.out.trans (ho.below hB9.out.2 hB10.out.size)
  clear ho
  go_wp2_with fail
  refine (awake _).mono ?_
  rintro r w12 ⟨rfl, hb12⟩
  go_wp2
  go_ret
  exact ⟨rfl, hB11.out.trans (hb12.mono hB11.out.size)⟩
theorem parts_any (x n cut : Int) (w : World) (hx : (Lit.int .i64 x).wf = true) (_ : (Lit.int .i64 n).wf = true) (_ : (Lit.int .i64 cut).wf = true) :
    Calls Try.prog 3 #[.int .i64 x, .int .i64 n, .int .i64 cut] w fun e w' => e = .returned (.bool true) ∧ Below w.heap.size w w' := by
  obtain ⟨K, hK64, hK⟩ := and63 n
  obtain ⟨A, hA64, hA⟩ := and63 cut
  by_cases h1 : 57 < K
  · exact parts_out x n cut K w hK hK64 (.inl h1)
  by_cases h2 : x < 0
  · exact parts_out x n cut K w hK hK64 (.inr (.inl ⟨by omega, h2⟩))
  obtain ⟨X, rfl⟩ := Int.eq_ofNat_of_zero_le (show 0 ≤ x by omega)
  by_cases h3 : X < 2 ^ K
  · by_cases h4 : A ≤ K
    · exact parts_in1 X K A (X % 2 ^ A) (X / 2 ^ A) (K - A) n cut w hK hA (by omega) h4 h3 (low_mask X A (by omega)) rfl (by simp) rfl (by omega) rfl h4 (shr_zero X K h3)
    · exact parts_in2 X K A (X % 2 ^ K) (X / 2 ^ K) (K - K) n cut w hK hA (by omega) (by omega) h3 (low_mask X K (by omega)) rfl (by simp) rfl (by omega) rfl (Nat.le_refl _) (shr_zero X K h3)
  · exact parts_out X n cut K w hK hK64 (.inr (.inr ⟨by omega, by omega, shr_pos X K (by omega)⟩))
end Go.Proofs.Ytjjbbfiogkpodab
