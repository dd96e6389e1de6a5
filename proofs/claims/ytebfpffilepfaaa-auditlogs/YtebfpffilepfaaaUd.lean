/- Layer 18: take walked. -/
import Derived.Test.YtebfpffilepfaaaUc
namespace Go.Proofs.Ytebfpffilepfaaa
open Go.RowKit Go.Maps
set_option linter.unusedVariables false
set_option maxRecDepth 20000

theorem mask_word (A m : Nat) (h : A % 64 + m ≤ 64) :
    IntKind.u64.wrap (IntKind.u64.wrap (IntKind.u64.wrap (2 ^ m) - 1) * 2 ^ (A % 64)) = ((mask (A % 64) m : Nat) : Int) := by
  have hM := mask_lt h
  obtain ⟨r, hr⟩ : ∃ r, A % 64 = r := ⟨_, rfl⟩
  rw [hr] at h hM ⊢
  have e1 : IntKind.u64.wrap (IntKind.u64.wrap (2 ^ m) - 1) = ((2 ^ m - 1 : Nat) : Int) := by
    have hp := Nat.two_pow_pos m
    by_cases h64 : m = 64
    · subst h64; rfl
    · have h63 : 2 ^ m ≤ 2 ^ 63 := Nat.pow_le_pow_right (by omega) (by omega)
      have e : (2 : Int) ^ m = ((2 ^ m : Nat) : Int) := by simp
      rw [e]
      obtain ⟨x, hx⟩ : ∃ x, 2 ^ m = x := ⟨_, rfl⟩
      rw [hx] at h63 hp ⊢
      rw [IntKind.wrap_u64, IntKind.wrap_u64]
      omega
  rw [e1]
  have e2 : ((2 ^ m - 1 : Nat) : Int) * 2 ^ r = ((mask r m : Nat) : Int) := by unfold mask; simp
  rw [e2, IntKind.wrap_u64]
  omega
set_option maxHeartbeats 1000000 in
theorem take_ok (w : World) (mb n : Nat) (T : Nat → Bool) (base cnt : Nat) (h : OffS w mb n T) (hb : base ≤ 1099511627776) (h1 : 1 ≤ cnt) (h2 : cnt ≤ 256) (hn : n ≤ 4611686018427387904) :
    Calls Try.prog 10 #[.map (some mb), .agg #[.int .i64 (base : Nat), .int .i64 (cnt : Nat)]] w fun e w' => ∃ b, e = .returned (.bool b) ∧ TakeE w mb n T base cnt b w' := by
  have HA : Hid (OffS (w.alloc (.cells #[.int .i64 (base : Nat), .int .i64 (cnt : Nat)] 54)) mb n T ∧ OnlyB mb w (w.alloc (.cells #[.int .i64 (base : Nat), .int .i64 (cnt : Nat)] 54))) :=
    ⟨h.block ((below_a w _).block mb h.lt), OnlyB.of_below (below_a w _)⟩
  clear h
  obtain ⟨E, hE⟩ : ∃ E, base + cnt = E := ⟨_, rfl⟩
  have hE' : (base : Int) + (cnt : Int) = (E : Int) := by omega
  go_enter Try.func10, Try.ntmps10
  go_wp2
  go_loopw [6] (fun a wr => ∃ A : Nat, a = .int .i64 (A : Nat) ∧ base ≤ A ∧ A ≤ E ∧ OffS wr mb (n + (A - base)) (more T base A) ∧ (∀ o, base ≤ o → o < A → T o = false) ∧ OnlyB mb w wr) (fun a _ => E - (intOf a).toNat)
  case atStart => exact ⟨base, rfl, by omega, by omega, by rw [more_nil]; simpa using HA.out.1, fun o h h' => by omega, HA.out.2⟩
  case round =>
    obtain ⟨A, rfl, hA1, hA2, hS, hF, hO⟩ := hrel
    have HS : Hid (OffS wr mb (n + (A - base)) (more T base A)) := hS
    have HF : Hid (∀ o, base ≤ o → o < A → T o = false) := hF
    have HO : Hid (OnlyB mb w wr) := hO
    clear hS hF hO
    by_cases hlt : A < E
    · obtain ⟨m, hm⟩ : ∃ m, min (64 - A % 64) (E - A) = m := ⟨_, rfl⟩
      have hmi : (if (E : Int) - (A : Int) < 64 - (A : Int) % 64 then (E : Int) - (A : Int) else 64 - (A : Int) % 64) = ((m : Nat) : Int) := by
        split <;> omega
      have hr : A % 64 + m ≤ 64 := by omega
      have hm1 : 1 ≤ m ∧ m ≤ 64 ∧ A + m ≤ E := by omega
      have HM : Hid (A % 64 + m ≤ 64 ∧ 1 ≤ m ∧ m ≤ 64 ∧ A + m ≤ E) := ⟨hr, hm1⟩
      have hmk := mask_word A m hr
      obtain ⟨W, hW, hWb, hlk⟩ := HS.out.look (A / 64) (by omega)
      obtain ⟨w', hup, hS', hO'⟩ := HS.out.put (A / 64) (A % 64) m W (by omega) hr hW hWb (by omega)
      have hq : ((A / 64 : Nat) : Int) = (A : Int) / 64 := by omega
      have hAA : 64 * (A / 64) + A % 64 = A := by omega
      rw [hq] at hlk hup
      rw [hAA, more_more _ hA1 (by omega)] at hS'
      have HS' : Hid (OffS w' mb (n + (A - base) + 1) (more T base (A + m)) ∧ OnlyB mb wr w') := ⟨hS', hO'⟩
      have hand := and_word W _ hW (mask_lt hr)
      have hor := or_word W _ hW (mask_lt hr)
      have HWb : Hid (∀ j, j < 64 → W.testBit j = more T base A (64 * (A / 64) + j)) := hWb
      clear hm hr hW hWb hq hAA hS' hO'
      go_upto_region 5 with fail
      try rw [hmi]
      clear hmi
      go_upto_region 6 with fail
      try rw [hmk]
      clear hmk
      obtain ⟨M, hM⟩ : ∃ M, mask (A % 64) m = M := ⟨_, rfl⟩
      have HMM : Hid (mask (A % 64) m = M) := hM
      rw [hM] at hand hor hup ⊢
      clear hM
      obtain ⟨V, hV⟩ : ∃ V, W ||| M = V := ⟨_, rfl⟩
      rw [hV] at hor hup
      clear hV
      by_cases hX : W &&& M = 0
      · rw [hX] at hand
        have hand' : bits .and .u64 (W : Int) (M : Int) = 0 := hand
        clear hand
        have HX : Hid (W &&& M = 0) := hX
        clear hX
        go_wp2_with fail
        obtain ⟨hm1, hm2, hm3⟩ := hm1
        refine ⟨⟨A + m, by congr 1, by omega, hm3, HS'.out.1.mono (by omega), fun o ho ho' => ?_, HO.out.trans HS'.out.2⟩, by simp [intOf]; omega⟩
        rcases Nat.lt_or_ge o A with hoA | hoA
        · exact HF.out o ho hoA
        · have hMM := HMM.out
          have hz := HX.out
          rw [← hMM] at hz
          have hj := and_zero hz (A % 64 + (o - A)) (by omega) (by omega)
          have hHM := HM.out
          rw [HWb.out _ (by omega)] at hj
          have e : 64 * (A / 64) + (A % 64 + (o - A)) = o := by omega
          rw [e] at hj
          unfold more at hj
          rw [Bool.or_eq_false_iff] at hj
          exact hj.1
      · obtain ⟨X, hXX⟩ : ∃ X, W &&& M = X := ⟨_, rfl⟩
        have HX : Hid (W &&& M = X) := hXX
        rw [hXX] at hand hX
        clear hXX hor hup
        have hX' : ((X : Int) != 0) = true := by simp; omega
        go_wp2_with fail
        go_ret
        refine ⟨_, rfl, fun h => (by cases h), fun _ => ?_, HO.out⟩
        have hMM := HMM.out
        have hz := HX.out
        rw [← hMM] at hz
        obtain ⟨j, j1, j2, j3⟩ := and_some (W := W) (r := A % 64) (m := m) (by rw [hz]; exact hX)
        have hHM := HM.out
        rw [HWb.out _ (by omega)] at j3
        refine ⟨64 * (A / 64) + j, by omega, by omega, ?_⟩
        unfold more at j3
        rw [Bool.or_eq_true] at j3
        rcases j3 with j3 | j3
        · exact j3
        · simp only [Bool.and_eq_true, decide_eq_true_eq] at j3
          omega
    · go_wp2_with fail
      go_ret
      refine ⟨_, rfl, ?_⟩
      obtain rfl : A = E := by omega
      subst hE
      exact ⟨fun _ => ⟨HF.out, by
        have := HS.out.mono (n' := n + 256) (by omega)
        exact this⟩, fun h => (by cases h), HO.out⟩
end Go.Proofs.Ytebfpffilepfaaa
