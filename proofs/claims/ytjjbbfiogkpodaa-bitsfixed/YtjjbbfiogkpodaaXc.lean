/- The walk of BitsFixed. -/
import Derived.Test.YtjjbbfiogkpodaaXb
namespace Go.Proofs.Ytjjbbfiogkpodaa
open Go.RowKit
set_option linter.unusedVariables false

theorem div_nz (n k : Nat) (h : n < 2 ^ (8 * k)) : ((n : Int) / 2 ^ (8 * k) != 0) = false ∧ (n : Int) / 2 ^ (8 * k) ≤ 0 := by
  have e : (n : Int) / 2 ^ (8 * k) = ((n / 2 ^ (8 * k) : Nat) : Int) := by simp
  rw [e, Nat.div_eq_of_lt h]; simp
theorem div_big (n k : Nat) (h : 2 ^ (8 * k) ≤ n) : ((n : Int) / 2 ^ (8 * k) != 0) = true ∧ 0 < (n : Int) / 2 ^ (8 * k) := by
  have e : (n : Int) / 2 ^ (8 * k) = ((n / 2 ^ (8 * k) : Nat) : Int) := by simp
  have hp : 0 < n / 2 ^ (8 * k) := Nat.div_pos h (Nat.pos_of_ne_zero (by simp))
  rw [e]
  generalize n / 2 ^ (8 * k) = y at *
  constructor
  · simp; omega
  · omega
theorem pf_both (n k : Int) (h0 : -9223372036854775808 ≤ n) (h1 : n ≤ 9223372036854775807) : ∃ (a : ByteArray) (e : Int),
    (∀ w, Calls Try.prog 28 #[.int .i64 n, .int .i64 k] w fun r w' => r = .returned (.tuple #[.string a, .int .i64 e]) ∧ Below w.heap.size w w') ∧
    (∀ w, Calls Try.prog 29 #[.int .i64 n, .int .i64 k] w fun r w' => r = .returned (.tuple #[.string a, .int .i64 e]) ∧ Below w.heap.size w w') ∧
    ((e = 1 ∧ a = ⟨#[]⟩) ∨ (e = 0 ∧ ∃ N K : Nat, n = N ∧ k = K ∧ 1 ≤ K ∧ K ≤ 8 ∧ N < 2 ^ (8 * K) ∧ a = toBA (fixB N K))) := by
  have conv : ∀ {f : Nat} {v : Array Value} {w : World} {r : Ending}, Calls Try.prog f v w (fun e w' => e = r ∧ w' = w) → Calls Try.prog f v w (fun e w' => e = r ∧ Below w.heap.size w w') :=
    fun h => h.mono (fun e w' ⟨h1, h2⟩ => ⟨h1, by rw [h2]; exact Below.refl _ _⟩)
  by_cases hk : k < 1 ∨ 8 < k
  · exact ⟨⟨#[]⟩, 1, fun w => conv (putFixed_bytes n k w hk), fun w => conv (refPutFixed_bytes n k w hk), .inl ⟨rfl, rfl⟩⟩
  obtain ⟨K, rfl⟩ := Int.eq_ofNat_of_zero_le (show 0 ≤ k by omega)
  by_cases hn : n < 0
  · exact ⟨⟨#[]⟩, 1, fun w => conv (putFixed_neg n K w (by omega) (by omega) hn), fun w => conv (refPutFixed_neg n K w (by omega) (by omega) hn), .inl ⟨rfl, rfl⟩⟩
  obtain ⟨N, rfl⟩ := Int.eq_ofNat_of_zero_le (show 0 ≤ n by omega)
  by_cases hb : N < 2 ^ (8 * K)
  · have hd := div_nz N K hb
    exact ⟨toBA (fixB N K), 0, fun w => putFixed N K w (by omega) (by omega) (by omega) hd.1, fun w => refPutFixed N K w (by omega) (by omega) (by omega) hd.2, .inr ⟨rfl, N, K, rfl, rfl, by omega, by omega, hb, rfl⟩⟩
  · have hd := div_big N K (by omega)
    have hK8 : K < 8 := by
      rcases Nat.lt_or_ge K 8 with h | h
      · exact h
      · have := pow_le 64 (8 * K) (by omega); omega
    exact ⟨⟨#[]⟩, 1, fun w => conv (putFixed_big N K w (by omega) (by omega) hd.1), fun w => conv (refPutFixed_big N K w (by omega) hK8 hd.2), .inl ⟨rfl, rfl⟩⟩
theorem fx_both (s : ByteArray) (k : Int) : ∃ (x g : Int),
    (∀ w, Calls Try.prog 30 #[.string s, .int .i64 k] w fun r w' => r = .returned (.tuple #[.int .i64 x, .int .i64 g]) ∧ w' = w) ∧
    (∀ w, Calls Try.prog 31 #[.string s, .int .i64 k] w fun r w' => r = .returned (.tuple #[.int .i64 x, .int .i64 g]) ∧ w' = w) := by
  by_cases hk : k < 1 ∨ 8 < k
  · exact ⟨0, 1, fun w => fixed_arg s k w hk, fun w => refFixed_arg s k w hk⟩
  obtain ⟨K, rfl⟩ := Int.eq_ofNat_of_zero_le (show 0 ≤ k by omega)
  by_cases hs : s.size < K
  · exact ⟨0, 5, fun w => fixed_short s K w (by omega) (by omega) hs, fun w => refFixed_short s K w (by omega) (by omega) hs⟩
  by_cases hb : fixN s K ≤ 9223372036854775807
  · refine ⟨(fixN s K : Nat), 0, fun w => fixed s K w (by omega) (by omega) (by omega) hb, fun w => refFixed s K w (by omega) (by omega) (by omega) hb ?_⟩
    rintro rfl h
    have ht := fixN_top s
    rw [byte_eq s 7 h]
    omega
  · have hK : K = 8 := by
      rcases Nat.lt_or_ge K 8 with h | h
      · have := fixN_lt s K; have := pow_le (8 * K) 56 (by omega); omega
      · omega
    subst hK
    refine ⟨0, 10, fun w => fixed_big s 8 w (by omega) (by omega) (by omega) (by omega), fun w => refFixed_big s w (by omega) ?_⟩
    have ht := fixN_top s
    rw [byte_eq s 7 (by omega)]
    omega
theorem toBA_size (l : List Nat) : (toBA l).size = l.length := by
  show ((l.map UInt8.ofNat).toArray).size = _
  simp
set_option maxHeartbeats 400000 in
theorem fixed_walk (n k : Int) (s : ByteArray) (w : World) (h0 : -9223372036854775808 ≤ n) (h1 : n ≤ 9223372036854775807) (hs : s.size ≤ 140737488351232) :
    Calls Try.prog 7 #[.int .i64 n, .int .i64 k, .string s] w fun e w' => e = .returned (.bool true) ∧ Below w.heap.size w w' := by
  obtain ⟨a, e, ha, hb, hc⟩ := pf_both n k h0 h1
  obtain ⟨x, g, hx, hy⟩ := fx_both s k
  rcases hc with ⟨rfl, rfl⟩ | ⟨rfl, N, K, rfl, rfl, hK1, hK8, hN, hA⟩
  · have hsz : (⟨#[]⟩ : ByteArray).size + s.size ≤ 9223372036854775807 := by show 0 + s.size ≤ _; omega
    obtain ⟨x2, g2, hx2, _⟩ := fx_both (⟨#[]⟩ ++ s) k
    go_enter Try.func7, Try.ntmps7
    go_wp2_with fail
    refine (ha _).mono ?_
    rintro r w1 ⟨rfl, hb1⟩
    go_wp2_with fail
    refine (hb _).mono ?_
    rintro r w2 ⟨rfl, hb2⟩
    have hB2 : Hid (Below w.heap.size w w2) := hb1.trans (hb2.mono hb1.size)
    clear hb1 hb2
    go_wp2_with fail
    refine (hx _).mono ?_
    rintro r w3 ⟨rfl, rfl⟩
    go_wp2_with fail
    refine (hy _).mono ?_
    rintro r w4 ⟨rfl, rfl⟩
    go_wp2_with fail
    refine (hx2 _).mono ?_
    rintro r w5 ⟨rfl, rfl⟩
    go_wp2_with fail
    refine (awake _).mono ?_
    rintro r w6 ⟨rfl, hb6⟩
    go_wp2
    go_ret
    exact ⟨rfl, hB2.out.trans (hb6.mono hB2.out.size)⟩
  · have hak : a.size = K := by rw [hA, toBA_size, fixB_length]
    have hx2 : ∀ w, Calls Try.prog 30 #[.string (a ++ s), .int .i64 K] w fun r w' => r = .returned (.tuple #[.int .i64 N, .int .i64 0]) ∧ w' = w := by
      intro w
      have h := fixed (a ++ s) K w hK1 hK8 (by rw [ByteArray.size_append]; omega) (by rw [hA, fixN_fixB N K s hN]; omega)
      rw [hA, fixN_fixB N K s hN, ← hA] at h
      exact h
    clear hA hN
    go_enter Try.func7, Try.ntmps7
    go_wp2_with fail
    refine (ha _).mono ?_
    rintro r w1 ⟨rfl, hb1⟩
    go_wp2_with fail
    refine (hb _).mono ?_
    rintro r w2 ⟨rfl, hb2⟩
    have hB2 : Hid (Below w.heap.size w w2) := hb1.trans (hb2.mono hb1.size)
    clear hb1 hb2
    go_wp2_with fail
    refine (hx _).mono ?_
    rintro r w3 ⟨rfl, rfl⟩
    go_wp2_with fail
    refine (hy _).mono ?_
    rintro r w4 ⟨rfl, rfl⟩
    go_wp2_with fail
    refine (hx2 _).mono ?_
    rintro r w5 ⟨rfl, rfl⟩
    go_wp2_with fail
    refine (awake _).mono ?_
    rintro r w6 ⟨rfl, hb6⟩
    go_wp2
    go_ret
    exact ⟨rfl, hB2.out.trans (hb6.mono hB2.out.size)⟩
theorem fixed_any (n k : Int) (s : ByteArray) (w : World) (hn : (Lit.int .i64 n).wf = true) (_ : (Lit.int .i64 k).wf = true) (hs : s.size ≤ 140737488351232) :
    Calls Try.prog 7 #[.int .i64 n, .int .i64 k, .string s] w fun e w' => e = .returned (.bool true) ∧ Below w.heap.size w w' := by
  have h1 : IntKind.i64.min = -9223372036854775808 := rfl
  have h2 : IntKind.i64.max = 9223372036854775807 := rfl
  simp only [Lit.wf, Bool.and_eq_true, decide_eq_true_eq] at hn
  exact fixed_walk n k s w (by omega) (by omega) hs
end Go.Proofs.Ytjjbbfiogkpodaa
