/- LzMost: with less room than there are plain bytes it is refused; the law's walk. -/
import Derived.Test.YtejdlmpbapcgcaaYy
namespace Go.Proofs.Ytejdlmpbapcgcaa
open Go.RowKit
set_option linter.unusedVariables false

theorem plain_room {z : ByteArray} {most k a n P : Nat} {l m : List Nat} (ha : a ≤ z.size) (h : plainF z most a l n = (0, P, m)) : l.length ≤ m.length ∧ (m.length ≤ k → plainF z k a l n = (0, P, m)) ∧ (k < m.length → plainF z k a l n = (4, a, l)) := by
  have hb := numB_le z a n ha
  unfold plainF at h ⊢
  obtain ⟨r, hr⟩ : ∃ r, numB z a n = r := ⟨_, rfl⟩
  rw [hr] at h hb ⊢
  split at h
  · rename_i h0; simp only [Prod.mk.injEq] at h; exact (h0 h.1).elim
  · rename_i h0
    rw [if_neg h0]
    split at h
    · simp at h
    · rename_i h1
      split at h
      · simp at h
      · rename_i h2
        simp only [Prod.mk.injEq, true_and] at h
        obtain ⟨rfl, rfl⟩ := h
        have hl : (l ++ bytesOf (z.extract r.2.2 (r.2.2 + r.2.1))).length = l.length + r.2.1 := by
          rw [List.length_append, bytesOf_length, ByteArray.size_extract]; omega
        rw [hl]
        refine ⟨by omega, fun hk => ?_, fun hk => ?_⟩
        · rw [if_neg (by omega), if_neg h2]
        · rw [if_pos hk]
theorem copy_room {z : ByteArray} {most k a n P : Nat} {l m : List Nat} (h : copyF z most a l n = (0, P, m)) : l.length ≤ m.length ∧ (m.length ≤ k → copyF z k a l n = (0, P, m)) ∧ (k < m.length → copyF z k a l n = (4, a, l)) := by
  unfold copyF at h ⊢
  split at h
  · rename_i h0; simp only [Prod.mk.injEq] at h; exact (h0 h.1).elim
  · rename_i h0
    rw [if_neg h0]
    split at h
    · rename_i h1; simp only [Prod.mk.injEq] at h; exact (h1 h.1).elim
    · rename_i h1
      rw [if_neg h1]
      split at h
      · simp at h
      · rename_i h2
        simp only [Prod.mk.injEq, true_and] at h
        obtain ⟨rfl, rfl⟩ := h
        rw [copyL_length]
        refine ⟨by omega, fun hk => ?_, fun hk => ?_⟩
        · rw [if_neg (by omega)]
        · rw [if_pos hk]
theorem seq_room {z : ByteArray} {most k a P : Nat} {l m : List Nat} {b : Bool} (h : seqF z most a l = (0, b, P, m)) : (m.length ≤ k → seqF z k a l = (0, b, P, m)) ∧ (k < m.length → (seqF z k a l).1 = 4) := by
  unfold seqF at h
  split at h
  · simp at h
  · rename_i h0
    obtain ⟨t, ht⟩ : ∃ t, plainF z most (a + 1) l (bt z a / 16) = t := ⟨_, rfl⟩
    rw [ht] at h
    obtain ⟨t0, P1, m1⟩ := t
    simp only at h
    split at h
    · rename_i h1; simp only [Prod.mk.injEq] at h; exact (h1 h.1).elim
    · rename_i h1
      have h1' : t0 = 0 := by omega
      subst h1'
      obtain ⟨p1, p2, p3⟩ := plain_room (k := k) (by omega) ht
      split at h
      · rename_i h2
        simp only [Prod.mk.injEq, true_and] at h
        obtain ⟨rfl, rfl, rfl⟩ := h
        subst h2
        refine ⟨fun hk => seq_last (by omega) (p2 hk), fun hk => ?_⟩
        rw [seq_plain (by omega) (p3 hk) (by decide)]
      · rename_i h2
        obtain ⟨c, hc⟩ : ∃ c, copyF z most P1 m1 (bt z a % 16) = c := ⟨_, rfl⟩
        rw [hc] at h
        obtain ⟨c0, P2, m2⟩ := c
        simp only at h
        split at h
        · rename_i h3; simp only [Prod.mk.injEq] at h; exact (h3 h.1).elim
        · rename_i h3
          have h3' : c0 = 0 := by omega
          subst h3'
          simp only [Prod.mk.injEq, true_and] at h
          obtain ⟨rfl, rfl, rfl⟩ := h
          obtain ⟨q1, q2, q3⟩ := copy_room (k := k) hc
          refine ⟨fun hk => seq_good (by omega) (p2 (by omega)) h2 (q2 hk), fun hk => ?_⟩
          by_cases hk1 : k < m1.length
          · rw [seq_plain (by omega) (p3 hk1) (by decide)]
          · rw [seq_bad' (by omega) (p2 (by omega)) h2 (q3 hk) (by decide)]
theorem unp_room {z : ByteArray} {most k : Nat} : ∀ (K a : Nat) (l m : List Nat), unpF z most K a l = (0, m) → k < m.length → unpF z k K a l = (4, [])
  | 0, a, l, m, h, hk => by simp [unpF] at h
  | K + 1, a, l, m, h, hk => by
    obtain ⟨t, ht⟩ : ∃ t, seqF z most a l = t := ⟨_, rfl⟩
    obtain ⟨t0, b, P, m1⟩ := t
    by_cases h0 : t0 = 0
    · subst h0
      obtain ⟨r1, r2⟩ := seq_room (k := k) ht
      by_cases hk1 : k < m1.length
      · have h4 := r2 hk1
        obtain ⟨u, hu⟩ : ∃ u, seqF z k a l = u := ⟨_, rfl⟩
        rw [hu] at h4
        obtain ⟨u0, u1⟩ := u
        simp only at h4
        subst h4
        rw [unp_bad hu (by decide)]
      · have hs := r1 (by omega)
        cases b with
        | true =>
          rw [unp_last ht] at h
          simp only [Prod.mk.injEq, true_and] at h
          subst h
          omega
        | false =>
          rw [unp_more ht] at h
          rw [unp_more hs]
          exact unp_room K P m1 m h hk
    · rw [unp_bad ht h0] at h
      simp only [Prod.mk.injEq] at h
      exact (h0 h.1).elim
theorem less_is (s : ByteArray) (W : World) (hs : s.size ≤ 1048576) (k : Nat) (hk : k < s.size) : Calls Try.prog 9 #[.string (toBA (packL s)), .int .i64 (k : Nat)] W fun e w' => e = .returned (.tuple #[.string ⟨#[]⟩, .int .i64 4]) ∧ Below W.heap.size W w' := by
  have hl := packL_length s
  have h := unpack_ok (toBA (packL s)) k W (by omega) (by rw [toBA_size]; omega)
  have e : unpack (toBA (packL s)) k = (4, []) := unp_room _ 0 [] (bytesOf s) (unpack_pack s s.size (Nat.le_refl _)) (by rw [bytesOf_length]; exact hk)
  rw [e, lzR_bad rfl (by decide)] at h
  exact h
theorem tmod_b (x : Int) (n : Nat) (h : 0 < n) : -(n : Int) < x.tmod (n : Int) ∧ x.tmod (n : Int) < (n : Int) := by
  by_cases hx : x < 0
  · have h1 := Int.tmod_lt_of_pos (-x) (b := (n : Int)) (by omega)
    have h2 := Int.tmod_nonneg (n : Int) (a := -x) (by omega)
    rw [Int.neg_tmod] at h1 h2
    omega
  · have h1 := Int.tmod_lt_of_pos x (b := (n : Int)) (by omega)
    have h2 := Int.tmod_nonneg (n : Int) (a := x) (by omega)
    omega
set_option maxRecDepth 20000 in
set_option maxHeartbeats 1000000 in
theorem lzMost_walk (s : ByteArray) (less : Int) (w : World) (hs0 : s.size ≤ 140737488351232) (hless : (Lit.int .i64 less).wf = true) :
    Calls Try.prog 7 #[.string s, .int .i64 less] w fun e w' => e = .returned (.bool true) ∧ Below w.heap.size w w' := by
  by_cases hbig : 4096 < s.size
  · have hbi : (4096 : Int) < (s.size : Int) := by omega
    have hbb : decide ((4096 : Int) < (s.size : Int)) = true := by simpa using hbi
    go_enter Try.func7, Try.ntmps7
    go_wp2_with fail
    refine (awake_ok _).mono ?_
    rintro e w3 ⟨rfl, hb3⟩
    have H3 : Hid (Below w.heap.size w w3) := hb3
    clear hb3
    go_wp2
    go_ret
    exact ⟨rfl, H3.out⟩
  · have hbi : ¬ (4096 : Int) < (s.size : Int) := by omega
    have hbb : decide ((4096 : Int) < (s.size : Int)) = false := by simpa using hbi
    by_cases h0 : s.size = 0
    · have h0b : ((s.size : Int) == 0) = true := by simp [h0]
      have h0i : (s.size : Int) = 0 := by omega
      clear h0
      go_enter Try.func7, Try.ntmps7
      go_wp2_with fail
      refine (awake_ok _).mono ?_
      rintro e w3 ⟨rfl, hb3⟩
      have H3 : Hid (Below w.heap.size w w3) := hb3
      clear hb3
      go_wp2
      go_ret
      exact ⟨rfl, H3.out⟩
    · have h0b : ((s.size : Int) == 0) = false := beq_eq_false_iff_ne.2 (by omega)
      have h0i : ¬ (s.size : Int) = 0 := by omega
      have hs : s.size ≤ 1048576 := by omega
      have HP : Hid (∀ W, Calls Try.prog 12 #[.string s] W fun e w' => e = .returned (.tuple #[.string (toBA (packL s)), .int .i64 0]) ∧ Below W.heap.size W w') := fun W => pack_is s W hs
      have HU : Hid (∀ W, Calls Try.prog 9 #[.string (toBA (packL s)), .int .i64 (s.size : Nat)] W fun e w' => e = .returned (.tuple #[.string s, .int .i64 0]) ∧ Below W.heap.size W w') := fun W => back_is s W hs s.size (Nat.le_refl _) hs
      obtain ⟨M, hM⟩ : ∃ M, less.tmod (s.size : Int) = M := ⟨_, rfl⟩
      have hMb := tmod_b less s.size (by omega)
      rw [hM] at hMb
      have HKK := fun W => less_is s W hs M.natAbs (by clear hM; omega)
      obtain ⟨k, hk⟩ : ∃ k, M.natAbs = k := ⟨_, rfl⟩
      rw [hk] at HKK
      have HK : Hid _ := HKK
      obtain ⟨Z, hZ⟩ : ∃ Z, toBA (packL s) = Z := ⟨_, rfl⟩
      rw [hZ] at HP HU HK
      have hMw : IntKind.i64.wrap M = M := by rw [IntKind.wrap_i64]; omega
      clear hZ HKK
      by_cases hneg : M < 0
      · have hMk : 0 - M = (k : Int) := by omega
        have hMk2 : -M = (k : Int) := by omega
        have hkw := wrapN k (by omega)
        have hMi : decide (M < 0) = true := by simpa using hneg
        go_enter Try.func7, Try.ntmps7
        go_wp2_with fail
        refine (HP.out _).mono ?_
        rintro e w1 ⟨rfl, hb1⟩
        have H1 : Hid (Below w.heap.size w w1) := hb1
        clear hb1
        go_wp2_with fail
        refine (HK.out _).mono ?_
        rintro e w2 ⟨rfl, hb2⟩
        have H2 : Hid (Below w.heap.size w w2) := H1.out.trans (hb2.mono H1.out.size)
        clear hb2
        go_wp2_with fail
        refine (HU.out _).mono ?_
        rintro e w3 ⟨rfl, hb3⟩
        have H3 : Hid (Below w.heap.size w w3) := H2.out.trans (hb3.mono H2.out.size)
        clear hb3
        go_wp2_with fail
        refine (awake_ok _).mono ?_
        rintro e w4 ⟨rfl, hb4⟩
        have H4 : Hid (Below w.heap.size w w4) := H3.out.trans (hb4.mono H3.out.size)
        clear hb4
        go_wp2
        go_ret
        exact ⟨rfl, H4.out⟩
      · have hMk : M = (k : Int) := by omega
        subst hMk
        go_enter Try.func7, Try.ntmps7
        go_wp2_with fail
        refine (HP.out _).mono ?_
        rintro e w1 ⟨rfl, hb1⟩
        have H1 : Hid (Below w.heap.size w w1) := hb1
        clear hb1
        go_wp2_with fail
        refine (HK.out _).mono ?_
        rintro e w2 ⟨rfl, hb2⟩
        have H2 : Hid (Below w.heap.size w w2) := H1.out.trans (hb2.mono H1.out.size)
        clear hb2
        go_wp2_with fail
        refine (HU.out _).mono ?_
        rintro e w3 ⟨rfl, hb3⟩
        have H3 : Hid (Below w.heap.size w w3) := H2.out.trans (hb3.mono H2.out.size)
        clear hb3
        go_wp2_with fail
        refine (awake_ok _).mono ?_
        rintro e w4 ⟨rfl, hb4⟩
        have H4 : Hid (Below w.heap.size w w4) := H3.out.trans (hb4.mono H3.out.size)
        clear hb4
        go_wp2
        go_ret
        exact ⟨rfl, H4.out⟩
end Go.Proofs.Ytejdlmpbapcgcaa
