/- Layer 6: a block that lacks bytes at its end. -/
import Derived.Test.YtejdlmpbapcgcabYx
namespace Go.Proofs.Ytejdlmpbapcgcab
open Go.RowKit
set_option linter.unusedVariables false

section
variable {z : ByteArray} {k : Nat}
theorem cut_size (hk : k ≤ z.size) : (z.extract 0 k).size = k := by rw [ByteArray.size_extract]; omega
theorem cut_bt (hk : k ≤ z.size) {i : Nat} (hi : i < k) : bt (z.extract 0 k) i = bt z i := by
  rw [bt_eq, bt_eq, bytesOf_extract, List.getD_eq_getElem?_getD, List.getD_eq_getElem?_getD, List.drop_zero, List.getElem?_take, if_pos (by omega)]
theorem cut_sub (hk : k ≤ z.size) {a b : Nat} (hb : b ≤ k) : bytesOf ((z.extract 0 k).extract a b) = bytesOf (z.extract a b) := by
  rw [bytesOf_extract, bytesOf_extract, bytesOf_extract, List.drop_zero, List.drop_take, List.take_take]
  congr 1
  omega
theorem numW_cut (hk : k ≤ z.size) {N P : Nat} : ∀ (m a n : Nat), z.size - a = m → a ≤ k → numW z a n = (0, N, P) → a < P ∧ (P ≤ k → numW (z.extract 0 k) a n = (0, N, P)) ∧ (k < P → (numW (z.extract 0 k) a n).1 = 5)
  | 0, a, n, hm, ha, h => by rw [numW_end z a n (by omega)] at h; simp at h
  | m + 1, a, n, hm, ha, h => by
    have hs := cut_size (z := z) hk
    rw [numW_step z a n (by omega)] at h
    by_cases hak : a < k
    · rw [numW_step (z.extract 0 k) a n (by omega), cut_bt hk hak]
      by_cases h255 : bt z a < 255
      · rw [if_pos h255] at h ⊢
        simp only [Prod.mk.injEq, true_and] at h
        obtain ⟨rfl, rfl⟩ := h
        exact ⟨by omega, fun _ => rfl, fun h => by omega⟩
      · rw [if_neg h255] at h ⊢
        have ih := numW_cut hk m (a + 1) (n + bt z a) (by omega) (by omega) h
        exact ⟨by omega, ih.2.1, ih.2.2⟩
    · rw [numW_end (z.extract 0 k) a n (by omega)]
      have hP : a < P := by
        by_cases h255 : bt z a < 255
        · rw [if_pos h255] at h
          simp only [Prod.mk.injEq, true_and] at h
          omega
        · rw [if_neg h255] at h
          have := numF_le z (z.size - (a + 1)) (a + 1) (n + bt z a)
          unfold numW at h
          rw [h] at this
          simp only at this
          omega
      exact ⟨hP, fun h => by omega, fun _ => rfl⟩
theorem numB_cut (hk : k ≤ z.size) {a n N P : Nat} (ha : a ≤ k) (h : numB z a n = (0, N, P)) : a ≤ P ∧ (P ≤ k → numB (z.extract 0 k) a n = (0, N, P)) ∧ (k < P → (numB (z.extract 0 k) a n).1 = 5) := by
  unfold numB at h ⊢
  split at h
  · rename_i h15
    rw [if_pos h15]
    simp only [Prod.mk.injEq, true_and] at h
    obtain ⟨rfl, rfl⟩ := h
    exact ⟨Nat.le_refl _, fun _ => rfl, fun h => by omega⟩
  · rename_i h15
    rw [if_neg h15]
    have := numW_cut hk _ a n rfl ha h
    exact ⟨by omega, this.2⟩
theorem plain_cut (hk : k ≤ z.size) {most a n P : Nat} {l m : List Nat} (ha : a ≤ k) (h : plainF z most a l n = (0, P, m)) : a ≤ P ∧ (∃ x, m = l ++ x) ∧ (P ≤ k → plainF (z.extract 0 k) most a l n = (0, P, m)) ∧ (k < P → (plainF (z.extract 0 k) most a l n).1 = 5) := by
  have hs := cut_size (z := z) hk
  obtain ⟨r, hr⟩ : ∃ r, numB z a n = r := ⟨_, rfl⟩
  obtain ⟨r0, N, Q⟩ := r
  by_cases h0 : r0 = 0
  · subst h0
    obtain ⟨c1, c2, c3⟩ := numB_cut hk ha hr
    by_cases h4 : most < l.length + N
    · rw [plain_long hr h4] at h; simp at h
    · by_cases h5 : z.size < Q + N
      · rw [plain_short hr h4 h5] at h; simp at h
      · rw [plain_good hr h4 h5] at h
        simp only [Prod.mk.injEq, true_and] at h
        obtain ⟨rfl, rfl⟩ := h
        refine ⟨by omega, ⟨_, rfl⟩, fun hP => ?_, fun hP => ?_⟩
        · rw [plain_good (c2 (by omega)) h4 (by omega), cut_sub hk hP]
        · by_cases hQ : Q ≤ k
          · rw [plain_short (c2 hQ) h4 (by omega)]
          · have h5' := c3 (by omega)
            obtain ⟨u, hu⟩ : ∃ u, numB (z.extract 0 k) a n = u := ⟨_, rfl⟩
            rw [hu] at h5'
            obtain ⟨u0, u1, u2⟩ := u
            simp only at h5'
            subst h5'
            rw [plain_num hu (by decide)]
  · rw [plain_num hr h0] at h
    simp only [Prod.mk.injEq] at h
    exact (h0 h.1).elim
theorem dist_inv {a d p : Nat} {l : List Nat} (h : distF z a l = (0, d, p)) : ¬ z.size < a + 2 ∧ ¬ (bt z a + 256 * bt z (a + 1) = 0 ∨ l.length < bt z a + 256 * bt z (a + 1)) ∧ d = bt z a + 256 * bt z (a + 1) ∧ p = a + 2 := by
  unfold distF at h
  split at h
  · simp at h
  · split at h
    · simp at h
    · rename_i h1 h2
      simp only [Prod.mk.injEq, true_and] at h
      exact ⟨h1, h2, h.1.symm, h.2.symm⟩
theorem copyL_pre (d : Nat) : ∀ (n : Nat) (l : List Nat), ∃ x, copyL d n l = l ++ x
  | 0, l => ⟨[], by simp [copyL]⟩
  | n + 1, l => by
    obtain ⟨x, hx⟩ := copyL_pre d n l
    exact ⟨x ++ [(copyL d n l).getD ((copyL d n l).length - d) 0], by rw [copyL_succ, hx, List.append_assoc]⟩
theorem copy_cut (hk : k ≤ z.size) {most a n P : Nat} {l m : List Nat} (ha : a ≤ k) (h : copyF z most a l n = (0, P, m)) : a < P ∧ (∃ x, m = l ++ x) ∧ (P ≤ k → copyF (z.extract 0 k) most a l n = (0, P, m)) ∧ (k < P → (copyF (z.extract 0 k) most a l n).1 = 5) := by
  have hs := cut_size (z := z) hk
  obtain ⟨t, ht⟩ : ∃ t, distF z a l = t := ⟨_, rfl⟩
  obtain ⟨t0, d, p⟩ := t
  by_cases h0 : t0 = 0
  · subst h0
    obtain ⟨d1, d2, d3, d4⟩ := dist_inv ht
    obtain ⟨r, hr⟩ : ∃ r, numB z (a + 2) n = r := ⟨_, rfl⟩
    obtain ⟨r0, N, Q⟩ := r
    by_cases h1 : r0 = 0
    · subst h1
      by_cases h4 : most < l.length + (N + 4)
      · rw [copy_long ht hr h4] at h; simp at h
      · rw [copy_good ht hr h4] at h
        simp only [Prod.mk.injEq, true_and] at h
        obtain ⟨rfl, rfl⟩ := h
        have hQ := (numB_le z (a + 2) n (by omega)).2.1
        rw [hr] at hQ
        simp only at hQ
        refine ⟨by omega, copyL_pre _ _ _, fun hP => ?_, fun hP => ?_⟩
        · obtain ⟨c1, c2, c3⟩ := numB_cut hk (a := a + 2) (by omega) hr
          have hd := dist_good (s := z.extract 0 k) (a := a) (l := l) (by omega) (by rw [cut_bt hk (by omega), cut_bt hk (by omega)]; exact d2)
          rw [cut_bt hk (by omega), cut_bt hk (by omega), ← d3] at hd
          exact copy_good hd (c2 hP) h4
        · by_cases ha2 : a + 2 ≤ k
          · obtain ⟨c1, c2, c3⟩ := numB_cut hk (a := a + 2) (by omega) hr
            have hd := dist_good (s := z.extract 0 k) (a := a) (l := l) (by omega) (by rw [cut_bt hk (by omega), cut_bt hk (by omega)]; exact d2)
            have h5' := c3 hP
            obtain ⟨u, hu⟩ : ∃ u, numB (z.extract 0 k) (a + 2) n = u := ⟨_, rfl⟩
            rw [hu] at h5'
            obtain ⟨u0, u1, u2⟩ := u
            simp only at h5'
            subst h5'
            rw [copy_num hd hu (by decide)]
          · rw [copy_short (by omega)]
    · rw [copy_num ht hr h1] at h
      simp only [Prod.mk.injEq] at h
      exact (h1 h.1).elim
  · unfold copyF at h
    rw [ht, if_pos h0] at h
    simp only [Prod.mk.injEq] at h
    exact (h0 h.1).elim
theorem seq_pre {most a P : Nat} {l m : List Nat} {b : Bool} (h : seqF z most a l = (0, b, P, m)) : ∃ x, m = l ++ x := by
  have hpl : ∀ {n Q : Nat} {y : List Nat}, plainF z most (a + 1) l n = (0, Q, y) → ∃ x, y = l ++ x := fun {n Q y} hh => by
    unfold plainF at hh
    split at hh
    · rename_i h4; simp only [Prod.mk.injEq] at hh; exact (h4 hh.1).elim
    · split at hh
      · simp at hh
      · split at hh
        · simp at hh
        · simp only [Prod.mk.injEq, true_and] at hh
          exact ⟨_, hh.2.symm⟩
  have hcp : ∀ {n c Q : Nat} {u y : List Nat}, copyF z most c u n = (0, Q, y) → ∃ x, y = u ++ x := fun {n c Q u y} hh => by
    unfold copyF at hh
    split at hh
    · rename_i h4; simp only [Prod.mk.injEq] at hh; exact (h4 hh.1).elim
    · split at hh
      · rename_i h4; simp only [Prod.mk.injEq] at hh; exact (h4 hh.1).elim
      · split at hh
        · simp at hh
        · simp only [Prod.mk.injEq, true_and] at hh
          rw [← hh.2]; exact copyL_pre _ _ _
  unfold seqF at h
  split at h
  · simp at h
  · obtain ⟨t, ht⟩ : ∃ t, plainF z most (a + 1) l (bt z a / 16) = t := ⟨_, rfl⟩
    rw [ht] at h
    obtain ⟨t0, P1, m1⟩ := t
    simp only at h
    split at h
    · rename_i h1; simp only [Prod.mk.injEq] at h; exact (h1 h.1).elim
    · rename_i h1
      have h1' : t0 = 0 := by omega
      subst h1'
      obtain ⟨x1, hx1⟩ := hpl ht
      split at h
      · simp only [Prod.mk.injEq, true_and] at h
        exact ⟨x1, by rw [← h.2.2, hx1]⟩
      · obtain ⟨c, hc⟩ : ∃ c, copyF z most P1 m1 (bt z a % 16) = c := ⟨_, rfl⟩
        rw [hc] at h
        obtain ⟨c0, P2, m2⟩ := c
        simp only at h
        split at h
        · rename_i h3; simp only [Prod.mk.injEq] at h; exact (h3 h.1).elim
        · rename_i h3
          have h3' : c0 = 0 := by omega
          subst h3'
          obtain ⟨x2, hx2⟩ := hcp hc
          simp only [Prod.mk.injEq, true_and] at h
          exact ⟨x1 ++ x2, by rw [← h.2.2, hx2, hx1, List.append_assoc]⟩
theorem unp_pre {most : Nat} : ∀ (K a : Nat) (l m : List Nat), unpF z most K a l = (0, m) → ∃ x, m = l ++ x
  | 0, a, l, m, h => by simp [unpF] at h
  | K + 1, a, l, m, h => by
    obtain ⟨t, ht⟩ : ∃ t, seqF z most a l = t := ⟨_, rfl⟩
    obtain ⟨t0, b, P, m2⟩ := t
    by_cases h0 : t0 = 0
    · subst h0
      obtain ⟨x0, hx0⟩ := seq_pre ht
      cases b with
      | true =>
        rw [unp_last ht] at h
        simp only [Prod.mk.injEq, true_and] at h
        exact ⟨x0, by rw [← h, hx0]⟩
      | false =>
        rw [unp_more ht] at h
        obtain ⟨x1, hx1⟩ := unp_pre K P m2 m h
        exact ⟨x0 ++ x1, by rw [hx1, hx0, List.append_assoc]⟩
    · rw [unp_bad ht h0] at h
      simp only [Prod.mk.injEq] at h
      exact (h0 h.1).elim
/-- A sequence of a block that lacks bytes: too short, or it ends with its plain bytes, or as it was. -/
theorem seq_cut (hk : k < z.size) {most a P : Nat} {l m : List Nat} {b : Bool} (ha : a ≤ k) (h : seqF z most a l = (0, b, P, m)) :
    a < P ∧ (∃ x, m = l ++ x) ∧ ((seqF (z.extract 0 k) most a l).1 = 5 ∨ (∃ m1 x, seqF (z.extract 0 k) most a l = (0, true, k, m1) ∧ m = m1 ++ x) ∨ (b = false ∧ P ≤ k ∧ seqF (z.extract 0 k) most a l = (0, false, P, m))) := by
  have hk' : k ≤ z.size := by omega
  have hs := cut_size (z := z) hk'
  unfold seqF at h
  split at h
  · simp at h
  · rename_i h0
    obtain ⟨t, ht⟩ : ∃ t, plainF z most (a + 1) l (bt z a / 16) = t := ⟨_, rfl⟩
    rw [ht] at h
    obtain ⟨t0, P1, m1⟩ := t
    simp only at h
    split at h
    · rename_i h1; simp only [Prod.mk.injEq] at h; exact (h1 h.1).elim
    · rename_i h1
      have h1' : t0 = 0 := by omega
      subst h1'
      by_cases hak : a < k
      · obtain ⟨p1, ⟨x1, hx1⟩, p2, p3⟩ := plain_cut hk' (by omega) ht
        have hbt := cut_bt hk' hak
        have hbad : k < P1 → (seqF (z.extract 0 k) most a l).1 = 5 := fun hP => by
          have h5 := p3 hP
          obtain ⟨u, hu⟩ : ∃ u, plainF (z.extract 0 k) most (a + 1) l (bt z a / 16) = u := ⟨_, rfl⟩
          rw [hu] at h5
          obtain ⟨u0, u1⟩ := u
          simp only at h5
          subst h5
          have e := seq_plain (s := z.extract 0 k) (most := most) (a := a) (l := l) (q := 5) (x := u1) (by omega) (by rw [hbt]; exact hu) (by decide)
          rw [e]
        split at h
        · rename_i h2
          simp only [Prod.mk.injEq, true_and] at h
          obtain ⟨rfl, rfl, rfl⟩ := h
          exact ⟨by omega, ⟨x1, hx1⟩, .inl (hbad (by omega))⟩
        · rename_i h2
          obtain ⟨c, hc⟩ : ∃ c, copyF z most P1 m1 (bt z a % 16) = c := ⟨_, rfl⟩
          rw [hc] at h
          obtain ⟨c0, P2, m2⟩ := c
          simp only at h
          split at h
          · rename_i h3; simp only [Prod.mk.injEq] at h; exact (h3 h.1).elim
          · rename_i h3
            have h3' : c0 = 0 := by omega
            subst h3'
            simp only [Prod.mk.injEq, true_and] at h
            obtain ⟨rfl, rfl, rfl⟩ := h
            by_cases hP1 : P1 ≤ k
            · obtain ⟨q1, ⟨x2, hx2⟩, q2, q3⟩ := copy_cut hk' hP1 hc
              refine ⟨by omega, ⟨x1 ++ x2, by rw [hx2, hx1, List.append_assoc]⟩, ?_⟩
              by_cases hPk : P1 = k
              · refine .inr (.inl ⟨m1, x2, ?_, hx2⟩)
                have := seq_last (s := z.extract 0 k) (most := most) (a := a) (l := l) (m := m1) (by omega) (by rw [hbt, p2 hP1, hs, hPk])
                rw [hs] at this
                exact this
              · by_cases hP2 : P2 ≤ k
                · exact .inr (.inr ⟨rfl, hP2, seq_good (by omega) (by rw [hbt]; exact p2 hP1) (by omega) (by rw [hbt]; exact q2 hP2)⟩)
                · have h5 := q3 (by omega)
                  obtain ⟨u, hu⟩ : ∃ u, copyF (z.extract 0 k) most P1 m1 (bt z a % 16) = u := ⟨_, rfl⟩
                  rw [hu] at h5
                  obtain ⟨u0, u1⟩ := u
                  simp only at h5
                  subst h5
                  left
                  have e := seq_bad' (s := z.extract 0 k) (most := most) (a := a) (l := l) (M := P1) (m := m1) (q := 5) (x := u1) (by omega) (by rw [hbt]; exact p2 hP1) (by omega) (by rw [hbt]; exact hu) (by decide)
                  rw [e]
            · have q0 := copyF_le z most P1 m1 (bt z a % 16) (by have := (plainF_le z most (a + 1) l (bt z a / 16) (by omega) (by rw [ht])).2.1; rw [ht] at this; exact this) (by rw [hc])
              have q1 := q0.1
              rw [hc] at q1
              simp only at q1
              obtain ⟨x2, hx2⟩ : ∃ x, m2 = m1 ++ x := by
                have hh := hc
                unfold copyF at hh
                split at hh
                · rename_i h4; simp only [Prod.mk.injEq] at hh; exact (h4 hh.1).elim
                · split at hh
                  · rename_i h4; simp only [Prod.mk.injEq] at hh; exact (h4 hh.1).elim
                  · split at hh
                    · simp at hh
                    · simp only [Prod.mk.injEq, true_and] at hh
                      rw [← hh.2]; exact copyL_pre _ _ _
              exact ⟨by omega, ⟨x1 ++ x2, by rw [hx2, hx1, List.append_assoc]⟩, .inl (hbad (by omega))⟩
      · have hle := seqF_le z most a l
        have hfull : seqF z most a l = (0, b, P, m) := by
          unfold seqF
          rw [if_neg h0, ht, if_neg h1]
          exact h
        rw [hfull] at hle
        have hle2 := (hle rfl).1
        simp only at hle2
        refine ⟨hle2, seq_pre hfull, .inl ?_⟩
        rw [seq_end (by omega)]
/-- A block that lacks bytes: too short, or a beginning of what it told. -/
theorem unp_cut (hk : k < z.size) {most : Nat} : ∀ (K a : Nat) (l m : List Nat), a ≤ k → unpF z most K a l = (0, m) → ∀ K', k - a < K' → unpF (z.extract 0 k) most K' a l = (5, []) ∨ ∃ m1 x, unpF (z.extract 0 k) most K' a l = (0, m1) ∧ m = m1 ++ x
  | 0, a, l, m, ha, h, K', hK' => by simp [unpF] at h
  | K + 1, a, l, m, ha, h, K', hK' => by
    obtain ⟨K', rfl⟩ : ∃ K'', K' = K'' + 1 := ⟨K' - 1, by omega⟩
    obtain ⟨t, ht⟩ : ∃ t, seqF z most a l = t := ⟨_, rfl⟩
    obtain ⟨t0, b, P, m2⟩ := t
    by_cases h0 : t0 = 0
    · subst h0
      obtain ⟨c1, ⟨x0, hx0⟩, c2⟩ := seq_cut hk ha ht
      have hmm : ∃ x, m = m2 ++ x := by
        cases b with
        | true =>
          rw [unp_last ht] at h
          simp only [Prod.mk.injEq, true_and] at h
          exact ⟨[], by rw [h]; simp⟩
        | false =>
          rw [unp_more ht] at h
          exact unp_pre K P m2 m h
      obtain ⟨xm, hxm⟩ := hmm
      rcases c2 with h5 | ⟨m1, x, hs, hx⟩ | ⟨rfl, hP, hs⟩
      · obtain ⟨u, hu⟩ : ∃ u, seqF (z.extract 0 k) most a l = u := ⟨_, rfl⟩
        rw [hu] at h5
        obtain ⟨u0, u1⟩ := u
        simp only at h5
        subst h5
        exact .inl (unp_bad hu (by decide))
      · exact .inr ⟨m1, x ++ xm, unp_last hs, by rw [hxm, hx, List.append_assoc]⟩
      · rw [unp_more ht] at h
        rw [unp_more hs]
        exact unp_cut hk K P m2 m hP h K' (by omega)
    · rw [unp_bad ht h0] at h
      simp only [Prod.mk.injEq] at h
      exact (h0 h.1).elim
end
/-- A beginning of what was packed. -/
theorem cut_pack (s : ByteArray) (k : Nat) (hk : k < (toBA (packL s)).size) : unpack ((toBA (packL s)).extract 0 k) s.size = (5, []) ∨ ∃ n, n ≤ s.size ∧ unpack ((toBA (packL s)).extract 0 k) s.size = (0, bytesOf (s.extract 0 n)) := by
  rcases unp_cut hk ((toBA (packL s)).size + 1) 0 [] (bytesOf s) (Nat.zero_le _) (unpack_pack s s.size (Nat.le_refl _)) (((toBA (packL s)).extract 0 k).size + 1) (by rw [cut_size (by omega)]; omega) with h | ⟨m1, x, h, hx⟩
  · exact .inl h
  · have hl : m1.length + x.length = s.size := by rw [← bytesOf_length s, hx, List.length_append]
    refine .inr ⟨m1.length, by omega, ?_⟩
    rw [bytesOf_extract, hx, List.drop_zero, Nat.sub_zero, List.take_left]
    exact h
end Go.Proofs.Ytejdlmpbapcgcab
