/- LzEnds: the law's walk. -/
import Derived.Test.YtejdlmpbapcgcaaYy
namespace Go.Proofs.Ytejdlmpbapcgcaa
open Go.RowKit
set_option linter.unusedVariables false

/-- What is written next: the end, or a sequence with its copy. -/
theorem pack_next (s : ByteArray) (Z : List Nat) : ∀ (F k told : Nat) (l : List Nat), told ≤ k → k ≤ s.size → s.size - k ≤ F → packF s F k told l = Z →
    Z = l ++ headL (sub s told s.size) 0 ∨ ∃ k' n d F' R, told ≤ k' ∧ k' + 12 ≤ s.size ∧ 4 ≤ n ∧ k' + n + 5 ≤ s.size ∧ d ≤ 65535 ∧ Z = l ++ copyS (sub s told k') d n ++ R ∧ s.size - (k' + n) ≤ F' ∧ packF s F' (k' + n) (k' + n) (l ++ copyS (sub s told k') d n) = Z := by
  intro F
  induction F with
  | zero => intro k told l h1 h2 h3 h4; exact .inl h4.symm
  | succ F ih =>
    intro k told l h1 h2 h3 h4
    unfold packF at h4
    split at h4
    · exact .inl h4.symm
    · rename_i h12
      split at h4
      · exact ih (k + 1) told l (by omega) (by omega) (by omega) h4
      · rename_i hn0
        obtain ⟨q1, q2, q3, q4, q5, q6⟩ := (copyAt_spec (s := s) (k := k) (by omega)).resolve_left hn0
        obtain ⟨R, hR⟩ := packF_more s F (k + (copyAt s k).1) (k + (copyAt s k).1) (l ++ copyS (sub s told k) (copyAt s k).2 (copyAt s k).1)
        exact .inr ⟨k, _, _, F, R, h1, by omega, q1, by omega, q5, by rw [← h4, hR], by omega, h4⟩
/-- One byte more of a number that goes on. -/
theorem num_go {z : ByteArray} {aa nn N Q : Nat} (h15 : 15 ≤ nn) (h : numW z aa nn = (0, N, Q)) (hnn : nn ≤ 15 + 255 * aa) (hz : z.size ≤ 8192) (haa : aa ≤ z.size) :
    ∃ hlt : aa < z.size, ∃ y : Nat, (z[aa]'hlt).toNat = y ∧ wrap64 (y : Int) = (y : Int) ∧ decide ((15 : Int) ≤ (nn : Int)) = true ∧ (15 : Int) ≤ (nn : Int) ∧ decide ((aa : Int) < (z.size : Int)) = true ∧ (aa : Int) < (z.size : Int) ∧ nn + y ≤ 15 + 255 * (aa + 1) ∧ z.size + 1 - (aa + 1) < z.size + 1 - aa ∧ wrap64 ((nn : Int) + (y : Int)) = ((nn + y : Nat) : Int) ∧
      ((((y : Int) != 255) = true ∧ aa + 1 = Q ∧ nn + y = N) ∨ (((y : Int) != 255) = false ∧ 15 ≤ nn + y ∧ numW z (aa + 1) (nn + y) = (0, N, Q))) := by
  have hlt : aa < z.size := by
    apply Classical.byContradiction
    intro hc
    rw [numW_end z aa nn (by omega)] at h
    simp at h
  rw [numW_step z aa nn hlt] at h
  have hyl := bt_lt z aa
  refine ⟨hlt, bt z aa, bt_at z aa hlt, wrapN64 _ (by omega), by simp; omega, by omega, by simp; omega, by omega, by omega, by omega, by unfold wrap64; omega, ?_⟩
  by_cases h255 : bt z aa < 255
  · rw [if_pos h255] at h
    simp only [Prod.mk.injEq, true_and] at h
    exact .inl ⟨by simp; omega, h.2, h.1⟩
  · rw [if_neg h255] at h
    exact .inr ⟨by simp; omega, by omega, h⟩
/-- What the next sequence is: its first byte, its plain bytes; it is the end, or a copy follows. -/
def EndsF (s z : ByteArray) (told A : Nat) : Prop :=
  ∃ x P Q, A < z.size ∧ bt z A = x ∧ x < 256 ∧ numB z (A + 1) (x / 16) = (0, P, Q) ∧ A + 1 ≤ Q ∧ Q + P ≤ z.size ∧
    ((Q + P = z.size ∧ told + P = s.size ∧ (5 ≤ P ∨ P = s.size)) ∨
     ∃ n A2, Q + P + 2 ≤ A2 ∧ A2 ≤ z.size ∧ numB z (Q + P + 2) (x % 16) = (0, n - 4, A2) ∧ 4 ≤ n ∧ told + P + 12 ≤ s.size ∧ told + P + n + 5 ≤ s.size ∧
       ∃ l F k, A2 = l.length ∧ packF s F k (told + P + n) l = packL s ∧ told + P + n ≤ k ∧ k ≤ s.size ∧ s.size - k ≤ F ∧ (told + P + n = 0 ∨ told + P + n + 5 ≤ s.size))
theorem ends_next (s z : ByteArray) (told A : Nat) (l : List Nat) (F k : Nat) (hz : toBA (packL s) = z) (hZ : Bytes (packL s)) (hA : A = l.length) (hp : packF s F k told l = packL s) (h1 : told ≤ k) (h2 : k ≤ s.size) (h3 : s.size - k ≤ F) (h5 : told = 0 ∨ told + 5 ≤ s.size) : EndsF s z told A := by
  subst hz hA
  rcases pack_next s (packL s) F k told l h1 h2 h3 hp with h | ⟨k', n, d, F', R, g1, g2, g3, g4, g5, g6, g7, g8⟩
  · have hb : bt (toBA (packL s)) l.length = 16 * min (sub s told s.size).length 15 + min 0 15 := by
      rw [bt_toBA _ hZ, h]
      exact getD_mid l _ 0
    have hl := sub_length s told s.size (Nat.le_refl _)
    have e1 : packL s = (l ++ [16 * min (sub s told s.size).length 15 + min 0 15]) ++ moreL (sub s told s.size).length ++ sub s told s.size := by
      rw [h]; unfold headL; simp only [List.append_assoc]
    have hn := num_read (packL s) _ _ _ hZ e1
    have hs : (toBA (packL s)).size = l.length + 1 + (moreL (sub s told s.size).length).length + (sub s told s.size).length := by
      rw [toBA_size]; conv => lhs; rw [e1]
      simp; omega
    rw [List.length_append, List.length_singleton] at hn
    refine ⟨_, (sub s told s.size).length, l.length + 1 + (moreL (sub s told s.size).length).length, by omega, rfl, bt_lt _ _, ?_, by omega, by omega, .inl ⟨by omega, by omega, by omega⟩⟩
    rw [hb, show (16 * min (sub s told s.size).length 15 + min 0 15) / 16 = min (sub s told s.size).length 15 by omega]
    exact hn
  · have hb : bt (toBA (packL s)) l.length = 16 * min (sub s told k').length 15 + min (n - 4) 15 := by
      rw [bt_toBA _ hZ, g6, List.append_assoc]
      unfold copyS headL
      simp only [List.append_assoc]
      exact getD_mid l _ 0
    have hl := sub_length s told k' (by omega)
    have e1 : packL s = (l ++ [16 * min (sub s told k').length 15 + min (n - 4) 15]) ++ moreL (sub s told k').length ++ (sub s told k' ++ [d % 256, d / 256] ++ moreL (n - 4) ++ R) := by
      rw [g6]; unfold copyS headL; simp only [List.append_assoc]
    have e2 : packL s = (l ++ headL (sub s told k') (n - 4) ++ [d % 256, d / 256]) ++ moreL (n - 4) ++ R := by
      rw [g6]; unfold copyS; simp only [List.append_assoc]
    have hn := num_read (packL s) _ _ _ hZ e1
    have hm := num_read (packL s) _ _ _ hZ e2
    have hhl : (headL (sub s told k') (n - 4)).length = 1 + (moreL (sub s told k').length).length + (sub s told k').length := by unfold headL; simp; omega
    have hcl : (copyS (sub s told k') d n).length = (headL (sub s told k') (n - 4)).length + 2 + (moreL (n - 4)).length := by unfold copyS; simp; omega
    have hs : (toBA (packL s)).size = l.length + (copyS (sub s told k') d n).length + R.length := by
      rw [toBA_size]; conv => lhs; rw [g6]
      simp; omega
    rw [List.length_append, List.length_singleton] at hn
    rw [List.length_append, List.length_append, hhl] at hm
    simp only [List.length_cons, List.length_nil] at hm
    refine ⟨_, (sub s told k').length, l.length + 1 + (moreL (sub s told k').length).length, by omega, rfl, bt_lt _ _, ?_, by omega, by omega, .inr ⟨n, l.length + (copyS (sub s told k') d n).length, by omega, by omega, ?_, g3, by omega, by omega, l ++ copyS (sub s told k') d n, F', k' + n, by rw [List.length_append], ?_, by omega, by omega, g7, by omega⟩⟩
    · rw [hb, show (16 * min (sub s told k').length 15 + min (n - 4) 15) / 16 = min (sub s told k').length 15 by omega]
      exact hn
    · rw [hb, show (16 * min (sub s told k').length 15 + min (n - 4) 15) % 16 = min (n - 4) 15 by omega]
      rw [show l.length + 1 + (moreL (sub s told k').length).length + (sub s told k').length + 2 = l.length + (1 + (moreL (sub s told k').length).length + (sub s told k').length) + (0 + 1 + 1) by omega, hm]
      simp only [Prod.mk.injEq, true_and]
      omega
    · rw [show told + (sub s told k').length + n = k' + n by omega]
      exact g8
set_option maxRecDepth 20000 in
set_option maxHeartbeats 4000000 in
theorem lzEnds_walk (s : ByteArray) (w : World) (hs0 : s.size ≤ 140737488351232) :
    Calls Try.prog 5 #[.string s] w fun e w' => e = .returned (.bool true) ∧ Below w.heap.size w w' := by
  by_cases hbig : 4096 < s.size
  · have hbi : (4096 : Int) < (s.size : Int) := by omega
    go_enter Try.func5, Try.ntmps5
    go_wp2_with fail
    refine (awake_ok _).mono ?_
    rintro e w3 ⟨rfl, hb3⟩
    have H3 : Hid (Below w.heap.size w w3) := hb3
    clear hb3
    go_wp2
    go_ret
    exact ⟨rfl, H3.out⟩
  · have hbi : ¬ (4096 : Int) < (s.size : Int) := by omega
    have hs : s.size ≤ 1048576 := by omega
    have HP : Hid (∀ W, Calls Try.prog 12 #[.string s] W fun e w' => e = .returned (.tuple #[.string (toBA (packL s)), .int .i64 0]) ∧ Below W.heap.size W w') := fun W => pack_is s W hs
    have hl := packL_length s
    rw [← toBA_size] at hl
    obtain ⟨z, hz⟩ : ∃ Z, toBA (packL s) = Z := ⟨_, rfl⟩
    rw [hz] at HP hl
    have HZ : Hid (toBA (packL s) = z ∧ packF s s.size 0 0 [] = packL s ∧ Bytes (packL s)) := ⟨hz, rfl, packL_bytes s⟩
    clear hz
    have hzs : z.size ≤ 8192 := by omega
    go_enter Try.func5, Try.ntmps5
    go_wp2_with fail
    refine (HP.out _).mono ?_
    rintro e w1 ⟨rfl, hb1⟩
    have H1 : Hid (Below w.heap.size w w1) := hb1
    clear hb1 hl
    go_wp2_with fail
    go_loopw [5, 6] (fun v5 v6 wr => ∃ told A : Nat, v5 = .int .i64 (told : Nat) ∧ v6 = .int .i64 (A : Nat) ∧ A ≤ z.size ∧ told ≤ s.size ∧ Hid (Below w.heap.size w wr) ∧ Hid (∃ l F k, A = l.length ∧ packF s F k told l = packL s ∧ told ≤ k ∧ k ≤ s.size ∧ s.size - k ≤ F ∧ (told = 0 ∨ told + 5 ≤ s.size))) (fun _ v6 _ => z.size + 1 - (intOf v6).toNat)
    case atStart => exact ⟨0, 0, rfl, rfl, Nat.zero_le _, Nat.zero_le _, H1, [], s.size, 0, rfl, HZ.out.2.1, Nat.le_refl _, Nat.zero_le _, by omega, .inl rfl⟩
    case round =>
      obtain ⟨told, A, rfl, rfl, hA, htold, HBW, HS⟩ := hrel
      obtain ⟨l, F, k, hAl, hpk, h1, h2, h3, h5⟩ := HS.out
      have hfacts : EndsF s z told A := ends_next s z told A l F k HZ.out.1 HZ.out.2.2 hAl hpk h1 h2 h3 h5
      obtain ⟨x, P, Q, hA1, hx, hxl, HN1, hQ1, hQ2, hcase⟩ := hfacts
      have HC : Hid _ := hcase
      have hbx := (bt_at z A hA1).trans hx
      have hge : ¬ (z.size : Int) ≤ (A : Int) := by omega
      have hA1i : (A : Int) < (z.size : Int) := by omega
      obtain ⟨x1, hx1⟩ : ∃ x1, x / 16 = x1 := ⟨_, rfl⟩
      obtain ⟨x2, hx2⟩ : ∃ x2, x % 16 = x2 := ⟨_, rfl⟩
      have hx1i : (x : Int) / 16 = (x1 : Int) := by omega
      have hx2i : (x : Int) % 16 = (x2 : Int) := by omega
      rw [hx1] at HN1
      rw [hx2] at HC
      have hx1b : x1 ≤ 15 := by omega
      have hx2b : x2 ≤ 15 := by omega
      obtain ⟨A1, hA1e⟩ : ∃ A1, A + 1 = A1 := ⟨_, rfl⟩
      have hA1w : (A : Int) + 1 = (A1 : Int) := by omega
      rw [hA1e] at HN1 hQ1
      have hA1s : A1 ≤ z.size := by omega
      clear hx hx1 hx2 hxl hAl hpk h1 h2 h3 h5 HS hcase hA1e
      go_wp2_with fail
      go_quiet (fail)
      have HBW2 : Hid (Below w.heap.size w (wr.drewN nq)) := HBW.out.trans (Below.drewN' _ _ _)
      obtain ⟨w2, hw2⟩ : ∃ w2, wr.drewN nq = w2 := ⟨_, rfl⟩
      rw [hw2] at HBW2 ⊢
      clear hw2 HBW hx1i hx2i hbx
      have HBW := HBW2
      clear HBW2
      have HN1' := HN1
      clear HN1
      rcases HC.out with ⟨hend, hpl, hP5⟩ | ⟨n, A2, c1, c2, c3, c4, c5, c6, hnx⟩
      · have hMi : (Q : Int) + (P : Int) = (z.size : Int) := by omega
        have hMi2 : (P : Int) + (Q : Int) = (z.size : Int) := by omega
        have hpli : (told : Int) + (P : Int) = (s.size : Int) := by omega
        clear HC
        by_cases P5 : 5 ≤ P
        · have P5i : decide ((5 : Int) ≤ (P : Int)) = true := by simp; omega
          have P5j : (5 : Int) ≤ (P : Int) := by omega
          by_cases x15 : x1 < 15
          · have e1 : (0, P, Q) = (0, x1, A1) := by rw [← HN1']; unfold numB; rw [if_pos x15]
            simp only [Prod.mk.injEq, true_and] at e1
            obtain ⟨rfl, rfl⟩ := e1
            clear HN1'
            have x15i : decide ((15 : Int) ≤ (P : Int)) = false := by simp; omega
            have x15j : ¬ (15 : Int) ≤ (P : Int) := by omega
            go_wp2_with fail
            refine wp_loop_rounds 1 ?_
            rw [rounds_succ]
            go_wp2_with fail
            refine (awake_ok _).mono ?_
            rintro e w4 ⟨rfl, hb4⟩
            have H4 : Hid (Below w.heap.size w w4) := HBW.out.trans (hb4.mono HBW.out.size)
            clear hb4
            go_wp2
            go_ret
            exact ⟨rfl, H4.out⟩
          · have HNW1 : Hid (numW z A1 x1 = (0, P, Q)) := by
              show _ = _
              rw [← HN1']; unfold numB; rw [if_neg x15]
            clear HN1'
            go_wp2_with fail
            go_loopw [6, 7, 9] (fun v6 vv vf wr => ∃ aa nn ff : Nat, v6 = .int .i64 (aa : Nat) ∧ vv = .int .i64 (nn : Nat) ∧ vf = .int .i64 (ff : Nat) ∧ aa ≤ z.size ∧ nn ≤ 15 + 255 * aa ∧ Hid (Below w.heap.size w wr) ∧ Hid (ff = 15 ∧ 15 ≤ nn ∧ numW z aa nn = (0, P, Q) ∨ ff = 0 ∧ aa = Q ∧ nn = P)) (fun v6 _ _ _ => z.size + 1 - (intOf v6).toNat)
            case atStart => exact ⟨A1, x1, 15, rfl, rfl, rfl, hA1s, Nat.le_trans hx1b (Nat.le_add_right _ _), HBW, .inl ⟨rfl, Nat.le_of_not_lt x15, HNW1.out⟩⟩
            case round =>
              obtain ⟨aa, nn, ff, rfl, rfl, rfl, haa, hnn, HBR, HST⟩ := hrel
              rcases HST.out with ⟨rfl, h15, hnum⟩ | ⟨hff, haq, hnq⟩
              · obtain ⟨hlt, y, hby, hyw, f1, f2, f3, f4, f5, hmeas, hwr, hstep⟩ := num_go h15 hnum hnn hzs haa
                rcases hstep with ⟨hyb, g1, g2⟩ | ⟨hyb, g1, g2⟩
                · have HNX : Hid (0 = 15 ∧ 15 ≤ nn + y ∧ numW z (aa + 1) (nn + y) = (0, P, Q) ∨ 0 = 0 ∧ aa + 1 = Q ∧ nn + y = P) := .inr ⟨rfl, g1, g2⟩
                  have HM : Hid (z.size + 1 - (aa + 1) < z.size + 1 - aa ∧ nn + y ≤ 15 + 255 * (aa + 1) ∧ wrap64 ((nn : Int) + (y : Int)) = ((nn + y : Nat) : Int)) := ⟨hmeas, f5, hwr⟩
                  clear hnum HST g1 g2 hmeas h15 hnn haa f5 hwr
                  go_wp2
                  exact ⟨⟨aa + 1, nn + y, 0, by go_num, by rw [HM.out.2.2], rfl, hlt, HM.out.2.1, HBR, HNX⟩, by simp only [intOf]; exact HM.out.1⟩
                · have HNX : Hid (15 = 15 ∧ 15 ≤ nn + y ∧ numW z (aa + 1) (nn + y) = (0, P, Q) ∨ 15 = 0 ∧ aa + 1 = Q ∧ nn + y = P) := .inl ⟨rfl, g1, g2⟩
                  have HM : Hid (z.size + 1 - (aa + 1) < z.size + 1 - aa ∧ nn + y ≤ 15 + 255 * (aa + 1) ∧ wrap64 ((nn : Int) + (y : Int)) = ((nn + y : Nat) : Int)) := ⟨hmeas, f5, hwr⟩
                  clear hnum HST g1 g2 hmeas h15 hnn haa f5 hwr
                  go_wp2
                  exact ⟨⟨aa + 1, nn + y, 15, by go_num, by rw [HM.out.2.2], rfl, hlt, HM.out.2.1, HBR, HNX⟩, by simp only [intOf]; exact HM.out.1⟩
              · subst hff
                replace haq := haq.symm
                replace hnq := hnq.symm
                subst haq
                subst hnq
                have HBW := HBR
                clear HST HBR
                go_wp2_with fail
                refine (awake_ok _).mono ?_
                rintro e w4 ⟨rfl, hb4⟩
                have H4 : Hid (Below w.heap.size w w4) := HBW.out.trans (hb4.mono HBW.out.size)
                clear hb4
                go_wp2
                go_ret
                exact ⟨rfl, H4.out⟩
        · have P5i : decide ((5 : Int) ≤ (P : Int)) = false := by simp; omega
          have P5j : ¬ (5 : Int) ≤ (P : Int) := by omega
          have Pse : (P : Int) = (s.size : Int) := by omega
          have Psb : ((P : Int) == (s.size : Int)) = true := by simpa using Pse
          clear Pse
          by_cases x15 : x1 < 15
          · have e1 : (0, P, Q) = (0, x1, A1) := by rw [← HN1']; unfold numB; rw [if_pos x15]
            simp only [Prod.mk.injEq, true_and] at e1
            obtain ⟨rfl, rfl⟩ := e1
            clear HN1'
            have x15i : decide ((15 : Int) ≤ (P : Int)) = false := by simp; omega
            have x15j : ¬ (15 : Int) ≤ (P : Int) := by omega
            go_wp2_with fail
            refine wp_loop_rounds 1 ?_
            rw [rounds_succ]
            go_wp2_with fail
            refine (awake_ok _).mono ?_
            rintro e w4 ⟨rfl, hb4⟩
            have H4 : Hid (Below w.heap.size w w4) := HBW.out.trans (hb4.mono HBW.out.size)
            clear hb4
            go_wp2
            go_ret
            exact ⟨rfl, H4.out⟩
          · have HNW1 : Hid (numW z A1 x1 = (0, P, Q)) := by
              show _ = _
              rw [← HN1']; unfold numB; rw [if_neg x15]
            clear HN1'
            go_wp2_with fail
            go_loopw [6, 7, 9] (fun v6 vv vf wr => ∃ aa nn ff : Nat, v6 = .int .i64 (aa : Nat) ∧ vv = .int .i64 (nn : Nat) ∧ vf = .int .i64 (ff : Nat) ∧ aa ≤ z.size ∧ nn ≤ 15 + 255 * aa ∧ Hid (Below w.heap.size w wr) ∧ Hid (ff = 15 ∧ 15 ≤ nn ∧ numW z aa nn = (0, P, Q) ∨ ff = 0 ∧ aa = Q ∧ nn = P)) (fun v6 _ _ _ => z.size + 1 - (intOf v6).toNat)
            case atStart => exact ⟨A1, x1, 15, rfl, rfl, rfl, hA1s, Nat.le_trans hx1b (Nat.le_add_right _ _), HBW, .inl ⟨rfl, Nat.le_of_not_lt x15, HNW1.out⟩⟩
            case round =>
              obtain ⟨aa, nn, ff, rfl, rfl, rfl, haa, hnn, HBR, HST⟩ := hrel
              rcases HST.out with ⟨rfl, h15, hnum⟩ | ⟨hff, haq, hnq⟩
              · obtain ⟨hlt, y, hby, hyw, f1, f2, f3, f4, f5, hmeas, hwr, hstep⟩ := num_go h15 hnum hnn hzs haa
                rcases hstep with ⟨hyb, g1, g2⟩ | ⟨hyb, g1, g2⟩
                · have HNX : Hid (0 = 15 ∧ 15 ≤ nn + y ∧ numW z (aa + 1) (nn + y) = (0, P, Q) ∨ 0 = 0 ∧ aa + 1 = Q ∧ nn + y = P) := .inr ⟨rfl, g1, g2⟩
                  have HM : Hid (z.size + 1 - (aa + 1) < z.size + 1 - aa ∧ nn + y ≤ 15 + 255 * (aa + 1) ∧ wrap64 ((nn : Int) + (y : Int)) = ((nn + y : Nat) : Int)) := ⟨hmeas, f5, hwr⟩
                  clear hnum HST g1 g2 hmeas h15 hnn haa f5 hwr
                  go_wp2
                  exact ⟨⟨aa + 1, nn + y, 0, by go_num, by rw [HM.out.2.2], rfl, hlt, HM.out.2.1, HBR, HNX⟩, by simp only [intOf]; exact HM.out.1⟩
                · have HNX : Hid (15 = 15 ∧ 15 ≤ nn + y ∧ numW z (aa + 1) (nn + y) = (0, P, Q) ∨ 15 = 0 ∧ aa + 1 = Q ∧ nn + y = P) := .inl ⟨rfl, g1, g2⟩
                  have HM : Hid (z.size + 1 - (aa + 1) < z.size + 1 - aa ∧ nn + y ≤ 15 + 255 * (aa + 1) ∧ wrap64 ((nn : Int) + (y : Int)) = ((nn + y : Nat) : Int)) := ⟨hmeas, f5, hwr⟩
                  clear hnum HST g1 g2 hmeas h15 hnn haa f5 hwr
                  go_wp2
                  exact ⟨⟨aa + 1, nn + y, 15, by go_num, by rw [HM.out.2.2], rfl, hlt, HM.out.2.1, HBR, HNX⟩, by simp only [intOf]; exact HM.out.1⟩
              · subst hff
                replace haq := haq.symm
                replace hnq := hnq.symm
                subst haq
                subst hnq
                have HBW := HBR
                clear HST HBR
                go_wp2_with fail
                refine (awake_ok _).mono ?_
                rintro e w4 ⟨rfl, hb4⟩
                have H4 : Hid (Below w.heap.size w w4) := HBW.out.trans (hb4.mono HBW.out.size)
                clear hb4
                go_wp2
                go_ret
                exact ⟨rfl, H4.out⟩
      · obtain ⟨n4, rfl⟩ : ∃ n4, n = n4 + 4 := ⟨n - 4, by omega⟩
        rw [Nat.add_sub_cancel] at c3
        obtain ⟨M, hM⟩ : ∃ M, Q + P = M := ⟨_, rfl⟩
        obtain ⟨M2, hM2⟩ : ∃ M2, M + 2 = M2 := ⟨_, rfl⟩
        obtain ⟨K1, hK1⟩ : ∃ K1, told + P = K1 := ⟨_, rfl⟩
        rw [hM] at c1 c3 hQ2
        rw [hM2] at c1 c3
        rw [hK1] at c5 c6 hnx
        have HN2 : Hid (numB z M2 x2 = (0, n4, A2)) := c3
        have HNXT : Hid (∃ l F k, A2 = l.length ∧ packF s F k (K1 + n4 + 4) l = packL s ∧ K1 + n4 + 4 ≤ k ∧ k ≤ s.size ∧ s.size - k ≤ F ∧ (K1 + n4 + 4 = 0 ∨ K1 + n4 + 4 + 5 ≤ s.size)) := by
          rw [Nat.add_assoc]; exact hnx
        have hMi : (Q : Int) + (P : Int) = (M : Int) := by omega
        have hM2i : (M : Int) + 2 = (M2 : Int) := by omega
        have hK1i : (told : Int) + (P : Int) = (K1 : Int) := by omega
        have hMz : ¬ (z.size : Int) ≤ (M : Int) := by omega
        have hK12 : ¬ (s.size : Int) < (K1 : Int) + 12 := by omega
        have hM2z : M2 ≤ z.size := by omega
        clear HC hnx c3 hM hM2 hK1
        by_cases x15 : x1 < 15
        · have e1 : (0, P, Q) = (0, x1, A1) := by rw [← HN1']; unfold numB; rw [if_pos x15]
          simp only [Prod.mk.injEq, true_and] at e1
          obtain ⟨rfl, rfl⟩ := e1
          clear HN1'
          have x15i : decide ((15 : Int) ≤ (P : Int)) = false := by simp; omega
          have x15j : ¬ (15 : Int) ≤ (P : Int) := by omega
          go_wp2_with fail
          refine wp_loop_rounds 1 ?_
          rw [rounds_succ]
          go_wp2_with fail
          by_cases y15 : x2 < 15
          · have e2 : (0, n4, A2) = (0, x2, M2) := by rw [← HN2.out]; unfold numB; rw [if_pos y15]
            simp only [Prod.mk.injEq, true_and] at e2
            obtain ⟨rfl, rfl⟩ := e2
            have y15i : decide ((15 : Int) ≤ (n4 : Int)) = false := by simp; omega
            have y15j : ¬ (15 : Int) ≤ (n4 : Int) := by omega
            refine wp_loop_rounds 1 ?_
            rw [rounds_succ]
            go_wp2
            exact ⟨⟨K1 + n4 + 4, A2, by go_num, rfl, by omega, by omega, HBW, HNXT⟩, by simp [intOf]; omega⟩
          · have hnw2 : numW z M2 x2 = (0, n4, A2) := by rw [← HN2.out]; unfold numB; rw [if_neg y15]
            have HNW2 : Hid (numW z M2 x2 = (0, n4, A2)) := hnw2
            clear hnw2
            go_loopw [6, 8, 10] (fun v6 vv vf wr => ∃ aa nn ff : Nat, v6 = .int .i64 (aa : Nat) ∧ vv = .int .i64 (nn : Nat) ∧ vf = .int .i64 (ff : Nat) ∧ aa ≤ z.size ∧ nn ≤ 15 + 255 * aa ∧ Hid (Below w.heap.size w wr) ∧ Hid (ff = 15 ∧ 15 ≤ nn ∧ numW z aa nn = (0, n4, A2) ∨ ff = 0 ∧ aa = A2 ∧ nn = n4)) (fun v6 _ _ _ => z.size + 1 - (intOf v6).toNat)
            case atStart => exact ⟨M2, x2, 15, rfl, rfl, rfl, hM2z, Nat.le_trans hx2b (Nat.le_add_right _ _), HBW, .inl ⟨rfl, Nat.le_of_not_lt y15, HNW2.out⟩⟩
            case round =>
              obtain ⟨aa, nn, ff, rfl, rfl, rfl, haa, hnn, HBR, HST⟩ := hrel
              rcases HST.out with ⟨rfl, h15, hnum⟩ | ⟨hff, haq, hnq⟩
              · obtain ⟨hlt, y, hby, hyw, f1, f2, f3, f4, f5, hmeas, hwr, hstep⟩ := num_go h15 hnum hnn hzs haa
                rcases hstep with ⟨hyb, g1, g2⟩ | ⟨hyb, g1, g2⟩
                · have HNX : Hid (0 = 15 ∧ 15 ≤ nn + y ∧ numW z (aa + 1) (nn + y) = (0, n4, A2) ∨ 0 = 0 ∧ aa + 1 = A2 ∧ nn + y = n4) := .inr ⟨rfl, g1, g2⟩
                  have HM : Hid (z.size + 1 - (aa + 1) < z.size + 1 - aa ∧ nn + y ≤ 15 + 255 * (aa + 1) ∧ wrap64 ((nn : Int) + (y : Int)) = ((nn + y : Nat) : Int)) := ⟨hmeas, f5, hwr⟩
                  clear hnum HST g1 g2 hmeas h15 hnn haa f5 hwr
                  go_wp2
                  exact ⟨⟨aa + 1, nn + y, 0, by go_num, by rw [HM.out.2.2], rfl, hlt, HM.out.2.1, HBR, HNX⟩, by simp only [intOf]; exact HM.out.1⟩
                · have HNX : Hid (15 = 15 ∧ 15 ≤ nn + y ∧ numW z (aa + 1) (nn + y) = (0, n4, A2) ∨ 15 = 0 ∧ aa + 1 = A2 ∧ nn + y = n4) := .inl ⟨rfl, g1, g2⟩
                  have HM : Hid (z.size + 1 - (aa + 1) < z.size + 1 - aa ∧ nn + y ≤ 15 + 255 * (aa + 1) ∧ wrap64 ((nn : Int) + (y : Int)) = ((nn + y : Nat) : Int)) := ⟨hmeas, f5, hwr⟩
                  clear hnum HST g1 g2 hmeas h15 hnn haa f5 hwr
                  go_wp2
                  exact ⟨⟨aa + 1, nn + y, 15, by go_num, by rw [HM.out.2.2], rfl, hlt, HM.out.2.1, HBR, HNX⟩, by simp only [intOf]; exact HM.out.1⟩
              · subst hff
                replace haq := haq.symm
                replace hnq := hnq.symm
                subst haq
                subst hnq
                have HBW := HBR
                clear HST HBR
                go_wp2
                exact ⟨⟨K1 + n4 + 4, A2, by go_num, rfl, by omega, by omega, HBW, HNXT⟩, by simp [intOf]; omega⟩
        · have HNW1 : Hid (numW z A1 x1 = (0, P, Q)) := by
            show _ = _
            rw [← HN1']; unfold numB; rw [if_neg x15]
          clear HN1'
          go_wp2_with fail
          go_loopw [6, 7, 9] (fun v6 vv vf wr => ∃ aa nn ff : Nat, v6 = .int .i64 (aa : Nat) ∧ vv = .int .i64 (nn : Nat) ∧ vf = .int .i64 (ff : Nat) ∧ aa ≤ z.size ∧ nn ≤ 15 + 255 * aa ∧ Hid (Below w.heap.size w wr) ∧ Hid (ff = 15 ∧ 15 ≤ nn ∧ numW z aa nn = (0, P, Q) ∨ ff = 0 ∧ aa = Q ∧ nn = P)) (fun v6 _ _ _ => z.size + 1 - (intOf v6).toNat)
          case atStart => exact ⟨A1, x1, 15, rfl, rfl, rfl, hA1s, Nat.le_trans hx1b (Nat.le_add_right _ _), HBW, .inl ⟨rfl, Nat.le_of_not_lt x15, HNW1.out⟩⟩
          case round =>
            obtain ⟨aa, nn, ff, rfl, rfl, rfl, haa, hnn, HBR, HST⟩ := hrel
            rcases HST.out with ⟨rfl, h15, hnum⟩ | ⟨hff, haq, hnq⟩
            · obtain ⟨hlt, y, hby, hyw, f1, f2, f3, f4, f5, hmeas, hwr, hstep⟩ := num_go h15 hnum hnn hzs haa
              rcases hstep with ⟨hyb, g1, g2⟩ | ⟨hyb, g1, g2⟩
              · have HNX : Hid (0 = 15 ∧ 15 ≤ nn + y ∧ numW z (aa + 1) (nn + y) = (0, P, Q) ∨ 0 = 0 ∧ aa + 1 = Q ∧ nn + y = P) := .inr ⟨rfl, g1, g2⟩
                have HM : Hid (z.size + 1 - (aa + 1) < z.size + 1 - aa ∧ nn + y ≤ 15 + 255 * (aa + 1) ∧ wrap64 ((nn : Int) + (y : Int)) = ((nn + y : Nat) : Int)) := ⟨hmeas, f5, hwr⟩
                clear hnum HST g1 g2 hmeas h15 hnn haa f5 hwr
                go_wp2
                exact ⟨⟨aa + 1, nn + y, 0, by go_num, by rw [HM.out.2.2], rfl, hlt, HM.out.2.1, HBR, HNX⟩, by simp only [intOf]; exact HM.out.1⟩
              · have HNX : Hid (15 = 15 ∧ 15 ≤ nn + y ∧ numW z (aa + 1) (nn + y) = (0, P, Q) ∨ 15 = 0 ∧ aa + 1 = Q ∧ nn + y = P) := .inl ⟨rfl, g1, g2⟩
                have HM : Hid (z.size + 1 - (aa + 1) < z.size + 1 - aa ∧ nn + y ≤ 15 + 255 * (aa + 1) ∧ wrap64 ((nn : Int) + (y : Int)) = ((nn + y : Nat) : Int)) := ⟨hmeas, f5, hwr⟩
                clear hnum HST g1 g2 hmeas h15 hnn haa f5 hwr
                go_wp2
                exact ⟨⟨aa + 1, nn + y, 15, by go_num, by rw [HM.out.2.2], rfl, hlt, HM.out.2.1, HBR, HNX⟩, by simp only [intOf]; exact HM.out.1⟩
            · subst hff
              replace haq := haq.symm
              replace hnq := hnq.symm
              subst haq
              subst hnq
              have HBW := HBR
              clear HST HBR
              go_wp2_with fail
              by_cases y15 : x2 < 15
              · have e2 : (0, n4, A2) = (0, x2, M2) := by rw [← HN2.out]; unfold numB; rw [if_pos y15]
                simp only [Prod.mk.injEq, true_and] at e2
                obtain ⟨rfl, rfl⟩ := e2
                have y15i : decide ((15 : Int) ≤ (n4 : Int)) = false := by simp; omega
                have y15j : ¬ (15 : Int) ≤ (n4 : Int) := by omega
                refine wp_loop_rounds 1 ?_
                rw [rounds_succ]
                go_wp2
                exact ⟨⟨K1 + n4 + 4, A2, by go_num, rfl, by omega, by omega, HBW, HNXT⟩, by simp [intOf]; omega⟩
              · have hnw2 : numW z M2 x2 = (0, n4, A2) := by rw [← HN2.out]; unfold numB; rw [if_neg y15]
                have HNW2 : Hid (numW z M2 x2 = (0, n4, A2)) := hnw2
                clear hnw2
                go_loopw [6, 8, 10] (fun v6 vv vf wr => ∃ aa nn ff : Nat, v6 = .int .i64 (aa : Nat) ∧ vv = .int .i64 (nn : Nat) ∧ vf = .int .i64 (ff : Nat) ∧ aa ≤ z.size ∧ nn ≤ 15 + 255 * aa ∧ Hid (Below w.heap.size w wr) ∧ Hid (ff = 15 ∧ 15 ≤ nn ∧ numW z aa nn = (0, n4, A2) ∨ ff = 0 ∧ aa = A2 ∧ nn = n4)) (fun v6 _ _ _ => z.size + 1 - (intOf v6).toNat)
                case atStart => exact ⟨M2, x2, 15, rfl, rfl, rfl, hM2z, Nat.le_trans hx2b (Nat.le_add_right _ _), HBW, .inl ⟨rfl, Nat.le_of_not_lt y15, HNW2.out⟩⟩
                case round =>
                  obtain ⟨aa, nn, ff, rfl, rfl, rfl, haa, hnn, HBR, HST⟩ := hrel
                  rcases HST.out with ⟨rfl, h15, hnum⟩ | ⟨hff, haq, hnq⟩
                  · obtain ⟨hlt, y, hby, hyw, f1, f2, f3, f4, f5, hmeas, hwr, hstep⟩ := num_go h15 hnum hnn hzs haa
                    rcases hstep with ⟨hyb, g1, g2⟩ | ⟨hyb, g1, g2⟩
                    · have HNX : Hid (0 = 15 ∧ 15 ≤ nn + y ∧ numW z (aa + 1) (nn + y) = (0, n4, A2) ∨ 0 = 0 ∧ aa + 1 = A2 ∧ nn + y = n4) := .inr ⟨rfl, g1, g2⟩
                      have HM : Hid (z.size + 1 - (aa + 1) < z.size + 1 - aa ∧ nn + y ≤ 15 + 255 * (aa + 1) ∧ wrap64 ((nn : Int) + (y : Int)) = ((nn + y : Nat) : Int)) := ⟨hmeas, f5, hwr⟩
                      clear hnum HST g1 g2 hmeas h15 hnn haa f5 hwr
                      go_wp2
                      exact ⟨⟨aa + 1, nn + y, 0, by go_num, by rw [HM.out.2.2], rfl, hlt, HM.out.2.1, HBR, HNX⟩, by simp only [intOf]; exact HM.out.1⟩
                    · have HNX : Hid (15 = 15 ∧ 15 ≤ nn + y ∧ numW z (aa + 1) (nn + y) = (0, n4, A2) ∨ 15 = 0 ∧ aa + 1 = A2 ∧ nn + y = n4) := .inl ⟨rfl, g1, g2⟩
                      have HM : Hid (z.size + 1 - (aa + 1) < z.size + 1 - aa ∧ nn + y ≤ 15 + 255 * (aa + 1) ∧ wrap64 ((nn : Int) + (y : Int)) = ((nn + y : Nat) : Int)) := ⟨hmeas, f5, hwr⟩
                      clear hnum HST g1 g2 hmeas h15 hnn haa f5 hwr
                      go_wp2
                      exact ⟨⟨aa + 1, nn + y, 15, by go_num, by rw [HM.out.2.2], rfl, hlt, HM.out.2.1, HBR, HNX⟩, by simp only [intOf]; exact HM.out.1⟩
                  · subst hff
                    replace haq := haq.symm
                    replace hnq := hnq.symm
                    subst haq
                    subst hnq
                    have HBW := HBR
                    clear HST HBR
                    go_wp2
                    exact ⟨⟨K1 + n4 + 4, A2, by go_num, rfl, by omega, by omega, HBW, HNXT⟩, by simp [intOf]; omega⟩
end Go.Proofs.Ytejdlmpbapcgcaa
