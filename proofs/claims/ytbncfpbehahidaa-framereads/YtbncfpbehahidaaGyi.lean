/- Layer 6: the document's Unpack. -/
import Derived.Test.YtbncfpbehahidaaYh
import Derived.Test.YtbncfpbehahidaaYc2
namespace Go.Proofs.Ytbncfpbehahidaa
open Go.RowKit
set_option linter.unusedVariables false
set_option maxRecDepth 20000

theorem sum4 (L N : Nat) (h : L + N ≤ 1152921504606846976) : wrap64 ((L : Int) + (N : Int)) = (L : Int) + (N : Int) ∧ wrap64 ((L : Int) + (N : Int) + 4) = (L : Int) + (N : Int) + 4 ∧ IntKind.i64.wrap ((L : Int) + (N : Int)) = (L : Int) + (N : Int) ∧ IntKind.i64.wrap ((L : Int) + (N : Int) + 4) = (L : Int) + (N : Int) + 4 := by
  unfold wrap64
  rw [IntKind.wrap_i64, IntKind.wrap_i64]
  omega
theorem sum_le {L N most x z : Nat} (h1 : L ≤ most) (h2 : most ≤ 1048576) (h3 : N ≤ x + 255 * z) (h4 : x ≤ 15) (h5 : z ≤ 281474976710656) : L + N ≤ 1152921504606846976 := by omega
theorem wrap256 (y : Nat) (h : y < 256) : IntKind.i64.wrap (256 * (y : Int)) = 256 * (y : Int) := by rw [IntKind.wrap_i64]; omega
theorem far_facts (y y2 d : Nat) (h1 : y < 256) (h2 : y2 < 256) (h : y + 256 * y2 = d) : (y : Int) + 256 * (y2 : Int) = (d : Int) ∧ d < 65536 ∧ IntKind.i64.wrap (d : Int) = (d : Int) ∧ IntKind.i64.wrap ((y : Int) + 256 * (y2 : Int)) = (d : Int) := by
  refine ⟨by omega, by omega, wrapN d (by omega), ?_⟩
  rw [IntKind.wrap_i64]; omega
set_option maxRecDepth 20000 in
set_option maxHeartbeats 1000000 in
theorem refMore_ok (w : World) (s : ByteArray) (a n : Nat) (ha : a ≤ s.size) (hn : n ≤ 15) (hs : s.size ≤ 281474976710656) :
    Calls Try.prog 43 #[.string s, .int .i64 a, .int .i64 n] w fun e w' => (∃ k, w' = w.drewN k) ∧ (((numW s a n).1 = 0 ∧ e = .returned (.tuple #[.int .i64 ((numW s a n).2.1 : Nat), .int .i64 ((numW s a n).2.2 : Nat)])) ∨ ((numW s a n).1 = 5 ∧ ∃ x, e = .returned (.tuple #[.int .i64 x, .int .i64 (-1)]))) := by
  obtain ⟨r, hr⟩ : ∃ r, numW s a n = r := ⟨_, rfl⟩
  rw [hr]
  have HR : Hid (numW s a n = r) := hr
  clear hr
  go_enter Try.func43, Try.ntmps43
  go_wp2_with fail
  go_loopw [1, 2] (fun v1 v2 wr => ∃ a' n', v1 = .int .i64 (a' : Nat) ∧ v2 = .int .i64 (n' : Nat) ∧ a' ≤ s.size ∧ n' ≤ 15 + 255 * a' ∧ wr = w ∧ Hid (numW s a' n' = r)) (fun v1 _ _ => s.size - (intOf v1).toNat)
  case atStart => exact ⟨a, n, rfl, rfl, ha, by omega, rfl, HR.out⟩
  case round =>
    obtain ⟨a', n', rfl, rfl, ha', hn', hw, HI⟩ := hrel
    subst hw
    by_cases hlt : a' < s.size
    · have hlti : (a' : Int) < (s.size : Int) := by omega
      have hbt := bt_at s a' hlt
      have hbl := bt_lt s a'
      have hst := numW_step s a' n' hlt
      obtain ⟨x, hx⟩ : ∃ x, bt s a' = x := ⟨_, rfl⟩
      rw [hx] at hbt hbl hst
      have HST : Hid (r = if x < 255 then (0, n' + x, a' + 1) else numW s (a' + 1) (n' + x)) := by show _ = _; rw [← hst]; exact HI.out.symm
      have hxw := wrapN64 x (by omega)
      clear hst hx
      by_cases h255 : x < 255
      · have hi : (x : Int) ≠ 255 := by omega
        have hi2 : ((x : Int) != 255) = true := by simp; omega
        go_wp2
        go_ret2
        have hr := HST.out
        rw [if_pos h255] at hr
        rw [hr]
        exact ⟨⟨0, rfl⟩, .inl ⟨rfl, rfl⟩⟩
      · obtain rfl : x = 255 := by omega
        go_wp2
        have hr := HST.out
        rw [if_neg h255] at hr
        exact ⟨⟨a' + 1, n' + 255, by go_num, by go_num, by omega, by omega, trivial, hr.symm⟩, by simp [intOf]; omega⟩
    · have hlti : ¬ (a' : Int) < (s.size : Int) := by omega
      have hend := numW_end s a' n' (by omega)
      have HST : Hid (r = (5, 0, a')) := by show _ = _; rw [← hend]; exact HI.out.symm
      clear hend
      go_wp2
      go_ret2
      rw [HST.out]
      exact ⟨⟨0, rfl⟩, .inr ⟨rfl, _, rfl⟩⟩
set_option maxRecDepth 20000 in
set_option maxHeartbeats 4000000 in
theorem refUnpack_ok (s : ByteArray) (most : Nat) (w : World) (hm : most ≤ 1048576) (hs : s.size ≤ 281474976710656) :
    Calls Try.prog 25 #[.string s, .int .i64 most] w fun e w' => e = .returned (lzR (unpack s most)) ∧ Below w.heap.size w w' := by
  obtain ⟨r, hr⟩ : ∃ r, unpack s most = r := ⟨_, rfl⟩
  rw [hr]
  have HR : Hid (unpack s most = r) := hr
  have HB : Hid (Bytes r.2) := by
    show Bytes _
    rw [← hr]; exact unpF_bytes _ _ _ _ _ (fun x hx => by simp at hx)
  have hmi : ¬ (1048576 : Int) < (most : Int) := by omega
  have hm0 : decide ((most : Int) < 0) = false := by simp
  have hm1 : ¬ (most : Int) < 0 := by omega
  clear hr
  go_enter Try.func25, Try.ntmps25
  go_wp2_with fail
  go_loopw [6, 7] (fun v6 v7 wr => ∃ a : Nat, v7 = .int .i64 (a : Nat) ∧ a ≤ s.size ∧ Hid (∃ l k, wr.ownsRow w.heap.size 5 1 v6 l.length (bcells l) ∧ Below w.heap.size w wr ∧ unpF s most k a l = r ∧ s.size - a < k ∧ l.length ≤ most)) (fun _ v7 _ => s.size - (intOf v7).toNat)
  case atStart => exact ⟨0, rfl, Nat.zero_le _, [], s.size + 1, World.ownsRow_nil _ _ _ _, Below.refl _ _, HR.out, by omega, Nat.zero_le _⟩
  case round =>
    obtain ⟨a, rfl, ha, HS⟩ := hrel
    obtain ⟨l, k, hO, hF, hk, hks, hl⟩ := HS.out
    obtain ⟨k, rfl⟩ : ∃ k', k = k' + 1 := ⟨k - 1, by omega⟩
    by_cases h1 : a < s.size
    · have h1i : ¬ (s.size : Int) ≤ (a : Int) := by omega
      have hbt := bt_at s a h1
      have hx1 := bt_lt s a
      have HK : Hid (unpF s most (k + 1) a l = r) := hk
      obtain ⟨p1, hp1⟩ : ∃ p1, a + 1 = p1 := ⟨_, rfl⟩
      have hp1i : (a : Int) + 1 = (p1 : Int) := by omega
      have hp1s : p1 ≤ s.size := by omega
      obtain ⟨x1, hx1'⟩ : ∃ x1, bt s a / 16 = x1 := ⟨_, rfl⟩
      obtain ⟨x2, hx2'⟩ : ∃ x2, bt s a % 16 = x2 := ⟨_, rfl⟩
      have hnb := numB_le s (a + 1) (bt s a / 16) (by omega)
      have HM : Hid (x1 = 15 → ∀ W : World, Calls Try.prog 43 #[.string s, .int .i64 p1, .int .i64 x1] W fun e w' => (∃ k, w' = W.drewN k) ∧ (((numB s (a + 1) (bt s a / 16)).1 = 0 ∧ e = .returned (.tuple #[.int .i64 ((numB s (a + 1) (bt s a / 16)).2.1 : Nat), .int .i64 ((numB s (a + 1) (bt s a / 16)).2.2 : Nat)])) ∨ ((numB s (a + 1) (bt s a / 16)).1 = 5 ∧ ∃ x, e = .returned (.tuple #[.int .i64 x, .int .i64 (-1)])))) := fun h15 W => by
        have h := refMore_ok W s p1 x1 hp1s (by omega) hs
        have e : numB s p1 x1 = numW s p1 x1 := by unfold numB; rw [if_neg (by omega)]
        rw [hp1, hx1', e]; exact h
      have HLT : Hid (x1 < 15 → numB s (a + 1) (bt s a / 16) = (0, x1, p1)) := fun h => by rw [hp1, hx1']; unfold numB; rw [if_pos h]
      obtain ⟨t, ht⟩ : ∃ t, numB s (a + 1) (bt s a / 16) = t := ⟨_, rfl⟩
      rw [ht] at hnb HM HLT
      obtain ⟨t0, N, P⟩ := t
      have HT0 : Hid (numB s (a + 1) (bt s a / 16) = (t0, N, P)) := ht
      simp only at hnb HM HLT
      obtain ⟨x, hx⟩ : ∃ x, bt s a = x := ⟨_, rfl⟩
      have HX2 : Hid (bt s a % 16 = x2) := hx2'
      rw [hx] at hbt hx1 hx1' hx2' hnb
      have hx1b : x1 ≤ 15 := by omega
      have hx2b : x2 ≤ 15 := by omega
      have hx1i : (x : Int) / 16 = (x1 : Int) := by omega
      have hx2i : (x : Int) % 16 = (x2 : Int) := by omega
      obtain ⟨L, hL⟩ : ∃ L, l.length = L := ⟨_, rfl⟩
      have HL : Hid (l.length = L) := hL
      have hLm : L ≤ most := by omega
      have HO : Hid (wr.ownsRow w.heap.size 5 1 u6 l.length (bcells l) ∧ Below w.heap.size w wr) := ⟨hO, hF⟩
      obtain ⟨ao, cp, hv⟩ : ∃ ao cp, u6 = .slice ao L cp := by
        rcases hO.2 with ⟨e, h0⟩ | ⟨g, cap, cur, e, _⟩
        · exact ⟨none, 0, by rw [e, ← hL, h0]⟩
        · exact ⟨_, _, by rw [e, hL]⟩
      subst hv
      have hPs := hnb.2.2.1
      have hPa := hnb.2.1
      have hNb := hnb.1
      have hx16 : x / 16 ≤ 15 := by omega
      have h05 := hnb.2.2.2.1
      clear hO hF hL ht hl hx hk hnb
      go_wp2_with fail
      go_quiet (fail)
      clear hx1i hx2i hx1' hx2' hx1 hbt hp1 hmi hm1
      have HO2 : Hid ((wr.drewN nq).ownsRow w.heap.size 5 1 (.slice ao L cp) l.length (bcells l) ∧ Below w.heap.size w (wr.drewN nq)) := ⟨HO.out.1, HO.out.2.trans (Below.drewN' _ _ _)⟩
      obtain ⟨w2, hw2⟩ : ∃ w2, wr.drewN nq = w2 := ⟨_, rfl⟩
      rw [hw2] at HO2 ⊢
      clear hw2 HO
      by_cases z0 : t0 = 0
      · subst z0
        have HT : Hid (numB s (a + 1) (bt s a / 16) = (0, N, P)) := HT0.out
        by_cases x15 : x1 < 15
        · have e1 := HLT.out x15
          have e2 : (0, N, P) = (0, x1, p1) := e1
          simp only [Prod.mk.injEq, true_and] at e2
          obtain ⟨rfl, rfl⟩ := e2
          have x15i : ((N : Int) == 15) = false := by simp; omega
          have x15j : ¬ (N : Int) = 15 := by omega
          clear HM HLT e1 h05
          by_cases h4 : most < L + N
          · have h4i : (most : Int) < (L : Int) + (N : Int) := by omega
            have h4n : most < L + N := h4
            obtain ⟨h4a, _, h4c, _⟩ := sum4 L N (sum_le hLm hm hNb hx16 hs)
            have HE : Hid (lzR r = _) := lzR_bad (by rw [← HK.out]; exact unp_bad (seq_plain h1 (plain_long HT.out (by rw [HL.out]; exact h4)) (by decide)) (by decide)) (by decide)
            go_wp2
            go_ret2
            rw [HE.out]
            exact ⟨rfl, HO2.out.2⟩
          · have h4i : ¬ (most : Int) < (L : Int) + (N : Int) := by omega
            have hNm : N ≤ 1048576 := by omega
            clear hNb
            by_cases h5 : s.size < P + N
            · have h5i : (s.size : Int) < (P : Int) + (N : Int) := by omega
              have HE : Hid (lzR r = _) := lzR_bad (by rw [← HK.out]; exact unp_bad (seq_plain h1 (plain_short HT.out (by rw [HL.out]; exact h4) h5) (by decide)) (by decide)) (by decide)
              go_wp2
              go_ret2
              rw [HE.out]
              exact ⟨rfl, HO2.out.2⟩
            · have h5i : ¬ (s.size : Int) < (P : Int) + (N : Int) := by omega
              obtain ⟨M, hM⟩ : ∃ M, P + N = M := ⟨_, rfl⟩
              obtain ⟨ex, hex⟩ : ∃ ex, s.extract P M = ex := ⟨_, rfl⟩
              have HPL0 := plain_good HT.out (by rw [HL.out]; exact h4) h5
              rw [hM, hex] at HPL0
              obtain ⟨m, hm'⟩ : ∃ m, l ++ bytesOf ex = m := ⟨_, rfl⟩
              rw [hm'] at HPL0
              have HPL : Hid (plainF s most (a + 1) l (bt s a / 16) = (0, M, m)) := HPL0
              have hexs : ex.size = N := by rw [← hex, ByteArray.size_extract]; omega
              have hMw : IntKind.i64.wrap ((P : Int) + (N : Int)) = (M : Int) := by rw [IntKind.wrap_i64]; omega
              have hM0 : (P : Int) + (N : Int) = (M : Int) := by omega
              have hM1 : (M : Int) ≤ (s.size : Int) := by omega
              have hM2 : (P : Int) ≤ (M : Int) := by omega
              have hLN : L + ex.size ≤ 1048576 := by omega
              have hPM : P ≤ M := by omega
              have hMs0 : M ≤ s.size := by omega
              obtain ⟨L2, hL2⟩ : ∃ L2, L + N = L2 := ⟨_, rfl⟩
              have HL2 : Hid (m.length = L2 ∧ L2 ≤ most) := ⟨by rw [← hm', List.length_append, HL.out, bytesOf_length, hexs, hL2], by omega⟩
              have HMM : Hid (l ++ bytesOf ex = m) := hm'
              obtain ⟨i0, hi0, hz0, hz1, hz2⟩ := info_parts infoB
              clear HPL0 hm' hM
              go_wp2_with (at_builtin; refine Lib.wpList_append_own_string _ rfl _ _ 30 9 rfl w.heap.size 5 i0 Try.underlying30 Try.underlying9 hi0 hz0 hz1 hz2 (.slice ao L cp) L (bcells l) rfl (by have := HO2.out.1; rw [HL.out] at this; exact this) ex rfl (by unfold maxLen; omega) (by omega) HO2.out.2.size ?_)
              intro v3 w3 hown hgrow _
              have HO3 : Hid (w3.ownsRow w.heap.size 5 1 v3 m.length (bcells m) ∧ Below w.heap.size w w3) := by
                refine ⟨?_, HO2.out.2.trans (Below.grown HO2.out.1 hgrow HO2.out.2.size)⟩
                rw [HL2.out.1, ← HMM.out, bcells_append]
                rw [strCells_eq] at hown
                exact hown
              obtain ⟨ao2, cp2, hv⟩ : ∃ ao cp, v3 = .slice ao L2 cp := by
                rcases HO3.out.1.2 with ⟨e, h0⟩ | ⟨g, cap, cur, e, _⟩
                · exact ⟨none, 0, by rw [e, ← HL2.out.1, h0]⟩
                · exact ⟨_, _, by rw [e, HL2.out.1]⟩
              subst hv
              clear hown hgrow hi0 hz0 hz1 hz2 HO2 HMM hex hexs hMw hM2 hLN hL2 h4i h5i
              by_cases h6 : M = s.size
              · have h6b : ((M : Int) == (s.size : Int)) = true := by simp; omega
                have HRM : Hid (r = (0, m)) := by
                  show _ = _
                  have e := HPL.out
                  rw [h6] at e
                  rw [← HK.out]; exact unp_last (seq_last h1 e)
                have HE : Hid (lzR r = _) := lzR_good HRM.out
                have hconv : (convert 30 9 (.slice ao2 L2 cp2)).run Try.prog w3 = .ok (.string (toBA m)) w3 := conv_row w3 _ _ 5 w.heap.size _ m Try.underlying30 Try.underlying5 Try.underlying9 HO3.out.1 (by have := HB.out; rw [HRM.out] at this; exact this)
                obtain ⟨T, hT⟩ : ∃ T, toBA m = T := ⟨_, rfl⟩
                rw [hT] at hconv HE
                clear hT h6 hMs0 hM1
                go_wp2
                go_ret2
                rw [HE.out]
                exact ⟨rfl, HO3.out.2⟩
              · have h6b : ((M : Int) == (s.size : Int)) = false := by simp; omega
                have HMS : Hid (M ≠ s.size) := h6
                by_cases h7 : s.size < M + 2
                · have h7i : (s.size : Int) < (M : Int) + 2 := by omega
                  have HE : Hid (lzR r = _) := lzR_bad (by rw [← HK.out]; exact unp_bad (seq_bad' h1 HPL.out HMS.out (copy_short h7) (by decide)) (by decide)) (by decide)
                  go_wp2
                  go_ret2
                  rw [HE.out]
                  exact ⟨rfl, HO3.out.2⟩
                · have h7i : ¬ (s.size : Int) < (M : Int) + 2 := by omega
                  have hMa : M < s.size := by omega
                  obtain ⟨M1, hM1'⟩ : ∃ M1, M + 1 = M1 := ⟨_, rfl⟩
                  have hMb : M1 < s.size := by omega
                  have hMi1 : (M : Int) + 1 = (M1 : Int) := by omega
                  have hM1w := wrapN M1 (by omega)
                  obtain ⟨M2, hM2'⟩ : ∃ M2, M + 2 = M2 := ⟨_, rfl⟩
                  have hMi2 : (M : Int) + 2 = (M2 : Int) := by omega
                  have hM2w := wrapN M2 (by omega)
                  have hM2s : M2 ≤ s.size := by omega
                  have hPM2 : P ≤ M2 := by omega
                  have HM2 : Hid (M + 2 = M2) := hM2'
                  clear hM2'
                  have hMbi : (M1 : Int) < (s.size : Int) := by omega
                  have hMai : (M : Int) < (s.size : Int) := by omega
                  clear h6
                  obtain ⟨y, hy⟩ : ∃ y, bt s M = y := ⟨_, rfl⟩
                  obtain ⟨y2, hy2⟩ : ∃ y, bt s M1 = y := ⟨_, rfl⟩
                  have hyal : y < 256 := hy ▸ bt_lt s M
                  have hybl : y2 < 256 := hy2 ▸ bt_lt s M1
                  obtain ⟨d, hd⟩ : ∃ d, y + 256 * y2 = d := ⟨_, rfl⟩
                  obtain ⟨hdi, hdl, hdw, hdw2⟩ := far_facts y y2 d hyal hybl hd
                  have hdi2 := wrap256 y2 hybl
                  have HDD : Hid (bt s M + 256 * bt s (M + 1) = d) := by show _ = _; rw [hM1', hy, hy2, hd]
                  have hyw := wrapN64 y (Nat.le_trans (Nat.le_of_lt hyal) (by decide))
                  have hyw2 := wrapN64 y2 (Nat.le_trans (Nat.le_of_lt hybl) (by decide))
                  have hya := (bt_at s M hMa).trans hy
                  have hyb := (bt_at s M1 hMb).trans hy2
                  clear hy hy2 hd hM1' hM1
                  go_wp2_with fail
                  refine wp_region_quiet_lit (by kernel_rfl) (by kernel_rfl) ?_
                  iterate 12 (quiet_step (fail))
                  refine wpQuiet_nil ?_
                  intro _ hw'
                  obtain ⟨nq, hw''⟩ := hw'
                  subst hw''
                  rw [wrapN y (Nat.le_trans (Nat.le_of_lt hyal) (by decide)), wrapN y2 (Nat.le_trans (Nat.le_of_lt hybl) (by decide)), hdi2, hdw2]
                  have HO4 : Hid ((w3.drewN nq).ownsRow w.heap.size 5 1 (.slice ao2 L2 cp2) m.length (bcells m) ∧ Below w.heap.size w (w3.drewN nq)) := ⟨HO3.out.1, HO3.out.2.trans (Below.drewN' _ _ _)⟩
                  obtain ⟨w4, hw4⟩ : ∃ w4, w3.drewN nq = w4 := ⟨_, rfl⟩
                  rw [hw4] at HO4 ⊢
                  clear hw4 HO3 hya hyb hyw hyw2 hdi hdi2 hdw2 hMi1 hM1w hM0
                  by_cases hfar : d = 0 ∨ L2 < d
                  · have HE : Hid (lzR r = _) := lzR_bad (by rw [← HK.out]; exact unp_bad (seq_bad' h1 HPL.out HMS.out (copy_far h7 (by rw [HDD.out, HL2.out.1]; exact hfar)) (by decide)) (by decide)) (by decide)
                    by_cases d0 : d = 0
                    · have d0b : ((d : Int) == 0) = true := by simp [d0]
                      clear d0 hfar
                      go_wp2
                      go_ret2
                      rw [HE.out]
                      exact ⟨rfl, HO4.out.2⟩
                    · have d0b : ((d : Int) == 0) = false := by simp; omega
                      have d1n : L2 < d := by omega
                      have d1 : decide ((L2 : Int) < (d : Int)) = true := by simp; omega
                      clear d0 hfar
                      go_wp2
                      go_ret2
                      rw [HE.out]
                      exact ⟨rfl, HO4.out.2⟩
                  · have d0b : ((d : Int) == 0) = false := by simp; omega
                    have d1n : ¬ L2 < d := by omega
                    have d1 : decide ((L2 : Int) < (d : Int)) = false := by simp; omega
                    have hdpos : 1 ≤ d := by omega
                    have hdL : d ≤ L2 := by omega
                    have HD : Hid (distF s M m = (0, d, M + 2)) := by
                      show _ = _
                      rw [dist_good h7 (by rw [HDD.out, HL2.out.1]; exact hfar), HDD.out]
                    clear hfar h7i
                    have hnb2 := numB_le s (M + 2) (bt s a % 16) (by rw [HM2.out]; exact hM2s)
                    have HM' : Hid (x2 = 15 → ∀ W : World, Calls Try.prog 43 #[.string s, .int .i64 M2, .int .i64 x2] W fun e w' => (∃ k, w' = W.drewN k) ∧ (((numB s (M + 2) (bt s a % 16)).1 = 0 ∧ e = .returned (.tuple #[.int .i64 ((numB s (M + 2) (bt s a % 16)).2.1 : Nat), .int .i64 ((numB s (M + 2) (bt s a % 16)).2.2 : Nat)])) ∨ ((numB s (M + 2) (bt s a % 16)).1 = 5 ∧ ∃ x, e = .returned (.tuple #[.int .i64 x, .int .i64 (-1)])))) := fun h15 W => by
                      have h := refMore_ok W s M2 x2 hM2s hx2b hs
                      have e : numB s M2 x2 = numW s M2 x2 := by unfold numB; rw [if_neg (by omega)]
                      rw [HM2.out, HX2.out, e]; exact h
                    have HLT' : Hid (x2 < 15 → numB s (M + 2) (bt s a % 16) = (0, x2, M2)) := fun h => by rw [HM2.out, HX2.out]; unfold numB; rw [if_pos h]
                    obtain ⟨t, ht⟩ : ∃ t, numB s (M + 2) (bt s a % 16) = t := ⟨_, rfl⟩
                    rw [ht] at hnb2 HM' HLT'
                    obtain ⟨t0, N2, P2⟩ := t
                    have HT0' : Hid (numB s (M + 2) (bt s a % 16) = (t0, N2, P2)) := ht
                    simp only at hnb2 HM' HLT'
                    rw [HM2.out, HX2.out] at hnb2
                    have hP2 := hnb2.2.2.1
                    have hP2a := hnb2.2.1
                    have hN2b := hnb2.1
                    have h05' := hnb2.2.2.2.1
                    clear ht hnb2
                    by_cases z0' : t0 = 0
                    · subst z0'
                      have HT2 : Hid (numB s (M + 2) (bt s a % 16) = (0, N2, P2)) := HT0'.out
                      by_cases x15' : x2 < 15
                      · have e1 := HLT'.out x15'
                        have e2 : (0, N2, P2) = (0, x2, M2) := e1
                        simp only [Prod.mk.injEq, true_and] at e2
                        obtain ⟨rfl, rfl⟩ := e2
                        have x15k : ((N2 : Int) == 15) = false := by simp; omega
                        clear HM' HLT' e1 h05'
                        have HO5 := HO4
                        clear HO4
                        by_cases h8 : most < L2 + (N2 + 4)
                        · have h8i : (most : Int) < (L2 : Int) + (N2 : Int) + 4 := by omega
                          have h8n : most < L2 + N2 + 4 := by omega
                          obtain ⟨h8a, h8b, h8c, h8d⟩ := sum4 L2 N2 (sum_le HL2.out.2 hm hN2b hx2b hs)
                          have HE : Hid (lzR r = _) := lzR_bad (by rw [← HK.out]; exact unp_bad (seq_bad' h1 HPL.out HMS.out (copy_long HD.out HT2.out (by rw [HL2.out.1]; exact h8)) (by decide)) (by decide)) (by decide)
                          go_wp2
                          go_ret2
                          rw [HE.out]
                          exact ⟨rfl, HO5.out.2⟩
                        · have h8i : ¬ (most : Int) < (L2 : Int) + (N2 : Int) + 4 := by omega
                          have h8n : ¬ most < L2 + N2 + 4 := by omega
                          have HFN : Hid (unpF s most k P2 (copyL d (N2 + 4) m) = r) := by
                            show _ = _
                            rw [← HK.out, unp_more (seq_good h1 HPL.out HMS.out (copy_good HD.out HT2.out (by rw [HL2.out.1]; exact h8)))]
                          go_wp2_with fail
                          have h8m : L2 + (N2 + 4) ≤ most := by omega
                          clear h8i h8n h8
                          go_loopw [6, 11] (fun v6 v11 wr => ∃ i : Nat, v11 = .int .i64 i ∧ i ≤ N2 + 4 ∧ Hid (wr.ownsRow w.heap.size 5 1 v6 (copyL d i m).length (bcells (copyL d i m)) ∧ Below w.heap.size w wr)) (fun _ v11 _ => N2 + 4 - (intOf v11).toNat)
                          case atStart => exact ⟨0, rfl, Nat.zero_le _, HO5.out⟩
                          case round =>
                            obtain ⟨i, rfl, hi, HS⟩ := hrel
                            by_cases hlt : i < N2 + 4
                            · have hlti : (i : Int) < (N2 : Int) + 4 := by omega
                              obtain ⟨Mi, hMi⟩ : ∃ M, copyL d i m = M := ⟨_, rfl⟩
                              have hML : Mi.length = L2 + i := by rw [← hMi, copyL_length, HL2.out.1]
                              rw [hMi] at HS
                              obtain ⟨g, cq, hv, _, _⟩ := HS.out.1.form (by omega)
                              obtain ⟨q, hq⟩ : ∃ q, Mi.length - d = q := ⟨_, rfl⟩
                              have HX : Hid (copyL d (i + 1) m = Mi ++ [Mi.getD q 0]) := by
                                show _ = _
                                rw [copyL_succ, hMi, hq]
                              have cb := HS.out.1.cells (g := g) (by rw [hv]; rfl) q (.int .u8 (Mi.getD q 0 : Nat)) (by
                                have hqm : q < Mi.length := by omega
                                simp [bcells, hqm])
                              rw [add_zero_addr] at cb
                              obtain ⟨x', hx'⟩ : ∃ x, Mi.getD q 0 = x := ⟨_, rfl⟩
                              rw [hx'] at cb HX
                              obtain ⟨Q, hQ⟩ : ∃ Q, Mi.length = Q := ⟨_, rfl⟩
                              have HQ : Hid (Mi.length = Q) := hQ
                              rw [hQ] at hML hv
                              subst hv
                              have HO6 : Hid (wr.ownsRow w.heap.size 5 1 (.slice (some ⟨g, 0, none⟩) Q cq) Q (bcells Mi) ∧ Below w.heap.size w wr) := ⟨by have := HS.out.1; rw [hQ] at this; exact this, HS.out.2⟩
                              have hqi : (Q : Int) - (d : Int) = (q : Int) := by rw [hQ] at hq; omega
                              have hqQ : (q : Int) < (Q : Int) := by rw [hQ] at hq; omega
                              have hqw : IntKind.i64.wrap (q : Int) = (q : Int) := wrapN q (by rw [hQ] at hq; omega)
                              have hQb : Q + 1 ≤ 1048577 := by omega
                              have hN4 := wrapN (N2 + 4) (by omega)
                              rw [show (((N2 + 4 : Nat)) : Int) = (N2 : Int) + 4 from rfl] at hN4
                              have hq0 : (0 : Int) ≤ (q : Int) := by omega
                              obtain ⟨i0, hi0, hz0, hz1, hz2⟩ := info_parts infoB
                              clear hML hMi hq hx' hQ HS
                              go_wp2_with (at_builtin; refine wpList_append_lies _ rfl _ _ 30 rfl w.heap.size 5 i0 (.int .u8 0) 1 1 Try.underlying30 hi0 hz0 hz1 hz2 rfl (by decide) (.slice (some ⟨g, 0, none⟩) Q cq) Q (bcells Mi) rfl (HO6.out.1.alloc _) ⟨wr.heap.size, 0, none⟩ 1 1 [.int .u8 (x' : Nat)] rfl rfl (news1 wr _ _) (oneB _) (by decide) (by unfold maxLen; omega) (by omega) (Nat.le_trans HO6.out.2.size (by simp)) _ rfl ?_)
                              intro g3 cap3 wc hown hgrow hat hgl
                              have HN : Hid (wc.ownsRow w.heap.size 5 1 (.slice (some ⟨g3, 0, none⟩) (Q + 1) cap3) (copyL d (i + 1) m).length (bcells (copyL d (i + 1) m)) ∧ Below w.heap.size w wc) := by
                                refine ⟨?_, ?_⟩
                                · rw [HX.out, bcells_append, List.length_append, HQ.out]; exact hown
                                · exact HO6.out.2.trans (((Below.refl w.heap.size wr).alloc HO6.out.2.size _).trans (Below.grown (HO6.out.1.alloc _) hgrow (Nat.le_trans HO6.out.2.size (by simp))))
                              clear hown hgrow hat hgl hi0 hz0 hz1 hz2
                              go_wp2
                              exact ⟨⟨i + 1, by go_num, by omega, HN⟩, by simp [intOf]; omega⟩
                            · have hlti : ¬ (i : Int) < (N2 : Int) + 4 := by omega
                              obtain hiC : i = N2 + 4 := by omega
                              have HFIN : Hid (∃ l k, wr.ownsRow w.heap.size 5 1 u6 l.length (bcells l) ∧ Below w.heap.size w wr ∧ unpF s most k P2 l = r ∧ s.size - P2 < k ∧ l.length ≤ most) := ⟨copyL d i m, k, HS.out.1, HS.out.2, by rw [hiC]; exact HFN.out, by omega, by rw [copyL_length, HL2.out.1]; omega⟩
                              clear HS
                              go_wp2
                              exact ⟨⟨P2, rfl, hP2, HFIN⟩, by simp [intOf]; omega⟩
                      · have HX15' : Hid (x2 = 15) := (by omega : x2 = 15)
                        have x15k : ((x2 : Int) == 15) = true := by have := HX15'.out; simp; omega
                        have HM2' : Hid (∀ W : World, Calls Try.prog 43 #[.string s, .int .i64 M2, .int .i64 x2] W fun e w' => (∃ k, w' = W.drewN k) ∧ e = .returned (.tuple #[.int .i64 (N2 : Nat), .int .i64 (P2 : Nat)])) := fun W => (HM'.out HX15'.out W).mono fun e w' h => by
                          rcases h with ⟨h1, ⟨_, h2⟩ | ⟨h2, _⟩⟩
                          · exact ⟨h1, h2⟩
                          · simp at h2
                        clear HM' HLT' h05' x15'
                        go_wp2_with fail
                        refine (HM2'.out _).mono ?_
                        rintro e w3' ⟨⟨kk, rfl⟩, rfl⟩
                        have HO5 : Hid ((w4.drewN kk).ownsRow w.heap.size 5 1 (.slice ao2 L2 cp2) m.length (bcells m) ∧ Below w.heap.size w (w4.drewN kk)) := ⟨HO4.out.1, HO4.out.2.trans (Below.drewN' _ _ _)⟩
                        obtain ⟨w5, hw5⟩ : ∃ w5, w4.drewN kk = w5 := ⟨_, rfl⟩
                        rw [hw5] at HO5 ⊢
                        clear hw5 HO4 HM2' x15k
                        by_cases h8 : most < L2 + (N2 + 4)
                        · have h8i : (most : Int) < (L2 : Int) + (N2 : Int) + 4 := by omega
                          have h8n : most < L2 + N2 + 4 := by omega
                          obtain ⟨h8a, h8b, h8c, h8d⟩ := sum4 L2 N2 (sum_le HL2.out.2 hm hN2b hx2b hs)
                          have HE : Hid (lzR r = _) := lzR_bad (by rw [← HK.out]; exact unp_bad (seq_bad' h1 HPL.out HMS.out (copy_long HD.out HT2.out (by rw [HL2.out.1]; exact h8)) (by decide)) (by decide)) (by decide)
                          go_wp2
                          go_ret2
                          rw [HE.out]
                          exact ⟨rfl, HO5.out.2⟩
                        · have h8i : ¬ (most : Int) < (L2 : Int) + (N2 : Int) + 4 := by omega
                          have h8n : ¬ most < L2 + N2 + 4 := by omega
                          have HFN : Hid (unpF s most k P2 (copyL d (N2 + 4) m) = r) := by
                            show _ = _
                            rw [← HK.out, unp_more (seq_good h1 HPL.out HMS.out (copy_good HD.out HT2.out (by rw [HL2.out.1]; exact h8)))]
                          go_wp2_with fail
                          have h8m : L2 + (N2 + 4) ≤ most := by omega
                          clear h8i h8n h8
                          go_loopw [6, 11] (fun v6 v11 wr => ∃ i : Nat, v11 = .int .i64 i ∧ i ≤ N2 + 4 ∧ Hid (wr.ownsRow w.heap.size 5 1 v6 (copyL d i m).length (bcells (copyL d i m)) ∧ Below w.heap.size w wr)) (fun _ v11 _ => N2 + 4 - (intOf v11).toNat)
                          case atStart => exact ⟨0, rfl, Nat.zero_le _, HO5.out⟩
                          case round =>
                            obtain ⟨i, rfl, hi, HS⟩ := hrel
                            by_cases hlt : i < N2 + 4
                            · have hlti : (i : Int) < (N2 : Int) + 4 := by omega
                              obtain ⟨Mi, hMi⟩ : ∃ M, copyL d i m = M := ⟨_, rfl⟩
                              have hML : Mi.length = L2 + i := by rw [← hMi, copyL_length, HL2.out.1]
                              rw [hMi] at HS
                              obtain ⟨g, cq, hv, _, _⟩ := HS.out.1.form (by omega)
                              obtain ⟨q, hq⟩ : ∃ q, Mi.length - d = q := ⟨_, rfl⟩
                              have HX : Hid (copyL d (i + 1) m = Mi ++ [Mi.getD q 0]) := by
                                show _ = _
                                rw [copyL_succ, hMi, hq]
                              have cb := HS.out.1.cells (g := g) (by rw [hv]; rfl) q (.int .u8 (Mi.getD q 0 : Nat)) (by
                                have hqm : q < Mi.length := by omega
                                simp [bcells, hqm])
                              rw [add_zero_addr] at cb
                              obtain ⟨x', hx'⟩ : ∃ x, Mi.getD q 0 = x := ⟨_, rfl⟩
                              rw [hx'] at cb HX
                              obtain ⟨Q, hQ⟩ : ∃ Q, Mi.length = Q := ⟨_, rfl⟩
                              have HQ : Hid (Mi.length = Q) := hQ
                              rw [hQ] at hML hv
                              subst hv
                              have HO6 : Hid (wr.ownsRow w.heap.size 5 1 (.slice (some ⟨g, 0, none⟩) Q cq) Q (bcells Mi) ∧ Below w.heap.size w wr) := ⟨by have := HS.out.1; rw [hQ] at this; exact this, HS.out.2⟩
                              have hqi : (Q : Int) - (d : Int) = (q : Int) := by rw [hQ] at hq; omega
                              have hqQ : (q : Int) < (Q : Int) := by rw [hQ] at hq; omega
                              have hqw : IntKind.i64.wrap (q : Int) = (q : Int) := wrapN q (by rw [hQ] at hq; omega)
                              have hQb : Q + 1 ≤ 1048577 := by omega
                              have hN4 := wrapN (N2 + 4) (by omega)
                              rw [show (((N2 + 4 : Nat)) : Int) = (N2 : Int) + 4 from rfl] at hN4
                              have hq0 : (0 : Int) ≤ (q : Int) := by omega
                              obtain ⟨i0, hi0, hz0, hz1, hz2⟩ := info_parts infoB
                              clear hML hMi hq hx' hQ HS
                              go_wp2_with (at_builtin; refine wpList_append_lies _ rfl _ _ 30 rfl w.heap.size 5 i0 (.int .u8 0) 1 1 Try.underlying30 hi0 hz0 hz1 hz2 rfl (by decide) (.slice (some ⟨g, 0, none⟩) Q cq) Q (bcells Mi) rfl (HO6.out.1.alloc _) ⟨wr.heap.size, 0, none⟩ 1 1 [.int .u8 (x' : Nat)] rfl rfl (news1 wr _ _) (oneB _) (by decide) (by unfold maxLen; omega) (by omega) (Nat.le_trans HO6.out.2.size (by simp)) _ rfl ?_)
                              intro g3 cap3 wc hown hgrow hat hgl
                              have HN : Hid (wc.ownsRow w.heap.size 5 1 (.slice (some ⟨g3, 0, none⟩) (Q + 1) cap3) (copyL d (i + 1) m).length (bcells (copyL d (i + 1) m)) ∧ Below w.heap.size w wc) := by
                                refine ⟨?_, ?_⟩
                                · rw [HX.out, bcells_append, List.length_append, HQ.out]; exact hown
                                · exact HO6.out.2.trans (((Below.refl w.heap.size wr).alloc HO6.out.2.size _).trans (Below.grown (HO6.out.1.alloc _) hgrow (Nat.le_trans HO6.out.2.size (by simp))))
                              clear hown hgrow hat hgl hi0 hz0 hz1 hz2
                              go_wp2
                              exact ⟨⟨i + 1, by go_num, by omega, HN⟩, by simp [intOf]; omega⟩
                            · have hlti : ¬ (i : Int) < (N2 : Int) + 4 := by omega
                              obtain hiC : i = N2 + 4 := by omega
                              have HFIN : Hid (∃ l k, wr.ownsRow w.heap.size 5 1 u6 l.length (bcells l) ∧ Below w.heap.size w wr ∧ unpF s most k P2 l = r ∧ s.size - P2 < k ∧ l.length ≤ most) := ⟨copyL d i m, k, HS.out.1, HS.out.2, by rw [hiC]; exact HFN.out, by omega, by rw [copyL_length, HL2.out.1]; omega⟩
                              clear HS
                              go_wp2
                              exact ⟨⟨P2, rfl, hP2, HFIN⟩, by simp [intOf]; omega⟩
                    · have z5 : t0 = 5 := h05'.resolve_left z0'
                      subst z5
                      have hx15 : ¬ x2 < 15 := fun h => by have := HLT'.out h; simp at this
                      have HX15' : Hid (x2 = 15) := (by omega : x2 = 15)
                      have x15k : ((x2 : Int) == 15) = true := by have := HX15'.out; simp; omega
                      have HM2' : Hid (∀ W : World, Calls Try.prog 43 #[.string s, .int .i64 M2, .int .i64 x2] W fun e w' => (∃ k, w' = W.drewN k) ∧ ∃ x, e = .returned (.tuple #[.int .i64 x, .int .i64 (-1)])) := fun W => (HM'.out HX15'.out W).mono fun e w' h => by
                        rcases h with ⟨h1, ⟨h2, _⟩ | ⟨_, h2⟩⟩
                        · simp at h2
                        · exact ⟨h1, h2⟩
                      have HE : Hid (lzR r = _) := lzR_bad (by rw [← HK.out]; exact unp_bad (seq_bad' h1 HPL.out HMS.out (copy_num HD.out HT0'.out (by decide)) (by decide)) (by decide)) (by decide)
                      clear HM' HLT' h05' hx15 z0'
                      go_wp2_with fail
                      refine (HM2'.out _).mono ?_
                      rintro e w3' ⟨⟨kk, rfl⟩, xx, rfl⟩
                      go_wp2
                      go_ret2
                      rw [HE.out]
                      exact ⟨rfl, HO4.out.2.trans (Below.drewN' _ _ _)⟩
        · have x15e : x1 = 15 := by omega
          have x15i : ((x1 : Int) == 15) = true := by simp; omega
          have HX15 : Hid (x1 = 15) := x15e
          clear x15e x15
          have HM2 : Hid (∀ W : World, Calls Try.prog 43 #[.string s, .int .i64 p1, .int .i64 x1] W fun e w' => (∃ k, w' = W.drewN k) ∧ e = .returned (.tuple #[.int .i64 (N : Nat), .int .i64 (P : Nat)])) := fun W => (HM.out HX15.out W).mono fun e w' h => by
            rcases h with ⟨h1, ⟨_, h2⟩ | ⟨h2, _⟩⟩
            · exact ⟨h1, h2⟩
            · simp at h2
          clear HM HLT h05
          go_wp2_with fail
          refine (HM2.out _).mono ?_
          rintro e w3' ⟨⟨kk, rfl⟩, rfl⟩
          have HO2' : Hid ((w2.drewN kk).ownsRow w.heap.size 5 1 (.slice ao L cp) l.length (bcells l) ∧ Below w.heap.size w (w2.drewN kk)) := ⟨HO2.out.1, HO2.out.2.trans (Below.drewN' _ _ _)⟩
          obtain ⟨w2', hw2⟩ : ∃ w2', w2.drewN kk = w2' := ⟨_, rfl⟩
          rw [hw2] at HO2' ⊢
          clear hw2 HO2 HM2 x15i
          have HO2 := HO2'
          clear HO2'
          by_cases h4 : most < L + N
          · have h4i : (most : Int) < (L : Int) + (N : Int) := by omega
            have h4n : most < L + N := h4
            obtain ⟨h4a, _, h4c, _⟩ := sum4 L N (sum_le hLm hm hNb hx16 hs)
            have HE : Hid (lzR r = _) := lzR_bad (by rw [← HK.out]; exact unp_bad (seq_plain h1 (plain_long HT.out (by rw [HL.out]; exact h4)) (by decide)) (by decide)) (by decide)
            go_wp2
            go_ret2
            rw [HE.out]
            exact ⟨rfl, HO2.out.2⟩
          · have h4i : ¬ (most : Int) < (L : Int) + (N : Int) := by omega
            have hNm : N ≤ 1048576 := by omega
            clear hNb
            by_cases h5 : s.size < P + N
            · have h5i : (s.size : Int) < (P : Int) + (N : Int) := by omega
              have HE : Hid (lzR r = _) := lzR_bad (by rw [← HK.out]; exact unp_bad (seq_plain h1 (plain_short HT.out (by rw [HL.out]; exact h4) h5) (by decide)) (by decide)) (by decide)
              go_wp2
              go_ret2
              rw [HE.out]
              exact ⟨rfl, HO2.out.2⟩
            · have h5i : ¬ (s.size : Int) < (P : Int) + (N : Int) := by omega
              obtain ⟨M, hM⟩ : ∃ M, P + N = M := ⟨_, rfl⟩
              obtain ⟨ex, hex⟩ : ∃ ex, s.extract P M = ex := ⟨_, rfl⟩
              have HPL0 := plain_good HT.out (by rw [HL.out]; exact h4) h5
              rw [hM, hex] at HPL0
              obtain ⟨m, hm'⟩ : ∃ m, l ++ bytesOf ex = m := ⟨_, rfl⟩
              rw [hm'] at HPL0
              have HPL : Hid (plainF s most (a + 1) l (bt s a / 16) = (0, M, m)) := HPL0
              have hexs : ex.size = N := by rw [← hex, ByteArray.size_extract]; omega
              have hMw : IntKind.i64.wrap ((P : Int) + (N : Int)) = (M : Int) := by rw [IntKind.wrap_i64]; omega
              have hM0 : (P : Int) + (N : Int) = (M : Int) := by omega
              have hM1 : (M : Int) ≤ (s.size : Int) := by omega
              have hM2 : (P : Int) ≤ (M : Int) := by omega
              have hLN : L + ex.size ≤ 1048576 := by omega
              have hPM : P ≤ M := by omega
              have hMs0 : M ≤ s.size := by omega
              obtain ⟨L2, hL2⟩ : ∃ L2, L + N = L2 := ⟨_, rfl⟩
              have HL2 : Hid (m.length = L2 ∧ L2 ≤ most) := ⟨by rw [← hm', List.length_append, HL.out, bytesOf_length, hexs, hL2], by omega⟩
              have HMM : Hid (l ++ bytesOf ex = m) := hm'
              obtain ⟨i0, hi0, hz0, hz1, hz2⟩ := info_parts infoB
              clear HPL0 hm' hM
              go_wp2_with (at_builtin; refine Lib.wpList_append_own_string _ rfl _ _ 30 9 rfl w.heap.size 5 i0 Try.underlying30 Try.underlying9 hi0 hz0 hz1 hz2 (.slice ao L cp) L (bcells l) rfl (by have := HO2.out.1; rw [HL.out] at this; exact this) ex rfl (by unfold maxLen; omega) (by omega) HO2.out.2.size ?_)
              intro v3 w3 hown hgrow _
              have HO3 : Hid (w3.ownsRow w.heap.size 5 1 v3 m.length (bcells m) ∧ Below w.heap.size w w3) := by
                refine ⟨?_, HO2.out.2.trans (Below.grown HO2.out.1 hgrow HO2.out.2.size)⟩
                rw [HL2.out.1, ← HMM.out, bcells_append]
                rw [strCells_eq] at hown
                exact hown
              obtain ⟨ao2, cp2, hv⟩ : ∃ ao cp, v3 = .slice ao L2 cp := by
                rcases HO3.out.1.2 with ⟨e, h0⟩ | ⟨g, cap, cur, e, _⟩
                · exact ⟨none, 0, by rw [e, ← HL2.out.1, h0]⟩
                · exact ⟨_, _, by rw [e, HL2.out.1]⟩
              subst hv
              clear hown hgrow hi0 hz0 hz1 hz2 HO2 HMM hex hexs hMw hM2 hLN hL2 h4i h5i
              by_cases h6 : M = s.size
              · have h6b : ((M : Int) == (s.size : Int)) = true := by simp; omega
                have HRM : Hid (r = (0, m)) := by
                  show _ = _
                  have e := HPL.out
                  rw [h6] at e
                  rw [← HK.out]; exact unp_last (seq_last h1 e)
                have HE : Hid (lzR r = _) := lzR_good HRM.out
                have hconv : (convert 30 9 (.slice ao2 L2 cp2)).run Try.prog w3 = .ok (.string (toBA m)) w3 := conv_row w3 _ _ 5 w.heap.size _ m Try.underlying30 Try.underlying5 Try.underlying9 HO3.out.1 (by have := HB.out; rw [HRM.out] at this; exact this)
                obtain ⟨T, hT⟩ : ∃ T, toBA m = T := ⟨_, rfl⟩
                rw [hT] at hconv HE
                clear hT h6 hMs0 hM1
                go_wp2
                go_ret2
                rw [HE.out]
                exact ⟨rfl, HO3.out.2⟩
              · have h6b : ((M : Int) == (s.size : Int)) = false := by simp; omega
                have HMS : Hid (M ≠ s.size) := h6
                by_cases h7 : s.size < M + 2
                · have h7i : (s.size : Int) < (M : Int) + 2 := by omega
                  have HE : Hid (lzR r = _) := lzR_bad (by rw [← HK.out]; exact unp_bad (seq_bad' h1 HPL.out HMS.out (copy_short h7) (by decide)) (by decide)) (by decide)
                  go_wp2
                  go_ret2
                  rw [HE.out]
                  exact ⟨rfl, HO3.out.2⟩
                · have h7i : ¬ (s.size : Int) < (M : Int) + 2 := by omega
                  have hMa : M < s.size := by omega
                  obtain ⟨M1, hM1'⟩ : ∃ M1, M + 1 = M1 := ⟨_, rfl⟩
                  have hMb : M1 < s.size := by omega
                  have hMi1 : (M : Int) + 1 = (M1 : Int) := by omega
                  have hM1w := wrapN M1 (by omega)
                  obtain ⟨M2, hM2'⟩ : ∃ M2, M + 2 = M2 := ⟨_, rfl⟩
                  have hMi2 : (M : Int) + 2 = (M2 : Int) := by omega
                  have hM2w := wrapN M2 (by omega)
                  have hM2s : M2 ≤ s.size := by omega
                  have hPM2 : P ≤ M2 := by omega
                  have HM2 : Hid (M + 2 = M2) := hM2'
                  clear hM2'
                  have hMbi : (M1 : Int) < (s.size : Int) := by omega
                  have hMai : (M : Int) < (s.size : Int) := by omega
                  clear h6
                  obtain ⟨y, hy⟩ : ∃ y, bt s M = y := ⟨_, rfl⟩
                  obtain ⟨y2, hy2⟩ : ∃ y, bt s M1 = y := ⟨_, rfl⟩
                  have hyal : y < 256 := hy ▸ bt_lt s M
                  have hybl : y2 < 256 := hy2 ▸ bt_lt s M1
                  obtain ⟨d, hd⟩ : ∃ d, y + 256 * y2 = d := ⟨_, rfl⟩
                  obtain ⟨hdi, hdl, hdw, hdw2⟩ := far_facts y y2 d hyal hybl hd
                  have hdi2 := wrap256 y2 hybl
                  have HDD : Hid (bt s M + 256 * bt s (M + 1) = d) := by show _ = _; rw [hM1', hy, hy2, hd]
                  have hyw := wrapN64 y (Nat.le_trans (Nat.le_of_lt hyal) (by decide))
                  have hyw2 := wrapN64 y2 (Nat.le_trans (Nat.le_of_lt hybl) (by decide))
                  have hya := (bt_at s M hMa).trans hy
                  have hyb := (bt_at s M1 hMb).trans hy2
                  clear hy hy2 hd hM1' hM1
                  go_wp2_with fail
                  refine wp_region_quiet_lit (by kernel_rfl) (by kernel_rfl) ?_
                  iterate 12 (quiet_step (fail))
                  refine wpQuiet_nil ?_
                  intro _ hw'
                  obtain ⟨nq, hw''⟩ := hw'
                  subst hw''
                  rw [wrapN y (Nat.le_trans (Nat.le_of_lt hyal) (by decide)), wrapN y2 (Nat.le_trans (Nat.le_of_lt hybl) (by decide)), hdi2, hdw2]
                  have HO4 : Hid ((w3.drewN nq).ownsRow w.heap.size 5 1 (.slice ao2 L2 cp2) m.length (bcells m) ∧ Below w.heap.size w (w3.drewN nq)) := ⟨HO3.out.1, HO3.out.2.trans (Below.drewN' _ _ _)⟩
                  obtain ⟨w4, hw4⟩ : ∃ w4, w3.drewN nq = w4 := ⟨_, rfl⟩
                  rw [hw4] at HO4 ⊢
                  clear hw4 HO3 hya hyb hyw hyw2 hdi hdi2 hdw2 hMi1 hM1w hM0
                  by_cases hfar : d = 0 ∨ L2 < d
                  · have HE : Hid (lzR r = _) := lzR_bad (by rw [← HK.out]; exact unp_bad (seq_bad' h1 HPL.out HMS.out (copy_far h7 (by rw [HDD.out, HL2.out.1]; exact hfar)) (by decide)) (by decide)) (by decide)
                    by_cases d0 : d = 0
                    · have d0b : ((d : Int) == 0) = true := by simp [d0]
                      clear d0 hfar
                      go_wp2
                      go_ret2
                      rw [HE.out]
                      exact ⟨rfl, HO4.out.2⟩
                    · have d0b : ((d : Int) == 0) = false := by simp; omega
                      have d1n : L2 < d := by omega
                      have d1 : decide ((L2 : Int) < (d : Int)) = true := by simp; omega
                      clear d0 hfar
                      go_wp2
                      go_ret2
                      rw [HE.out]
                      exact ⟨rfl, HO4.out.2⟩
                  · have d0b : ((d : Int) == 0) = false := by simp; omega
                    have d1n : ¬ L2 < d := by omega
                    have d1 : decide ((L2 : Int) < (d : Int)) = false := by simp; omega
                    have hdpos : 1 ≤ d := by omega
                    have hdL : d ≤ L2 := by omega
                    have HD : Hid (distF s M m = (0, d, M + 2)) := by
                      show _ = _
                      rw [dist_good h7 (by rw [HDD.out, HL2.out.1]; exact hfar), HDD.out]
                    clear hfar h7i
                    have hnb2 := numB_le s (M + 2) (bt s a % 16) (by rw [HM2.out]; exact hM2s)
                    have HM' : Hid (x2 = 15 → ∀ W : World, Calls Try.prog 43 #[.string s, .int .i64 M2, .int .i64 x2] W fun e w' => (∃ k, w' = W.drewN k) ∧ (((numB s (M + 2) (bt s a % 16)).1 = 0 ∧ e = .returned (.tuple #[.int .i64 ((numB s (M + 2) (bt s a % 16)).2.1 : Nat), .int .i64 ((numB s (M + 2) (bt s a % 16)).2.2 : Nat)])) ∨ ((numB s (M + 2) (bt s a % 16)).1 = 5 ∧ ∃ x, e = .returned (.tuple #[.int .i64 x, .int .i64 (-1)])))) := fun h15 W => by
                      have h := refMore_ok W s M2 x2 hM2s hx2b hs
                      have e : numB s M2 x2 = numW s M2 x2 := by unfold numB; rw [if_neg (by omega)]
                      rw [HM2.out, HX2.out, e]; exact h
                    have HLT' : Hid (x2 < 15 → numB s (M + 2) (bt s a % 16) = (0, x2, M2)) := fun h => by rw [HM2.out, HX2.out]; unfold numB; rw [if_pos h]
                    obtain ⟨t, ht⟩ : ∃ t, numB s (M + 2) (bt s a % 16) = t := ⟨_, rfl⟩
                    rw [ht] at hnb2 HM' HLT'
                    obtain ⟨t0, N2, P2⟩ := t
                    have HT0' : Hid (numB s (M + 2) (bt s a % 16) = (t0, N2, P2)) := ht
                    simp only at hnb2 HM' HLT'
                    rw [HM2.out, HX2.out] at hnb2
                    have hP2 := hnb2.2.2.1
                    have hP2a := hnb2.2.1
                    have hN2b := hnb2.1
                    have h05' := hnb2.2.2.2.1
                    clear ht hnb2
                    by_cases z0' : t0 = 0
                    · subst z0'
                      have HT2 : Hid (numB s (M + 2) (bt s a % 16) = (0, N2, P2)) := HT0'.out
                      by_cases x15' : x2 < 15
                      · have e1 := HLT'.out x15'
                        have e2 : (0, N2, P2) = (0, x2, M2) := e1
                        simp only [Prod.mk.injEq, true_and] at e2
                        obtain ⟨rfl, rfl⟩ := e2
                        have x15k : ((N2 : Int) == 15) = false := by simp; omega
                        clear HM' HLT' e1 h05'
                        have HO5 := HO4
                        clear HO4
                        by_cases h8 : most < L2 + (N2 + 4)
                        · have h8i : (most : Int) < (L2 : Int) + (N2 : Int) + 4 := by omega
                          have h8n : most < L2 + N2 + 4 := by omega
                          obtain ⟨h8a, h8b, h8c, h8d⟩ := sum4 L2 N2 (sum_le HL2.out.2 hm hN2b hx2b hs)
                          have HE : Hid (lzR r = _) := lzR_bad (by rw [← HK.out]; exact unp_bad (seq_bad' h1 HPL.out HMS.out (copy_long HD.out HT2.out (by rw [HL2.out.1]; exact h8)) (by decide)) (by decide)) (by decide)
                          go_wp2
                          go_ret2
                          rw [HE.out]
                          exact ⟨rfl, HO5.out.2⟩
                        · have h8i : ¬ (most : Int) < (L2 : Int) + (N2 : Int) + 4 := by omega
                          have h8n : ¬ most < L2 + N2 + 4 := by omega
                          have HFN : Hid (unpF s most k P2 (copyL d (N2 + 4) m) = r) := by
                            show _ = _
                            rw [← HK.out, unp_more (seq_good h1 HPL.out HMS.out (copy_good HD.out HT2.out (by rw [HL2.out.1]; exact h8)))]
                          go_wp2_with fail
                          have h8m : L2 + (N2 + 4) ≤ most := by omega
                          clear h8i h8n h8
                          go_loopw [6, 11] (fun v6 v11 wr => ∃ i : Nat, v11 = .int .i64 i ∧ i ≤ N2 + 4 ∧ Hid (wr.ownsRow w.heap.size 5 1 v6 (copyL d i m).length (bcells (copyL d i m)) ∧ Below w.heap.size w wr)) (fun _ v11 _ => N2 + 4 - (intOf v11).toNat)
                          case atStart => exact ⟨0, rfl, Nat.zero_le _, HO5.out⟩
                          case round =>
                            obtain ⟨i, rfl, hi, HS⟩ := hrel
                            by_cases hlt : i < N2 + 4
                            · have hlti : (i : Int) < (N2 : Int) + 4 := by omega
                              obtain ⟨Mi, hMi⟩ : ∃ M, copyL d i m = M := ⟨_, rfl⟩
                              have hML : Mi.length = L2 + i := by rw [← hMi, copyL_length, HL2.out.1]
                              rw [hMi] at HS
                              obtain ⟨g, cq, hv, _, _⟩ := HS.out.1.form (by omega)
                              obtain ⟨q, hq⟩ : ∃ q, Mi.length - d = q := ⟨_, rfl⟩
                              have HX : Hid (copyL d (i + 1) m = Mi ++ [Mi.getD q 0]) := by
                                show _ = _
                                rw [copyL_succ, hMi, hq]
                              have cb := HS.out.1.cells (g := g) (by rw [hv]; rfl) q (.int .u8 (Mi.getD q 0 : Nat)) (by
                                have hqm : q < Mi.length := by omega
                                simp [bcells, hqm])
                              rw [add_zero_addr] at cb
                              obtain ⟨x', hx'⟩ : ∃ x, Mi.getD q 0 = x := ⟨_, rfl⟩
                              rw [hx'] at cb HX
                              obtain ⟨Q, hQ⟩ : ∃ Q, Mi.length = Q := ⟨_, rfl⟩
                              have HQ : Hid (Mi.length = Q) := hQ
                              rw [hQ] at hML hv
                              subst hv
                              have HO6 : Hid (wr.ownsRow w.heap.size 5 1 (.slice (some ⟨g, 0, none⟩) Q cq) Q (bcells Mi) ∧ Below w.heap.size w wr) := ⟨by have := HS.out.1; rw [hQ] at this; exact this, HS.out.2⟩
                              have hqi : (Q : Int) - (d : Int) = (q : Int) := by rw [hQ] at hq; omega
                              have hqQ : (q : Int) < (Q : Int) := by rw [hQ] at hq; omega
                              have hqw : IntKind.i64.wrap (q : Int) = (q : Int) := wrapN q (by rw [hQ] at hq; omega)
                              have hQb : Q + 1 ≤ 1048577 := by omega
                              have hN4 := wrapN (N2 + 4) (by omega)
                              rw [show (((N2 + 4 : Nat)) : Int) = (N2 : Int) + 4 from rfl] at hN4
                              have hq0 : (0 : Int) ≤ (q : Int) := by omega
                              obtain ⟨i0, hi0, hz0, hz1, hz2⟩ := info_parts infoB
                              clear hML hMi hq hx' hQ HS
                              go_wp2_with (at_builtin; refine wpList_append_lies _ rfl _ _ 30 rfl w.heap.size 5 i0 (.int .u8 0) 1 1 Try.underlying30 hi0 hz0 hz1 hz2 rfl (by decide) (.slice (some ⟨g, 0, none⟩) Q cq) Q (bcells Mi) rfl (HO6.out.1.alloc _) ⟨wr.heap.size, 0, none⟩ 1 1 [.int .u8 (x' : Nat)] rfl rfl (news1 wr _ _) (oneB _) (by decide) (by unfold maxLen; omega) (by omega) (Nat.le_trans HO6.out.2.size (by simp)) _ rfl ?_)
                              intro g3 cap3 wc hown hgrow hat hgl
                              have HN : Hid (wc.ownsRow w.heap.size 5 1 (.slice (some ⟨g3, 0, none⟩) (Q + 1) cap3) (copyL d (i + 1) m).length (bcells (copyL d (i + 1) m)) ∧ Below w.heap.size w wc) := by
                                refine ⟨?_, ?_⟩
                                · rw [HX.out, bcells_append, List.length_append, HQ.out]; exact hown
                                · exact HO6.out.2.trans (((Below.refl w.heap.size wr).alloc HO6.out.2.size _).trans (Below.grown (HO6.out.1.alloc _) hgrow (Nat.le_trans HO6.out.2.size (by simp))))
                              clear hown hgrow hat hgl hi0 hz0 hz1 hz2
                              go_wp2
                              exact ⟨⟨i + 1, by go_num, by omega, HN⟩, by simp [intOf]; omega⟩
                            · have hlti : ¬ (i : Int) < (N2 : Int) + 4 := by omega
                              obtain hiC : i = N2 + 4 := by omega
                              have HFIN : Hid (∃ l k, wr.ownsRow w.heap.size 5 1 u6 l.length (bcells l) ∧ Below w.heap.size w wr ∧ unpF s most k P2 l = r ∧ s.size - P2 < k ∧ l.length ≤ most) := ⟨copyL d i m, k, HS.out.1, HS.out.2, by rw [hiC]; exact HFN.out, by omega, by rw [copyL_length, HL2.out.1]; omega⟩
                              clear HS
                              go_wp2
                              exact ⟨⟨P2, rfl, hP2, HFIN⟩, by simp [intOf]; omega⟩
                      · have HX15' : Hid (x2 = 15) := (by omega : x2 = 15)
                        have x15k : ((x2 : Int) == 15) = true := by have := HX15'.out; simp; omega
                        have HM2' : Hid (∀ W : World, Calls Try.prog 43 #[.string s, .int .i64 M2, .int .i64 x2] W fun e w' => (∃ k, w' = W.drewN k) ∧ e = .returned (.tuple #[.int .i64 (N2 : Nat), .int .i64 (P2 : Nat)])) := fun W => (HM'.out HX15'.out W).mono fun e w' h => by
                          rcases h with ⟨h1, ⟨_, h2⟩ | ⟨h2, _⟩⟩
                          · exact ⟨h1, h2⟩
                          · simp at h2
                        clear HM' HLT' h05' x15'
                        go_wp2_with fail
                        refine (HM2'.out _).mono ?_
                        rintro e w3' ⟨⟨kk, rfl⟩, rfl⟩
                        have HO5 : Hid ((w4.drewN kk).ownsRow w.heap.size 5 1 (.slice ao2 L2 cp2) m.length (bcells m) ∧ Below w.heap.size w (w4.drewN kk)) := ⟨HO4.out.1, HO4.out.2.trans (Below.drewN' _ _ _)⟩
                        obtain ⟨w5, hw5⟩ : ∃ w5, w4.drewN kk = w5 := ⟨_, rfl⟩
                        rw [hw5] at HO5 ⊢
                        clear hw5 HO4 HM2' x15k
                        by_cases h8 : most < L2 + (N2 + 4)
                        · have h8i : (most : Int) < (L2 : Int) + (N2 : Int) + 4 := by omega
                          have h8n : most < L2 + N2 + 4 := by omega
                          obtain ⟨h8a, h8b, h8c, h8d⟩ := sum4 L2 N2 (sum_le HL2.out.2 hm hN2b hx2b hs)
                          have HE : Hid (lzR r = _) := lzR_bad (by rw [← HK.out]; exact unp_bad (seq_bad' h1 HPL.out HMS.out (copy_long HD.out HT2.out (by rw [HL2.out.1]; exact h8)) (by decide)) (by decide)) (by decide)
                          go_wp2
                          go_ret2
                          rw [HE.out]
                          exact ⟨rfl, HO5.out.2⟩
                        · have h8i : ¬ (most : Int) < (L2 : Int) + (N2 : Int) + 4 := by omega
                          have h8n : ¬ most < L2 + N2 + 4 := by omega
                          have HFN : Hid (unpF s most k P2 (copyL d (N2 + 4) m) = r) := by
                            show _ = _
                            rw [← HK.out, unp_more (seq_good h1 HPL.out HMS.out (copy_good HD.out HT2.out (by rw [HL2.out.1]; exact h8)))]
                          go_wp2_with fail
                          have h8m : L2 + (N2 + 4) ≤ most := by omega
                          clear h8i h8n h8
                          go_loopw [6, 11] (fun v6 v11 wr => ∃ i : Nat, v11 = .int .i64 i ∧ i ≤ N2 + 4 ∧ Hid (wr.ownsRow w.heap.size 5 1 v6 (copyL d i m).length (bcells (copyL d i m)) ∧ Below w.heap.size w wr)) (fun _ v11 _ => N2 + 4 - (intOf v11).toNat)
                          case atStart => exact ⟨0, rfl, Nat.zero_le _, HO5.out⟩
                          case round =>
                            obtain ⟨i, rfl, hi, HS⟩ := hrel
                            by_cases hlt : i < N2 + 4
                            · have hlti : (i : Int) < (N2 : Int) + 4 := by omega
                              obtain ⟨Mi, hMi⟩ : ∃ M, copyL d i m = M := ⟨_, rfl⟩
                              have hML : Mi.length = L2 + i := by rw [← hMi, copyL_length, HL2.out.1]
                              rw [hMi] at HS
                              obtain ⟨g, cq, hv, _, _⟩ := HS.out.1.form (by omega)
                              obtain ⟨q, hq⟩ : ∃ q, Mi.length - d = q := ⟨_, rfl⟩
                              have HX : Hid (copyL d (i + 1) m = Mi ++ [Mi.getD q 0]) := by
                                show _ = _
                                rw [copyL_succ, hMi, hq]
                              have cb := HS.out.1.cells (g := g) (by rw [hv]; rfl) q (.int .u8 (Mi.getD q 0 : Nat)) (by
                                have hqm : q < Mi.length := by omega
                                simp [bcells, hqm])
                              rw [add_zero_addr] at cb
                              obtain ⟨x', hx'⟩ : ∃ x, Mi.getD q 0 = x := ⟨_, rfl⟩
                              rw [hx'] at cb HX
                              obtain ⟨Q, hQ⟩ : ∃ Q, Mi.length = Q := ⟨_, rfl⟩
                              have HQ : Hid (Mi.length = Q) := hQ
                              rw [hQ] at hML hv
                              subst hv
                              have HO6 : Hid (wr.ownsRow w.heap.size 5 1 (.slice (some ⟨g, 0, none⟩) Q cq) Q (bcells Mi) ∧ Below w.heap.size w wr) := ⟨by have := HS.out.1; rw [hQ] at this; exact this, HS.out.2⟩
                              have hqi : (Q : Int) - (d : Int) = (q : Int) := by rw [hQ] at hq; omega
                              have hqQ : (q : Int) < (Q : Int) := by rw [hQ] at hq; omega
                              have hqw : IntKind.i64.wrap (q : Int) = (q : Int) := wrapN q (by rw [hQ] at hq; omega)
                              have hQb : Q + 1 ≤ 1048577 := by omega
                              have hN4 := wrapN (N2 + 4) (by omega)
                              rw [show (((N2 + 4 : Nat)) : Int) = (N2 : Int) + 4 from rfl] at hN4
                              have hq0 : (0 : Int) ≤ (q : Int) := by omega
                              obtain ⟨i0, hi0, hz0, hz1, hz2⟩ := info_parts infoB
                              clear hML hMi hq hx' hQ HS
                              go_wp2_with (at_builtin; refine wpList_append_lies _ rfl _ _ 30 rfl w.heap.size 5 i0 (.int .u8 0) 1 1 Try.underlying30 hi0 hz0 hz1 hz2 rfl (by decide) (.slice (some ⟨g, 0, none⟩) Q cq) Q (bcells Mi) rfl (HO6.out.1.alloc _) ⟨wr.heap.size, 0, none⟩ 1 1 [.int .u8 (x' : Nat)] rfl rfl (news1 wr _ _) (oneB _) (by decide) (by unfold maxLen; omega) (by omega) (Nat.le_trans HO6.out.2.size (by simp)) _ rfl ?_)
                              intro g3 cap3 wc hown hgrow hat hgl
                              have HN : Hid (wc.ownsRow w.heap.size 5 1 (.slice (some ⟨g3, 0, none⟩) (Q + 1) cap3) (copyL d (i + 1) m).length (bcells (copyL d (i + 1) m)) ∧ Below w.heap.size w wc) := by
                                refine ⟨?_, ?_⟩
                                · rw [HX.out, bcells_append, List.length_append, HQ.out]; exact hown
                                · exact HO6.out.2.trans (((Below.refl w.heap.size wr).alloc HO6.out.2.size _).trans (Below.grown (HO6.out.1.alloc _) hgrow (Nat.le_trans HO6.out.2.size (by simp))))
                              clear hown hgrow hat hgl hi0 hz0 hz1 hz2
                              go_wp2
                              exact ⟨⟨i + 1, by go_num, by omega, HN⟩, by simp [intOf]; omega⟩
                            · have hlti : ¬ (i : Int) < (N2 : Int) + 4 := by omega
                              obtain hiC : i = N2 + 4 := by omega
                              have HFIN : Hid (∃ l k, wr.ownsRow w.heap.size 5 1 u6 l.length (bcells l) ∧ Below w.heap.size w wr ∧ unpF s most k P2 l = r ∧ s.size - P2 < k ∧ l.length ≤ most) := ⟨copyL d i m, k, HS.out.1, HS.out.2, by rw [hiC]; exact HFN.out, by omega, by rw [copyL_length, HL2.out.1]; omega⟩
                              clear HS
                              go_wp2
                              exact ⟨⟨P2, rfl, hP2, HFIN⟩, by simp [intOf]; omega⟩
                    · have z5 : t0 = 5 := h05'.resolve_left z0'
                      subst z5
                      have hx15 : ¬ x2 < 15 := fun h => by have := HLT'.out h; simp at this
                      have HX15' : Hid (x2 = 15) := (by omega : x2 = 15)
                      have x15k : ((x2 : Int) == 15) = true := by have := HX15'.out; simp; omega
                      have HM2' : Hid (∀ W : World, Calls Try.prog 43 #[.string s, .int .i64 M2, .int .i64 x2] W fun e w' => (∃ k, w' = W.drewN k) ∧ ∃ x, e = .returned (.tuple #[.int .i64 x, .int .i64 (-1)])) := fun W => (HM'.out HX15'.out W).mono fun e w' h => by
                        rcases h with ⟨h1, ⟨h2, _⟩ | ⟨_, h2⟩⟩
                        · simp at h2
                        · exact ⟨h1, h2⟩
                      have HE : Hid (lzR r = _) := lzR_bad (by rw [← HK.out]; exact unp_bad (seq_bad' h1 HPL.out HMS.out (copy_num HD.out HT0'.out (by decide)) (by decide)) (by decide)) (by decide)
                      clear HM' HLT' h05' hx15 z0'
                      go_wp2_with fail
                      refine (HM2'.out _).mono ?_
                      rintro e w3' ⟨⟨kk, rfl⟩, xx, rfl⟩
                      go_wp2
                      go_ret2
                      rw [HE.out]
                      exact ⟨rfl, HO4.out.2.trans (Below.drewN' _ _ _)⟩
      · have z5 : t0 = 5 := h05.resolve_left z0
        subst z5
        have hx15 : ¬ x1 < 15 := fun h => by have := HLT.out h; simp at this
        have HX15 : Hid (x1 = 15) := (by omega : x1 = 15)
        have x15k : ((x1 : Int) == 15) = true := by have := HX15.out; simp; omega
        have HM2 : Hid (∀ W : World, Calls Try.prog 43 #[.string s, .int .i64 p1, .int .i64 x1] W fun e w' => (∃ k, w' = W.drewN k) ∧ ∃ x, e = .returned (.tuple #[.int .i64 x, .int .i64 (-1)])) := fun W => (HM.out HX15.out W).mono fun e w' h => by
          rcases h with ⟨h1, ⟨h2, _⟩ | ⟨_, h2⟩⟩
          · simp at h2
          · exact ⟨h1, h2⟩
        have HE : Hid (lzR r = _) := lzR_bad (by rw [← HK.out]; exact unp_bad (seq_plain h1 (plain_num HT0.out (by decide)) (by decide)) (by decide)) (by decide)
        clear HM HLT h05 hx15 z0
        go_wp2_with fail
        refine (HM2.out _).mono ?_
        rintro e w3' ⟨⟨kk, rfl⟩, xx, rfl⟩
        go_wp2
        go_ret2
        rw [HE.out]
        exact ⟨rfl, HO2.out.2.trans (Below.drewN' _ _ _)⟩
    · have h1i : (s.size : Int) ≤ (a : Int) := by omega
      have HE : Hid (lzR r = .tuple #[.string ⟨#[]⟩, .int .i64 5]) := lzR_bad (by rw [← hk]; exact unp_bad (seq_end (by omega)) (by decide)) (by decide)
      have HF : Hid (Below w.heap.size w wr) := hF
      clear hk hO hF
      go_wp2
      go_ret2
      rw [HE.out]
      exact ⟨rfl, HF.out⟩
end Go.Proofs.Ytbncfpbehahidaa
