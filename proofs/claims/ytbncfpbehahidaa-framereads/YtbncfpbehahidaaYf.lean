/- Layer 6: a copy, byte by byte. -/
import Derived.Test.YtbncfpbehahidaaYe
namespace Go.Proofs.Ytbncfpbehahidaa
open Go.RowKit
set_option linter.unusedVariables false

theorem LU.alloc {w : World} {B u : Nat} {s : ByteArray} {a : Nat} {l : List Nat} {most : Nat} {v : Value} (h : LU w B u s a l most v) (o : Obj) : LU (w.alloc o) B u s a l most v := by
  refine ⟨?_, h.own.alloc o, h.le, h.small, h.hB⟩
  rw [heap_alloc_old w o (lt_of_block h.blk)]; exact h.blk
set_option maxRecDepth 20000 in
set_option maxHeartbeats 4000000 in
theorem copy_ok (w : World) (B u : Nat) (s : ByteArray) (a : Nat) (l : List Nat) (most : Nat) (v : Value) (h : LU w B u s a l most v) (hm : most ≤ 1048576) (hl : l.length ≤ most) (n : Nat) (hn : n ≤ 15) :
    Calls Try.prog 73 #[.pointer (some ⟨u, 0, none⟩), .int .i64 n] w fun e w' => StEnd B u s most w (copyF s most a l n) e w' := by
  have HD : Hid (∀ _ : Unit, Calls Try.prog 76 #[.pointer (some ⟨u, 0, none⟩)] w fun e w' => NumEnd B u s l most v w (distF s a l) e w') := fun _ => distance_ok w B u s a l most v h (by omega)
  have hs := h.small
  have hle := h.le
  obtain ⟨r, hr⟩ : ∃ r, copyF s most a l n = r := ⟨_, rfl⟩
  rw [hr]
  unfold copyF at hr
  have hd1 : (distF s a l).1 = 0 → (distF s a l).2.2 = a + 2 ∧ a + 2 ≤ s.size ∧ 1 ≤ (distF s a l).2.1 ∧ (distF s a l).2.1 ≤ l.length := by
    unfold distF
    split
    · intro h; simp at h
    · split
      · intro h; simp at h
      · intro _; refine ⟨rfl, by omega, ?_, ?_⟩
        · simp only; omega
        · simp only; omega
  obtain ⟨t, ht⟩ : ∃ t, distF s a l = t := ⟨_, rfl⟩
  rw [ht] at HD hr hd1
  clear h ht
  have HR : Hid (_ = r) := hr
  have HD1 : Hid _ := hd1
  clear hr hd1
  go_enter Try.func73, Try.ntmps73
  go_wp2_with fail
  refine (HD.out ()).mono ?_
  rintro e w1 ⟨hf, ⟨h0, rfl⟩ | ⟨h0, rfl, hU⟩⟩
  · have h0i : ((t.1 : Int) != 0) = true := by simp; omega
    have HF : Hid (Below B w w1) := hf
    clear hf
    obtain ⟨q, hq⟩ : ∃ q, t.1 = q := ⟨_, rfl⟩
    rw [hq] at h0i ⊢
    have HQ : Hid (t.1 = q) := hq
    clear hq
    go_wp2
    go_ret
    have hr := HR.out
    rw [if_pos h0] at hr
    rw [← HQ.out]
    exact st_bad HF.out hr.symm h0
  · have hr := HR.out
    rw [if_neg (by omega)] at hr
    obtain ⟨g1, g2, g3, g4⟩ := HD1.out h0
    clear HR HD1 HD
    obtain ⟨t0, d, P⟩ := t
    simp only at h0 hr hU g1 g3 g4 ⊢
    subst g1
    have HU : Hid (LU w1 B u s (a + 2) l most v ∧ Below B w w1) := ⟨hU, hf⟩
    have hb := numB_le s (a + 2) n hU.le
    have HN : Hid (∀ _ : Unit, Calls Try.prog 74 #[.pointer (some ⟨u, 0, none⟩), .int .i64 n] w1 fun e w' => NumEnd B u s l most v w1 (numB s (a + 2) n) e w') := fun _ => number_ok w1 B u s (a + 2) l most v hU n hn
    obtain ⟨t, ht⟩ : ∃ t, numB s (a + 2) n = t := ⟨_, rfl⟩
    rw [ht] at HN hr hb
    have HR : Hid (_ = r) := hr
    have HB : Hid _ := hb
    clear hr hb hU hf h0 ht
    go_wp2_with fail
    refine (HN.out ()).mono ?_
    rintro e w2 ⟨hf, ⟨h0, rfl⟩ | ⟨h0, rfl, hU⟩⟩
    · have h0i : ((t.1 : Int) != 0) = true := by simp; omega
      have HF : Hid (Below B w w2) := HU.out.2.trans hf
      clear hf
      obtain ⟨q, hq⟩ : ∃ q, t.1 = q := ⟨_, rfl⟩
      rw [hq] at h0i ⊢
      have HQ : Hid (t.1 = q) := hq
      clear hq
      go_wp2
      go_ret
      have hr := HR.out
      rw [if_pos h0] at hr
      rw [← HQ.out]
      exact st_bad HF.out hr.symm h0
    · have hr := HR.out
      rw [if_neg (by omega)] at hr
      have hnb := HB.out.1
      have hpb := HB.out.2.2.1
      clear HR HB HN
      obtain ⟨t1, N0, P⟩ := t
      simp only at h0 hr hU hnb hpb ⊢
      obtain ⟨N, hN⟩ : ∃ N, N0 + 4 = N := ⟨_, rfl⟩
      rw [hN] at hr
      have HR : Hid ((if most < l.length + N then ((4, a, l) : Nat × Nat × List Nat) else (0, P, copyL d N l)) = r) := hr
      have HU2 : Hid (LU w2 B u s P l most v ∧ Below B w w2) := ⟨hU, HU.out.2.trans hf⟩
      clear hr hU hf h0 HU
      have HRM : Hid (∀ _ : Unit, Calls Try.prog 75 #[.pointer (some ⟨u, 0, none⟩)] w2 fun e w' => e = .returned (.int .i64 (most - l.length : Nat)) ∧ ∃ k, w' = w2.drewN k) := fun _ => room_ok w2 B u s P l most v HU2.out.1 hm hl
      obtain ⟨R, hRM⟩ : ∃ d, most - l.length = d := ⟨_, rfl⟩
      rw [hRM] at HRM
      obtain ⟨L, hL⟩ : ∃ L, l.length = L := ⟨_, rfl⟩
      have HL : Hid (l.length = L ∧ most - L = R) := ⟨hL, by rw [← hL]; exact hRM⟩
      rw [hL] at hl g4
      have hNi : (N0 : Int) + 4 = (N : Int) := by omega
      have hNw : IntKind.i64.wrap ((N0 : Int) + 4) = (N : Int) := by rw [IntKind.wrap_i64]; omega
      clear hRM hL
      by_cases h4 : most < L + N
      · have h4i : (R : Int) < (N : Int) := by have := HL.out.2; omega
        go_wp2_with fail
        refine (HRM.out ()).mono ?_
        rintro e w3 ⟨rfl, nq, rfl⟩
        go_wp2
        go_ret
        have hr := HR.out
        rw [if_pos (by rw [HL.out.1]; exact h4)] at hr
        exact st_bad (HU2.out.2.trans (Below.drewN' _ _ _)) hr.symm (by decide)
      · have h4i : ¬ (R : Int) < (N : Int) := by have := HL.out.2; omega
        have HE : Hid (r = (0, P, copyL d N l)) := by
          have hr := HR.out
          rw [if_neg (by rw [HL.out.1]; exact h4)] at hr
          exact hr.symm
        have hsum : L + N ≤ 1048576 := by omega
        clear HR
        go_wp2_with fail
        refine (HRM.out ()).mono ?_
        rintro e w3 ⟨rfl, nq, rfl⟩
        have H3 : Hid (LU (w2.drewN nq) B u s P l most v ∧ Below B w (w2.drewN nq)) := ⟨HU2.out.1.drewN nq, HU2.out.2.trans (Below.drewN' _ _ _)⟩
        obtain ⟨w3, hw3⟩ : ∃ w3, w2.drewN nq = w3 := ⟨_, rfl⟩
        rw [hw3] at H3 ⊢
        clear HRM HU2 hw3
        go_wp2_with fail
        rw [show decide (R < N) = false by have := HL.out.2; simp; omega]
        clear h4i hNi hNw
        go_loopw [32] (fun v32 wr => ∃ i : Nat, v32 = .int .i64 i ∧ i ≤ N ∧ Hid (∃ v', LU wr B u s P (copyL d i l) most v' ∧ Below B w wr)) (fun v32 _ => N - (intOf v32).toNat)
        case atStart => exact ⟨0, rfl, Nat.zero_le _, _, H3.out⟩
        case round =>
          obtain ⟨i, rfl, hi, HS⟩ := hrel
          by_cases hlt : i < N
          · have hlti : (i : Int) < (N : Int) := by omega
            obtain ⟨V, hS, hF⟩ := HS.out
            obtain ⟨M, hM⟩ : ∃ M, copyL d i l = M := ⟨_, rfl⟩
            have hML : M.length = L + i := by rw [← hM, copyL_length, HL.out.1]
            rw [hM] at hS
            obtain ⟨g, cq, rfl, cb⟩ := hS.byte (i := M.length - d) (by omega)
            obtain ⟨q, hq⟩ : ∃ q, M.length - d = q := ⟨_, rfl⟩
            have HX : Hid (copyL d (i + 1) l = M ++ [M.getD q 0]) := by
              show _ = _
              rw [copyL_succ, hM, hq]
            rw [hq] at cb
            obtain ⟨x, hx⟩ : ∃ x, M.getD q 0 = x := ⟨_, rfl⟩
            rw [hx] at cb HX
            obtain ⟨Q, hQ⟩ : ∃ Q, M.length = Q := ⟨_, rfl⟩
            have HQ : Hid (M.length = Q) := hQ
            rw [hQ] at hML
            have d1 := hS.cells.2.2.1
            have d2 := hS.cells.2.2.2.2.2
            rw [hQ] at d1
            have HSS : Hid (LU wr B u s P M most (.slice (some ⟨g, 0, none⟩) Q cq) ∧ Below B w wr) := ⟨by rw [← hQ]; exact hS, hF⟩
            have hqi : (Q : Int) - (d : Int) = (q : Int) := by rw [hQ] at hq; omega
            have hqQ : (q : Int) < (Q : Int) := by rw [hQ] at hq; omega
            have hqw : IntKind.i64.wrap (q : Int) = (q : Int) := wrapN q (by rw [hQ] at hq; omega)
            have hQb : Q + 1 ≤ 1048577 := by omega
            have hq0 : (0 : Int) ≤ (q : Int) := by omega
            clear hML
            obtain ⟨i0, hi0, hz0, hz1, hz2⟩ := info_parts infoB
            have HI : Hid (_ ∧ _ ∧ _ ∧ _) := ⟨hi0, hz0, hz1, hz2⟩
            have HA : Hid (∀ o, LU (wr.drew.alloc o) B u s P M most (.slice (some ⟨g, 0, none⟩) Q cq)) := fun o => (HSS.out.1.drewN 1).alloc o
            have HO : Hid (∀ o, (wr.drew.alloc o).ownsRow B 5 1 (.slice (some ⟨g, 0, none⟩) Q cq) Q (bcells M) ∧ B ≤ (wr.drew.alloc o).heap.size) := fun o => ⟨by have := (HA.out o).own; rw [HQ.out] at this; exact this, Nat.le_trans (HA.out o).hB (Nat.le_of_lt (lt_of_block (HA.out o).blk))⟩
            have e1 : (wr.alloc (.cells #[.int .u8 (x : Nat)] 5)).cell? ⟨u, 2, none⟩ = some (.slice (some ⟨g, 0, none⟩) Q cq) := (HA.out _).cells.2.2.1
            have e2 : (wr.alloc (.cells #[.int .u8 (x : Nat)] 5)).frozen? ⟨u, 2, none⟩ = false := (HA.out _).cells.2.2.2.2.2
            clear hS hF hM hq hx hQ HS hi0 hz0 hz1 hz2
            go_wp2_with fail
            go_region_law
              (refine step_append_lies _ rfl _ _ 30 rfl B 5 i0 (.int .u8 0) 1 1 Try.underlying30 HI.out.1 HI.out.2.1 HI.out.2.2.1 HI.out.2.2.2 rfl (by decide) (.slice (some ⟨g, 0, none⟩) Q cq) Q (bcells M) rfl (by first | exact (HO.out _).1) ⟨wr.heap.size, 0, none⟩ 1 1 [.int .u8 (x : Nat)] rfl rfl (by first | exact news1 wr _ _ | exact news1 wr.drew _ _) (oneB _) (by decide) (by unfold maxLen; omega) (by omega) (by first | exact (HO.out _).2) _ rfl ?_; intro g3 cap3 wc hown hgrow hat hgl; obtain ⟨z0, z1, z2, z5, z3, z4⟩ := (HA.out (.cells #[.int .u8 (x : Nat)] 5)).grow (m := [x]) (v1 := .slice (some ⟨g3, 0, none⟩) (Q + 1) cap3) (by rw [HQ.out]; exact hown) hgrow; have HZ : Hid _ := (⟨z3, z4⟩ : _ ∧ _); clear z0 z5 z3 z4 hown hgrow hat hgl)
            all_goals
              have hz3 := HZ.out.1
              rw [← HX.out] at hz3
              have HN : Hid (∃ v', LU (wc.setCell ⟨u, 2, none⟩ (.slice (some ⟨g3, 0, none⟩) (Q + 1) cap3)) B u s P (copyL d (i + 1) l) most v' ∧ Below B w (wc.setCell ⟨u, 2, none⟩ (.slice (some ⟨g3, 0, none⟩) (Q + 1) cap3))) := ⟨_, hz3, HSS.out.2.trans ⟨HZ.out.2.os, HZ.out.2.tape, HZ.out.2.output, Nat.le_trans (by simp) HZ.out.2.size, fun k hk => (HZ.out.2.block k hk).trans (heap_alloc_old wr.drew _ (Nat.lt_of_lt_of_le hk (Nat.le_trans HSS.out.1.hB (Nat.le_of_lt (lt_of_block HSS.out.1.blk)))))⟩⟩
              clear hz3
              go_wp2
              exact ⟨⟨i + 1, by go_num, by omega, HN⟩, by simp [intOf]; omega⟩
          · have hlti : ¬ (i : Int) < (N : Int) := by omega
            obtain rfl : i = N := by omega
            go_wp2
            go_ret
            obtain ⟨v', h1, h2⟩ := HS.out
            refine ⟨h2, .inr ⟨by rw [HE.out], rfl, v', ?_⟩⟩
            rw [HE.out]
            exact h1
end Go.Proofs.Ytbncfpbehahidaa
