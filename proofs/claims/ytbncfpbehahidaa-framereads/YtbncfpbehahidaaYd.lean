/- Layer 6: room, plain bytes, how far back. -/
import Derived.Test.YtbncfpbehahidaaYb
import Derived.Test.YtbncfpbehahidaaYc
namespace Go.Proofs.Ytbncfpbehahidaa
open Go.RowKit
set_option linter.unusedVariables false

set_option maxRecDepth 20000 in
set_option maxHeartbeats 1000000 in
theorem room_ok (w : World) (B u : Nat) (s : ByteArray) (a : Nat) (l : List Nat) (most : Nat) (v : Value) (h : LU w B u s a l most v) (hm : most ≤ 1048576) (hl : l.length ≤ most) :
    Calls Try.prog 75 #[.pointer (some ⟨u, 0, none⟩)] w fun e w' => e = .returned (.int .i64 (most - l.length : Nat)) ∧ ∃ k, w' = w.drewN k := by
  obtain ⟨ao, cp, rfl⟩ := h.form
  obtain ⟨c0, c1, c2, c3, f1, f2⟩ := h.cells
  obtain ⟨L, hL⟩ : ∃ L, l.length = L := ⟨_, rfl⟩
  rw [hL] at c2 hl ⊢
  obtain ⟨d, hd⟩ : ∃ d, most - L = d := ⟨_, rfl⟩
  rw [hd]
  have hdi : (most : Int) - (L : Int) = (d : Int) := by omega
  have hdw : IntKind.i64.wrap ((most : Int) - (L : Int)) = (d : Int) := by rw [IntKind.wrap_i64]; omega
  have hdw2 : IntKind.i64.wrap (d : Int) = (d : Int) := wrapN d (by omega)
  clear h hL hd
  go_enter Try.func75, Try.ntmps75
  go_wp2_with fail
  go_quiet (fail)
  go_wp2
  go_ret
  exact ⟨rfl, nq, rfl⟩
/-- The end of a call that tells plain bytes: the error, the place behind, the plain bytes. -/
def StEnd (B u : Nat) (s : ByteArray) (most : Nat) (w : World) (r : Nat × Nat × List Nat) (e : Ending) (w' : World) : Prop :=
  Below B w w' ∧ ((r.1 ≠ 0 ∧ e = .returned (.int .i64 (r.1 : Nat))) ∨ (r.1 = 0 ∧ e = .returned (.int .i64 0) ∧ ∃ v', LU w' B u s r.2.1 r.2.2 most v'))
theorem st_bad {B u : Nat} {s : ByteArray} {most : Nat} {w w' : World} {r : Nat × Nat × List Nat} {q p' : Nat} {l' : List Nat} (hf : Below B w w') (hr : r = (q, p', l')) (hq : q ≠ 0) : StEnd B u s most w r (.returned (.int .i64 (q : Nat))) w' := by
  subst hr
  exact ⟨hf, .inl ⟨hq, rfl⟩⟩
set_option maxRecDepth 20000 in
set_option maxHeartbeats 4000000 in
theorem plain_ok (w : World) (B u : Nat) (s : ByteArray) (a : Nat) (l : List Nat) (most : Nat) (v : Value) (h : LU w B u s a l most v) (hm : most ≤ 1048576) (hl : l.length ≤ most) (n : Nat) (hn : n ≤ 15) :
    Calls Try.prog 72 #[.pointer (some ⟨u, 0, none⟩), .int .i64 n] w fun e w' => StEnd B u s most w (plainF s most a l n) e w' := by
  have HN : Hid (∀ _ : Unit, Calls Try.prog 74 #[.pointer (some ⟨u, 0, none⟩), .int .i64 n] w fun e w' => NumEnd B u s l most v w (numB s a n) e w') := fun _ => number_ok w B u s a l most v h n hn
  have hs := h.small
  have hb := numB_le s a n h.le
  obtain ⟨r, hr⟩ : ∃ r, plainF s most a l n = r := ⟨_, rfl⟩
  rw [hr]
  unfold plainF at hr
  obtain ⟨t, ht⟩ : ∃ t, numB s a n = t := ⟨_, rfl⟩
  rw [ht] at HN hr hb
  clear h ht
  go_enter Try.func72, Try.ntmps72
  have HR : Hid (_ = r) := hr
  have HB : Hid _ := hb
  clear hr hb
  go_wp2_with fail
  refine (HN.out ()).mono ?_
  rintro e w1 ⟨hf, ⟨h0, rfl⟩ | ⟨h0, rfl, hU⟩⟩
  · have h0i : ((t.1 : Int) != 0) = true := by simp; omega
    have HF : Hid (Below B w w1) := hf
    clear hf
    obtain ⟨q, hq⟩ : ∃ q, t.1 = q := ⟨_, rfl⟩
    rw [hq] at h0i ⊢
    have HQ : Hid (t.1 = q) := hq
    clear hq
    go_wp2
    go_ret
    have hr := HR.out
    rw [if_pos h0] at hr
    rw [← HQ.out]
    exact st_bad HF.out hr.symm h0
  · have hr := HR.out
    rw [if_neg (by omega)] at hr
    have hnb := HB.out.1
    have hpb := HB.out.2.2.1
    clear HR HB HN
    obtain ⟨t0, N, P⟩ := t
    simp only at h0 hr hU hnb hpb ⊢
    have HR : Hid ((if most < l.length + N then ((4, a, l) : Nat × Nat × List Nat) else if s.size < P + N then (5, a, l) else (0, P + N, l ++ bytesOf (s.extract P (P + N)))) = r) := hr
    have HU : Hid (LU w1 B u s P l most v ∧ Below B w w1) := ⟨hU, hf⟩
    clear hr hU hf h0
    have HRM : Hid (∀ _ : Unit, Calls Try.prog 75 #[.pointer (some ⟨u, 0, none⟩)] w1 fun e w' => e = .returned (.int .i64 (most - l.length : Nat)) ∧ ∃ k, w' = w1.drewN k) := fun _ => room_ok w1 B u s P l most v HU.out.1 hm hl
    obtain ⟨d, hd⟩ : ∃ d, most - l.length = d := ⟨_, rfl⟩
    rw [hd] at HRM
    obtain ⟨L, hL⟩ : ∃ L, l.length = L := ⟨_, rfl⟩
    have HL : Hid (l.length = L ∧ most - L = d) := ⟨hL, by rw [← hL]; exact hd⟩
    rw [hL] at hl
    clear hd hL
    by_cases h4 : most < L + N
    · have h4i : (d : Int) < (N : Int) := by have := HL.out.2; omega
      go_wp2_with fail
      refine (HRM.out ()).mono ?_
      rintro e w2 ⟨rfl, nq, rfl⟩
      go_wp2
      go_ret
      have hr := HR.out
      rw [if_pos (by rw [HL.out.1]; exact h4)] at hr
      exact st_bad (HU.out.2.trans (Below.drewN' _ _ _)) hr.symm (by decide)
    · have h4i : ¬ (d : Int) < (N : Int) := by have := HL.out.2; omega
      have HR2 : Hid ((if s.size < P + N then ((5, a, l) : Nat × Nat × List Nat) else (0, P + N, l ++ bytesOf (s.extract P (P + N)))) = r) := by
        have hr := HR.out
        rw [if_neg (by rw [HL.out.1]; exact h4)] at hr
        exact hr
      clear HR
      go_wp2_with fail
      refine (HRM.out ()).mono ?_
      rintro e w2 ⟨rfl, nq, rfl⟩
      have HU2 : Hid (LU (w1.drewN nq) B u s P l most v ∧ Below B w (w1.drewN nq)) := ⟨HU.out.1.drewN nq, HU.out.2.trans (Below.drewN' _ _ _)⟩
      obtain ⟨w2, hw2⟩ : ∃ w2, w1.drewN nq = w2 := ⟨_, rfl⟩
      rw [hw2] at HU2 ⊢
      clear HRM HU hw2
      obtain ⟨c0, c1, c2, c3, f1, f2⟩ := HU2.out.1.cells
      by_cases h5 : s.size < P + N
      · have h5i : (s.size : Int) - (P : Int) < (N : Int) := by omega
        go_wp2_with fail
        go_quiet (fail)
        go_wp2
        go_ret
        have hr := HR2.out
        rw [if_pos h5] at hr
        exact st_bad (HU2.out.2.trans (Below.drewN' _ _ _)) hr.symm (by decide)
      · have h5i : ¬ (s.size : Int) - (P : Int) < (N : Int) := by omega
        go_wp2_with fail
        go_quiet (fail)
        have HU3 : Hid (LU (w2.drewN nq) B u s P l most v ∧ Below B w (w2.drewN nq)) := ⟨HU2.out.1.drewN nq, HU2.out.2.trans (Below.drewN' _ _ _)⟩
        obtain ⟨w3, hw3⟩ : ∃ w3, w2.drewN nq = w3 := ⟨_, rfl⟩
        rw [hw3] at HU3 ⊢
        clear HU2 hw3 c0 c1 c2 c3 f1 f2
        obtain ⟨c0, c1, c2, c3, f1, f2⟩ := HU3.out.1.cells
        obtain ⟨M, hM⟩ : ∃ M, P + N = M := ⟨_, rfl⟩
        obtain ⟨ex, hex⟩ : ∃ ex, s.extract P M = ex := ⟨_, rfl⟩
        have hMw : IntKind.i64.wrap ((P : Int) + (N : Int)) = (M : Int) := by rw [IntKind.wrap_i64]; omega
        have hM0 : (0 : Int) ≤ (M : Int) := by omega
        have hM1 : (M : Int) ≤ (s.size : Int) := by omega
        have hM2 : (P : Int) ≤ (M : Int) := by omega
        have hM3 : (M : Int).toNat = M := by omega
        have HE : Hid (r = (0, M, l ++ bytesOf ex) ∧ P + N = M) := by
          have hr := HR2.out
          rw [if_neg h5, hM, hex] at hr
          exact ⟨hr.symm, hM⟩
        have hexs : ex.size = N := by rw [← hex, ByteArray.size_extract]; omega
        have hexl : (bytesOf ex).length = N := by rw [bytesOf_length, hexs]
        have hLN : L + ex.size ≤ 1048576 := by omega
        obtain ⟨i0, hi0, hz0, hz1, hz2⟩ := info_parts infoB
        have HI : Hid (_ ∧ _ ∧ _ ∧ _) := ⟨hi0, hz0, hz1, hz2⟩
        have HO : Hid (w3.drew.ownsRow B 5 1 v L (bcells l) ∧ B ≤ w3.drew.heap.size) := ⟨by rw [← HL.out.1]; exact HU3.out.1.own, Nat.le_trans HU3.out.1.hB (Nat.le_of_lt (lt_of_block HU3.out.1.blk))⟩
        clear hi0 hz0 hz1 hz2
        go_wp2_with fail
        go_region_law
          (refine step_append_string _ rfl _ _ 30 9 rfl B 5 i0 Try.underlying30 Try.underlying9 HI.out.1 HI.out.2.1 HI.out.2.2.1 HI.out.2.2.2 v L (bcells l) rfl HO.out.1 ex rfl (by unfold maxLen; omega) (by omega) HO.out.2 ?_; intro v1 w4 hown1 hgrow; rw [strCells_eq, ← HL.out.1, hexs, ← hexl] at hown1; obtain ⟨z0, z1, z2, ⟨ao, ln, cp, hv1⟩, z3, z4⟩ := (HU3.out.1.drewN 1).grow hown1 hgrow; subst hv1; have HZ : Hid _ := (⟨z3, z4⟩ : _ ∧ _); clear z3 z4 hown1 hgrow)
        all_goals
          obtain ⟨w5, hw5⟩ : ∃ w5, w4.setCell ⟨u, 2, none⟩ (.slice ao ln cp) = w5 := ⟨_, rfl⟩
          rw [hw5] at HZ ⊢
          have HB5 : Hid (Below B w w5) := HU3.out.2.trans ((Below.drewN' B w3 1).trans HZ.out.2)
          obtain ⟨e0, e1, e2, e3, g1, g2⟩ := HZ.out.1.cells
          clear z0 z1 z2 hw5 c0 c1 c2 c3 f1 f2 hM3 hM2 hexs hexl hLN hex hnb hpb h5i h4i
          go_wp2
          go_ret
          refine ⟨HB5.out.trans (HZ.out.1.movedN 0 M (by omega) _ (by omega)).2, .inr ⟨by rw [HE.out.1], rfl, .slice ao ln cp, ?_⟩⟩
          rw [HE.out.1]
          exact (HZ.out.1.movedN 0 M (by omega) _ (by omega)).1
end Go.Proofs.Ytbncfpbehahidaa
