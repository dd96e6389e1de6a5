/- Layer 7: what a block that is packed holds. -/
import Derived.Test.YtbncfpbehahidaaGj3
namespace Go.Proofs.Ytbncfpbehahidaa
open Go.RowKit
set_option linter.unusedVariables false
set_option maxRecDepth 20000

set_option maxHeartbeats 4000000 in
theorem unp_packed (w : World) (B u : Nat) (d : FD) (v : Value) (h : FU w B u d v) (hpl : d.plain.length ≤ 1048576) (h31 : ¬ 2147483648 ≤ d.block) :
    Calls Try.prog 37 #[.pointer (some ⟨u, 0, none⟩)] w fun e w' => Ends B u w (gUnp d).2 (.int .i64 ((gUnp d).1 : Nat)) e w' := by
  have HU : Hid (FU w B u d v) := h
  obtain ⟨ao0, cp0, hv⟩ := h.form
  have c8 : w.cell? ⟨u, 8, none⟩ = some v := (h.cell 8 _ rfl).1
  have c7 : w.cell? ⟨u, 7, none⟩ = some (.string d.held) := (h.cell 7 _ rfl).1
  have c6 : w.cell? ⟨u, 6, none⟩ = some (.int .i64 (d.block : Nat)) := (h.cell 6 _ rfl).1
  have c4 : w.cell? ⟨u, 4, none⟩ = some (.int .i64 (d.bm : Nat)) := (h.cell 4 _ rfl).1
  have f8 := h.fz 8
  have ha := and31 d.block h.hblk
  have hhe := h.hheld
  unfold gUnp
  clear h
  rw [if_neg h31]
  rw [if_neg h31] at ha
  have hnb : (bits .and .i64 (d.block : Int) 2147483648 != 0) = false := by rw [ha]; rfl
  clear ha h31
  obtain ⟨L, hL⟩ : ∃ L, d.plain.length = L := ⟨_, rfl⟩
  obtain ⟨ex, hex⟩ : ∃ ex, d.held = ex := ⟨_, rfl⟩
  obtain ⟨bk, hbk⟩ : ∃ bk, d.block = bk := ⟨_, rfl⟩
  obtain ⟨bm, hbm⟩ : ∃ bm, d.bm = bm := ⟨_, rfl⟩
  obtain ⟨M, hM⟩ : ∃ M, min bm 1048576 = M := ⟨_, rfl⟩
  obtain ⟨r, hr⟩ : ∃ r, unpack ex M = r := ⟨_, rfl⟩
  have HUN : Hid (∀ W, Calls Try.prog 50 #[.string ex, .int .i64 (M : Nat)] W fun e w' => e = .returned (lzR r) ∧ Below W.heap.size W w') := fun W => by rw [← hr]; exact unpack_ok ex M W (by omega) (by rw [← hex]; omega)
  have hrl : r.2.length ≤ 1048576 := by
    rw [← hr]
    exact Nat.le_trans (unpF_len ex M _ _ _ (Nat.zero_le _)) (by omega)
  have HRB : Hid (Bytes r.2) := by show Bytes _; rw [← hr]; exact unpF_bytes _ _ _ _ _ (fun x hx => by simp at hx)
  rw [hex, hbm, hM, hr]
  rw [hL] at hpl hv
  rw [hex] at c7 hhe
  rw [hbk] at c6 hnb
  rw [hbm] at c4
  have HL : Hid (d.plain.length = L) := hL
  have HEX : Hid (d.held = ex ∧ d.bm = bm) := ⟨hex, hbm⟩
  obtain ⟨i0, hi0, hz0, hz1, hz2⟩ := info_parts infoB
  have HI : Hid (_ ∧ _ ∧ _ ∧ _) := ⟨hi0, hz0, hz1, hz2⟩
  obtain ⟨r1, r2⟩ := r
  simp only at hrl HRB
  subst hv
  have HC : Hid (∀ W, FU W B u d (.slice ao0 L cp0) → W.cell? ⟨u, 4, none⟩ = some (.int .i64 (bm : Nat)) ∧ W.cell? ⟨u, 8, none⟩ = some (.slice ao0 L cp0) ∧ W.frozen? ⟨u, 8, none⟩ = false ∧ W.ownsRow B 5 1 (.slice ao0 L cp0) L (bcells d.plain) ∧ B ≤ W.heap.size) := fun W h1 => ⟨by rw [← hbm]; exact (h1.cell 4 _ rfl).1, (h1.cell 8 _ rfl).1, h1.fz 8, by have := h1.own; rw [hL] at this; exact this, h1.sizeB⟩
  clear hi0 hz0 hz1 hz2 hL hex hbk hbm hr
  have HG : Hid (∀ (W w1 : World) (v1 : Value) (t : ByteArray), FU W B u d (.slice ao0 L cp0) → w1.ownsRow B 5 1 v1 (L + t.size) (bcells d.plain ++ Lib.strCells t) → W.grownBy w1 (Value.slice ao0 L cp0).ownBlock →
      w1.cell? ⟨u, 8, none⟩ = some (.slice ao0 L cp0) ∧ w1.frozen? ⟨u, 8, none⟩ = false ∧ (∃ ao ln cp, v1 = .slice ao ln cp) ∧ FU (w1.setCell ⟨u, 8, none⟩ v1) B u { d with plain := d.plain ++ bytesOf t } v1 ∧ FF B W (w1.setCell ⟨u, 8, none⟩ v1)) := fun W w1 v1 t h1 hown hg => by
    rw [strCells_eq, ← HL.out, ← bytesOf_length t] at hown
    exact h1.grow (bytesOf_bytes t) hown hg
  by_cases hb : bm ≤ 1048576
  · have hbi : (bm : Int) ≤ 1048576 := by omega
    have hbj : ¬ (1048576 : Int) < (bm : Int) := by omega
    have HIF : Hid ((if (1048576 : Int) < (bm : Int) then (1048576 : Int) else (bm : Int)) = (M : Int)) := by show _ = _; rw [if_neg hbj]; omega
    clear hM
    by_cases h0 : r1 = 0
    · obtain rfl : r1 = 0 := h0
      rw [if_neg (by omega), if_pos rfl]
      have hl0 := lzR_good (r := (0, r2)) rfl
      rw [hl0] at HUN
      obtain ⟨TT, hTT⟩ : ∃ TT, toBA r2 = TT := ⟨_, rfl⟩
      have hts : TT.size ≤ 1048576 := by rw [← hTT, toBA_size]; exact hrl
      have HTB : Hid (bytesOf TT = r2) := by show _ = _; rw [← hTT]; exact bytesOf_toBA _ HRB.out
      rw [hTT] at HUN
      clear hTT hl0 hrl HRB
      go_enter Try.func37, Try.ntmps37
      go_wp2_with fail
      go_region_law
        (first | (go_simp; go_at_call 50; rw [HIF.out]; refine (HUN.out _).mono ?_; rintro e w1 ⟨rfl, hb1⟩; have H1 : Hid (FU w1 B u d (.slice ao0 L cp0) ∧ FF B w w1) := ⟨(HU.out.drewN 1).call hb1, (FF.drewN _ _ 1).trans (FF.call hb1 HU.out.sizeB)⟩; obtain ⟨x4, x8, y8, xo, xb⟩ := HC.out _ H1.out.1; have HXO : Hid (w1.ownsRow B 5 1 (.slice ao0 L cp0) L (bcells d.plain) ∧ B ≤ w1.heap.size) := ⟨xo, xb⟩; clear hb1 xo xb c4 c6 c7 c8 f8))
      all_goals
        go_wp2_with (at_builtin; refine Lib.wpList_append_own_string _ rfl _ _ 30 9 rfl B 5 i0 Try.underlying30 Try.underlying9 HI.out.1 HI.out.2.1 HI.out.2.2.1 HI.out.2.2.2 (.slice ao0 L cp0) L (bcells d.plain) rfl HXO.out.1 TT rfl (by unfold maxLen; omega) (by omega) HXO.out.2 ?_)
        intro v3 w3 hown hgrow _
        obtain ⟨z0, z1, ⟨ao, ln, cp, hv1⟩, z3, z4⟩ := HG.out _ _ _ TT H1.out.1 hown hgrow
        subst hv1
        have HZ : Hid _ := (⟨z3, z4⟩ : _ ∧ _)
        clear z3 z4 hown hgrow x8 y8
        go_wp2
        go_ret
        have e := HTB.out
        have hz := HZ.out
        rw [e] at hz
        obtain ⟨e1, e2⟩ := HEX.out
        subst e1 e2
        exact ⟨rfl, ⟨_, hz.1⟩, H1.out.2.trans hz.2⟩
    · have hl0 : lzR (r1, r2) = .tuple #[.string ⟨#[]⟩, .int .i64 ((r1 : Nat) : Int)] := by unfold lzR; rw [if_neg h0]
      rw [hl0] at HUN
      obtain ⟨TT, hTT⟩ : ∃ TT, (⟨#[]⟩ : ByteArray) = TT := ⟨_, rfl⟩
      have hts : TT.size ≤ 1048576 := by rw [← hTT]; decide
      have HTB : Hid (bytesOf TT = []) := by show _ = _; rw [← hTT]; rfl
      rw [hTT] at HUN
      clear hTT hl0 hrl HRB
      by_cases h4 : r1 = 4
      · rw [if_pos ⟨h4, hb⟩]
        have h4i : ((r1 : Int) == 4) = true := by rw [h4]; rfl
        clear h4 hb h0
        go_enter Try.func37, Try.ntmps37
        go_wp2_with fail
        go_region_law
          (first | (go_simp; go_at_call 50; rw [HIF.out]; refine (HUN.out _).mono ?_; rintro e w1 ⟨rfl, hb1⟩; have H1 : Hid (FU w1 B u d (.slice ao0 L cp0) ∧ FF B w w1) := ⟨(HU.out.drewN 1).call hb1, (FF.drewN _ _ 1).trans (FF.call hb1 HU.out.sizeB)⟩; obtain ⟨x4, x8, y8, xo, xb⟩ := HC.out _ H1.out.1; have HXO : Hid (w1.ownsRow B 5 1 (.slice ao0 L cp0) L (bcells d.plain) ∧ B ≤ w1.heap.size) := ⟨xo, xb⟩; clear hb1 xo xb c4 c6 c7 c8 f8))
        all_goals
          go_wp2
          go_ret
          exact ⟨rfl, ⟨_, H1.out.1⟩, H1.out.2⟩
      · rw [if_neg (by omega), if_neg h0]
        have h4i : ((r1 : Int) == 4) = false := beq_eq_false_iff_ne.2 (by omega)
        clear h4 hb h0
        go_enter Try.func37, Try.ntmps37
        go_wp2_with fail
        go_region_law
          (first | (go_simp; go_at_call 50; rw [HIF.out]; refine (HUN.out _).mono ?_; rintro e w1 ⟨rfl, hb1⟩; have H1 : Hid (FU w1 B u d (.slice ao0 L cp0) ∧ FF B w w1) := ⟨(HU.out.drewN 1).call hb1, (FF.drewN _ _ 1).trans (FF.call hb1 HU.out.sizeB)⟩; obtain ⟨x4, x8, y8, xo, xb⟩ := HC.out _ H1.out.1; have HXO : Hid (w1.ownsRow B 5 1 (.slice ao0 L cp0) L (bcells d.plain) ∧ B ≤ w1.heap.size) := ⟨xo, xb⟩; clear hb1 xo xb c4 c6 c7 c8 f8))
        all_goals
          go_wp2_with (at_builtin; refine Lib.wpList_append_own_string _ rfl _ _ 30 9 rfl B 5 i0 Try.underlying30 Try.underlying9 HI.out.1 HI.out.2.1 HI.out.2.2.1 HI.out.2.2.2 (.slice ao0 L cp0) L (bcells d.plain) rfl HXO.out.1 TT rfl (by unfold maxLen; omega) (by omega) HXO.out.2 ?_)
          intro v3 w3 hown hgrow _
          obtain ⟨z0, z1, ⟨ao, ln, cp, hv1⟩, z3, z4⟩ := HG.out _ _ _ TT H1.out.1 hown hgrow
          subst hv1
          have HZ : Hid _ := (⟨z3, z4⟩ : _ ∧ _)
          clear z3 z4 hown hgrow x8 y8
          go_wp2
          go_ret
          have e := HTB.out
          have hz := HZ.out
          rw [e, List.append_nil] at hz
          obtain ⟨e1, e2⟩ := HEX.out
          subst e1 e2
          exact ⟨rfl, ⟨_, hz.1⟩, H1.out.2.trans hz.2⟩
  · have hbi : ¬ (bm : Int) ≤ 1048576 := by omega
    have hbj : (1048576 : Int) < (bm : Int) := by omega
    have HIF : Hid ((1048576 : Int) = (M : Int)) := by show _ = _; omega
    clear hM
    by_cases h0 : r1 = 0
    · obtain rfl : r1 = 0 := h0
      rw [if_neg (by omega), if_pos rfl]
      have hl0 := lzR_good (r := (0, r2)) rfl
      rw [hl0] at HUN
      obtain ⟨TT, hTT⟩ : ∃ TT, toBA r2 = TT := ⟨_, rfl⟩
      have hts : TT.size ≤ 1048576 := by rw [← hTT, toBA_size]; exact hrl
      have HTB : Hid (bytesOf TT = r2) := by show _ = _; rw [← hTT]; exact bytesOf_toBA _ HRB.out
      rw [hTT] at HUN
      clear hTT hl0 hrl HRB
      go_enter Try.func37, Try.ntmps37
      go_wp2_with fail
      go_region_law
        (first | (go_simp; go_at_call 50; rw [HIF.out]; refine (HUN.out _).mono ?_; rintro e w1 ⟨rfl, hb1⟩; have H1 : Hid (FU w1 B u d (.slice ao0 L cp0) ∧ FF B w w1) := ⟨(HU.out.drewN 1).call hb1, (FF.drewN _ _ 1).trans (FF.call hb1 HU.out.sizeB)⟩; obtain ⟨x4, x8, y8, xo, xb⟩ := HC.out _ H1.out.1; have HXO : Hid (w1.ownsRow B 5 1 (.slice ao0 L cp0) L (bcells d.plain) ∧ B ≤ w1.heap.size) := ⟨xo, xb⟩; clear hb1 xo xb c4 c6 c7 c8 f8))
      all_goals
        go_wp2_with (at_builtin; refine Lib.wpList_append_own_string _ rfl _ _ 30 9 rfl B 5 i0 Try.underlying30 Try.underlying9 HI.out.1 HI.out.2.1 HI.out.2.2.1 HI.out.2.2.2 (.slice ao0 L cp0) L (bcells d.plain) rfl HXO.out.1 TT rfl (by unfold maxLen; omega) (by omega) HXO.out.2 ?_)
        intro v3 w3 hown hgrow _
        obtain ⟨z0, z1, ⟨ao, ln, cp, hv1⟩, z3, z4⟩ := HG.out _ _ _ TT H1.out.1 hown hgrow
        subst hv1
        have HZ : Hid _ := (⟨z3, z4⟩ : _ ∧ _)
        clear z3 z4 hown hgrow x8 y8
        go_wp2
        go_ret
        have e := HTB.out
        have hz := HZ.out
        rw [e] at hz
        obtain ⟨e1, e2⟩ := HEX.out
        subst e1 e2
        exact ⟨rfl, ⟨_, hz.1⟩, H1.out.2.trans hz.2⟩
    · have hl0 : lzR (r1, r2) = .tuple #[.string ⟨#[]⟩, .int .i64 ((r1 : Nat) : Int)] := by unfold lzR; rw [if_neg h0]
      rw [hl0] at HUN
      obtain ⟨TT, hTT⟩ : ∃ TT, (⟨#[]⟩ : ByteArray) = TT := ⟨_, rfl⟩
      have hts : TT.size ≤ 1048576 := by rw [← hTT]; decide
      have HTB : Hid (bytesOf TT = []) := by show _ = _; rw [← hTT]; rfl
      rw [hTT] at HUN
      clear hTT hl0 hrl HRB
      rw [if_neg (by omega), if_neg h0]
      by_cases h4 : r1 = 4
      · have h4i : ((r1 : Int) == 4) = true := by rw [h4]; rfl
        clear h4 hb h0
        go_enter Try.func37, Try.ntmps37
        go_wp2_with fail
        go_region_law
          (first | (go_simp; go_at_call 50; rw [HIF.out]; refine (HUN.out _).mono ?_; rintro e w1 ⟨rfl, hb1⟩; have H1 : Hid (FU w1 B u d (.slice ao0 L cp0) ∧ FF B w w1) := ⟨(HU.out.drewN 1).call hb1, (FF.drewN _ _ 1).trans (FF.call hb1 HU.out.sizeB)⟩; obtain ⟨x4, x8, y8, xo, xb⟩ := HC.out _ H1.out.1; have HXO : Hid (w1.ownsRow B 5 1 (.slice ao0 L cp0) L (bcells d.plain) ∧ B ≤ w1.heap.size) := ⟨xo, xb⟩; clear hb1 xo xb c4 c6 c7 c8 f8))
        all_goals
          go_wp2_with (at_builtin; refine Lib.wpList_append_own_string _ rfl _ _ 30 9 rfl B 5 i0 Try.underlying30 Try.underlying9 HI.out.1 HI.out.2.1 HI.out.2.2.1 HI.out.2.2.2 (.slice ao0 L cp0) L (bcells d.plain) rfl HXO.out.1 TT rfl (by unfold maxLen; omega) (by omega) HXO.out.2 ?_)
          intro v3 w3 hown hgrow _
          obtain ⟨z0, z1, ⟨ao, ln, cp, hv1⟩, z3, z4⟩ := HG.out _ _ _ TT H1.out.1 hown hgrow
          subst hv1
          have HZ : Hid _ := (⟨z3, z4⟩ : _ ∧ _)
          clear z3 z4 hown hgrow x8 y8
          go_wp2
          go_ret
          have e := HTB.out
          have hz := HZ.out
          rw [e, List.append_nil] at hz
          obtain ⟨e1, e2⟩ := HEX.out
          subst e1 e2
          exact ⟨rfl, ⟨_, hz.1⟩, H1.out.2.trans hz.2⟩
      · have h4i : ((r1 : Int) == 4) = false := beq_eq_false_iff_ne.2 (by omega)
        clear h4 hb h0
        go_enter Try.func37, Try.ntmps37
        go_wp2_with fail
        go_region_law
          (first | (go_simp; go_at_call 50; rw [HIF.out]; refine (HUN.out _).mono ?_; rintro e w1 ⟨rfl, hb1⟩; have H1 : Hid (FU w1 B u d (.slice ao0 L cp0) ∧ FF B w w1) := ⟨(HU.out.drewN 1).call hb1, (FF.drewN _ _ 1).trans (FF.call hb1 HU.out.sizeB)⟩; obtain ⟨x4, x8, y8, xo, xb⟩ := HC.out _ H1.out.1; have HXO : Hid (w1.ownsRow B 5 1 (.slice ao0 L cp0) L (bcells d.plain) ∧ B ≤ w1.heap.size) := ⟨xo, xb⟩; clear hb1 xo xb c4 c6 c7 c8 f8))
        all_goals
          go_wp2_with (at_builtin; refine Lib.wpList_append_own_string _ rfl _ _ 30 9 rfl B 5 i0 Try.underlying30 Try.underlying9 HI.out.1 HI.out.2.1 HI.out.2.2.1 HI.out.2.2.2 (.slice ao0 L cp0) L (bcells d.plain) rfl HXO.out.1 TT rfl (by unfold maxLen; omega) (by omega) HXO.out.2 ?_)
          intro v3 w3 hown hgrow _
          obtain ⟨z0, z1, ⟨ao, ln, cp, hv1⟩, z3, z4⟩ := HG.out _ _ _ TT H1.out.1 hown hgrow
          subst hv1
          have HZ : Hid _ := (⟨z3, z4⟩ : _ ∧ _)
          clear z3 z4 hown hgrow x8 y8
          go_wp2
          go_ret
          have e := HTB.out
          have hz := HZ.out
          rw [e, List.append_nil] at hz
          obtain ⟨e1, e2⟩ := HEX.out
          subst e1 e2
          exact ⟨rfl, ⟨_, hz.1⟩, H1.out.2.trans hz.2⟩
theorem unp_ok : POK 37 (fun d => d.plain.length ≤ 1048576) gUnp := fun w B u d v h hpl => by
  by_cases h31 : 2147483648 ≤ d.block
  · exact unp_plain w B u d v h hpl h31
  · exact unp_packed w B u d v h hpl h31
end Go.Proofs.Ytbncfpbehahidaa
