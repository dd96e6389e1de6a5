/- HuffWrites' walk: symbols are written by their words, and read as they were. -/
import Derived.Test.YtklipommocijaaaUj
import Derived.Deep.RegionLaw
namespace Go.Proofs.Ytklipommocijaaa
open Go.RowKit
set_option linter.unusedVariables false

set_option maxRecDepth 20000 in
set_option maxHeartbeats 8000000 in
theorem huffWrites_walk (xs ys : List Int) (a a2 : Option Addr) (c c2 N M : Nat) (w : World) (hN : xs.length = N) (hM : ys.length = M) (hrow : IRow w a xs) (hrow2 : IRow w a2 ys) (hlen : N ≤ 9223372036854775807) (hlen2 : M ≤ 9223372036854775807) :
    Calls Try.prog 4 #[.slice a N c, .slice a2 M c2] w fun e w' => e = .returned (.bool true) ∧ Below w.heap.size w w' := by
  have HR : Hid (IRow w a xs) := hrow
  have HR2 : Hid (IRow w a2 ys) := hrow2
  have HN : Hid (xs.length = N) := hN
  have HM : Hid (ys.length = M) := hM
  have HT : Hid (∀ _ : Unit, Calls Try.prog 14 #[.slice a N c] w fun e w' => TabEnd w xs e w') := fun _ => newTable_ok xs a c N w hN hrow hlen
  have HMAY : Hid (∀ W, Below w.heap.size w W → Calls Try.prog 15 #[.slice a N c] W fun e w' => e = .returned (.bool (isCode xs)) ∧ w' = W) := fun W hW => may_ok xs a c N W hN (hrow.below hW) hlen
  have HC : Hid (∀ W, Below w.heap.size w W → Calls Try.prog 16 #[.slice a N c] W fun e w' => CodesEnd W xs e w') := fun W hW => refCodes_ok xs a c N W hN (hrow.below hW) hlen
  clear hrow hrow2 hN hM
  go_enter Try.func4, Try.ntmps4
  go_wp2_with fail
  refine (HT.out ()).mono ?_
  rintro e w1 ⟨hcase, hb1⟩
  have HB1 : Hid (Below w.heap.size w w1) := hb1
  rcases hcase with ⟨hcode, t, R, rfl, htab⟩ | ⟨hno, rfl⟩
  · have HK : Hid (may xs = true ∧ ew (nsOf xs) 15 ≤ 32768) := hcode
    have hN288 : N ≤ 288 := by rw [← HN.out]; exact may_len hcode.1
    have HTAB : Hid (Tab w1 w.heap.size w1.heap.size t (nsOf xs) R) := htab
    clear htab hcode hb1 HT HMAY
    go_wp2_with fail
    refine (HC.out w1 HB1.out).mono ?_
    rintro e w2 ⟨hcase, hb2⟩
    rcases hcase with ⟨_, _, Lw, rfl, hlb, hnew⟩ | ⟨hno, rfl⟩
    · rw [HN.out] at hlb ⊢
      have HB2 : Hid (Below w1.heap.size w1 w2) := hb2
      have HLB : Hid (LB w2 Lw N (cw (nsOf xs))) := hlb
      clear hb2 hlb hnew HC
      go_wp2_with fail
      refine (newWriter _).mono ?_
      rintro e w3 ⟨rfl, hw3⟩
      obtain ⟨b, hb⟩ : ∃ b, w2.heap.size = b := ⟨_, rfl⟩
      have hst : WrSt w w3 (b + 1) b w.heap.size w1.heap.size t Lw N (nsOf xs) R (.slice none 0 0) (.slice none 0 0) [] [] [] := by
        have s12 := HB2.out.size
        have hlw := lt_heap HLB.out
        have hold : ∀ k, k < w2.heap.size → w3.heap[k]? = w2.heap[k]? := fun k hk => by rw [hw3]; exact heap_alloc_old _ _ hk
        refine ⟨HTAB.out.keep (fun k h1 h2 => by rw [hold k (by omega)]; exact HB2.out.block k h2), by omega, ?_, World.ownsRow_nil _ _ _ _, World.ownsRow_nil _ _ _ _, fun g hg => by simp [Value.ownBlock] at hg, ?_, by omega, ?_, by have := HB1.out.size; omega, by omega, .inr (by omega), ?_⟩
        · rw [hw3, ← hb]; exact WS.new w2 _
        · unfold LB; rw [hold Lw hlw]; exact HLB.out
        · have h12 := HB1.out.trans (HB2.out.mono HB1.out.size)
          rw [hw3]; exact h12.alloc h12.size _
        · rw [hw3]; simp; omega
      have HST : Hid (WrSt w w3 (b + 1) b w.heap.size w1.heap.size t Lw N (nsOf xs) R (.slice none 0 0) (.slice none 0 0) [] [] []) := hst
      rw [hb]
      clear hst hw3 hb
      by_cases hm : 2000 < M
      · have hmi : (2000 : Int) < (M : Int) := by omega
        go_wp2_with fail
        refine (awake _).mono ?_
        rintro e w4 ⟨rfl, hb4⟩
        have H4 : Hid (Below w.heap.size w w4) := HST.out.bel.trans (hb4.mono HST.out.bel.size)
        clear hb4
        go_wp2
        go_ret
        exact ⟨rfl, H4.out⟩
      · have hmi : ¬ (2000 : Int) < (M : Int) := by omega
        obtain ⟨i0, hi, hz0, hz1, hz2⟩ := info_split intInfo
        have HI : Hid (Try.prog.info? 3 = some i0 ∧ i0.zero = some (.int .i64 0) ∧ i0.size = 1 ∧ i0.bytes = 8) := ⟨hi, hz0, hz1, hz2⟩
        clear hi hz0 hz1 hz2 HTAB HB1 HB2 HLB
        obtain ⟨lo, hlo⟩ : ∃ v, w.heap.size = v := ⟨_, rfl⟩
        obtain ⟨hi, hhi⟩ : ∃ v, w1.heap.size = v := ⟨_, rfl⟩
        have HST2 : Hid (WrSt w w3 (b + 1) b lo hi t Lw N (nsOf xs) R (.slice none 0 0) (.slice none 0 0) [] [] []) := by
          have h := HST.out
          show WrSt _ _ _ _ _ _ _ _ _ _ _ _ _ _ _ _
          rw [← hlo, ← hhi]; exact h
        clear hlo hhi HST
        go_wp2
        go_loopw [10, 11, 12, 13, 14] (fun v10 v11 v12 _ _ wr => ∃ (i LL n : Nat) (V Vd : Value) (D : List Nat), V = v10 ∧ Vd = v11 ∧ v12 = .int .i64 i ∧ i ≤ M ∧ n ≤ i ∧ LL ≤ 15 * n ∧ Hid (WrSt w wr (b + 1) b lo hi t Lw N (nsOf xs) R V Vd (wordsOf (nsOf xs) D) (wordsOf (nsOf xs) D) D ∧ (wordsOf (nsOf xs) D).length = LL ∧ D.length = n ∧ ∀ x ∈ D, x < N ∧ 0 < (nsOf xs).getD x 0)) (fun _ _ v12 _ _ _ => M - (intOf v12).toNat)
        case atStart => exact ⟨0, 0, 0, _, _, [], rfl, rfl, rfl, by omega, by omega, by omega, HST2.out, rfl, rfl, by simp⟩
        case round =>
          obtain ⟨i, LL, n, V, Vd, D, rfl, rfl, rfl, hiM, hni, hLL, HS⟩ := hrel
          by_cases hlt : i < M
          · have hlti : (i : Int) < (M : Int) := by omega
            obtain ⟨gy, oy, rfl, cy, _⟩ := (HR2.out.below HS.out.1.bel).at (show i < ys.length by rw [HM.out]; exact hlt)
            obtain ⟨x, hx⟩ : ∃ x, ys.getD i 0 = x := ⟨_, rfl⟩
            rw [hx] at cy
            clear hx
            have hnl : (nsOf xs).length = N := by rw [nsOf_length, HN.out]
            have hcase : (x < 0 ∨ (¬ x < 0 ∧ (N : Int) ≤ x) ∨ ∃ j : Nat, x = (j : Int) ∧ j < N ∧ (nsOf xs).getD j 0 = 0) ∨ ∃ j : Nat, x = (j : Int) ∧ j < N ∧ 0 < (nsOf xs).getD j 0 := by
              by_cases h1 : x < 0
              · exact .inl (.inl h1)
              · by_cases h2 : (N : Int) ≤ x
                · exact .inl (.inr (.inl ⟨h1, h2⟩))
                · rcases Nat.eq_zero_or_pos ((nsOf xs).getD x.toNat 0) with h3 | h3
                  · exact .inl (.inr (.inr ⟨x.toNat, by omega, by omega, h3⟩))
                  · exact .inr ⟨x.toNat, by omega, by omega, h3⟩
            rcases hcase with hout | ⟨j, rfl, hj, h0⟩
            · have HP : Hid (∀ _ : Unit, Calls Try.prog 18 #[.pointer (some ⟨t, 0, none⟩), .pointer (some ⟨b, 0, none⟩), .int .i64 x] wr fun e w' => e = .returned (.int .i64 1) ∧ ∃ k, w' = wr.drewN k) := fun _ => by
                refine put_out lo hi t (nsOf xs) R _ x wr HS.out.1.tab (by omega) ?_
                rw [hnl]
                rcases hout with h | ⟨_, h⟩ | ⟨j, rfl, _, h⟩
                · exact .inl h
                · exact .inr (.inl h)
                · exact .inr (.inr (by simpa using h))
              have NX : Hid (∀ k, WrSt w (wr.drewN k) (b + 1) b lo hi t Lw N (nsOf xs) R V Vd (wordsOf (nsOf xs) D) (wordsOf (nsOf xs) D) D ∧ (wordsOf (nsOf xs) D).length = LL ∧ D.length = n ∧ ∀ x ∈ D, x < N ∧ 0 < (nsOf xs).getD x 0) := fun k => ⟨HS.out.1.drewN k, HS.out.2⟩
              rcases hout with h1 | ⟨h1, h2⟩ | ⟨j, rfl, hj, h0⟩
              · go_wp2_with fail
                refine (HP.out ()).mono ?_
                rintro e w4 ⟨rfl, k, rfl⟩
                go_wp2
                exact ⟨⟨i + 1, LL, n, V, Vd, D, rfl, rfl, by go_num, by omega, by omega, hLL, NX.out k⟩, by simp [intOf]; omega⟩
              · go_wp2_with fail
                refine (HP.out ()).mono ?_
                rintro e w4 ⟨rfl, k, rfl⟩
                go_wp2
                exact ⟨⟨i + 1, LL, n, V, Vd, D, rfl, rfl, by go_num, by omega, by omega, hLL, NX.out k⟩, by simp [intOf]; omega⟩
              · obtain ⟨g, off, rfl, cx, _⟩ := (HR.out.below HS.out.1.bel).at (show j < xs.length by rw [HN.out]; exact hj)
                have hxj : xs.getD j 0 = 0 := by
                  have := may_get HK.out.1 j
                  rw [nsOf_get] at h0
                  omega
                rw [hxj] at cx
                have hji : (j : Int) < (N : Int) := by omega
                clear h0 hxj
                go_wp2_with fail
                refine (HP.out ()).mono ?_
                rintro e w4 ⟨rfl, k, rfl⟩
                go_wp2
                exact ⟨⟨i + 1, LL, n, V, Vd, D, rfl, rfl, by go_num, by omega, by omega, hLL, NX.out k⟩, by simp [intOf]; omega⟩
            · obtain ⟨l, hll⟩ : ∃ l, (nsOf xs).getD j 0 = l := ⟨_, rfl⟩
              rw [hll] at h0
              have hl15 : l ≤ 15 := by rw [← hll, nsOf_get]; have := may_get HK.out.1 j; omega
              obtain ⟨g, off, rfl, cx, _⟩ := (HR.out.below HS.out.1.bel).at (show j < xs.length by rw [HN.out]; exact hj)
              have hxj : xs.getD j 0 = (l : Int) := by have := may_get HK.out.1 j; rw [← hll, nsOf_get]; omega
              rw [hxj] at cx
              have hfit := cw_fits HK.out.1 HK.out.2 j (by rw [HN.out]; exact hj)
              rw [hll] at hfit
              obtain ⟨wd, hwd⟩ : ∃ v, cw (nsOf xs) j = v := ⟨_, rfl⟩
              rw [hwd] at hfit
              have hwb : wd < 9223372036854775808 := Nat.lt_of_lt_of_le hfit (Nat.le_trans (Nat.pow_le_pow_right (by omega) hl15) (by decide))
              have HJ : Hid ((nsOf xs).getD j 0 = l ∧ cw (nsOf xs) j = wd) := ⟨hll, hwd⟩
              have hB1 : b + 1 ≤ wr.heap.size := HS.out.1.size
              have HP : Hid (∀ _ : Unit, Calls Try.prog 18 #[.pointer (some ⟨t, 0, none⟩), .pointer (some ⟨b, 0, none⟩), .int .i64 (j : Int)] wr fun e w' => ∃ u, e = .returned (.int .i64 u) ∧ ((Value.int .i64 u) = .int .i64 0 ∧ ∃ k, WS w' (b + 1) b (wordsOf (nsOf xs) D ++ wbitsOf wd l) ∧ Fr 5 (b + 1) b (wr.drewN k) w')) := fun _ => by
                refine put_in lo hi t (nsOf xs) R _ j wr HS.out.1.tab (by omega) (by omega) (by rw [hll]; exact h0) (fun v w' => v = .int .i64 0 ∧ ∃ k, WS w' (b + 1) b (wordsOf (nsOf xs) D ++ wbitsOf wd l) ∧ Fr 5 (b + 1) b (wr.drewN k) w') (fun k => ?_)
                rw [hll, hwd]
                refine (wbits (b + 1) b (wordsOf (nsOf xs) D) (rv wd l) l (wr.drewN k) (by omega) (rv_lt wd l) (by have := HS.out.2.1; omega) (HS.out.1.ws.drewN k) hB1).mono ?_
                rintro e w' ⟨rfl, h1, h2⟩
                rw [bitsOf_rv] at h1
                exact ⟨0, rfl, rfl, k, h1, h2⟩
              have hji : (j : Int) < (N : Int) := by omega
              have h0i : ¬ (l : Int) = 0 := by omega
              have h0b : ((l : Int) == 0) = false := by simpa using h0i
              have HCX : Hid (IRow w (some ⟨g, off, none⟩) xs ∧ xs.getD j 0 = (l : Int) ∧ j < xs.length) := ⟨HR.out, hxj, by rw [HN.out]; exact hj⟩
              clear hll hwd hxj cx
              go_wp2_with fail
              refine (HP.out ()).mono ?_
              rintro e w4 ⟨u, rfl, hu, k, h1, h2⟩
              obtain rfl : u = 0 := by simpa using hu
              have H4 : Hid (WrSt w w4 (b + 1) b lo hi t Lw N (nsOf xs) R V Vd (wordsOf (nsOf xs) D ++ wbitsOf wd l) (wordsOf (nsOf xs) D) D) := HS.out.1.wrote h1 h2
              clear hu h1 h2
              have cx : w4.cell? ⟨g, off + j, none⟩ = some (.int .i64 (l : Int)) := by
                obtain ⟨g', off', e, c', _⟩ := (HCX.out.1.below H4.out.bel).at HCX.out.2.2
                cases e
                rw [c', HCX.out.2.1]
              have cw4 : w4.cell? ⟨Lw, j, none⟩ = some (.int .i64 (wd : Int)) := by
                have := (H4.out.words.cell hj).1
                rw [HJ.out.2] at this
                exact this
              go_wp2
              go_region_law
                (first
                  | (refine step_append_lies _ rfl _ _ 22 rfl (b + 1) 3 i0 (.int .i64 0) 1 8 Try.underlying22 HI.out.1 HI.out.2.1 HI.out.2.2.1 HI.out.2.2.2 rfl (by decide) V LL (icells (wordsOf (nsOf xs) D)) rfl HO5.out.1 ⟨gw, 0, none⟩ l capw (icells (wbitsOf wd l)) rfl (by rw [icells_length, wbitsOf_length, Nat.mul_one]) HCE.out (one_icells _) h0 (by unfold maxLen; omega) (by omega) HO5.out.2 _ rfl ?_; intro g5 cap5 w5 hown hgrow hat hgl)
                  | (go_simp; go_at_call 19; refine (word_cells wd l (by omega) (by omega) hwb _).mono ?_; rintro e V2 ⟨gw, capw, rfl, hce, hbe⟩; have HCE : Hid (∀ j u, (icells (wbitsOf wd l))[j]? = some u → V2.cell? ((⟨gw, 0, none⟩ : Addr).add j) = some u) := hce; have HT2 : Hid (WrSt w V2 (b + 1) b lo hi t Lw N (nsOf xs) R V Vd (wordsOf (nsOf xs) D ++ wbitsOf wd l) (wordsOf (nsOf xs) D) D) := H4.out.below ⟨hbe.os, hbe.tape, hbe.output, hbe.size, hbe.block⟩; have HO5 : Hid (V2.ownsRow (b + 1) 3 1 V LL (icells (wordsOf (nsOf xs) D)) ∧ b + 1 ≤ V2.heap.size) := ⟨by have h := HT2.out.all; unfold IS at h; rw [HS.out.2.1] at h; exact h, HT2.out.size⟩; clear hce hbe))
              all_goals
                have H5 : Hid (WrSt w w5 (b + 1) b lo hi t Lw N (nsOf xs) R (.slice (some ⟨g5, 0, none⟩) (LL + l) cap5) Vd (wordsOf (nsOf xs) D ++ wbitsOf wd l) (wordsOf (nsOf xs) D ++ wbitsOf wd l) D) := HT2.out.grewA (xs := wbitsOf wd l) (by rw [HS.out.2.1, wbitsOf_length]) hown hgrow hat
                have HO6 : Hid (∀ o, (w5.alloc o).ownsRow (b + 1) 3 1 Vd n (icells D) ∧ b + 1 ≤ (w5.alloc o).heap.size) := fun o => ⟨by have h := H5.out.done; unfold IS at h; rw [HS.out.2.2.1] at h; exact h.alloc o, by have := H5.out.size; simp; omega⟩
                clear hown hgrow hat hgl HO5 HCE HT2 cx cw4
                go_wp2_with (at_builtin; refine wpList_append_lies _ rfl _ _ 22 rfl (b + 1) 3 i0 (.int .i64 0) 1 8 Try.underlying22 HI.out.1 HI.out.2.1 HI.out.2.2.1 HI.out.2.2.2 rfl (by decide) Vd n (icells D) rfl (HO6.out _).1 ⟨w5.heap.size, 0, none⟩ 1 1 [.int .i64 (j : Nat)] rfl rfl ?c1 ?c2 (by decide) ?c3 ?c4 (HO6.out _).2 _ rfl ?_)
                case c1 => exact news1 w5 _ _
                case c2 => exact one1 _
                case c3 => unfold maxLen; omega
                case c4 => omega
                intro g6 cap6 w6 hown hgrow hat hgl
                have H6 : Hid (WrSt w w6 (b + 1) b lo hi t Lw N (nsOf xs) R (.slice (some ⟨g5, 0, none⟩) (LL + l) cap5) (.slice (some ⟨g6, 0, none⟩) (n + 1) cap6) (wordsOf (nsOf xs) (D ++ [j])) (wordsOf (nsOf xs) (D ++ [j])) (D ++ [j]) ∧ (wordsOf (nsOf xs) (D ++ [j])).length = LL + l ∧ (D ++ [j]).length = n + 1 ∧ ∀ x ∈ D ++ [j], x < N ∧ 0 < (nsOf xs).getD x 0) := by
                  have h5 := H5.out.below ((Below.refl _ _).alloc (Nat.le_refl _) (.cells #[.int .i64 (j : Nat)] 3))
                  have h6 := h5.grewD (x := j) (m := n + 1) (by rw [HS.out.2.2.1]) hown hgrow (by simpa using hat)
                  have hwo : wordsOf (nsOf xs) (D ++ [j]) = wordsOf (nsOf xs) D ++ wbitsOf wd l := by rw [wordsOf_snoc, HJ.out.1, HJ.out.2]
                  refine ⟨by rw [hwo]; exact h6, by rw [hwo, List.length_append, wbitsOf_length, HS.out.2.1], by rw [List.length_append, HS.out.2.2.1]; rfl, fun x hx => ?_⟩
                  rcases List.mem_append.1 hx with h | h
                  · exact HS.out.2.2.2 x h
                  · simp at h; subst h; exact ⟨hj, by rw [HJ.out.1]; exact h0⟩
                clear hown hgrow hat hgl HO6 H5
                go_wp2
                exact ⟨⟨i + 1, LL + l, n + 1, _, _, D ++ [j], rfl, rfl, by go_num, by omega, by omega, by omega, H6⟩, by simp [intOf]; omega⟩
          · have hlti : ¬ (i : Int) < (M : Int) := by omega
            obtain ⟨ao, cp, hV⟩ := HS.out.1.all.form
            obtain ⟨ao2, cp2, hVd⟩ := HS.out.1.done.form
            rw [HS.out.2.1] at hV
            rw [HS.out.2.2.1] at hVd
            subst hV hVd
            obtain ⟨L, hL⟩ : ∃ L, wordsOf (nsOf xs) D = L := ⟨_, rfl⟩
            have HL : Hid (wordsOf (nsOf xs) D = L) := hL
            have HS2 : Hid (WrSt w wr (b + 1) b lo hi t Lw N (nsOf xs) R (.slice ao LL cp) (.slice ao2 n cp2) L L D ∧ L.length = LL ∧ D.length = n ∧ ∀ x ∈ D, x < N ∧ 0 < (nsOf xs).getD x 0) := by
              have h := HS.out
              rw [hL] at h
              exact h
            have H01 : Hid (Bits01 L) := by show Bits01 L; rw [← hL]; exact wordsOf_01 _ _
            clear HS hL
            have hself := HS2.out.1.ws.self
            have HD : Hid (∀ W, WS W (b + 1) b L → Calls Try.prog 20 #[.pointer (some ⟨b, 0, none⟩)] W fun e w' => e = .returned (.string (toBA (pack L))) ∧ w' = W) := fun W h => wdone (b + 1) b L W h
            have HTX : Hid (∀ _ : Unit, Calls Try.prog 21 #[.slice ao LL cp] wr fun e w' => e = .returned (.string (toBA (pack L))) ∧ Below wr.heap.size wr w') := fun _ => by
              have h := refText (b + 1) cp ao L wr H01.out (by rw [HS2.out.2.1]; omega) (by rw [HS2.out.2.1]; exact HS2.out.1.all)
              rw [HS2.out.2.1] at h
              exact h
            have HPL : Hid (∀ W, WS W (b + 1) b L → Calls Try.prog 22 #[.pointer (some ⟨b, 0, none⟩)] W fun e w' => e = .returned (.int .i64 (LL : Nat)) ∧ w' = W) := fun W h => by
              have h2 := wplace b (L.length : Nat) W h.self h.place
              rw [HS2.out.2.1] at h2
              exact h2
            have HSZ : Hid (8 * (toBA (pack L)).size = 8 * ((LL + 7) / 8)) := by
              show _ = _
              rw [toBA_size, pack_length, HS2.out.2.1]
            have HRD : Hid (∀ q, q < n → rd (nsOf xs) (toBA (pack L)) (wordsOf (nsOf xs) (D.take q)).length = (D.getD q 0, (nsOf xs).getD (D.getD q 0) 0, 0) ∧ (wordsOf (nsOf xs) (D.take (q + 1))).length = (wordsOf (nsOf xs) (D.take q)).length + (nsOf xs).getD (D.getD q 0) 0 ∧ (wordsOf (nsOf xs) (D.take (q + 1))).length ≤ LL) := fun q hq => by
              have hqD : q < D.length := by rw [HS2.out.2.2.1]; exact hq
              have hL : L.length = LL := HS2.out.2.1
              rw [← HL.out] at hL ⊢
              have hm := HS2.out.2.2.2 (D.getD q 0) (by rw [getD_in hqD]; exact List.getElem_mem _)
              have h15 : ∀ i, (nsOf xs).getD i 0 ≤ 15 := fun i => by rw [nsOf_get]; have := may_get HK.out.1 i; omega
              exact rd_words h15 (by rw [nsOf_length, HN.out]; exact hm.1) hm.2 hqD hL (by have := cw_fits HK.out.1 HK.out.2 (D.getD q 0) (by rw [HN.out]; exact hm.1); exact this)
            have HALL : Hid ((wordsOf (nsOf xs) (D.take n)).length = LL) := by
              show _ = _
              rw [← HS2.out.2.2.1, List.take_length, HL.out]; exact HS2.out.2.1
            obtain ⟨S, hS⟩ : ∃ S, toBA (pack L) = S := ⟨_, rfl⟩
            rw [hS] at HD HTX HSZ HRD
            have hSs : S.size ≤ 281474976710656 := by have := HSZ.out; omega
            clear hS hself
            go_wp2_with fail
            refine (HD.out wr HS2.out.1.ws).mono ?_
            rintro e w4 ⟨rfl, hw⟩
            obtain rfl := hw.symm
            clear hw
            go_wp2_with fail
            refine (HTX.out ()).mono ?_
            rintro e w5 ⟨rfl, hb5⟩
            have H5 : Hid (WrSt w w5 (b + 1) b lo hi t Lw N (nsOf xs) R (.slice ao LL cp) (.slice ao2 n cp2) L L D) := HS2.out.1.below hb5
            clear hb5
            go_wp2_with fail
            refine (HPL.out w5 H5.out.ws).mono ?_
            rintro e w6 ⟨rfl, hw⟩
            obtain rfl := hw.symm
            clear hw
            go_wp2_with fail
            refine (HD.out w5 H5.out.ws).mono ?_
            rintro e w6 ⟨rfl, hw⟩
            obtain rfl := hw.symm
            clear hw
            go_wp2_with fail
            refine (newReader S w5 hSs).mono ?_
            rintro e w7 ⟨b2, rfl, hb0, hb1, hblk, hbel⟩
            have h7 := H5.out.below hbel
            have H7 : Hid (RdSt w w7 (b + 1) lo hi t b2 n (nsOf xs) R (.slice ao2 n cp2) S D 0) := ⟨h7.tab, hblk, by have h := h7.done; unfold IS at h; rw [HS2.out.2.2.1] at h; exact h, h7.bel, by have := h7.top; have := h7.size; omega⟩
            have HB2 : Hid ((b2 < lo ∨ hi ≤ b2) ∧ w.heap.size ≤ b2 ∧ b + 1 ≤ b2) := ⟨.inr (by have := H5.out.top; have := H5.out.size; omega), by have := H5.out.b0; have := H5.out.bB; have := H5.out.size; omega, by have := H5.out.size; omega⟩
            clear h7 hb0 hb1 hblk hbel HD HTX HPL
            go_wp2
            go_loopw [16, 17, 18] (fun v16 _ _ wr => ∃ q p : Nat, v16 = .int .i64 q ∧ q ≤ n ∧ p ≤ LL ∧ Hid (RdSt w wr (b + 1) lo hi t b2 n (nsOf xs) R (.slice ao2 n cp2) S D p ∧ (wordsOf (nsOf xs) (D.take q)).length = p)) (fun v16 _ _ _ => n - (intOf v16).toNat)
            case atStart => exact ⟨0, 0, rfl, by omega, by omega, H7.out, rfl⟩
            case round =>
              obtain ⟨q, p, rfl, hq, hpL, HQ⟩ := hrel
              by_cases hlt2 : q < n
              · have hlt2i : (q : Int) < (n : Int) := by omega
                obtain ⟨r1, r2, r3⟩ := HRD.out q hlt2
                rw [HQ.out.2] at r1 r2
                obtain ⟨x, hx⟩ : ∃ x, D.getD q 0 = x := ⟨_, rfl⟩
                obtain ⟨l, hl⟩ : ∃ l, (nsOf xs).getD x 0 = l := ⟨_, rfl⟩
                rw [hx, hl] at r1 r2
                rw [r2] at r3
                have HSY : Hid (∀ _ : Unit, Calls Try.prog 24 #[.pointer (some ⟨t, 0, none⟩), .pointer (some ⟨b2, 0, none⟩)] wr fun e w' => e = .returned (.tuple #[.int .i64 (x : Nat), .int .i64 (0 : Nat)]) ∧ RS w' b2 S (p + l) ∧ Only b2 wr w') := fun _ => by
                  refine (symbol_ok lo hi t b2 (nsOf xs) R S p wr HQ.out.1.tab HQ.out.1.rs HB2.out.1 (by have := HSZ.out; omega) hSs (by rw [nsOf_length, HN.out]; exact hN288) HK.out.2 HQ.out.1.top).mono ?_
                  rintro e w' ⟨rfl, h1, _, h2⟩
                  rw [r1] at h1 ⊢
                  exact ⟨rfl, h1, h2⟩
                have NX : Hid (∀ W, RS W b2 S (p + l) → Only b2 wr W → RdSt w W (b + 1) lo hi t b2 n (nsOf xs) R (.slice ao2 n cp2) S D (p + l) ∧ (wordsOf (nsOf xs) (D.take (q + 1))).length = p + l) := fun W h1 h2 => ⟨HQ.out.1.read h1 h2 HB2.out.1 HB2.out.2.1, r2⟩
                obtain ⟨g2, rfl, _⟩ := HQ.out.1.cell hlt2
                have HX : Hid (D.getD q 0 = x) := hx
                clear r1 r2 hx hl
                go_wp2_with fail
                refine (HSY.out ()).mono ?_
                rintro e w8 ⟨rfl, h1, h2⟩
                have H8 : Hid (RdSt w w8 (b + 1) lo hi t b2 n (nsOf xs) R (.slice (some ⟨g2, 0, none⟩) n cp2) S D (p + l) ∧ (wordsOf (nsOf xs) (D.take (q + 1))).length = p + l) := NX.out w8 h1 h2
                have c8 : w8.cell? ⟨g2, q, none⟩ = some (.int .i64 (x : Int)) := by
                  obtain ⟨g', e, c'⟩ := H8.out.1.cell hlt2
                  cases e
                  rw [c', HX.out]
                clear h1 h2
                go_wp2
                exact ⟨⟨q + 1, p + l, by go_num, by omega, r3, H8⟩, by simp [intOf]; omega⟩
              · obtain rfl : q = n := by omega
                have hlt2i : ¬ (q : Int) < (q : Int) := by omega
                have hpLL : p = LL := by have h := HQ.out.2; rw [HALL.out] at h; exact h.symm
                obtain ⟨k1, _, k3, _⟩ := HQ.out.1.rs.cells
                rw [hpLL] at k3
                go_wp2_with fail
                refine (rplace b2 (LL : Nat) wr k1 k3).mono ?_
                rintro e w8 ⟨rfl, hw⟩
                obtain rfl := hw.symm
                clear hw
                go_wp2_with fail
                refine (awake _).mono ?_
                rintro e w9 ⟨rfl, hb9⟩
                have H9 : Hid (Below w.heap.size w w9) := HQ.out.1.bel.trans (hb9.mono HQ.out.1.bel.size)
                clear hb9
                go_wp2
                go_ret
                exact ⟨rfl, H9.out⟩
    · exact absurd HK.out hno
  · have HM1 : Hid (∀ _ : Unit, Calls Try.prog 15 #[.slice a N c] w1 fun e w' => e = .returned (.bool false) ∧ w' = w1) := fun _ => by
      have := HMAY.out w1 hb1
      have hf : isCode xs = false := by
        cases e : isCode xs with
        | false => rfl
        | true => exact absurd ((isCode_iff xs).1 e) hno
      rw [hf] at this
      exact this
    clear hno hb1 HC HT HMAY
    go_wp2_with (first
      | (go_at_call 15; refine (HM1.out ()).mono ?_; rintro e w2 ⟨rfl, hw⟩; obtain rfl := hw.symm)
      | (go_at_call 10; refine (awake _).mono ?_; rintro e w3 ⟨rfl, hb3⟩; have H3 : Hid (Below w.heap.size w w3) := HB1.out.trans (hb3.mono HB1.out.size); clear hb3))
    go_ret
    exact ⟨rfl, H3.out⟩
end Go.Proofs.Ytklipommocijaaa
