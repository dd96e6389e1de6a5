/- The best lengths: the function itself. -/
import Derived.Test.YtklipommocijaaaGj
namespace Go.Proofs.Ytklipommocijaaa
open Go.RowKit PT Go.Sort
set_option linter.unusedVariables false

def frq (fs : List Int) (s : Nat) : Nat := (fs.getD s 0).toNat
theorem Leaves.at {fs : List Int} {ss : List Nat} {l : List PT} (h : Leaves fs ss l) {t : PT} (ht : t ∈ l) : ∃ s ∈ ss, t.syms = [s] ∧ t.wt = frq fs s ∧ t.lf = true := by
  have : (t.syms, t.wt, t.lf) ∈ ss.map fun s => ([s], (fs.getD s 0).toNat, true) := by rw [← h]; exact List.mem_map_of_mem ht
  obtain ⟨s, hs, e⟩ := List.mem_map.1 this
  simp only [Prod.mk.injEq] at e
  exact ⟨s, hs, e.1.symm, e.2.1.symm, e.2.2.symm⟩
theorem Leaves.ok {fs : List Int} {n : Nat} {l : List PT} (h : Leaves fs (comes fs n) l) : OKL (frq fs) l := fun t ht => by
  obtain ⟨s, hs, e1, e2, _⟩ := h.at ht
  have hp := (comes_lt hs).2
  refine ⟨by rw [e1, e2]; simp, fun u hu => ?_, by rw [e1]; simp⟩
  rw [e1] at hu
  simp at hu
  subst hu
  unfold frq; omega
theorem wtL_bound {l : List PT} {B : Nat} (h : ∀ t ∈ l, t.wt ≤ B) : wtL l ≤ l.length * B := by
  induction l with
  | nil => simp [wtL]
  | cons t r ih =>
    have h1 := ih (fun u hu => h u (by simp [hu]))
    have h2 := h t (by simp)
    simp only [wtL, List.length_cons, Nat.add_mul, Nat.one_mul]; omega
theorem sum_len {F : Nat → Nat} : ∀ {l : List Nat}, (∀ s ∈ l, 0 < F s) → l.length ≤ (l.map F).sum
  | [], _ => by simp
  | t :: l, h => by
    have h1 := sum_len (F := F) (l := l) (fun s hs => h s (by simp [hs]))
    have h2 := h t (by simp)
    simp only [List.map_cons, List.sum_cons, List.length_cons]; omega
theorem cntL_le_wtL {F : Nat → Nat} {l : List PT} (h : OKL F l) (i : Nat) : cntL i l ≤ wtL l := by
  induction l with
  | nil => simp [cntL, wtL]
  | cons t r ih =>
    have h1 := ih (fun u hu => h u (by simp [hu]))
    have h2 := h t (by simp)
    have h3 : t.cnt i ≤ t.wt := by
      rw [h2.1]
      exact Nat.le_trans List.count_le_length (sum_len h2.2.1)
    simp only [cntL, wtL]; omega

structure SingF (W w2 : World) (L N : Nat) (fs : List Int) (ao : Option Addr) (M cp : Nat) (S l : List PT) : Prop where
  len : S.length = M
  row : M = 0 ∨ ∃ g, ao = some ⟨g, 0, none⟩ ∧ g < w2.heap.size ∧ M ≤ cp ∧ cp ≤ 9223372036854775807 ∧ PRow w2 g 0 S
  asc : Asc S
  leaves : Leaves fs (comes fs N) l
  perm : S.Perm l
  laid : ∀ t ∈ S, Laid w2 L N t
  bel : Below W.heap.size W w2
theorem SingEnd.form {W w2 : World} {L N : Nat} {fs : List Int} {e : Ending} (h : SingEnd W L N fs e w2) : ∃ ao M cp S l, e = .returned (.slice ao M cp) ∧ SingF W w2 L N fs ao M cp S l := by
  obtain ⟨v, S, rfl, hv, hasc, ⟨l, hlv, hpm⟩, hla, hbel⟩ := h
  rcases hv with ⟨rfl, rfl⟩ | ⟨g, cap, rfl, h1, h2, h3, h4⟩
  · exact ⟨none, 0, 0, [], l, rfl, rfl, .inl rfl, hasc, hlv, hpm, hla, hbel⟩
  · exact ⟨_, _, _, S, l, rfl, rfl, .inr ⟨g, rfl, h1, h2, h3, h4⟩, hasc, hlv, hpm, hla, hbel⟩
set_option maxRecDepth 20000 in
set_option maxHeartbeats 4000000 in
theorem lengths_ok (fs : List Int) (a : Option Addr) (c N : Nat) (most : Int) (w : World) (hN : fs.length = N) (hrow : IRow w a fs) (hlen : N ≤ 9223372036854775807) (hsort : N ≤ 288 → SortsTo (comes fs N).length) :
    Calls Try.prog 8 #[.slice a N c, .int .i64 most] w fun e w' => LensEnd w fs most e w' := by
  have HR : Hid (IRow w a fs) := hrow
  have HN : Hid (fs.length = N) := hN
  have HSO : Hid (N ≤ 288 → SortsTo (comes fs N).length) := hsort
  have HA : Hid (Calls Try.prog 27 #[.slice a N c] w fun e w' => e = .returned (.bool (okF fs)) ∧ w' = w) := areFreqs_ok fs a c N w hN hrow hlen
  clear hrow hN hsort
  have refuse : ¬ (fs.length ≤ 288 ∧ okF fs = true ∧ 1 ≤ most ∧ most ≤ 15 ∧ (comes fs fs.length).length ≤ 2 ^ most.toNat) → ∀ w', Below w.heap.size w w' → LensEnd w fs most (.returned (.tuple #[.slice none 0 0, .int .i64 1])) w' := fun h w' hb => .inr ⟨h, rfl, hb⟩
  have HRF : Hid _ := refuse
  clear refuse
  go_enter Try.func8, Try.ntmps8
  by_cases h1 : 288 < N
  · have h1i : (288 : Int) < (N : Int) := by omega
    go_wp2
    go_ret2
    exact HRF.out (by rw [HN.out]; omega) _ (Below.refl _ _)
  · have h1i : ¬ (288 : Int) < (N : Int) := by omega
    obtain ⟨q, hq⟩ : ∃ q, okF fs = q := ⟨_, rfl⟩
    have HQ : Hid (okF fs = q) := hq
    have HA2 : Hid (∀ _ : Unit, Calls Try.prog 27 #[.slice a N c] w fun e w' => e = .returned (.bool q) ∧ w' = w) := fun _ => by rw [← hq]; exact HA.out
    clear hq HA
    cases q with
    | false =>
      go_wp2_with (go_at_call 27; refine (HA2.out ()).mono ?_; rintro e w1 ⟨rfl, hw⟩; obtain rfl := hw.symm)
      go_ret2
      exact HRF.out (by rw [HQ.out]; simp) _ (Below.refl _ _)
    | true =>
      by_cases h2 : most < 1
      · go_wp2_with (go_at_call 27; refine (HA2.out ()).mono ?_; rintro e w1 ⟨rfl, hw⟩; obtain rfl := hw.symm)
        go_ret2
        exact HRF.out (by omega) _ (Below.refl _ _)
      · by_cases h3 : 15 < most
        · go_wp2_with (go_at_call 27; refine (HA2.out ()).mono ?_; rintro e w1 ⟨rfl, hw⟩; obtain rfl := hw.symm)
          go_ret2
          exact HRF.out (by omega) _ (Below.refl _ _)
        · obtain ⟨mo, hmo⟩ : ∃ mo : Nat, most = (mo : Int) := ⟨most.toNat, by omega⟩
          subst hmo
          have hm1 : 1 ≤ mo := by omega
          have hm2 : mo ≤ 15 := by omega
          obtain ⟨i0, hi, hz0, hz1, hz2⟩ := info_split intInfo
          have HI : Hid (Try.prog.info? 3 = some i0 ∧ i0.zero = some (.int .i64 0) ∧ i0.size = 1 ∧ i0.bytes = 8) := ⟨hi, hz0, hz1, hz2⟩
          have HSI : Hid (∀ W, W = w.alloc (.cells (madeCells #[.int .i64 0] N) 3) → Calls Try.prog 28 #[.slice a N c, .slice (some ⟨w.heap.size, 0, none⟩) N N] W fun e w' => SingEnd W w.heap.size N fs e w') := by
            rintro W rfl
            have hal : Below w.heap.size w (w.alloc (.cells (madeCells #[.int .i64 0] N) 3)) := (Below.refl _ _).alloc (Nat.le_refl _) _
            exact singlePacks_ok fs a c w.heap.size N _ HN.out (HR.out.below hal) (by simp) (okF_get HQ.out) (by omega) (HSO.out (by omega))
          clear hi hz0 hz1 hz2
          obtain ⟨mk, hmk⟩ : ∃ W, w.alloc (.cells (madeCells #[.int .i64 0] N) 3) = W := ⟨_, rfl⟩
          have HMK : Hid (w.alloc (.cells (madeCells #[.int .i64 0] N) 3) = mk) := hmk
          clear hmk
          go_wp2_with (first
            | (go_at_call 27; refine (HA2.out ()).mono ?_; rintro e w1 ⟨rfl, hw⟩; obtain rfl := hw.symm)
            | (at_make; refine wpList_make_row _ rfl _ _ 22 rfl 3 i0 (.int .i64 0) Try.underlying22 HI.out.1 HI.out.2.1 HI.out.2.2.1 rfl .i64 .i64 N rfl rfl (by rw [HI.out.2.2.2]; omega) (by omega) ?_; rw [HMK.out]))
          refine (HSI.out _ HMK.out.symm).mono ?_
          intro e w2 hE
          obtain ⟨ao, M, cp, S, l, rfl, hSF⟩ := hE.form
          have HSF : Hid (SingF mk w2 w.heap.size N fs ao M cp S l) := hSF
          have hsz : mk.heap.size = w.heap.size + 1 := by rw [← HMK.out]; simp
          have hbm : Below w.heap.size w mk := by rw [← HMK.out]; exact (Below.refl _ _).alloc (Nat.le_refl _) _
          have HB2 : Hid (Below w.heap.size w w2) := hbm.trans (hSF.bel.mono hbm.size)
          have HLB : Hid (LB w2 w.heap.size N (fun _ => 0)) := by
            have : LB mk w.heap.size N (fun _ => 0) := by rw [← HMK.out]; exact made_zero w N
            exact this.below hSF.bel
          have hMc : (comes fs N).length = M := by rw [← hSF.leaves.length, ← hSF.perm.length_eq, hSF.len]
          have hM288 : M ≤ 288 := by rw [← hMc]; exact Nat.le_trans (comes_length_le fs N) (by omega)
          have HMC : Hid ((comes fs N).length = M) := hMc
          obtain ⟨T, hT⟩ : ∃ T, 2 ^ mo = T := ⟨_, rfl⟩
          have hTb : T ≤ 32768 := by
            rw [← hT, show 32768 = 2 ^ 15 from rfl]
            exact Nat.pow_le_pow_right (by omega) hm2
          have hsh : wrap64 ((2 : Int) ^ mo) = (T : Int) := by
            rw [← hT]
            have e : ((2 : Int) ^ mo) = ((2 ^ mo : Nat) : Int) := by simp
            rw [e]
            unfold wrap64
            rw [hT]
            omega
          have HTT : Hid (2 ^ mo = T) := hT
          have HWT : Hid (wtL S ≤ 316659348799488) := by
            show _ ≤ _
            rw [wtL_perm hSF.perm]
            refine Nat.le_trans (wtL_bound (B := 1099511627776) (fun t ht => ?_)) ?_
            · obtain ⟨s, hs, _, e, _⟩ := hSF.leaves.at ht
              have := (okF_get HQ.out s).2
              rw [e]; unfold frq; omega
            · rw [← hSF.perm.length_eq, hSF.len]; omega
          have HOK : Hid (OKL (frq fs) S) := fun t ht => hSF.leaves.ok t (hSF.perm.mem_iff.1 ht)
          clear hSF hE hMc hT hsz hbm
          by_cases hgt : T < M
          · have hgti : (T : Int) < (M : Int) := by omega
            go_wp2
            go_ret2
            refine HRF.out ?_ _ HB2.out
            rw [HN.out, HMC.out]
            rintro ⟨_, _, _, _, h⟩
            rw [show ((mo : Int).toNat) = mo by simp, HTT.out] at h
            omega
          · have hgti : ¬ (T : Int) < (M : Int) := by omega
            by_cases hone : 1 < M
            · have honei : (1 : Int) < (M : Int) := by omega
              obtain ⟨g, hao, hg, hcp, hcm, hrw⟩ : ∃ g, ao = some ⟨g, 0, none⟩ ∧ g < w2.heap.size ∧ M ≤ cp ∧ cp ≤ 9223372036854775807 ∧ PRow w2 g 0 S := by
                rcases HSF.out.row with h | h
                · omega
                · exact h
              subst hao
              have hbp := fun _ : Unit => bestPacks_ok S w.heap.size N g 0 cp mo w2 hrw HSF.out.laid (by have := HB2.out.size; have := HSF.out.bel.size; have := lt_heap HLB.out; omega) hg (by rw [HSF.out.len]; exact hcp) hcm (by rw [HSF.out.len]; omega) (by rw [HSF.out.len]; exact hM288) HWT.out hm1 hm2 (by rw [HSF.out.len, HTT.out]; omega)
              rw [HSF.out.len] at hbp
              have HBP : Hid _ := hbp
              clear hbp hrw
              go_wp2_with fail
              refine (HBP.out ()).mono ?_
              rintro e w3 ⟨r, g3, o3, c3, rfl, hlev, hrl, hrow3, hlaid3, hbel3⟩
              rw [HSF.out.len] at hrl ⊢
              obtain ⟨K, hK⟩ : ∃ K, 2 * M - 2 = K := ⟨_, rfl⟩
              rw [hK] at hrl ⊢
              have hKb : K ≤ 600 := by omega
              have HK : Hid (2 * M - 2 = K) := hK
              have HLV : Hid (Lev S (mo - 1) r ∧ K ≤ r.length) := ⟨hlev, hrl⟩
              have HCB : Hid (∀ i, cntL i r < 4611686018427387904) := fun i => by
                have h1 := cntL_le_wtL (Lev.ok HOK.out hlev) i
                have h2 := hlev.wt
                have h3 : (mo - 1 + 1) * wtL S ≤ 15 * wtL S := Nat.mul_le_mul_right _ (by omega)
                have := HWT.out
                omega
              have H3 : Hid (LenSt w w3 w.heap.size N g3 o3 r 0) := ⟨(HLB.out.below hbel3).congr (fun i _ => by simp [cntL]), hrow3, hlaid3, HB2.out.trans (hbel3.mono HB2.out.size), Nat.le_refl _⟩
              clear hlev hrl hrow3 hlaid3 hbel3 hK
              go_wp2
              go_loopw [9, 45] (fun _ v45 wr => ∃ j : Nat, v45 = .int .i64 j ∧ j ≤ K ∧ Hid (LenSt w wr w.heap.size N g3 o3 r j)) (fun _ v45 _ => K - (intOf v45).toNat)
              case atStart => exact ⟨0, rfl, by omega, H3⟩
              case round =>
                obtain ⟨j, rfl, hj, HS⟩ := hrel
                by_cases hlt : j < K
                · have hlti : (j : Int) < (K : Int) := by omega
                  obtain ⟨t, ht⟩ : ∃ t, r[j]? = some t := ⟨_, List.getElem?_eq_getElem (by have := HLV.out.2; omega)⟩
                  obtain ⟨k1, k2⟩ := HS.out.row j t ht
                  have hst : Hid (∀ ob, Calls Try.prog t.fn t.cap (wr.alloc ob) fun e w' => e = .returned (.tuple #[]) ∧ LenSt w w' w.heap.size N g3 o3 r (j + 1)) := fun ob => HS.out.step (w' := w) ht HCB.out
                  unfold PT.fv at k2
                  obtain ⟨kf, hkf⟩ : ∃ k, t.fn = k := ⟨_, rfl⟩
                  obtain ⟨kc, hkc⟩ : ∃ k, t.cap = k := ⟨_, rfl⟩
                  obtain ⟨kw, hkw⟩ : ∃ k, t.wt = k := ⟨_, rfl⟩
                  have hk2 : kf = 43 ∨ kf = 56 := by rw [← hkf]; unfold PT.fn; split <;> simp
                  rw [hkf, hkc] at k2 hst
                  rw [hkw] at k1
                  clear hkf hkc hkw ht
                  rcases hk2 with rfl | rfl
                  all_goals
                    go_wp2_with fail
                    refine (hst.out _).mono ?_
                    rintro e w4 ⟨rfl, h4⟩
                    have H4 : Hid (LenSt w w4 w.heap.size N g3 o3 r (j + 1)) := h4
                    clear h4
                    go_wp2
                    exact ⟨⟨j + 1, by go_num, by omega, H4⟩, by simp [intOf]; omega⟩
                · obtain rfl : j = K := by omega
                  go_wp2
                  go_ret2
                  refine .inl ⟨by rw [HN.out]; omega, HQ.out, by omega, by omega, ?_, ?_⟩
                  · rw [HN.out, HMC.out, show ((mo : Int).toNat) = mo by simp, HTT.out]; omega
                  · refine ⟨w.heap.size, _, S, l, by rw [HN.out]; rfl, by rw [HN.out]; exact HS.out.lb, Nat.le_refl _, HS.out.bel, HSF.out.asc, by rw [HN.out]; exact HSF.out.leaves, HSF.out.perm, .inr ⟨by rw [HSF.out.len]; omega, r, by rw [show ((mo : Int).toNat) = mo by simp]; exact HLV.out.1, by rw [HSF.out.len, HK.out]; exact HLV.out.2, by rw [HSF.out.len, HK.out]⟩⟩
            · have honei : ¬ (1 : Int) < (M : Int) := by omega
              obtain ⟨g3, hgr, hrw⟩ : ∃ g, (M = 0 ∨ ao = some ⟨g, 0, none⟩) ∧ PRow w2 g 0 S := by
                rcases HSF.out.row with h | ⟨g, h1, _, _, _, h5⟩
                · refine ⟨0, .inl h, ?_⟩
                  rw [List.eq_nil_of_length_eq_zero (HSF.out.len.trans h)]
                  intro i t ht; simp at ht
                · exact ⟨g, .inr h1, h5⟩
              have HCB : Hid (∀ i, cntL i S < 4611686018427387904) := fun i => by
                have h1 := cntL_le_wtL HOK.out i
                have := HWT.out
                omega
              have H3 : Hid (LenSt w w2 w.heap.size N g3 0 S 0) := ⟨HLB.out.congr (fun i _ => by simp [cntL]), hrw, HSF.out.laid, HB2.out, Nat.le_refl _⟩
              clear hrw
              rcases hgr with hM0 | hao
              · go_wp2
                go_loopw [9, 45] (fun _ v45 wr => ∃ j : Nat, v45 = .int .i64 j ∧ j ≤ M ∧ Hid (LenSt w wr w.heap.size N g3 0 S j)) (fun _ v45 _ => M - (intOf v45).toNat)
                case atStart => exact ⟨0, rfl, by omega, H3⟩
                case round =>
                  obtain ⟨j, rfl, hj, HS⟩ := hrel
                  by_cases hlt : j < M
                  · omega
                  · obtain rfl : j = M := by omega
                    go_wp2
                    go_ret2
                    refine .inl ⟨by rw [HN.out]; omega, HQ.out, by omega, by omega, ?_, ?_⟩
                    · rw [HN.out, HMC.out, show ((mo : Int).toNat) = mo by simp, HTT.out]; omega
                    · refine ⟨w.heap.size, _, S, l, by rw [HN.out]; rfl, by rw [HN.out]; exact HS.out.lb, Nat.le_refl _, HS.out.bel, HSF.out.asc, by rw [HN.out]; exact HSF.out.leaves, HSF.out.perm, .inl ⟨by rw [HSF.out.len]; omega, ?_⟩⟩
                      rw [List.take_of_length_le (by rw [HSF.out.len]; exact Nat.le_refl _)]
              · subst hao
                rcases Nat.eq_zero_or_pos M with hM0 | hM0
                · subst hM0
                  have H4 := H3
                  go_wp2
                  refine wp_loop_rounds 1 ?_
                  rw [rounds_succ]
                  go_wp2
                  go_ret2
                  refine .inl ⟨by rw [HN.out]; omega, HQ.out, by omega, by omega, ?_, ?_⟩
                  · rw [HN.out, HMC.out, show ((mo : Int).toNat) = mo by simp, HTT.out]; omega
                  · refine ⟨w.heap.size, _, S, l, by rw [HN.out]; rfl, by rw [HN.out]; exact H4.out.lb, Nat.le_refl _, H4.out.bel, HSF.out.asc, by rw [HN.out]; exact HSF.out.leaves, HSF.out.perm, .inl ⟨by rw [HSF.out.len]; omega, ?_⟩⟩
                    rw [List.take_of_length_le (by rw [HSF.out.len]; exact Nat.le_refl _)]
                obtain rfl : M = 1 := by omega
                obtain ⟨t, ht⟩ : ∃ t, S[0]? = some t := ⟨_, List.getElem?_eq_getElem (by have := HSF.out.len; omega)⟩
                obtain ⟨k1, k2⟩ := H3.out.row 0 t ht
                have hst : Hid (∀ ob, Calls Try.prog t.fn t.cap (w2.alloc ob) fun e w' => e = .returned (.tuple #[]) ∧ LenSt w w' w.heap.size N g3 0 S 1) := fun ob => H3.out.step (w' := w) ht HCB.out
                unfold PT.fv at k2
                obtain ⟨kf, hkf⟩ : ∃ k, t.fn = k := ⟨_, rfl⟩
                obtain ⟨kc, hkc⟩ : ∃ k, t.cap = k := ⟨_, rfl⟩
                obtain ⟨kw, hkw⟩ : ∃ k, t.wt = k := ⟨_, rfl⟩
                have hk2 : kf = 43 ∨ kf = 56 := by rw [← hkf]; unfold PT.fn; split <;> simp
                rw [hkf, hkc] at k2 hst
                rw [hkw] at k1
                have k1 : w2.cell? ⟨g3, 0, none⟩ = some (.int .i64 (kw : Nat)) := k1
                have k2 : w2.cell? ⟨g3, 1, none⟩ = some (.func (.func kf) #[] kc) := k2
                clear hkf hkc hkw ht
                go_wp2
                refine wp_loop_rounds 2 ?_
                rw [rounds_succ]
                rcases hk2 with rfl | rfl
                all_goals
                  go_wp2_with fail
                  refine (hst.out _).mono ?_
                  rintro e w4 ⟨rfl, h4⟩
                  have H4 : Hid (LenSt w w4 w.heap.size N g3 0 S 1) := h4
                  clear h4
                  go_wp2
                  rw [rounds_succ]
                  go_wp2
                  go_ret2
                  refine .inl ⟨by rw [HN.out]; omega, HQ.out, by omega, by omega, ?_, ?_⟩
                  · rw [HN.out, HMC.out, show ((mo : Int).toNat) = mo by simp, HTT.out]; omega
                  · refine ⟨w.heap.size, _, S, l, by rw [HN.out]; rfl, by rw [HN.out]; exact H4.out.lb, Nat.le_refl _, H4.out.bel, HSF.out.asc, by rw [HN.out]; exact HSF.out.leaves, HSF.out.perm, .inl ⟨by rw [HSF.out.len]; omega, ?_⟩⟩
                    rw [List.take_of_length_le (by rw [HSF.out.len]; exact Nat.le_refl _)]
end Go.Proofs.Ytklipommocijaaa
