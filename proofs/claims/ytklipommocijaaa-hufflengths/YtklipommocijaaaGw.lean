/- The document's cost and words. -/
import Derived.Test.YtklipommocijaaaGv
import Derived.Test.YtklipommocijaaaGo1
namespace Go.Proofs.Ytklipommocijaaa
open Go.RowKit
set_option linter.unusedVariables false

theorem below_dr {B : Nat} {w w' : World} (h : Below B w w') (k : Nat) : Below B w (w'.drewN k) := ⟨h.os, h.tape, h.output, h.size, h.block⟩
set_option maxRecDepth 20000 in
set_option maxHeartbeats 4000000 in
theorem refCost_ok (fs xs : List Int) (a b : Option Addr) (c d N M : Nat) (w : World) (hN : fs.length = N) (hM : xs.length = M) (ha : IRow w a fs) (hb : IRow w b xs) (hlen : N ≤ 9223372036854775807) (hlen2 : M ≤ 9223372036854775807) :
    Calls Try.prog 11 #[.slice a N c, .slice b M d] w fun e w' => e = .returned (.tuple #[.int .i64 (costR fs xs).1, .int .i64 (costR fs xs).2]) ∧ Below w.heap.size w w' := by
  have HA : Hid (IRow w a fs) := ha
  have HB : Hid (IRow w b xs) := hb
  have HN : Hid (fs.length = N ∧ xs.length = M) := ⟨hN, hM⟩
  have HM : Hid (∀ _ : Unit, Calls Try.prog 15 #[.slice b M d] w fun e w' => e = .returned (.bool (isCode xs)) ∧ w' = w) := fun _ => may_ok xs b d M w hM hb hlen2
  clear ha hb hN hM
  obtain ⟨R, hR⟩ : ∃ R, costR fs xs = R := ⟨_, rfl⟩
  have HRR : Hid (costR fs xs = R) := hR
  rw [hR]
  clear hR
  go_enter Try.func11, Try.ntmps11
  by_cases hne : N = M
  · subst hne
    go_wp2
    go_loop [6] (fun v6 => ∃ (j : Nat), v6 = .int .i64 j ∧ j ≤ N ∧ Hid (okF (fs.take j) = true)) (fun v6 => N - (intOf v6).toNat)
    case atStart => exact ⟨0, rfl, by omega, rfl⟩
    case round =>
      obtain ⟨j, rfl, hj, HS⟩ := hrel
      by_cases hlt : j < N
      · have hlti : (j : Int) < (N : Int) := by omega
        obtain ⟨b1, o1, rfl, c1, _⟩ := HA.out.at (show j < fs.length by rw [HN.out.1]; exact hlt)
        obtain ⟨F, hF⟩ : ∃ F, fs.getD j 0 = F := ⟨_, rfl⟩
        have hstep := getD_take_all (fs := fs) (show j < fs.length by rw [HN.out.1]; exact hlt)
        rw [hF] at c1 hstep
        have HT : Hid _ := hstep
        have hbad : ¬ (0 ≤ F ∧ F ≤ 1099511627776) → Hid (R = (0, 1)) := fun h => by
          show _ = _
          rw [← HRR.out]
          refine costR_arg (fun hc => h ?_)
          have := okF_get hc.2 j
          rw [hF] at this
          exact this
        clear hstep hF
        by_cases h0 : F < 0
        · have HR1 := hbad (by omega)
          clear hbad
          go_wp2
          go_ret2
          exact ⟨by rw [HR1.out]; rfl, Below.refl _ _⟩
        · by_cases h1 : 1099511627776 < F
          · have HR1 := hbad (by omega)
            clear hbad
            go_wp2
            go_ret2
            exact ⟨by rw [HR1.out]; rfl, Below.refl _ _⟩
          · have H2 : Hid (okF (fs.take (j + 1)) = true) := by
              show _ = _
              have := HS.out
              unfold okF at this ⊢
              rw [HT.out, this]
              simp; omega
            clear hbad
            go_wp2
            exact ⟨⟨j + 1, by go_num, by omega, H2⟩, by simp [intOf]; omega⟩
      · obtain rfl : j = N := by omega
        have hall : okF fs = true := by
          have := HS.out
          rw [List.take_of_length_le (by rw [HN.out.1]; exact Nat.le_refl _)] at this
          exact this
        have HQ : Hid (okF fs = true) := hall
        have HBO : Hid (fs.length = xs.length ∧ okF fs = true) := ⟨by rw [HN.out.1, HN.out.2], hall⟩
        obtain ⟨q, hq⟩ : ∃ q, isCode xs = q := ⟨_, rfl⟩
        have HCD : Hid (isCode xs = q) := hq
        have HM2 : Hid (∀ _ : Unit, Calls Try.prog 15 #[.slice b j d] w fun e w' => e = .returned (.bool q) ∧ w' = w) := fun _ => by rw [← hq]; exact HM.out ()
        clear hall hq HM
        cases q with
        | false =>
          have HR1 : Hid (R = (0, 30)) := by
            show _ = _
            rw [← HRR.out, costR_code HBO.out HCD.out]
          go_wp2_with (go_at_call 15; refine (HM2.out ()).mono ?_; rintro e w1 ⟨rfl, hw⟩; obtain rfl := hw.symm)
          go_ret2
          exact ⟨by rw [HR1.out]; rfl, Below.refl _ _⟩
        | true =>
          have hN288 : j ≤ 288 := by rw [← HN.out.2]; exact may_len ((isCode_iff xs).1 HCD.out).1
          go_wp2_with (go_at_call 15; refine (HM2.out ()).mono ?_; rintro e w1 ⟨rfl, hw⟩; obtain rfl := hw.symm)
          go_loopw [7, 8] (fun v7 v8 wr => ∃ (i : Nat) (S m : Nat), v8 = .int .i64 i ∧ i ≤ j ∧ v7 = .int .i64 (S : Int) ∧ wr = w.drewN m ∧ Hid (S = costTo fs xs i ∧ lacks fs xs i = false)) (fun _ v8 _ => j - (intOf v8).toNat)
          case atStart => exact ⟨0, 0, 0, rfl, by omega, rfl, rfl, rfl, rfl⟩
          case round =>
            obtain ⟨i, S, m, rfl, hi, rfl, hwr, HS2⟩ := hrel
            have hm := ((isCode_iff xs).1 HCD.out).1
            have hSb : S ≤ 4749890231992320 := by rw [HS2.out.1]; exact Nat.le_trans (costTo_bound HQ.out hm i) (by omega)
            have HW : Hid (wr = w.drewN m) := hwr
            have HBW : Hid (Below w.heap.size w wr) := by show Below _ _ _; rw [hwr]; exact below_dr (Below.refl _ _) m
            by_cases hlt2 : i < j
            · have hlti : (i : Int) < (j : Int) := by omega
              obtain ⟨b1, o1, rfl, c1, _⟩ := (HA.out.below HBW.out).at (show i < fs.length by rw [HN.out.1]; exact hlt2)
              obtain ⟨b2, o2, rfl, c2, _⟩ := (HB.out.below HBW.out).at (show i < xs.length by rw [HN.out.2]; exact hlt2)
              obtain ⟨F, hF⟩ : ∃ F : Nat, fs.getD i 0 = (F : Int) := ⟨(fs.getD i 0).toNat, by have := (okF_get HQ.out i).1; omega⟩
              obtain ⟨l, hl⟩ : ∃ l : Nat, xs.getD i 0 = (l : Int) := ⟨(xs.getD i 0).toNat, by have := (may_get hm i).1; omega⟩
              have hFb : F ≤ 1099511627776 := by have := (okF_get HQ.out i).2; omega
              have hlb : l ≤ 15 := by have := (may_get hm i).2; omega
              have hmul : F * l ≤ 16492674416640 := Nat.mul_le_mul hFb hlb
              obtain ⟨T, hT⟩ : ∃ T, F * l = T := ⟨_, rfl⟩
              have hTi : (F : Int) * (l : Int) = (T : Int) := by rw [← hT]; simp
              have HX : Hid (S + T = costTo fs xs (i + 1) ∧ lacks fs xs (i + 1) = (decide (0 < F) && decide (l = 0))) := by
                refine ⟨?_, ?_⟩
                · simp only [costTo, frq]
                  rw [hF, hl, ← HS2.out.1, ← hT]; simp
                · simp only [lacks]
                  rw [hF, hl, HS2.out.2]
                  simp
              have HJ : Hid (i + 1 ≤ fs.length) := by show _ ≤ _; rw [HN.out.1]; exact hlt2
              rw [hF] at c1
              rw [hl] at c2
              rw [hT] at hmul
              have w1' : IntKind.i64.wrap ((F : Int) * (l : Int)) = (T : Int) := by rw [hTi, IntKind.wrap_i64]; omega
              have w2' : IntKind.i64.wrap ((S : Int) + (T : Int)) = (S : Int) + (T : Int) := by rw [IntKind.wrap_i64]; omega
              clear hF hl hT hm hwr
              by_cases hp : 0 < F
              · have hpi : (0 : Int) < (F : Int) := by omega
                by_cases hl0 : l = 0
                · subst hl0
                  have HR1 : Hid (R = (0, 30)) := by
                    show _ = _
                    rw [← HRR.out]
                    refine costR_lack HBO.out HCD.out (lacks_mono ?_ HJ.out)
                    rw [HX.out.2, decide_eq_true hp]; rfl
                  go_wp2
                  go_ret2
                  exact ⟨by rw [HR1.out]; rfl, HBW.out⟩
                · have hl0i : ¬ (l : Int) = 0 := by omega
                  have hl0b : ((l : Int) == 0) = false := by simpa using hl0
                  have H2 : Hid (S + T = costTo fs xs (i + 1) ∧ lacks fs xs (i + 1) = false) := ⟨HX.out.1, by rw [HX.out.2, decide_eq_false hl0]; simp⟩
                  go_wp2_with fail
                  go_region
                  all_goals
                    go_wp2
                    exact ⟨⟨i + 1, S + T, m + 1, by go_num, by omega, by go_num, by rw [HW.out]; rfl, H2⟩, by simp [intOf]; omega⟩
              · have hpi : ¬ (0 : Int) < (F : Int) := by omega
                have H2 : Hid (S + T = costTo fs xs (i + 1) ∧ lacks fs xs (i + 1) = false) := ⟨HX.out.1, by rw [HX.out.2, decide_eq_false hp]; rfl⟩
                go_wp2_with fail
                go_region
                all_goals
                  go_wp2
                  exact ⟨⟨i + 1, S + T, m + 1, by go_num, by omega, by go_num, by rw [HW.out]; rfl, H2⟩, by simp [intOf]; omega⟩
            · obtain rfl : i = j := by omega
              have HR1 : Hid (R = ((S : Int), 0)) := by
                show _ = _
                rw [← HRR.out, costR_ok HBO.out HCD.out (by rw [HN.out.1]; exact HS2.out.2), HN.out.1, ← HS2.out.1]
              clear hm hwr
              go_wp2
              go_ret2
              exact ⟨by rw [HR1.out]; rfl, HBW.out⟩
  · have hni : ¬ (N : Int) = (M : Int) := by omega
    have hnb : ((N : Int) != (M : Int)) = true := by simpa using hni
    have HR1 : Hid (R = (0, 1)) := by
      show _ = _
      rw [← HRR.out, costR_arg (by rw [HN.out.1, HN.out.2]; simp [hne])]
    go_wp2
    go_ret2
    exact ⟨by rw [HR1.out]; rfl, Below.refl _ _⟩

/-- The document's words: those of lengths below l, and of l up to i. -/
def rw1 (ns : List Nat) (l i s : Nat) : Nat := if ns.getD s 0 = 0 then 0 else if ns.getD s 0 < l ∨ (ns.getD s 0 = l ∧ s < i) then codeW ns s else 0
theorem rw1_step (ns : List Nat) (N l i : Nat) (hl : 1 ≤ l) (hg : ns.getD i 0 = l) : (lcells N (rw1 ns l i)).setIfInBounds i (.int .i64 ((fstW ns l + lcnt ns l i : Nat) : Int)) = lcells N (rw1 ns l (i + 1)) := by
  rw [lcells_set]
  refine lcells_congr (fun s _ => ?_)
  unfold rw1
  by_cases e : s = i
  · subst e
    rw [if_pos rfl, if_neg (by omega), if_pos (by omega)]
    unfold codeW; rw [hg]
  · rw [if_neg e]
    by_cases e0 : ns.getD s 0 = 0
    · rw [if_pos e0, if_pos e0]
    · rw [if_neg e0, if_neg e0]
      by_cases e2 : ns.getD s 0 < l ∨ (ns.getD s 0 = l ∧ s < i)
      · rw [if_pos e2, if_pos (by omega)]
      · rw [if_neg e2, if_neg (by omega)]
theorem rw1_skip (ns : List Nat) (N l i : Nat) (hg : ns.getD i 0 ≠ l) : lcells N (rw1 ns l i) = lcells N (rw1 ns l (i + 1)) := lcells_congr (fun s _ => by
  unfold rw1
  by_cases e0 : ns.getD s 0 = 0
  · rw [if_pos e0, if_pos e0]
  · rw [if_neg e0, if_neg e0]
    by_cases e2 : ns.getD s 0 < l ∨ (ns.getD s 0 = l ∧ s < i)
    · rw [if_pos e2, if_pos (by omega)]
    · rw [if_neg e2, if_neg (by
        intro h
        rcases h with h | ⟨h1, h2⟩
        · exact e2 (.inl h)
        · rcases Nat.lt_or_ge s i with h3 | h3
          · exact e2 (.inr ⟨h1, h3⟩)
          · have : s = i := by omega
            subst this; exact hg h1)])
theorem rw1_next (ns : List Nat) (l : Nat) : lcells ns.length (rw1 ns l ns.length) = lcells ns.length (rw1 ns (l + 1) 0) := lcells_congr (fun s hs => by
  unfold rw1
  by_cases e0 : ns.getD s 0 = 0
  · rw [if_pos e0, if_pos e0]
  · rw [if_neg e0, if_neg e0]
    by_cases e2 : ns.getD s 0 < l ∨ (ns.getD s 0 = l ∧ s < ns.length)
    · rw [if_pos e2, if_pos (by omega)]
    · rw [if_neg e2, if_neg (by omega)])
theorem rw1_start (ns : List Nat) (N : Nat) : lcells N (rw1 ns 1 0) = lcells N (fun _ => 0) := lcells_congr (fun s _ => by
  unfold rw1
  split
  · rfl
  · rw [if_neg (by omega)])
theorem rw1_end (ns : List Nat) (N : Nat) (h : ∀ i, ns.getD i 0 ≤ 15) : lcells N (rw1 ns 16 0) = lcells N (cw ns) := lcells_congr (fun s _ => by
  unfold rw1 cw
  by_cases e0 : ns.getD s 0 = 0
  · rw [if_pos e0, if_pos e0]
  · rw [if_neg e0, if_neg e0, if_pos (by have := h s; omega)])

set_option maxRecDepth 20000 in
set_option maxHeartbeats 4000000 in
theorem refCodes_ok (xs : List Int) (a : Option Addr) (c N : Nat) (w : World) (hN : xs.length = N) (hrow : IRow w a xs) (hlen : N ≤ 9223372036854775807) :
    Calls Try.prog 16 #[.slice a N c] w fun e w' => CodesEnd w xs e w' := by
  have HR : Hid (IRow w a xs) := hrow
  have HN : Hid (xs.length = N) := hN
  obtain ⟨q, hq⟩ : ∃ q, isCode xs = q := ⟨_, rfl⟩
  have hiff := isCode_iff xs
  rw [hq] at hiff
  have HM : Hid (∀ _ : Unit, Calls Try.prog 15 #[.slice a N c] w fun e w' => e = .returned (.bool q) ∧ w' = w) := fun _ => by rw [← hq]; exact may_ok xs a c N w hN hrow hlen
  have HIF : Hid (q = true ↔ (may xs = true ∧ ew (nsOf xs) 15 ≤ 32768)) := hiff
  clear hrow hN hq hiff
  go_enter Try.func16, Try.ntmps16
  cases q with
  | false =>
    go_wp2_with (go_at_call 15; refine (HM.out ()).mono ?_; rintro e w1 ⟨rfl, hw⟩; obtain rfl := hw.symm)
    go_ret2
    exact ⟨.inr ⟨(fun h => by have := HIF.out.2 h; cases this), rfl⟩, Below.refl _ _⟩
  | true =>
    have hMM := HIF.out.1 rfl
    have HOK : Hid (may xs = true ∧ ew (nsOf xs) 15 ≤ 32768) := hMM
    have hN288 : N ≤ 288 := by rw [← HN.out]; exact may_len hMM.1
    have HSM : Hid (∀ i l, i ≤ 288 → l ≤ 15 → nxt (nsOf xs) i l ≤ 18874656) := fun i l hi hl => nxt_small _ (by rw [nsOf_length, HN.out]; exact hN288) i l hi hl
    have H15 : Hid (∀ i, (nsOf xs).getD i 0 ≤ 15) := fun i => by rw [nsOf_get]; have := may_get hMM.1 i; omega
    obtain ⟨i0, hi, hz0, hz1, hz2⟩ := info_split intInfo
    have HI : Hid (Try.prog.info? 3 = some i0 ∧ i0.zero = some (.int .i64 0) ∧ i0.size = 1 ∧ i0.bytes = 8) := ⟨hi, hz0, hz1, hz2⟩
    have HMK := made_lcells N
    clear hi hz0 hz1 hz2 hMM
    go_wp2_with (first
      | (go_at_call 15; refine (HM.out ()).mono ?_; rintro e w1 ⟨rfl, hw⟩; obtain rfl := hw.symm)
      | (at_make; refine wpList_make_row _ rfl _ _ 22 rfl 3 i0 (.int .i64 0) Try.underlying22 HI.out.1 HI.out.2.1 HI.out.2.2.1 rfl .i64 .i64 N rfl rfl (by rw [HI.out.2.2.2]; omega) (by omega) ?_; rw [HMK]))
    go_loopw [5, 6, 7] (fun v5 v6 _ wr => ∃ (l E : Nat), v6 = .int .i64 l ∧ 1 ≤ l ∧ l ≤ 16 ∧ v5 = .int .i64 (E : Int) ∧ wr = w.alloc (.cells (lcells N (rw1 (nsOf xs) l 0)) 3) ∧ Hid (E = ew (nsOf xs) (l - 1))) (fun _ v6 _ _ => 17 - (intOf v6).toNat)
    case atStart => exact ⟨1, 0, rfl, by omega, by omega, rfl, by rw [rw1_start], rfl⟩
    case round =>
      obtain ⟨l, E, rfl, hl1, hl2, rfl, rfl, HE⟩ := hrel
      by_cases hll : l ≤ 15
      · have hlli : (l : Int) ≤ 15 := by omega
        have hEb : E ≤ 9437184 := by
          rw [HE.out]
          exact ew_small _ (by rw [nsOf_length, HN.out]; exact hN288) _ (by omega)
        have hfw : Hid (2 * E = fstW (nsOf xs) l) := by show _ = _; rw [fstW_ew _ _ hl1, HE.out]
        go_wp2
        go_loopw [5, 7] (fun v5 v7 wr => ∃ (i V : Nat), v7 = .int .i64 i ∧ i ≤ N ∧ v5 = .int .i64 (V : Int) ∧ wr = w.alloc (.cells (lcells N (rw1 (nsOf xs) l i)) 3) ∧ Hid (V = fstW (nsOf xs) l + lcnt (nsOf xs) l i)) (fun _ v7 _ => N - (intOf v7).toNat)
        case atStart => exact ⟨0, 2 * E, rfl, by omega, by go_num, rfl, by show _ = _; rw [hfw.out]; rfl⟩
        case round =>
          obtain ⟨i, V, rfl, hi, rfl, rfl, HV⟩ := hrel
          have hVb : V ≤ 18874656 := by
            have := HSM.out i l (by omega) hll
            unfold nxt at this
            rw [if_neg (by omega)] at this
            rw [HV.out]; exact this
          by_cases hlt : i < N
          · have hlti : (i : Int) < (N : Int) := by omega
            obtain ⟨b, off, rfl, hcell, hb⟩ := HR.out.at (show i < xs.length by rw [HN.out]; exact hlt)
            obtain ⟨f, hf⟩ : ∃ f : Nat, xs.getD i 0 = (f : Int) := ⟨(xs.getD i 0).toNat, by have := (may_get HOK.out.1 i).1; omega⟩
            have hfn : (nsOf xs).getD i 0 = f := by rw [nsOf_get, hf]; simp
            rw [hf] at hcell
            have hcell2 : ∀ o1, (w.alloc o1).cell? ⟨b, off + i, none⟩ = some (.int .i64 (f : Int)) := fun o1 => by rw [World.cell?_alloc_past _ _ _ hb]; exact hcell
            have HFN : Hid ((nsOf xs).getD i 0 = f) := hfn
            clear hcell hf hfn hb
            by_cases he : f = l
            · subst he
              have hCg := lcells_get N (rw1 (nsOf xs) f i) i hlt
              have hs := rw1_step (nsOf xs) N f i hl1 HFN.out
              rw [← HV.out] at hs
              obtain ⟨C, hCC⟩ : ∃ C, lcells N (rw1 (nsOf xs) f i) = C := ⟨_, rfl⟩
              rw [hCC] at hs hCg
              rw [hCC]
              have HS : Hid (C.setIfInBounds i (.int .i64 (V : Int)) = lcells N (rw1 (nsOf xs) f (i + 1))) := hs
              have H2 : Hid (V + 1 = fstW (nsOf xs) f + lcnt (nsOf xs) f (i + 1)) := by
                show _ = _
                simp only [lcnt]
                rw [if_pos HFN.out, HV.out]; omega
              clear hs hCC
              go_wp2
              refine ⟨⟨i + 1, V + 1, by go_num, by omega, by go_num, ?_, H2⟩, by simp [intOf]; omega⟩
              rw [← HS.out]
            · have hei : ¬ (f : Int) = (l : Int) := by omega
              have heb : ((f : Int) == (l : Int)) = false := by simpa using hei
              have hs := rw1_skip (nsOf xs) N l i (by rw [HFN.out]; exact he)
              have H2 : Hid (V = fstW (nsOf xs) l + lcnt (nsOf xs) l (i + 1)) := by
                show _ = _
                simp only [lcnt]
                rw [if_neg (by rw [HFN.out]; exact he), HV.out]; rfl
              rw [hs]
              clear hs
              go_wp2
              exact ⟨⟨i + 1, V, by go_num, by omega, rfl, rfl, H2⟩, by simp [intOf]; omega⟩
          · obtain rfl : i = N := by omega
            have hnx : lcells i (rw1 (nsOf xs) l i) = lcells i (rw1 (nsOf xs) (l + 1) 0) := by
              have := rw1_next (nsOf xs) l
              rw [nsOf_length, HN.out] at this
              exact this
            have H2 : Hid (V = ew (nsOf xs) (l + 1 - 1)) := by
              show _ = _
              rw [HV.out, Nat.add_sub_cancel]
              obtain ⟨k, rfl⟩ : ∃ k, l = k + 1 := ⟨l - 1, by omega⟩
              rw [show i = (nsOf xs).length by rw [nsOf_length, HN.out]]
              rfl
            rw [hnx]
            clear hnx
            go_wp2
            exact ⟨⟨l + 1, V, by go_num, by omega, by omega, rfl, rfl, H2⟩, by simp [intOf]; omega⟩
      · obtain rfl : l = 16 := by omega
        rw [rw1_end _ _ H15.out]
        go_wp2
        go_ret2
        refine ⟨.inl ⟨HOK.out.1, HOK.out.2, w.heap.size, by rw [HN.out]; rfl, ?_, Nat.le_refl _⟩, (Below.refl _ _).alloc (Nat.le_refl _) _⟩
        rw [HN.out]
        exact heap_alloc_last w (.cells (lcells N (cw (nsOf xs))) 3)
end Go.Proofs.Ytklipommocijaaa
