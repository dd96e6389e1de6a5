/- Layer 15: SessionForgets: the walk. -/
import Derived.Test.YtpjjenhimnkdcaaESyg
namespace Go.Proofs.Ytpjjenhimnkdcaa
open Go.RowKit Go.Maps
set_option linter.unusedVariables false
set_option maxRecDepth 20000

theorem NuIn.cell2 {w wr : World} {b off : Nat} {LN : List Int} {k : Nat} {y : Int} (h : NuIn w (some ⟨b, off, none⟩) LN) (hb : Below w.heap.size w wr) (hx : LN[k]? = some y) : wr.cell? ⟨b, off + k, none⟩ = some (.int .i64 y) := by
  obtain ⟨b', off', e, _, hc⟩ := h.below hb (Nat.le_refl _) k y hx
  cases e
  exact hc
set_option maxHeartbeats 4000000 in
theorem forgets_walk (a0 : Option Addr) (n0 c0 : Nat) (LN : List Int) (cat : Int) (w : World) (h0 : LN.length = n0) (hn : NuIn w a0 LN) (hl0 : n0 ≤ 9223372036854775807) :
    Calls Try.prog 7 #[.slice a0 n0 c0, .int .i64 cat] w fun e w' => e = .returned (.bool true) ∧ Below w.heap.size w w' := by
  obtain ⟨i0, hi, hz0, hz1, hz2⟩ := info_split intInfo
  have HI : Hid (Try.prog.info? 3 = some i0 ∧ i0.zero = some (.int .i64 0) ∧ i0.size = 1 ∧ i0.bytes = 8) := ⟨hi, hz0, hz1, hz2⟩
  clear hi hz0 hz1 hz2
  have HN : Hid (Calls Try.prog 8 #[.int .i64 ((64 : Nat) : Int)] w (NewE w 64)) := new_ok 64 w (by omega) (by omega)
  have HU : Hid (NuIn w a0 LN ∧ LN.length = n0) := ⟨hn, h0⟩
  clear hn h0
  by_cases hbig : n0 ≤ 60
  · have hbi : ¬ (60 : Int) < (n0 : Int) := by omega
    go_enter Try.func7, Try.ntmps7
    go_wp2_with fail
    refine HN.out.mono ?_
    rintro e w1 hNE
    obtain rfl := hNE.ret
    have hLF := LF.new hNE
    have hTS1 := hNE.ts
    clear HN hNE
    obtain ⟨t, ht⟩ : ∃ t, w.heap.size + 1 = t := ⟨_, rfl⟩
    obtain ⟨mb, hmb⟩ : ∃ mb, w.heap.size = mb := ⟨_, rfl⟩
    rw [ht] at hTS1 hLF ⊢
    rw [hmb] at hTS1
    have hLF : LF w w1 t mb := by rw [hmb] at hLF; exact hLF
    have HS1 : Hid (FO w w1 t mb (fL LN 0) (fV 0) (fS LN 0) (.slice none 0 0)) := ⟨hTS1, ⟨rfl, .inl ⟨rfl, rfl⟩⟩, (fun g hg => by simp [Value.ownBlock] at hg), hLF⟩
    clear hTS1 hLF ht hmb
    go_wp2
    go_loopw [7, 8, 9] (fun en v i wr => ∃ (k : Nat), i = .int .i64 (k : Nat) ∧ en = .int .i64 (fE LN k : Nat) ∧ k ≤ n0 ∧ FO w wr t mb (fL LN k) (fV k) (fS LN k) v) (fun _ _ i _ => n0 - (intOf i).toNat)
    case atStart => exact ⟨0, rfl, rfl, Nat.zero_le _, HS1.out⟩
    case round =>
      obtain ⟨k, rfl, rfl, hk, hFO⟩ := hrel
      obtain ⟨ta, tc, rfl⟩ := hFO.form
      rw [fS_len] at *
      have HS : Hid (FO w wr t mb (fL LN k) (fV k) (fS LN k) (.slice ta k tc)) := hFO
      clear hFO HS1
      by_cases hlt : k < n0
      · have hlti : (k : Int) < (n0 : Int) := by omega
        obtain ⟨y, hy⟩ : ∃ y, LN[k]? = some y := ⟨_, List.getElem?_eq_getElem (by rw [HU.out.2]; exact hlt)⟩
        obtain ⟨bn, offn, rfl, _, d2⟩ := HU.out.1.below HS.out.lf.below (Nat.le_refl _) k _ hy
        obtain ⟨m, hm, hme⟩ := andN y 15 (by omega)
        have hme : bits .and .i64 y 15 = (m : Int) := hme
        obtain ⟨n, hnn⟩ : ∃ n, 1 + m = n := ⟨_, rfl⟩
        have hni : (1 : Int) + (m : Int) = (n : Int) := by omega
        have hfn : fN LN k = n := by unfold fN; rw [List.getD_eq_getElem?_getD, hy, Option.getD_some, hme]; simpa using hnn
        obtain ⟨E, hE⟩ : ∃ E, fE LN k = E := ⟨_, rfl⟩
        obtain ⟨E1, hE1⟩ : ∃ E1, fE LN (k + 1) = E1 := ⟨_, rfl⟩
        have hsum : (E : Int) + (n : Int) = (E1 : Int) := by rw [← hE1, ← hE, ← hfn]; show _ = ((fE LN k + fN LN k : Nat) : Int); omega
        have hE960 : E1 ≤ 976 := by have := fE_le LN (k + 1); omega
        have hfb : fB LN k = ⟨(E : Nat), (n : Nat), 0, 1, (k : Nat)⟩ := by unfold fB; rw [hE, hfn]
        have HM := hide (And.intro hE (And.intro hE1 hfb))
        rw [hE]
        obtain ⟨U, hU⟩ : ∃ U, wr.heap.size = U := ⟨_, rfl⟩
        have HP9 : Hid (FO w (wr.alloc (.cells #[.int .i64 1, .int .i64 (k : Nat)] 30)) t mb (fL LN k) (fV k) (fS LN k) (.slice ta k tc) ∧ Bk (wr.alloc (.cells #[.int .i64 1, .int .i64 (k : Nat)] 30)) t mb U (.cells #[.int .i64 1, .int .i64 (k : Nat)] 30 (0, 0))) :=
          ⟨HS.out.below (below_a _ _), by rw [← hU]; exact Bk.new HS.out.ts _ _⟩
        clear HS hm hnn hfn hE hE1 hfb hy
        go_upto_region 10 with fail
        try rw [hni]
        clear hni hme d2
        go_upto_region 11 with fail
        try rw [hU]
        generalize (wr.alloc (.cells #[.int .i64 1, .int .i64 (k : Nat)] 30)) = w9 at HP9
        clear hU
        have HPU : Hid (Calls Try.prog 10 #[.pointer (some ⟨t, 0, none⟩), .agg #[.int .i64 (E : Nat), .int .i64 (n : Nat), .int .i64 0, .int .i64 1, .int .i64 (k : Nat), .slice none 0 0]] w9 fun e w' => e = .returned (.int .i64 0) ∧ TS w' t mb 64 (fL LN (k + 1)) (fV k) ∧ TFr t mb w9 w') := by
          have h := put_yes w9 t mb 64 (fL LN k) (fV k) (fB LN k) HP9.out.1.ts (fB_ok LN (by omega)) (fL_none LN (Nat.le_refl _)) (by rw [fL_end]; exact Int.le_refl _) (by rw [fL_len]; omega)
          rw [← fL_succ, HM.out.2.2] at h
          exact h
        go_wp2_with fail
        refine HPU.out.mono ?_
        rintro e w10 ⟨rfl, hT10, hF10⟩
        have HP10 : Hid (FO w w10 t mb (fL LN (k + 1)) (fV k) (fS LN k) (.slice ta k tc) ∧ Bk w10 t mb U (.cells #[.int .i64 1, .int .i64 (k : Nat)] 30 (0, 0))) := ⟨HP9.out.1.step hF10 hT10, HP9.out.2.kept hF10⟩
        clear hT10 hF10 HPU HP9
        have z0 : w10.cell? ⟨U, 0, none⟩ = some (.int .i64 1) := by simp [World.cell?, HP10.out.2.blk]
        have z1 : w10.cell? ⟨U, 1, none⟩ = some (.int .i64 (k : Nat)) := by simp [World.cell?, HP10.out.2.blk]
        have HWA : Hid (Calls Try.prog 12 #[.pointer (some ⟨t, 0, none⟩), .agg #[.int .i64 1, .int .i64 (k : Nat)], .int .i64 100] w10 fun e w' => e = .returned (.int .i64 0) ∧ TS w' t mb 64 (fL LN (k + 1)) (fV (k + 1)) ∧ TFr t mb w10 w') := by
          have h := wait_ok w10 t mb 64 (fL LN (k + 1)) (fV k) 1 (k : Nat) 100 HP10.out.1.ts (by decide) (by decide) (by omega) (by omega) (by rw [fL_some LN (Nat.lt_succ_self k)]; rfl)
          rw [(fV_wait (by omega)).1, (fV_wait (by omega)).2] at h
          exact h
        go_wp2_with fail
        refine HWA.out.mono ?_
        rintro e w11 ⟨rfl, hT11, hF11⟩
        have HP11 : Hid (FO w w11 t mb (fL LN (k + 1)) (fV (k + 1)) (fS LN k) (.slice ta k tc)) := HP10.out.1.step hF11 hT11
        clear hT11 hF11 HWA HP10 z0 z1
        go_upto_region 14 with fail
        try rw [hsum]
        clear hsum
        have HOA : Hid (∀ o, (w11.alloc o).ownsRow w.heap.size 3 1 (.slice ta k tc) k (fS LN k) ∧ w.heap.size ≤ (w11.alloc o).heap.size) := fun o => by
          have h := HP11.out.below (below_a w11 o)
          have hr := h.row
          rw [fS_len] at hr
          exact ⟨hr, h.lf.size⟩
        go_wp2_with (at_builtin; refine wpList_append_lies _ rfl _ _ 23 rfl w.heap.size 3 i0 (.int .i64 0) 1 8 Try.underlying23 HI.out.1 HI.out.2.1 HI.out.2.2.1 HI.out.2.2.2 rfl (by decide) (.slice ta k tc) k (fS LN k) rfl (HOA.out _).1 ⟨w11.heap.size, 0, none⟩ 1 1 [.int .i64 (E1 : Nat)] rfl rfl (newsN _ _ _) (by intro u hu; simp at hu; rw [hu]; rfl) (by decide) (by unfold maxLen; omega) (by omega) (HOA.out _).2 _ rfl ?_; intro g5 cap5 w5 hown hgrow hat hgl)
        have HNX : Hid (FO w w5 t mb (fL LN (k + 1)) (fV (k + 1)) (fS LN (k + 1)) (.slice (some ⟨g5, 0, none⟩) (k + 1) cap5)) := by
          have h := (HP11.out.below (below_a w11 _)).app (v' := .slice (some ⟨g5, 0, none⟩) (k + 1) cap5) (by rw [fS_len]; exact hown) hgrow rfl hat
          have hs := fS_succ LN k
          rw [HM.out.2.1] at hs
          rw [hs]
          exact h
        clear hown hgrow hat hgl HOA HP11
        go_roundw
        case rel => exact ⟨k + 1, by go_num, by rw [HM.out.2.1], by omega, HNX.out⟩
        case measure => simp [intOf]; omega
      · obtain rfl : k = n0 := by omega
        have hlti : ¬ (k : Int) < (k : Int) := by omega
        obtain ⟨c, hc, hce⟩ := andN cat 1023 (by omega)
        have hce : bits .and .i64 cat 1023 = (c : Int) := hce
        obtain ⟨s, hsk, hs1, hs2⟩ := stay_ex LN c k
        obtain ⟨d, hd⟩ : ∃ d, k = s + d := ⟨k - s, by omega⟩
        have hcut : cutB (c : Nat) (fL LN k) = fL LN s := by rw [hd]; exact cut_fL LN c s hs1 d (fun j a b => hs2 j a (by omega))
        have HC : Hid (Calls Try.prog 18 #[.pointer (some ⟨t, 0, none⟩), .int .i64 (c : Nat)] wr fun e w' => e = .returned (.int .i64 0) ∧ TS w' t mb 64 (fL LN s) (fV s) ∧ TFr t mb wr w') := by
          have h := cut_ok wr t mb 64 (fL LN k) (fV k) (fV s) (fR s d) (c : Nat) HS.out.ts (by omega) (by rw [hd]; exact fV_cut s d) (by rw [hcut]; exact fV_in LN s) (by rw [hcut]; exact fR_out LN s d) (by rw [← fV_cut, ← hd]; exact fV_bd hbig)
          rw [hcut] at h
          exact h
        have HST := hide (And.intro hs1 (And.intro hs2 hcut))
        clear hs1 hs2 hcut hd hc
        go_upto_region 16 with fail
        try rw [hce]
        clear hce
        go_wp2_with fail
        refine HC.out.mono ?_
        rintro e w2 ⟨rfl, hT2, hF2⟩
        have HS2 : Hid (FO w w2 t mb (fL LN s) (fV s) (fS LN k) (.slice ta k tc)) := HS.out.step hF2 hT2
        clear hT2 hF2 HC HS
        go_wp2
        go_loopw [13, 14] (fun st i wr => ∃ (j m : Nat), i = .int .i64 (j : Nat) ∧ st = .int .i64 (m : Nat) ∧ j ≤ k ∧ m = min j s ∧ FO w wr t mb (fL LN s) (fV s) (fS LN k) (.slice ta k tc)) (fun _ i _ => k - (intOf i).toNat)
        case atStart => exact ⟨0, 0, rfl, rfl, Nat.zero_le _, by omega, HS2.out⟩
        case round =>
          obtain ⟨j, m, rfl, rfl, hj, hm, hFO⟩ := hrel
          have HS := hide hFO
          have HMM := hide hm
          have hmb : m ≤ j := by omega
          clear hFO HS2 hm
          by_cases hlt2 : j < k
          · have hlti2 : (j : Int) < (k : Int) := by omega
            obtain ⟨E1, hE1⟩ : ∃ E1, fE LN (j + 1) = E1 := ⟨_, rfl⟩
            obtain ⟨g, rfl, _⟩ := rowSome (by have h := HS.out.row; rw [fS_len] at h; exact h) (by omega)
            have k0 : wr.cell? ⟨g, j, none⟩ = some (.int .i64 (E1 : Nat)) := by
              have h := HS.out.row
              rw [fS_len] at h
              rw [← hE1]
              exact rowCell h (fS_get LN hlt2)
            have HFN := hide (find_ok wr t mb 64 (fL LN s) (fV s) HS.out.ts 1 (j : Nat) (by decide) (by decide) (by omega) (by omega))
            by_cases hjs : j < s
            · have hle : (E1 : Int) ≤ (c : Int) := by have := HST.out.1 j hjs; omega
              obtain ⟨E, hE⟩ : ∃ E, fE LN j = E := ⟨_, rfl⟩
              obtain ⟨n, hn⟩ : ∃ n, fN LN j = n := ⟨_, rfl⟩
              have hsum : (E : Int) + (n : Int) = (E1 : Int) := by rw [← hE1, ← hE, ← hn]; show _ = ((fE LN j + fN LN j : Nat) : Int); omega
              have hfb : fb (fL LN s) 1 (j : Nat) = ⟨(E : Nat), (n : Nat), 0, 1, (j : Nat)⟩ := by unfold fb; rw [fL_some LN hjs]; show fB LN j = _; unfold fB; rw [hE, hn]
              have hsm : (fnd (fL LN s) 1 (j : Nat)).isSome = true := by rw [fL_some LN hjs]; rfl
              rw [hfb, hsm] at HFN
              simp only [if_true, Bt.v] at HFN
              have hE960 : E1 ≤ 976 := by have := fE_le LN (j + 1); omega
              clear hE hn hE1 hfb hsm
              go_wp2_with fail
              refine HFN.out.mono ?_
              rintro e w3 ⟨rfl, hb3⟩
              have hba := below_a w3 (.cells #[.int .i64 (E : Nat), .int .i64 (n : Nat), .int .i64 0, .int .i64 1, .int .i64 (j : Nat), .slice none 0 0] 33)
              obtain ⟨U1, hU1⟩ : ∃ U1, w3.heap.size = U1 := ⟨_, rfl⟩
              have HP3 : Hid (FO w (w3.alloc (.cells #[.int .i64 (E : Nat), .int .i64 (n : Nat), .int .i64 0, .int .i64 1, .int .i64 (j : Nat), .slice none 0 0] 33)) t mb (fL LN s) (fV s) (fS LN k) (.slice (some ⟨g, 0, none⟩) k tc) ∧ (w3.alloc (.cells #[.int .i64 (E : Nat), .int .i64 (n : Nat), .int .i64 0, .int .i64 1, .int .i64 (j : Nat), .slice none 0 0] 33)).heap[U1]? = some (.cells #[.int .i64 (E : Nat), .int .i64 (n : Nat), .int .i64 0, .int .i64 1, .int .i64 (j : Nat), .slice none 0 0] 33 (0, 0)) ∧ (w3.alloc (.cells #[.int .i64 (E : Nat), .int .i64 (n : Nat), .int .i64 0, .int .i64 1, .int .i64 (j : Nat), .slice none 0 0] 33)).cell? ⟨g, j, none⟩ = some (.int .i64 (E1 : Nat))) :=
                ⟨(HS.out.below hb3).below hba, by rw [← hU1]; exact heap_alloc_new _ _, cellB hba (cellB hb3 k0)⟩
              clear hb3 hba k0 HFN HS
              go_upto_region 23 with fail
              try rw [hU1]
              generalize (w3.alloc (.cells #[.int .i64 (E : Nat), .int .i64 (n : Nat), .int .i64 0, .int .i64 1, .int .i64 (j : Nat), .slice none 0 0] 33)) = w4 at HP3
              clear hU1
              obtain ⟨y0, y1, y2, y3, y4, y5⟩ := cells6 HP3.out.2.1
              have k4 := HP3.out.2.2
              have HP4 := hide HP3.out.1
              clear y2 y3 y4 y5 HP3
              have hne : (((E : Int) + (n : Int)) != (E1 : Int)) = false := by rw [hsum]; simp
              go_region
              clear k4 y0 y1
              go_wp2
              go_roundw
              case rel => exact ⟨j + 1, m + 1, by go_num, by go_num, by omega, by have := HMM.out; omega, HP4.out.below (below_d _)⟩
              case measure => simp [intOf]; omega
            · have hle : ¬ (E1 : Int) ≤ (c : Int) := by have := HST.out.2.1 j (by omega) hlt2; omega
              have hfb : fb (fL LN s) 1 (j : Nat) = bt0 := by unfold fb; rw [fL_none LN (by omega)]; rfl
              have hsm : (fnd (fL LN s) 1 (j : Nat)).isSome = false := by rw [fL_none LN (by omega)]; rfl
              rw [hfb, hsm] at HFN
              simp only [Bool.false_eq_true, if_false, Bt.v, bt0] at HFN
              clear hE1 hfb hsm
              go_wp2_with fail
              refine HFN.out.mono ?_
              rintro e w3 ⟨rfl, hb3⟩
              have hba := below_a w3 (.cells #[.int .i64 0, .int .i64 0, .int .i64 0, .int .i64 0, .int .i64 0, .slice none 0 0] 33)
              have HP3 : Hid (FO w (w3.alloc (.cells #[.int .i64 0, .int .i64 0, .int .i64 0, .int .i64 0, .int .i64 0, .slice none 0 0] 33)) t mb (fL LN s) (fV s) (fS LN k) (.slice (some ⟨g, 0, none⟩) k tc) ∧ (w3.alloc (.cells #[.int .i64 0, .int .i64 0, .int .i64 0, .int .i64 0, .int .i64 0, .slice none 0 0] 33)).cell? ⟨g, j, none⟩ = some (.int .i64 (E1 : Nat))) :=
                ⟨(HS.out.below hb3).below hba, cellB hba (cellB hb3 k0)⟩
              clear hb3 hba k0 HFN HS
              go_upto_region 23 with fail
              generalize (w3.alloc (.cells #[.int .i64 0, .int .i64 0, .int .i64 0, .int .i64 0, .int .i64 0, .slice none 0 0] 33)) = w4 at HP3
              have k4 := HP3.out.2
              have HP4 := hide HP3.out.1
              clear HP3
              have hled : decide (E1 ≤ c) = false := decide_eq_false (by omega)
              have hledi : decide ((E1 : Int) ≤ (c : Int)) = false := decide_eq_false (by omega)
              clear hle
              go_region
              clear k4
              go_wp2
              go_roundw
              case rel => exact ⟨j + 1, m, by go_num, rfl, by omega, by have := HMM.out; omega, HP4.out.below (below_d _)⟩
              case measure => simp [intOf]; omega
          · have hlti2 : ¬ (j : Int) < (k : Int) := by omega
            obtain rfl : j = k := by omega
            obtain rfl : m = s := by have := HMM.out; omega
            have hwt := waiting_ok wr t mb 64 (fL LN m) (fV m) HS.out.ts
            rw [fV_len] at hwt
            have HWT := hide hwt
            clear hwt
            go_wp2_with fail
            refine HWT.out.mono ?_
            rintro e w3 ⟨rfl, hw3⟩
            obtain rfl := hw3.symm
            clear HWT hw3
            by_cases hlast : m < j
            · have hla : (m : Int) < (j : Int) := by omega
              have HPU : Hid (Calls Try.prog 10 #[.pointer (some ⟨t, 0, none⟩), .agg #[.int .i64 5000, .int .i64 1, .int .i64 0, .int .i64 1, .int .i64 (m : Nat), .slice none 0 0]] wr fun e w' => e = .returned (.int .i64 0) ∧ TS w' t mb 64 (fL LN m ++ [⟨5000, 1, 0, 1, (m : Nat)⟩]) (fV m) ∧ TFr t mb wr w') :=
                put_yes wr t mb 64 (fL LN m) (fV m) ⟨5000, 1, 0, 1, (m : Nat)⟩ HS.out.ts ⟨by simp only; omega, by simp only; omega, by simp only; omega, by simp only; omega, by simp only; omega, by simp only; omega, by simp only; omega, by simp only; omega, by simp only; omega, by simp only; omega⟩ (fL_none LN (Nat.le_refl _)) (by rw [fL_end]; have := fE_le LN m; simp only; omega) (by rw [fL_len]; omega)
              go_wp2_with fail
              refine HPU.out.mono ?_
              rintro e w4 ⟨rfl, hT4, hF4⟩
              have HS4 := hide (HS.out.step hF4 hT4)
              clear hT4 hF4 HPU
              go_wp2_with fail
              refine (awake15 _).mono ?_
              rintro e w9 ⟨rfl, hb9⟩
              have HB9 := hide (HS4.out.below hb9).lf
              clear hb9
              go_wp2
              go_ret
              exact ⟨rfl, HB9.out.below⟩
            · have hla : ¬ (m : Int) < (j : Int) := by omega
              go_wp2_with fail
              refine (awake15 _).mono ?_
              rintro e w9 ⟨rfl, hb9⟩
              have HB9 := hide (HS.out.below hb9).lf
              clear hb9
              go_wp2
              go_ret
              exact ⟨rfl, HB9.out.below⟩
  · have hbi : (60 : Int) < (n0 : Int) := by omega
    go_enter Try.func7, Try.ntmps7
    go_wp2_with fail
    refine HN.out.mono ?_
    rintro e w1 hNE
    obtain rfl := hNE.ret
    have HNE := hide hNE.bel
    clear HN hNE
    go_wp2_with fail
    refine (awake15 _).mono ?_
    rintro e w9 ⟨rfl, hb9⟩
    have HB9 := hide (HNE.out.trans (hb9.mono HNE.out.size))
    clear hb9
    go_wp2
    go_ret
    exact ⟨rfl, HB9.out⟩
end Go.Proofs.Ytpjjenhimnkdcaa
