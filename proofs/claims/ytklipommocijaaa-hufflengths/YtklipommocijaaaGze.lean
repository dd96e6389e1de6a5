/- Merging where the second part is one pack. -/
import Derived.Test.YtklipommocijaaaGzd
namespace Go.Proofs.Ytklipommocijaaa
open Go.RowKit PT Go.Sort
set_option linter.unusedVariables false

/-- So far searched: below i what is no heavier than the last, from j on what is. -/
structure FindD (w0 : World) (blk off N a m i j : Nat) (d0 d : Array PT) (wr : World) : Prop where
  st : SortSt w0 blk off N d0 d wr
  le : a ≤ i ∧ i ≤ j ∧ j ≤ m
  low : ∀ t, a ≤ t → t < i → d[t]!.wt ≤ d[m]!.wt
  high : ∀ t, j ≤ t → t < m → d[m]!.wt < d[t]!.wt

set_option maxRecDepth 20000 in
set_option maxHeartbeats 4000000 in
theorem symLast (w0 : World) (blk off cap N a m : Nat) (d0 d : Array PT) (w : World) (hst : SortSt w0 blk off N d0 d w) (hN : N ≤ 100000) (ham : a + 1 < m) (hb : m + 1 ≤ N) (hs : SortedIn (ltOf cf) a m d) :
    Calls Try.prog 55 #[.slice (some ⟨blk, off, none⟩) N cap, .int .i64 a, .int .i64 m, .int .i64 ((m + 1 : Nat) : Int), .func (.func 45) #[] #[]] w fun e w' =>
      e = .returned (.tuple #[]) ∧ ∃ d', PermIn a (m + 1) d d' ∧ SortedIn (ltOf cf) a (m + 1) d' ∧ SWK PT.enc 2 w0 blk off d' w' := by
  have HST : Hid (SortSt w0 blk off N d0 d w) := hst
  have HS : Hid (SortedIn (ltOf cf) a m d) := hs
  obtain ⟨b, hbm⟩ : ∃ b, m + 1 = b := ⟨_, rfl⟩
  rw [hbm]
  rw [hbm] at hb
  have hmi : (b : Int) - (m : Int) = 1 := by omega
  have hmw : IntKind.i64.wrap ((b : Int) - (m : Int)) = 1 := by rw [hmi]; rfl
  have hnw : IntKind.i64.wrap ((m : Int) - (a : Int)) = (m : Int) - (a : Int) := by rw [IntKind.wrap_i64]; omega
  have hne : ¬ (m : Int) - (a : Int) = 1 := by omega
  have hneb : ((m : Int) - (a : Int) == 1) = false := by simpa using hne
  clear hst hs
  go_enter Try.func55, Try.ntmps55
  go_wp2
  go_loopw [14, 15, 16] (fun v10 v11 _ wr => ∃ (i j : Nat), v10 = .int .i64 i ∧ v11 = .int .i64 j ∧ Hid (FindD w0 blk off N a m i j d0 d wr)) (fun v10 v11 _ _ => (intOf v11).toNat - (intOf v10).toNat)
  case atStart => exact ⟨a, m, rfl, rfl, HST.out, by omega, fun t h1 h2 => by omega, fun t h1 h2 => by omega⟩
  case round =>
    obtain ⟨i, j, rfl, rfl, HF⟩ := hrel
    have hle := HF.out.le
    by_cases hlt : i < j
    · have hlti : (i : Int) < (j : Int) := by omega
      have hh := half i j hlt
      obtain ⟨h, hhd⟩ : ∃ h, (i + j) / 2 = h := ⟨_, rfl⟩
      rw [hhd] at hh
      have hhi : ((i : Int) + (j : Int)) / 2 = (h : Int) := by omega
      obtain ⟨c1, _, c3, _⟩ := st_cells HF.out.st (x := m) (by omega)
      obtain ⟨k1, _, k3, _⟩ := st_cells HF.out.st (x := h) (by omega)
      obtain ⟨tx, htx⟩ : ∃ t, d[m]! = t := ⟨_, rfl⟩
      obtain ⟨ty, hty⟩ : ∃ t, d[h]! = t := ⟨_, rfl⟩
      rw [htx] at c1 c3
      rw [hty] at k1 k3
      have HXY : Hid (d[m]! = tx ∧ d[h]! = ty) := ⟨htx, hty⟩
      have HSWK : Hid (∀ q os, SWK PT.enc 2 w0 blk off d (grow (wr.drew.drewN q) os)) := fun q os => HF.out.st.swk.drew.grown q os
      clear htx hty hhd
      obtain ⟨c, hc⟩ : ∃ c, cf tx ty = c := ⟨_, rfl⟩
      have HC : Hid (∀ W, Calls Try.prog 45 #[.agg #[.int .i64 (tx.wt : Nat), tx.fv], .agg #[.int .i64 (ty.wt : Nat), ty.fv]] W fun e w' => e = .returned (.int .i64 c) ∧ ∃ q os', w' = grow (W.drewN q) os') := fun W => by rw [← hc]; exact cmp_at tx ty W
      have hcn := cf_neg (x := tx) (y := ty)
      rw [hc] at hcn
      have hhN : (h : Int) < (N : Int) := by omega
      have haN : (m : Int) < (N : Int) := by omega
      clear hc
      by_cases hcc : tx.wt < ty.wt
      · have hc0 : c < 0 := hcn.2 hcc
        have NX : Hid (∀ W, SWK PT.enc 2 w0 blk off d W → FindD w0 blk off N a m i h d0 d W) := fun W hW => by
          refine ⟨⟨HF.out.st.row, HF.out.st.size0, HF.out.st.size, HF.out.st.perm, hW⟩, by omega, HF.out.low, fun t h1 h2 => ?_⟩
          have := srt_le HS.out (show a ≤ h by omega) h1 h2
          rw [HXY.out.2] at this
          rw [HXY.out.1]; omega
        clear hcn hcc
        go_wp2_with fail
        go_region_with (first | (go_at_call 45; refine (HC.out _).mono ?_; rintro e W2 ⟨rfl, q, os, hW2⟩; have H2 : Hid (SWK PT.enc 2 w0 blk off d W2) := (by show SWK _ _ _ _ _ _ _; rw [hW2]; exact HSWK.out q os); clear hW2))
        all_goals
          go_wp2
          exact ⟨⟨i, h, rfl, rfl, NX.out _ H2.out⟩, by simp [intOf]; omega⟩
      · have hc0 : ¬ c < 0 := fun e => hcc (hcn.1 e)
        have hcb : decide (c < 0) = false := decide_eq_false hc0
        have hcb2 : (!decide (c < 0)) = true := by rw [hcb]; rfl
        have hcb3 : 0 ≤ c := by omega
        have NX : Hid (∀ W, SWK PT.enc 2 w0 blk off d W → FindD w0 blk off N a m (h + 1) j d0 d W) := fun W hW => by
          refine ⟨⟨HF.out.st.row, HF.out.st.size0, HF.out.st.size, HF.out.st.perm, hW⟩, by omega, fun t h1 h2 => ?_, HF.out.high⟩
          have := srt_le HS.out h1 (show t ≤ h by omega) (by omega)
          rw [HXY.out.2] at this
          rw [HXY.out.1]; omega
        clear hcn hcc
        go_wp2_with fail
        go_region_with (first | (go_at_call 45; refine (HC.out _).mono ?_; rintro e W2 ⟨rfl, q, os, hW2⟩; have H2 : Hid (SWK PT.enc 2 w0 blk off d W2) := (by show SWK _ _ _ _ _ _ _; rw [hW2]; exact HSWK.out q os); clear hW2))
        all_goals
          go_wp2
          exact ⟨⟨h + 1, j, by go_num, rfl, NX.out _ H2.out⟩, by simp [intOf]; omega⟩
    · obtain rfl : i = j := by omega
      have hlti : ¬ (i : Int) < (i : Int) := by omega
      go_wp2
      go_loopw [17] (fun v17 wr => ∃ (k : Nat) (d1 : Array PT), v17 = .int .i64 k ∧ i ≤ k ∧ k ≤ m ∧ Hid (ShD m k d d1 ∧ PermIn a b d d1 ∧ SWK PT.enc 2 w0 blk off d1 wr)) (fun v17 _ => (intOf v17).toNat)
      case atStart => exact ⟨m, d, rfl, by omega, by omega, ShD.zero m d, permIn_refl _ _ _, HF.out.st.swk⟩
      case round =>
        obtain ⟨k, d1, rfl, hik, hkm, HD⟩ := hrel
        by_cases hlt2 : i < k
        · have hlt2i : (i : Int) < (k : Int) := by omega
          have hst1 : SortSt w0 blk off N d0 d1 wr := HF.out.st.step hb HD.out.2.1 HD.out.2.2
          obtain ⟨y, rfl⟩ : ∃ y, k = y + 1 := ⟨k - 1, by omega⟩
          obtain ⟨k, hk⟩ : ∃ k, y + 1 = k := ⟨_, rfl⟩
          rw [hk] at hlt2 hlt2i hik hkm ⊢
          obtain ⟨c1, c2, c3, c4⟩ := st_cells hst1 (x := k) (by omega)
          obtain ⟨k1, k2, k3, k4⟩ := st_cells hst1 (x := y) (by omega)
          have hsw := st_swap hst1 (lo := a) (hi := b) (x := k) (y := y) (by omega) (by omega) hb
          have hnx := ShD.next HD.out.1 HST.out.size (show y + 1 ≤ m by omega) (show m < N by omega)
          rw [hk] at hnx
          obtain ⟨D, hD⟩ : ∃ D, swp d1 k y = D := ⟨_, rfl⟩
          rw [hD] at hsw hnx
          obtain ⟨tx, htx⟩ : ∃ t, d1[k]! = t := ⟨_, rfl⟩
          obtain ⟨ty, hty⟩ : ∃ t, d1[y]! = t := ⟨_, rfl⟩
          rw [htx] at c1 c3 hsw
          rw [hty] at k1 k3 hsw
          have HSW : Hid (ShD m y d D ∧ PermIn a b d D ∧ SWK PT.enc 2 w0 blk off D ((((wr.drew.setCell ⟨blk, off + k * 2, none⟩ (.int .i64 (ty.wt : Nat))).setCell ⟨blk, off + k * 2 + 1, none⟩ ty.fv).setCell ⟨blk, off + y * 2, none⟩ (.int .i64 (tx.wt : Nat))).setCell ⟨blk, off + y * 2 + 1, none⟩ tx.fv)) := ⟨hnx, permIn_trans _ _ _ _ _ HD.out.2.1 hsw.1, hsw.2⟩
          have hyi : (k : Int) - 1 = (y : Int) := by omega
          have wy : IntKind.i64.wrap ((k : Int) - 1) = (y : Int) := by rw [IntKind.wrap_i64]; omega
          have bx : (k : Int) < (N : Int) := by omega
          have by1 : (y : Int) < (N : Int) := by omega
          obtain ⟨fx, hfx⟩ : ∃ v, tx.fv = .func (.func v) #[] tx.cap := ⟨_, rfl⟩
          obtain ⟨fy, hfy⟩ : ∃ v, ty.fv = .func (.func v) #[] ty.cap := ⟨_, rfl⟩
          rw [hfx] at c3 HSW
          rw [hfy] at k3 HSW
          obtain ⟨px, hpx⟩ : ∃ v, off + k * 2 = v := ⟨_, rfl⟩
          obtain ⟨py, hpy⟩ : ∃ v, off + y * 2 = v := ⟨_, rfl⟩
          have n1 : ¬ px = py := by omega
          have n2 : ¬ px = py + 1 := by omega
          have n3 : ¬ px + 1 = py := by omega
          rw [hpx] at c1 c2 c3 c4 HSW
          rw [hpy] at k1 k2 k3 k4 HSW
          clear hst1 hsw hnx hD htx hty hfx hfy
          go_wp2_with fail
          go_region
          all_goals
            go_wp2
            exact ⟨⟨y, D, rfl, by omega, by omega, HSW⟩, by simp [intOf]; omega⟩
        · have hlt2i : ¬ (i : Int) < (k : Int) := by omega
          have hk : k = i := by omega
          have HE : Hid (PermIn a b d d1 ∧ SortedIn (ltOf cf) a b d1 ∧ SWK PT.enc 2 w0 blk off d1 wr) := by
            have h1 := HD.out.1
            rw [hk] at h1
            have h2 := h1.sorted hle.1 hle.2.2 HS.out HF.out.low HF.out.high
            rw [hbm] at h2
            exact ⟨HD.out.2.1, h2, HD.out.2.2⟩
          go_wp2
          exact bodyPost_ret (results_none rfl _ _ _) rfl ⟨rfl, d1, HE.out⟩
end Go.Proofs.Ytklipommocijaaa
