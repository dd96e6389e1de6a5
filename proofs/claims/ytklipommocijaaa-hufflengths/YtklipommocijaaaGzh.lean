/- Merging two sorted parts: the general way, walked. -/
import Derived.Test.YtklipommocijaaaGzf
namespace Go.Proofs.Ytklipommocijaaa
open Go.RowKit PT Go.Sort
set_option linter.unusedVariables false

set_option maxRecDepth 20000 in
set_option maxHeartbeats 40000000 in
theorem symGenB (n : Nat) (ih : SymAt n) (w0 : World) (blk off cap N a m b : Nat) (d0 d : Array PT) (w : World) (hn : b - a < n + 1) (hst : SortSt w0 blk off N d0 d w) (hN : N ≤ 100000) (ham : a + 1 < m) (hmb2 : m + 1 < b) (hb : b ≤ N) (hs1 : SortedIn (ltOf cf) a m d) (hs2 : SortedIn (ltOf cf) m b d) (hway : m ≤ (a + b) / 2) :
    Calls Try.prog 55 #[.slice (some ⟨blk, off, none⟩) N cap, .int .i64 a, .int .i64 m, .int .i64 b, .func (.func 45) #[] #[]] w fun e w' =>
      e = .returned (.tuple #[]) ∧ ∃ d', PermIn a b d d' ∧ SortedIn (ltOf cf) a b d' ∧ SWK PT.enc 2 w0 blk off d' w' := by
  have HST : Hid (SortSt w0 blk off N d0 d w) := hst
  have HS1 : Hid (SortedIn (ltOf cf) a m d) := hs1
  have HS2 : Hid (SortedIn (ltOf cf) m b d) := hs2
  have hab : a < m := by omega
  have hmb : m < b := by omega
  obtain ⟨mid, hmid⟩ : ∃ mid, (a + b) / 2 = mid := ⟨_, rfl⟩
  rw [hmid] at hway
  have hmidi : ((a : Int) + (b : Int)) / 2 = (mid : Int) := by omega
  obtain ⟨nn, hnn⟩ : ∃ nn, mid + m = nn := ⟨_, rfl⟩
  have hnni : (mid : Int) + (m : Int) = (nn : Int) := by omega
  have wnn : IntKind.i64.wrap ((mid : Int) + (m : Int)) = (nn : Int) := by rw [IntKind.wrap_i64]; omega
  obtain ⟨q, hq⟩ : ∃ q, mid + m - 1 = q := ⟨_, rfl⟩
  have hqi : (nn : Int) - 1 = (q : Int) := by omega
  have wq : IntKind.i64.wrap ((nn : Int) - 1) = (q : Int) := by rw [IntKind.wrap_i64]; omega
  have v1 : IntKind.i64.wrap ((m : Int) - (a : Int)) = (m : Int) - (a : Int) := by rw [IntKind.wrap_i64]; omega
  have v2 : ¬ (m : Int) - (a : Int) = 1 := by omega
  have v3 : ((m : Int) - (a : Int) == 1) = false := by simpa using v2
  have v4 : IntKind.i64.wrap ((b : Int) - (m : Int)) = (b : Int) - (m : Int) := by rw [IntKind.wrap_i64]; omega
  have v5 : ¬ (b : Int) - (m : Int) = 1 := by omega
  have v6 : ((b : Int) - (m : Int) == 1) = false := by simpa using v5
  have u0 : ¬ (mid : Int) < (m : Int) := by omega
  have HMID : Hid ((a + b) / 2 = mid) := hmid
  clear hst hs1 hs2 hmid
  go_enter Try.func55, Try.ntmps55
  go_wp2
  go_loopw [20, 21, 23] (fun v20 v21 _ wr => ∃ (s r : Nat), v20 = .int .i64 s ∧ v21 = .int .i64 r ∧ Hid (FindM w0 blk off N q a m s r d0 d wr)) (fun v20 v21 _ _ => (intOf v21).toNat - (intOf v20).toNat)
  case atStart => exact ⟨a, m, rfl, rfl, HST.out, by omega, fun t h1 h2 => by omega, fun t h1 h2 => by omega⟩
  case round =>
    obtain ⟨s, r, rfl, rfl, HF⟩ := hrel
    have hle := HF.out.le
    by_cases hlt : s < r
    · have hlti : (s : Int) < (r : Int) := by omega
      have hh := half s r hlt
      obtain ⟨h, hhd⟩ : ∃ h, (s + r) / 2 = h := ⟨_, rfl⟩
      rw [hhd] at hh
      have hhi : ((s : Int) + (r : Int)) / 2 = (h : Int) := by omega
      obtain ⟨y, hy⟩ : ∃ y, q - h = y := ⟨_, rfl⟩
      have hyi : (q : Int) - (h : Int) = (y : Int) := by omega
      have wy : IntKind.i64.wrap ((q : Int) - (h : Int)) = (y : Int) := by rw [IntKind.wrap_i64]; omega
      obtain ⟨c1, _, c3, _⟩ := st_cells HF.out.st (x := y) (by omega)
      obtain ⟨k1, _, k3, _⟩ := st_cells HF.out.st (x := h) (by omega)
      obtain ⟨tx, htx⟩ : ∃ t, d[y]! = t := ⟨_, rfl⟩
      obtain ⟨ty, hty⟩ : ∃ t, d[h]! = t := ⟨_, rfl⟩
      rw [htx] at c1 c3
      rw [hty] at k1 k3
      have HXY : Hid (d[y]! = tx ∧ d[h]! = ty ∧ q - h = y) := ⟨htx, hty, hy⟩
      have HSWK : Hid (∀ q os, SWK PT.enc 2 w0 blk off d (grow (wr.drew.drewN q) os)) := fun q os => HF.out.st.swk.drew.grown q os
      obtain ⟨c, hc⟩ : ∃ c, cf tx ty = c := ⟨_, rfl⟩
      have HC : Hid (∀ W, Calls Try.prog 45 #[.agg #[.int .i64 (tx.wt : Nat), tx.fv], .agg #[.int .i64 (ty.wt : Nat), ty.fv]] W fun e w' => e = .returned (.int .i64 c) ∧ ∃ q os', w' = grow (W.drewN q) os') := fun W => by rw [← hc]; exact cmp_at tx ty W
      have hcn := cf_neg (x := tx) (y := ty)
      rw [hc] at hcn
      have hhN : (h : Int) < (N : Int) := by omega
      have haN : (y : Int) < (N : Int) := by omega
      have y0 : (0 : Int) ≤ (y : Int) := by omega
      have wy2 : IntKind.i64.wrap (y : Int) = (y : Int) := by rw [IntKind.wrap_i64]; omega
      have HYI : Hid ((q : Int) - (h : Int) = (y : Int) ∧ q - h = y) := ⟨hyi, hy⟩
      clear hc htx hty hhd hyi hy
      by_cases hcc : tx.wt < ty.wt
      · have hc0 : c < 0 := hcn.2 hcc
        have NX : Hid (∀ W, SWK PT.enc 2 w0 blk off d W → FindM w0 blk off N q a m s h d0 d W) := fun W hW => by
          refine ⟨⟨HF.out.st.row, HF.out.st.size0, HF.out.st.size, HF.out.st.perm, hW⟩, by omega, HF.out.low, fun t h1 h2 => ?_⟩
          obtain ⟨e1, e2, e3⟩ := HXY.out
          have hq1 := hq
          have x1 := srt_le HS1.out (show a ≤ h by omega) h1 (by omega)
          have x2 := srt_le HS2.out (show m ≤ q - t by omega) (show q - t ≤ y by omega) (by omega)
          rw [e1] at x2
          rw [e2] at x1
          omega
        clear hcn hcc
        go_wp2_with fail
        go_region_with (first | (go_at_call 45; refine (HC.out _).mono ?_; rintro e W2 ⟨rfl, q2, os, hW2⟩; have H2 : Hid (SWK PT.enc 2 w0 blk off d W2) := (by show SWK _ _ _ _ _ _ _; rw [hW2]; exact HSWK.out q2 os); clear hW2))
        all_goals
          go_wp2
          exact ⟨⟨s, h, rfl, rfl, NX.out _ H2.out⟩, by simp [intOf]; omega⟩
      · have hc0 : ¬ c < 0 := fun e => hcc (hcn.1 e)
        have hcb : decide (c < 0) = false := decide_eq_false hc0
        have hcb2 : (!decide (c < 0)) = true := by rw [hcb]; rfl
        have hcb3 : 0 ≤ c := by omega
        have NX : Hid (∀ W, SWK PT.enc 2 w0 blk off d W → FindM w0 blk off N q a m (h + 1) r d0 d W) := fun W hW => by
          refine ⟨⟨HF.out.st.row, HF.out.st.size0, HF.out.st.size, HF.out.st.perm, hW⟩, by omega, fun t h1 h2 => ?_, HF.out.high⟩
          obtain ⟨e1, e2, e3⟩ := HXY.out
          have hq1 := hq
          have x1 := srt_le HS1.out (show a ≤ t by omega) (show t ≤ h by omega) (by omega)
          have x2 := srt_le HS2.out (show m ≤ y by omega) (show y ≤ q - t by omega) (by omega)
          rw [e1] at x2
          rw [e2] at x1
          omega
        clear hcn hcc
        go_wp2_with fail
        go_region_with (first | (go_at_call 45; refine (HC.out _).mono ?_; rintro e W2 ⟨rfl, q2, os, hW2⟩; have H2 : Hid (SWK PT.enc 2 w0 blk off d W2) := (by show SWK _ _ _ _ _ _ _; rw [hW2]; exact HSWK.out q2 os); clear hW2))
        all_goals
          go_wp2
          exact ⟨⟨h + 1, r, by go_num, rfl, NX.out _ H2.out⟩, by simp [intOf]; omega⟩
    · obtain rfl : s = r := by omega
      have hlti : ¬ (s : Int) < (s : Int) := by omega
      have hcut : Cut a m b mid s (mid + m - s) d := by
        have h := HF.out
        rw [← hq] at h
        exact cut_of h hab hmb HMID.out (.inr ⟨by omega, rfl, rfl⟩)
      obtain ⟨e, he⟩ : ∃ e, mid + m - s = e := ⟨_, rfl⟩
      rw [he] at hcut
      have HCUT : Hid (Cut a m b mid s e d) := hcut
      have hl1 := hcut.le
      have hl2 := hcut.mid
      have hei : (nn : Int) - (s : Int) = (e : Int) := by omega
      have we : IntKind.i64.wrap ((nn : Int) - (s : Int)) = (e : Int) := by rw [IntKind.wrap_i64]; omega
      clear hcut
      by_cases hro : s < m
      · as_aux_lemma =>
        have u1 : (s : Int) < (m : Int) := by omega
        have u2 : (m : Int) < (e : Int) := by omega
        have hro2 := fun _ : Unit => rotate_ok w0 blk off cap N s m e d0 d wr HF.out.st hN (by omega) (by omega) (by omega)
        have HRO : Hid _ := hro2
        clear hro2
        go_wp2_with fail
        refine (HRO.out ()).mono ?_
        rintro e1 wu ⟨rfl, d1, z1, z2, z3⟩
        have HT : Hid (Turned w0 blk off N a mid b s e d0 d d1 wu) := turned_of HCUT.out HS1.out HS2.out HF.out.st hb z1 z2 z3
        clear z1 z2 z3 HRO
        by_cases hm1 : a < s
        · as_aux_lemma =>
          have f1 : (a : Int) < (s : Int) := by omega
          have f2 : (s : Int) < (mid : Int) := by omega
          have hih1 := fun _ : Unit => ih w0 blk off cap N a s mid d0 d1 wu (by omega) HT.out.st hN (by omega) (by omega) (by omega) HT.out.p1 HT.out.p2
          have HIH1 : Hid _ := hih1
          clear hih1
          go_wp2_with fail
          refine (HIH1.out ()).mono ?_
          rintro e2 wv ⟨rfl, d2, z1, z2, z3⟩
          have HH : Hid (Half w0 blk off N a mid b s e d0 d d1 d2 wv) := HT.out.half (by omega) z1 z2 z3
          clear z1 z2 z3 HIH1
          by_cases hm2 : e < b
          · as_aux_lemma =>
            have g1 : (mid : Int) < (e : Int) := by omega
            have g2 : (e : Int) < (b : Int) := by omega
            have hih := fun _ : Unit => ih w0 blk off cap N mid e b d0 d2 wv (by omega) HH.out.st hN (by omega) (by omega) hb HH.out.t.1 HH.out.t.2
            have HIH : Hid _ := hih
            clear hih
            go_wp2_with fail
            refine (HIH.out ()).mono ?_
            rintro e3 w3 ⟨rfl, d3, z1, z2, z3⟩
            have HEE : Hid (∃ d', PermIn a b d d' ∧ SortedIn (ltOf cf) a b d' ∧ SWK PT.enc 2 w0 blk off d' w3) := HH.out.done (by omega) z1 z2 z3
            clear z1 z2 z3 HIH
            go_wp2
            go_end0
            exact ⟨rfl, HEE.out⟩
          · as_aux_lemma =>
            have HEE : Hid (∃ d', PermIn a b d d' ∧ SortedIn (ltOf cf) a b d' ∧ SWK PT.enc 2 w0 blk off d' wv) := HH.out.done0 (by omega) (by omega) (by omega)
            have g1 : (mid : Int) < (e : Int) := by omega
            have g2 : ¬ (e : Int) < (b : Int) := by omega
            go_wp2
            go_end0
            exact ⟨rfl, HEE.out⟩
        · as_aux_lemma =>
          have HH : Hid (Half w0 blk off N a mid b s e d0 d d1 d1 wu) := HT.out.half0 (by omega) (by omega)
          have f1 : ¬ (a : Int) < (s : Int) := by omega
          by_cases hm2 : e < b
          · as_aux_lemma =>
            have g1 : (mid : Int) < (e : Int) := by omega
            have g2 : (e : Int) < (b : Int) := by omega
            have hih := fun _ : Unit => ih w0 blk off cap N mid e b d0 d1 wu (by omega) HH.out.st hN (by omega) (by omega) hb HH.out.t.1 HH.out.t.2
            have HIH : Hid _ := hih
            clear hih
            go_wp2_with fail
            refine (HIH.out ()).mono ?_
            rintro e3 w3 ⟨rfl, d3, z1, z2, z3⟩
            have HEE : Hid (∃ d', PermIn a b d d' ∧ SortedIn (ltOf cf) a b d' ∧ SWK PT.enc 2 w0 blk off d' w3) := HH.out.done (by omega) z1 z2 z3
            clear z1 z2 z3 HIH
            go_wp2
            go_end0
            exact ⟨rfl, HEE.out⟩
          · as_aux_lemma =>
            have HEE : Hid (∃ d', PermIn a b d d' ∧ SortedIn (ltOf cf) a b d' ∧ SWK PT.enc 2 w0 blk off d' wu) := HH.out.done0 (by omega) (by omega) (by omega)
            have g1 : (mid : Int) < (e : Int) := by omega
            have g2 : ¬ (e : Int) < (b : Int) := by omega
            go_wp2
            go_end0
            exact ⟨rfl, HEE.out⟩
      · as_aux_lemma =>
        have u1 : ¬ (s : Int) < (m : Int) := by omega
        have HT : Hid (Turned w0 blk off N a mid b s e d0 d d wr) := turned_of HCUT.out HS1.out HS2.out HF.out.st hb (Rot.none (by omega) (by omega) (by omega)) (permIn_refl _ _ _) HF.out.st.swk
        have f1 : (a : Int) < (s : Int) := by omega
        by_cases hm1 : s < mid
        · as_aux_lemma =>
          have f1 : (a : Int) < (s : Int) := by omega
          have f2 : (s : Int) < (mid : Int) := by omega
          have hih1 := fun _ : Unit => ih w0 blk off cap N a s mid d0 d wr (by omega) HT.out.st hN (by omega) (by omega) (by omega) HT.out.p1 HT.out.p2
          have HIH1 : Hid _ := hih1
          clear hih1
          go_wp2_with fail
          refine (HIH1.out ()).mono ?_
          rintro e2 wv ⟨rfl, d2, z1, z2, z3⟩
          have HH : Hid (Half w0 blk off N a mid b s e d0 d d d2 wv) := HT.out.half (by omega) z1 z2 z3
          clear z1 z2 z3 HIH1
          have HEE : Hid (∃ d', PermIn a b d d' ∧ SortedIn (ltOf cf) a b d' ∧ SWK PT.enc 2 w0 blk off d' wv) := HH.out.done0 (by omega) (by omega) (by omega)
          have g1 : ¬ (mid : Int) < (e : Int) := by omega
          go_wp2
          go_end0
          exact ⟨rfl, HEE.out⟩
        · as_aux_lemma =>
          have HH : Hid (Half w0 blk off N a mid b s e d0 d d d wr) := HT.out.half0 (by omega) (by omega)
          have f2 : ¬ (s : Int) < (mid : Int) := by omega
          have HEE : Hid (∃ d', PermIn a b d d' ∧ SortedIn (ltOf cf) a b d' ∧ SWK PT.enc 2 w0 blk off d' wr) := HH.out.done0 (by omega) (by omega) (by omega)
          have g1 : ¬ (mid : Int) < (e : Int) := by omega
          go_wp2
          go_end0
          exact ⟨rfl, HEE.out⟩
end Go.Proofs.Ytklipommocijaaa
