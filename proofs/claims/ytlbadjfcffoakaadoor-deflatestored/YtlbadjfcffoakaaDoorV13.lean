/- Merging two sorted parts: the general way, and the function. -/
/- Merging two sorted parts: the general way, walked. -/
/- Merging two sorted parts: the general way, walked. -/
/- Merging, whatever the parts; so the sort of packs. -/
import Derived.Test.YtlbadjfcffoakaaDoorV12
namespace Go.Proofs.YtlbadjfcffoakaaDoor
open Go.RowKit PT Go.Sort
set_option linter.unusedVariables false
set_option maxRecDepth 20000

structure FindM (w0 : World) (blk off N q s0 r0 s r : Nat) (d0 d : Array PT) (wr : World) : Prop where
  st : SortSt w0 blk off N d0 d wr
  le : s0 ≤ s ∧ s ≤ r ∧ r ≤ r0
  low : ∀ t, s0 ≤ t → t < s → d[t]!.wt ≤ d[q - t]!.wt
  high : ∀ t, r ≤ t → t < r0 → d[q - t]!.wt < d[t]!.wt

def SymAt (n : Nat) : Prop := ∀ (w0 : World) (blk off cap N a m b : Nat) (d0 d : Array PT) (w : World), b - a < n → SortSt w0 blk off N d0 d w → N ≤ 100000 → a < m → m < b → b ≤ N → SortedIn (ltOf cf) a m d → SortedIn (ltOf cf) m b d →
  Calls Tryd.prog 92 #[.slice (some ⟨blk, off, none⟩) N cap, .int .i64 a, .int .i64 m, .int .i64 b, .func (.func 81) #[] #[]] w fun e w' =>
    e = .returned (.tuple #[]) ∧ ∃ d', PermIn a b d d' ∧ SortedIn (ltOf cf) a b d' ∧ SWK PT.enc 2 w0 blk off d' w'

structure Turned (w0 : World) (blk off N a mid b s e : Nat) (d0 d d1 : Array PT) (wr : World) : Prop where
  st : SortSt w0 blk off N d0 d1 wr
  perm : PermIn a b d d1
  p1 : SortedIn (ltOf cf) a s d1
  p2 : SortedIn (ltOf cf) s mid d1
  p3 : SortedIn (ltOf cf) mid e d1
  p4 : SortedIn (ltOf cf) e b d1
  less : ∀ p q, a ≤ p → p < mid → mid ≤ q → q < b → d1[p]!.wt ≤ d1[q]!.wt
structure Half (w0 : World) (blk off N a mid b s e : Nat) (d0 d d1 d2 : Array PT) (wr : World) : Prop where
  t : SortedIn (ltOf cf) mid e d2 ∧ SortedIn (ltOf cf) e b d2
  st : SortSt w0 blk off N d0 d2 wr
  size1 : d1.size = N
  perm : PermIn a b d d2
  less : ∀ p q, a ≤ p → p < mid → mid ≤ q → q < b → d1[p]!.wt ≤ d1[q]!.wt
  p12 : PermIn a mid d1 d2
  srt : SortedIn (ltOf cf) a mid d2
theorem Turned.half {w0 : World} {blk off N a mid b s e : Nat} {d0 d d1 d2 : Array PT} {wr w2 : World} (h : Turned w0 blk off N a mid b s e d0 d d1 wr) (hle : a ≤ s ∧ s ≤ mid ∧ mid ≤ e ∧ e ≤ b ∧ b ≤ N) (hp : PermIn a mid d1 d2) (hs : SortedIn (ltOf cf) a mid d2) (hw : SWK PT.enc 2 w0 blk off d2 w2) : Half w0 blk off N a mid b s e d0 d d1 d2 w2 :=
  ⟨⟨sortedIn_keep hp h.p3 (by omega), sortedIn_keep hp h.p4 (by omega)⟩, h.st.step (by omega) hp hw, h.st.size, permIn_trans _ _ _ _ _ h.perm (permIn_mono _ _ a mid a b (by omega) (by omega) (by rw [h.st.size]; omega) hp), h.less, hp, hs⟩
theorem Turned.half0 {w0 : World} {blk off N a mid b s e : Nat} {d0 d d1 : Array PT} {wr : World} (h : Turned w0 blk off N a mid b s e d0 d d1 wr) (hle : a ≤ s ∧ s ≤ mid ∧ mid ≤ e ∧ e ≤ b ∧ b ≤ N) (h0 : ¬ (a < s ∧ s < mid)) : Half w0 blk off N a mid b s e d0 d d1 d1 wr := by
  refine h.half hle (permIn_refl _ _ _) ?_ h.st.swk
  rcases Nat.lt_or_ge a s with h1 | h1
  · have : s = mid := by omega
    rw [← this]; exact h.p1
  · have : s = a := by omega
    rw [← this]; exact h.p2
theorem Half.done {w0 : World} {blk off N a mid b s e : Nat} {d0 d d1 d2 d3 : Array PT} {wr w3 : World} (h : Half w0 blk off N a mid b s e d0 d d1 d2 wr) (hle : a ≤ mid ∧ mid ≤ b ∧ b ≤ N) (hp : PermIn mid b d2 d3) (hs : SortedIn (ltOf cf) mid b d3) (hw : SWK PT.enc 2 w0 blk off d3 w3) : ∃ d', PermIn a b d d' ∧ SortedIn (ltOf cf) a b d' ∧ SWK PT.enc 2 w0 blk off d' w3 :=
  ⟨d3, permIn_trans _ _ _ _ _ h.perm (permIn_mono _ _ mid b a b (by omega) (by omega) (by rw [h.st.size]; omega) hp), sorted_join h.size1 hle.2.2 hle.1 hle.2.1 h.less h.p12 h.srt hp hs, hw⟩
theorem Half.done0 {w0 : World} {blk off N a mid b s e : Nat} {d0 d d1 d2 : Array PT} {wr : World} (h : Half w0 blk off N a mid b s e d0 d d1 d2 wr) (hle : a ≤ mid ∧ mid ≤ b ∧ b ≤ N) (he : mid ≤ e ∧ e ≤ b) (h0 : ¬ (mid < e ∧ e < b)) : ∃ d', PermIn a b d d' ∧ SortedIn (ltOf cf) a b d' ∧ SWK PT.enc 2 w0 blk off d' wr := by
  refine h.done hle (permIn_refl _ _ _) ?_ h.st.swk
  rcases Nat.lt_or_ge mid e with h1 | h1
  · have : e = b := by omega
    rw [← this]; exact h.t.1
  · have : e = mid := by omega
    rw [← this]; exact h.t.2
theorem cut_of {w0 : World} {blk off N a m b mid s0 r0 s : Nat} {d0 d : Array PT} {wr : World} (h : FindM w0 blk off N (mid + m - 1) s0 r0 s s d0 d wr) (ham : a < m) (hmb : m < b) (hmid : (a + b) / 2 = mid) (hc : (mid < m ∧ s0 = mid + m - b ∧ r0 = mid) ∨ (m ≤ mid ∧ s0 = a ∧ r0 = m)) : Cut a m b mid s (mid + m - s) d := by
  have hle := h.le
  refine ⟨by omega, by omega, fun h1 h2 => ?_, fun h1 h2 => ?_⟩
  · have := h.low (s - 1) (by omega) (by omega)
    rw [show mid + m - 1 - (s - 1) = mid + m - s by omega] at this
    exact this
  · have := h.high s (Nat.le_refl _) (by omega)
    rw [show mid + m - 1 - s = mid + m - s - 1 by omega] at this
    omega
theorem turned_of {w0 : World} {blk off N a m b mid s e : Nat} {d0 d d1 : Array PT} {wr w1 : World} (c : Cut a m b mid s e d) (h1 : SortedIn (ltOf cf) a m d) (h2 : SortedIn (ltOf cf) m b d) (hst : SortSt w0 blk off N d0 d wr) (hb : b ≤ N) (r : Rot s m e d d1) (hp : PermIn s e d d1) (hw : SWK PT.enc 2 w0 blk off d1 w1) : Turned w0 blk off N a mid b s e d0 d d1 w1 := by
  obtain ⟨q1, q2, q3, q4, q5⟩ := c.parts h1 h2 r
  have hle := c.le
  exact ⟨hst.step (by omega) hp hw, permIn_mono _ _ s e a b (by omega) (by omega) (by rw [hst.size]; omega) hp, q1, q2, q3, q4, q5⟩
end Go.Proofs.YtlbadjfcffoakaaDoor
namespace Go.Proofs.YtlbadjfcffoakaaDoor
open Go.RowKit PT Go.Sort
set_option linter.unusedVariables false
set_option maxRecDepth 20000

set_option maxRecDepth 20000 in
set_option maxHeartbeats 40000000 in
theorem symGenA (n : Nat) (ih : SymAt n) (w0 : World) (blk off cap N a m b : Nat) (d0 d : Array PT) (w : World) (hn : b - a < n + 1) (hst : SortSt w0 blk off N d0 d w) (hN : N ≤ 100000) (ham : a + 1 < m) (hmb2 : m + 1 < b) (hb : b ≤ N) (hs1 : SortedIn (ltOf cf) a m d) (hs2 : SortedIn (ltOf cf) m b d) (hway : (a + b) / 2 < m) :
    Calls Tryd.prog 92 #[.slice (some ⟨blk, off, none⟩) N cap, .int .i64 a, .int .i64 m, .int .i64 b, .func (.func 81) #[] #[]] w fun e w' =>
      e = .returned (.tuple #[]) ∧ ∃ d', PermIn a b d d' ∧ SortedIn (ltOf cf) a b d' ∧ SWK PT.enc 2 w0 blk off d' w' := by
  have HST : Hid (SortSt w0 blk off N d0 d w) := hst
  have HS1 : Hid (SortedIn (ltOf cf) a m d) := hs1
  have HS2 : Hid (SortedIn (ltOf cf) m b d) := hs2
  have hab : a < m := by omega
  have hmb : m < b := by omega
  obtain ⟨mid, hmid⟩ : ∃ mid, (a + b) / 2 = mid := ⟨_, rfl⟩
  rw [hmid] at hway
  have hmidi : ((a : Int) + (b : Int)) / 2 = (mid : Int) := by omega
  obtain ⟨nn, hnn⟩ : ∃ nn, mid + m = nn := ⟨_, rfl⟩
  have hnni : (mid : Int) + (m : Int) = (nn : Int) := by omega
  have wnn : IntKind.i64.wrap ((mid : Int) + (m : Int)) = (nn : Int) := by rw [IntKind.wrap_i64]; omega
  obtain ⟨q, hq⟩ : ∃ q, mid + m - 1 = q := ⟨_, rfl⟩
  have hqi : (nn : Int) - 1 = (q : Int) := by omega
  have wq : IntKind.i64.wrap ((nn : Int) - 1) = (q : Int) := by rw [IntKind.wrap_i64]; omega
  have v1 : IntKind.i64.wrap ((m : Int) - (a : Int)) = (m : Int) - (a : Int) := by rw [IntKind.wrap_i64]; omega
  have v2 : ¬ (m : Int) - (a : Int) = 1 := by omega
  have v3 : ((m : Int) - (a : Int) == 1) = false := by simpa using v2
  have v4 : IntKind.i64.wrap ((b : Int) - (m : Int)) = (b : Int) - (m : Int) := by rw [IntKind.wrap_i64]; omega
  have v5 : ¬ (b : Int) - (m : Int) = 1 := by omega
  have v6 : ((b : Int) - (m : Int) == 1) = false := by simpa using v5
  have u0 : (mid : Int) < (m : Int) := by omega
  obtain ⟨s0, hs0⟩ : ∃ s, mid + m - b = s := ⟨_, rfl⟩
  have hs0i : (nn : Int) - (b : Int) = (s0 : Int) := by omega
  have ws0 : IntKind.i64.wrap ((nn : Int) - (b : Int)) = (s0 : Int) := by rw [IntKind.wrap_i64]; omega
  have HS0 : Hid (s0 = mid + m - b) := hs0.symm
  have HMID : Hid ((a + b) / 2 = mid) := hmid
  clear hst hs1 hs2 hs0 hmid
  go_enter Tryd.func92, Tryd.ntmps92
  go_wp2
  go_loopw [20, 21, 23] (fun v20 v21 _ wr => ∃ (s r : Nat), v20 = .int .i64 s ∧ v21 = .int .i64 r ∧ Hid (FindM w0 blk off N q s0 mid s r d0 d wr)) (fun v20 v21 _ _ => (intOf v21).toNat - (intOf v20).toNat)
  case atStart => exact ⟨s0, mid, rfl, rfl, HST.out, by omega, fun t h1 h2 => by omega, fun t h1 h2 => by omega⟩
  case round =>
    obtain ⟨s, r, rfl, rfl, HF⟩ := hrel
    have hle := HF.out.le
    by_cases hlt : s < r
    · have hlti : (s : Int) < (r : Int) := by omega
      have hh := half s r hlt
      obtain ⟨h, hhd⟩ : ∃ h, (s + r) / 2 = h := ⟨_, rfl⟩
      rw [hhd] at hh
      have hhi : ((s : Int) + (r : Int)) / 2 = (h : Int) := by omega
      obtain ⟨y, hy⟩ : ∃ y, q - h = y := ⟨_, rfl⟩
      have hyi : (q : Int) - (h : Int) = (y : Int) := by omega
      have wy : IntKind.i64.wrap ((q : Int) - (h : Int)) = (y : Int) := by rw [IntKind.wrap_i64]; omega
      obtain ⟨c1, _, c3, _⟩ := st_cells HF.out.st (x := y) (by omega)
      obtain ⟨k1, _, k3, _⟩ := st_cells HF.out.st (x := h) (by omega)
      obtain ⟨tx, htx⟩ : ∃ t, d[y]! = t := ⟨_, rfl⟩
      obtain ⟨ty, hty⟩ : ∃ t, d[h]! = t := ⟨_, rfl⟩
      rw [htx] at c1 c3
      rw [hty] at k1 k3
      have HXY : Hid (d[y]! = tx ∧ d[h]! = ty ∧ q - h = y) := ⟨htx, hty, hy⟩
      have HSWK : Hid (∀ q os, SWK PT.enc 2 w0 blk off d (grow (wr.drew.drewN q) os)) := fun q os => HF.out.st.swk.drew.grown q os
      obtain ⟨c, hc⟩ : ∃ c, cf tx ty = c := ⟨_, rfl⟩
      have HC : Hid (∀ W, Calls Tryd.prog 81 #[.agg #[.int .i64 (tx.wt : Nat), tx.fv], .agg #[.int .i64 (ty.wt : Nat), ty.fv]] W fun e w' => e = .returned (.int .i64 c) ∧ ∃ q os', w' = grow (W.drewN q) os') := fun W => by rw [← hc]; exact cmp_at tx ty W
      have hcn := cf_neg (x := tx) (y := ty)
      rw [hc] at hcn
      have hhN : (h : Int) < (N : Int) := by omega
      have haN : (y : Int) < (N : Int) := by omega
      have y0 : (0 : Int) ≤ (y : Int) := by omega
      have wy2 : IntKind.i64.wrap (y : Int) = (y : Int) := by rw [IntKind.wrap_i64]; omega
      have HYI : Hid ((q : Int) - (h : Int) = (y : Int) ∧ q - h = y) := ⟨hyi, hy⟩
      clear hc htx hty hhd hyi hy
      by_cases hcc : tx.wt < ty.wt
      · have hc0 : c < 0 := hcn.2 hcc
        have NX : Hid (∀ W, SWK PT.enc 2 w0 blk off d W → FindM w0 blk off N q s0 mid s h d0 d W) := fun W hW => by
          refine ⟨⟨HF.out.st.row, HF.out.st.size0, HF.out.st.size, HF.out.st.perm, hW⟩, by omega, HF.out.low, fun t h1 h2 => ?_⟩
          obtain ⟨e1, e2, e3⟩ := HXY.out
          have hq1 := hq
          have x1 := srt_le HS1.out (show a ≤ h by omega) h1 (by omega)
          have x2 := srt_le HS2.out (show m ≤ q - t by omega) (show q - t ≤ y by omega) (by omega)
          rw [e1] at x2
          rw [e2] at x1
          omega
        clear hcn hcc
        go_wp2_with fail
        go_region_with (first | (go_at_call 81; refine (HC.out _).mono ?_; rintro e W2 ⟨rfl, q2, os, hW2⟩; have H2 : Hid (SWK PT.enc 2 w0 blk off d W2) := (by show SWK _ _ _ _ _ _ _; rw [hW2]; exact HSWK.out q2 os); clear hW2))
        all_goals
          go_wp2
          exact ⟨⟨s, h, rfl, rfl, NX.out _ H2.out⟩, by simp [intOf]; omega⟩
      · have hc0 : ¬ c < 0 := fun e => hcc (hcn.1 e)
        have hcb : decide (c < 0) = false := decide_eq_false hc0
        have hcb2 : (!decide (c < 0)) = true := by rw [hcb]; rfl
        have hcb3 : 0 ≤ c := by omega
        have NX : Hid (∀ W, SWK PT.enc 2 w0 blk off d W → FindM w0 blk off N q s0 mid (h + 1) r d0 d W) := fun W hW => by
          refine ⟨⟨HF.out.st.row, HF.out.st.size0, HF.out.st.size, HF.out.st.perm, hW⟩, by omega, fun t h1 h2 => ?_, HF.out.high⟩
          obtain ⟨e1, e2, e3⟩ := HXY.out
          have hq1 := hq
          have x1 := srt_le HS1.out (show a ≤ t by omega) (show t ≤ h by omega) (by omega)
          have x2 := srt_le HS2.out (show m ≤ y by omega) (show y ≤ q - t by omega) (by omega)
          rw [e1] at x2
          rw [e2] at x1
          omega
        clear hcn hcc
        go_wp2_with fail
        go_region_with (first | (go_at_call 81; refine (HC.out _).mono ?_; rintro e W2 ⟨rfl, q2, os, hW2⟩; have H2 : Hid (SWK PT.enc 2 w0 blk off d W2) := (by show SWK _ _ _ _ _ _ _; rw [hW2]; exact HSWK.out q2 os); clear hW2))
        all_goals
          go_wp2
          exact ⟨⟨h + 1, r, by go_num, rfl, NX.out _ H2.out⟩, by simp [intOf]; omega⟩
    · obtain rfl : s = r := by omega
      have hlti : ¬ (s : Int) < (s : Int) := by omega
      have hcut : Cut a m b mid s (mid + m - s) d := by
        have h := HF.out
        rw [← hq] at h
        exact cut_of h hab hmb HMID.out (.inl ⟨hway, HS0.out, rfl⟩)
      obtain ⟨e, he⟩ : ∃ e, mid + m - s = e := ⟨_, rfl⟩
      rw [he] at hcut
      have HCUT : Hid (Cut a m b mid s e d) := hcut
      have hl1 := hcut.le
      have hl2 := hcut.mid
      have hei : (nn : Int) - (s : Int) = (e : Int) := by omega
      have we : IntKind.i64.wrap ((nn : Int) - (s : Int)) = (e : Int) := by rw [IntKind.wrap_i64]; omega
      clear hcut
      by_cases hro : s < mid
      · as_aux_lemma =>
        have u1 : (s : Int) < (m : Int) := by omega
        have u2 : (m : Int) < (e : Int) := by omega
        have hro2 := fun _ : Unit => rotate_ok w0 blk off cap N s m e d0 d wr HF.out.st hN (by omega) (by omega) (by omega)
        have HRO : Hid _ := hro2
        clear hro2
        go_wp2_with fail
        refine (HRO.out ()).mono ?_
        rintro e1 wu ⟨rfl, d1, z1, z2, z3⟩
        have HT : Hid (Turned w0 blk off N a mid b s e d0 d d1 wu) := turned_of HCUT.out HS1.out HS2.out HF.out.st hb z1 z2 z3
        clear z1 z2 z3 HRO
        by_cases hm1 : a < s
        · as_aux_lemma =>
          have f1 : (a : Int) < (s : Int) := by omega
          have f2 : (s : Int) < (mid : Int) := by omega
          have hih1 := fun _ : Unit => ih w0 blk off cap N a s mid d0 d1 wu (by omega) HT.out.st hN (by omega) (by omega) (by omega) HT.out.p1 HT.out.p2
          have HIH1 : Hid _ := hih1
          clear hih1
          go_wp2_with fail
          refine (HIH1.out ()).mono ?_
          rintro e2 wv ⟨rfl, d2, z1, z2, z3⟩
          have HH : Hid (Half w0 blk off N a mid b s e d0 d d1 d2 wv) := HT.out.half (by omega) z1 z2 z3
          clear z1 z2 z3 HIH1
          by_cases hm2 : e < b
          · as_aux_lemma =>
            have g1 : (mid : Int) < (e : Int) := by omega
            have g2 : (e : Int) < (b : Int) := by omega
            have hih := fun _ : Unit => ih w0 blk off cap N mid e b d0 d2 wv (by omega) HH.out.st hN (by omega) (by omega) hb HH.out.t.1 HH.out.t.2
            have HIH : Hid _ := hih
            clear hih
            go_wp2_with fail
            refine (HIH.out ()).mono ?_
            rintro e3 w3 ⟨rfl, d3, z1, z2, z3⟩
            have HEE : Hid (∃ d', PermIn a b d d' ∧ SortedIn (ltOf cf) a b d' ∧ SWK PT.enc 2 w0 blk off d' w3) := HH.out.done (by omega) z1 z2 z3
            clear z1 z2 z3 HIH
            go_wp2
            go_end0
            exact ⟨rfl, HEE.out⟩
          · as_aux_lemma =>
            have HEE : Hid (∃ d', PermIn a b d d' ∧ SortedIn (ltOf cf) a b d' ∧ SWK PT.enc 2 w0 blk off d' wv) := HH.out.done0 (by omega) (by omega) (by omega)
            have g1 : (mid : Int) < (e : Int) := by omega
            have g2 : ¬ (e : Int) < (b : Int) := by omega
            go_wp2
            go_end0
            exact ⟨rfl, HEE.out⟩
        · as_aux_lemma =>
          have HH : Hid (Half w0 blk off N a mid b s e d0 d d1 d1 wu) := HT.out.half0 (by omega) (by omega)
          have f1 : ¬ (a : Int) < (s : Int) := by omega
          by_cases hm2 : e < b
          · as_aux_lemma =>
            have g1 : (mid : Int) < (e : Int) := by omega
            have g2 : (e : Int) < (b : Int) := by omega
            have hih := fun _ : Unit => ih w0 blk off cap N mid e b d0 d1 wu (by omega) HH.out.st hN (by omega) (by omega) hb HH.out.t.1 HH.out.t.2
            have HIH : Hid _ := hih
            clear hih
            go_wp2_with fail
            refine (HIH.out ()).mono ?_
            rintro e3 w3 ⟨rfl, d3, z1, z2, z3⟩
            have HEE : Hid (∃ d', PermIn a b d d' ∧ SortedIn (ltOf cf) a b d' ∧ SWK PT.enc 2 w0 blk off d' w3) := HH.out.done (by omega) z1 z2 z3
            clear z1 z2 z3 HIH
            go_wp2
            go_end0
            exact ⟨rfl, HEE.out⟩
          · as_aux_lemma =>
            have HEE : Hid (∃ d', PermIn a b d d' ∧ SortedIn (ltOf cf) a b d' ∧ SWK PT.enc 2 w0 blk off d' wu) := HH.out.done0 (by omega) (by omega) (by omega)
            have g1 : (mid : Int) < (e : Int) := by omega
            have g2 : ¬ (e : Int) < (b : Int) := by omega
            go_wp2
            go_end0
            exact ⟨rfl, HEE.out⟩
      · as_aux_lemma =>
        have u1 : (s : Int) < (m : Int) := by omega
        have u2 : ¬ (m : Int) < (e : Int) := by omega
        have HT : Hid (Turned w0 blk off N a mid b s e d0 d d wr) := turned_of HCUT.out HS1.out HS2.out HF.out.st hb (Rot.none (by omega) (by omega) (by omega)) (permIn_refl _ _ _) HF.out.st.swk
        have HH : Hid (Half w0 blk off N a mid b s e d0 d d d wr) := HT.out.half0 (by omega) (by omega)
        have f1 : (a : Int) < (s : Int) := by omega
        have f2 : ¬ (s : Int) < (mid : Int) := by omega
        have g1 : (mid : Int) < (e : Int) := by omega
        have g2 : (e : Int) < (b : Int) := by omega
        have hih := fun _ : Unit => ih w0 blk off cap N mid e b d0 d wr (by omega) HH.out.st hN (by omega) (by omega) hb HH.out.t.1 HH.out.t.2
        have HIH : Hid _ := hih
        clear hih
        go_wp2_with fail
        refine (HIH.out ()).mono ?_
        rintro e3 w3 ⟨rfl, d3, z1, z2, z3⟩
        have HEE : Hid (∃ d', PermIn a b d d' ∧ SortedIn (ltOf cf) a b d' ∧ SWK PT.enc 2 w0 blk off d' w3) := HH.out.done (by omega) z1 z2 z3
        clear z1 z2 z3 HIH
        go_wp2
        go_end0
        exact ⟨rfl, HEE.out⟩
end Go.Proofs.YtlbadjfcffoakaaDoor
namespace Go.Proofs.YtlbadjfcffoakaaDoor
open Go.RowKit PT Go.Sort
set_option linter.unusedVariables false
set_option maxRecDepth 20000

set_option maxRecDepth 20000 in
set_option maxHeartbeats 40000000 in
theorem symGenB (n : Nat) (ih : SymAt n) (w0 : World) (blk off cap N a m b : Nat) (d0 d : Array PT) (w : World) (hn : b - a < n + 1) (hst : SortSt w0 blk off N d0 d w) (hN : N ≤ 100000) (ham : a + 1 < m) (hmb2 : m + 1 < b) (hb : b ≤ N) (hs1 : SortedIn (ltOf cf) a m d) (hs2 : SortedIn (ltOf cf) m b d) (hway : m ≤ (a + b) / 2) :
    Calls Tryd.prog 92 #[.slice (some ⟨blk, off, none⟩) N cap, .int .i64 a, .int .i64 m, .int .i64 b, .func (.func 81) #[] #[]] w fun e w' =>
      e = .returned (.tuple #[]) ∧ ∃ d', PermIn a b d d' ∧ SortedIn (ltOf cf) a b d' ∧ SWK PT.enc 2 w0 blk off d' w' := by
  have HST : Hid (SortSt w0 blk off N d0 d w) := hst
  have HS1 : Hid (SortedIn (ltOf cf) a m d) := hs1
  have HS2 : Hid (SortedIn (ltOf cf) m b d) := hs2
  have hab : a < m := by omega
  have hmb : m < b := by omega
  obtain ⟨mid, hmid⟩ : ∃ mid, (a + b) / 2 = mid := ⟨_, rfl⟩
  rw [hmid] at hway
  have hmidi : ((a : Int) + (b : Int)) / 2 = (mid : Int) := by omega
  obtain ⟨nn, hnn⟩ : ∃ nn, mid + m = nn := ⟨_, rfl⟩
  have hnni : (mid : Int) + (m : Int) = (nn : Int) := by omega
  have wnn : IntKind.i64.wrap ((mid : Int) + (m : Int)) = (nn : Int) := by rw [IntKind.wrap_i64]; omega
  obtain ⟨q, hq⟩ : ∃ q, mid + m - 1 = q := ⟨_, rfl⟩
  have hqi : (nn : Int) - 1 = (q : Int) := by omega
  have wq : IntKind.i64.wrap ((nn : Int) - 1) = (q : Int) := by rw [IntKind.wrap_i64]; omega
  have v1 : IntKind.i64.wrap ((m : Int) - (a : Int)) = (m : Int) - (a : Int) := by rw [IntKind.wrap_i64]; omega
  have v2 : ¬ (m : Int) - (a : Int) = 1 := by omega
  have v3 : ((m : Int) - (a : Int) == 1) = false := by simpa using v2
  have v4 : IntKind.i64.wrap ((b : Int) - (m : Int)) = (b : Int) - (m : Int) := by rw [IntKind.wrap_i64]; omega
  have v5 : ¬ (b : Int) - (m : Int) = 1 := by omega
  have v6 : ((b : Int) - (m : Int) == 1) = false := by simpa using v5
  have u0 : ¬ (mid : Int) < (m : Int) := by omega
  have HMID : Hid ((a + b) / 2 = mid) := hmid
  clear hst hs1 hs2 hmid
  go_enter Tryd.func92, Tryd.ntmps92
  go_wp2
  go_loopw [20, 21, 23] (fun v20 v21 _ wr => ∃ (s r : Nat), v20 = .int .i64 s ∧ v21 = .int .i64 r ∧ Hid (FindM w0 blk off N q a m s r d0 d wr)) (fun v20 v21 _ _ => (intOf v21).toNat - (intOf v20).toNat)
  case atStart => exact ⟨a, m, rfl, rfl, HST.out, by omega, fun t h1 h2 => by omega, fun t h1 h2 => by omega⟩
  case round =>
    obtain ⟨s, r, rfl, rfl, HF⟩ := hrel
    have hle := HF.out.le
    by_cases hlt : s < r
    · have hlti : (s : Int) < (r : Int) := by omega
      have hh := half s r hlt
      obtain ⟨h, hhd⟩ : ∃ h, (s + r) / 2 = h := ⟨_, rfl⟩
      rw [hhd] at hh
      have hhi : ((s : Int) + (r : Int)) / 2 = (h : Int) := by omega
      obtain ⟨y, hy⟩ : ∃ y, q - h = y := ⟨_, rfl⟩
      have hyi : (q : Int) - (h : Int) = (y : Int) := by omega
      have wy : IntKind.i64.wrap ((q : Int) - (h : Int)) = (y : Int) := by rw [IntKind.wrap_i64]; omega
      obtain ⟨c1, _, c3, _⟩ := st_cells HF.out.st (x := y) (by omega)
      obtain ⟨k1, _, k3, _⟩ := st_cells HF.out.st (x := h) (by omega)
      obtain ⟨tx, htx⟩ : ∃ t, d[y]! = t := ⟨_, rfl⟩
      obtain ⟨ty, hty⟩ : ∃ t, d[h]! = t := ⟨_, rfl⟩
      rw [htx] at c1 c3
      rw [hty] at k1 k3
      have HXY : Hid (d[y]! = tx ∧ d[h]! = ty ∧ q - h = y) := ⟨htx, hty, hy⟩
      have HSWK : Hid (∀ q os, SWK PT.enc 2 w0 blk off d (grow (wr.drew.drewN q) os)) := fun q os => HF.out.st.swk.drew.grown q os
      obtain ⟨c, hc⟩ : ∃ c, cf tx ty = c := ⟨_, rfl⟩
      have HC : Hid (∀ W, Calls Tryd.prog 81 #[.agg #[.int .i64 (tx.wt : Nat), tx.fv], .agg #[.int .i64 (ty.wt : Nat), ty.fv]] W fun e w' => e = .returned (.int .i64 c) ∧ ∃ q os', w' = grow (W.drewN q) os') := fun W => by rw [← hc]; exact cmp_at tx ty W
      have hcn := cf_neg (x := tx) (y := ty)
      rw [hc] at hcn
      have hhN : (h : Int) < (N : Int) := by omega
      have haN : (y : Int) < (N : Int) := by omega
      have y0 : (0 : Int) ≤ (y : Int) := by omega
      have wy2 : IntKind.i64.wrap (y : Int) = (y : Int) := by rw [IntKind.wrap_i64]; omega
      have HYI : Hid ((q : Int) - (h : Int) = (y : Int) ∧ q - h = y) := ⟨hyi, hy⟩
      clear hc htx hty hhd hyi hy
      by_cases hcc : tx.wt < ty.wt
      · have hc0 : c < 0 := hcn.2 hcc
        have NX : Hid (∀ W, SWK PT.enc 2 w0 blk off d W → FindM w0 blk off N q a m s h d0 d W) := fun W hW => by
          refine ⟨⟨HF.out.st.row, HF.out.st.size0, HF.out.st.size, HF.out.st.perm, hW⟩, by omega, HF.out.low, fun t h1 h2 => ?_⟩
          obtain ⟨e1, e2, e3⟩ := HXY.out
          have hq1 := hq
          have x1 := srt_le HS1.out (show a ≤ h by omega) h1 (by omega)
          have x2 := srt_le HS2.out (show m ≤ q - t by omega) (show q - t ≤ y by omega) (by omega)
          rw [e1] at x2
          rw [e2] at x1
          omega
        clear hcn hcc
        go_wp2_with fail
        go_region_with (first | (go_at_call 81; refine (HC.out _).mono ?_; rintro e W2 ⟨rfl, q2, os, hW2⟩; have H2 : Hid (SWK PT.enc 2 w0 blk off d W2) := (by show SWK _ _ _ _ _ _ _; rw [hW2]; exact HSWK.out q2 os); clear hW2))
        all_goals
          go_wp2
          exact ⟨⟨s, h, rfl, rfl, NX.out _ H2.out⟩, by simp [intOf]; omega⟩
      · have hc0 : ¬ c < 0 := fun e => hcc (hcn.1 e)
        have hcb : decide (c < 0) = false := decide_eq_false hc0
        have hcb2 : (!decide (c < 0)) = true := by rw [hcb]; rfl
        have hcb3 : 0 ≤ c := by omega
        have NX : Hid (∀ W, SWK PT.enc 2 w0 blk off d W → FindM w0 blk off N q a m (h + 1) r d0 d W) := fun W hW => by
          refine ⟨⟨HF.out.st.row, HF.out.st.size0, HF.out.st.size, HF.out.st.perm, hW⟩, by omega, fun t h1 h2 => ?_, HF.out.high⟩
          obtain ⟨e1, e2, e3⟩ := HXY.out
          have hq1 := hq
          have x1 := srt_le HS1.out (show a ≤ t by omega) (show t ≤ h by omega) (by omega)
          have x2 := srt_le HS2.out (show m ≤ y by omega) (show y ≤ q - t by omega) (by omega)
          rw [e1] at x2
          rw [e2] at x1
          omega
        clear hcn hcc
        go_wp2_with fail
        go_region_with (first | (go_at_call 81; refine (HC.out _).mono ?_; rintro e W2 ⟨rfl, q2, os, hW2⟩; have H2 : Hid (SWK PT.enc 2 w0 blk off d W2) := (by show SWK _ _ _ _ _ _ _; rw [hW2]; exact HSWK.out q2 os); clear hW2))
        all_goals
          go_wp2
          exact ⟨⟨h + 1, r, by go_num, rfl, NX.out _ H2.out⟩, by simp [intOf]; omega⟩
    · obtain rfl : s = r := by omega
      have hlti : ¬ (s : Int) < (s : Int) := by omega
      have hcut : Cut a m b mid s (mid + m - s) d := by
        have h := HF.out
        rw [← hq] at h
        exact cut_of h hab hmb HMID.out (.inr ⟨by omega, rfl, rfl⟩)
      obtain ⟨e, he⟩ : ∃ e, mid + m - s = e := ⟨_, rfl⟩
      rw [he] at hcut
      have HCUT : Hid (Cut a m b mid s e d) := hcut
      have hl1 := hcut.le
      have hl2 := hcut.mid
      have hei : (nn : Int) - (s : Int) = (e : Int) := by omega
      have we : IntKind.i64.wrap ((nn : Int) - (s : Int)) = (e : Int) := by rw [IntKind.wrap_i64]; omega
      clear hcut
      by_cases hro : s < m
      · as_aux_lemma =>
        have u1 : (s : Int) < (m : Int) := by omega
        have u2 : (m : Int) < (e : Int) := by omega
        have hro2 := fun _ : Unit => rotate_ok w0 blk off cap N s m e d0 d wr HF.out.st hN (by omega) (by omega) (by omega)
        have HRO : Hid _ := hro2
        clear hro2
        go_wp2_with fail
        refine (HRO.out ()).mono ?_
        rintro e1 wu ⟨rfl, d1, z1, z2, z3⟩
        have HT : Hid (Turned w0 blk off N a mid b s e d0 d d1 wu) := turned_of HCUT.out HS1.out HS2.out HF.out.st hb z1 z2 z3
        clear z1 z2 z3 HRO
        by_cases hm1 : a < s
        · as_aux_lemma =>
          have f1 : (a : Int) < (s : Int) := by omega
          have f2 : (s : Int) < (mid : Int) := by omega
          have hih1 := fun _ : Unit => ih w0 blk off cap N a s mid d0 d1 wu (by omega) HT.out.st hN (by omega) (by omega) (by omega) HT.out.p1 HT.out.p2
          have HIH1 : Hid _ := hih1
          clear hih1
          go_wp2_with fail
          refine (HIH1.out ()).mono ?_
          rintro e2 wv ⟨rfl, d2, z1, z2, z3⟩
          have HH : Hid (Half w0 blk off N a mid b s e d0 d d1 d2 wv) := HT.out.half (by omega) z1 z2 z3
          clear z1 z2 z3 HIH1
          by_cases hm2 : e < b
          · as_aux_lemma =>
            have g1 : (mid : Int) < (e : Int) := by omega
            have g2 : (e : Int) < (b : Int) := by omega
            have hih := fun _ : Unit => ih w0 blk off cap N mid e b d0 d2 wv (by omega) HH.out.st hN (by omega) (by omega) hb HH.out.t.1 HH.out.t.2
            have HIH : Hid _ := hih
            clear hih
            go_wp2_with fail
            refine (HIH.out ()).mono ?_
            rintro e3 w3 ⟨rfl, d3, z1, z2, z3⟩
            have HEE : Hid (∃ d', PermIn a b d d' ∧ SortedIn (ltOf cf) a b d' ∧ SWK PT.enc 2 w0 blk off d' w3) := HH.out.done (by omega) z1 z2 z3
            clear z1 z2 z3 HIH
            go_wp2
            go_end0
            exact ⟨rfl, HEE.out⟩
          · as_aux_lemma =>
            have HEE : Hid (∃ d', PermIn a b d d' ∧ SortedIn (ltOf cf) a b d' ∧ SWK PT.enc 2 w0 blk off d' wv) := HH.out.done0 (by omega) (by omega) (by omega)
            have g1 : (mid : Int) < (e : Int) := by omega
            have g2 : ¬ (e : Int) < (b : Int) := by omega
            go_wp2
            go_end0
            exact ⟨rfl, HEE.out⟩
        · as_aux_lemma =>
          have HH : Hid (Half w0 blk off N a mid b s e d0 d d1 d1 wu) := HT.out.half0 (by omega) (by omega)
          have f1 : ¬ (a : Int) < (s : Int) := by omega
          by_cases hm2 : e < b
          · as_aux_lemma =>
            have g1 : (mid : Int) < (e : Int) := by omega
            have g2 : (e : Int) < (b : Int) := by omega
            have hih := fun _ : Unit => ih w0 blk off cap N mid e b d0 d1 wu (by omega) HH.out.st hN (by omega) (by omega) hb HH.out.t.1 HH.out.t.2
            have HIH : Hid _ := hih
            clear hih
            go_wp2_with fail
            refine (HIH.out ()).mono ?_
            rintro e3 w3 ⟨rfl, d3, z1, z2, z3⟩
            have HEE : Hid (∃ d', PermIn a b d d' ∧ SortedIn (ltOf cf) a b d' ∧ SWK PT.enc 2 w0 blk off d' w3) := HH.out.done (by omega) z1 z2 z3
            clear z1 z2 z3 HIH
            go_wp2
            go_end0
            exact ⟨rfl, HEE.out⟩
          · as_aux_lemma =>
            have HEE : Hid (∃ d', PermIn a b d d' ∧ SortedIn (ltOf cf) a b d' ∧ SWK PT.enc 2 w0 blk off d' wu) := HH.out.done0 (by omega) (by omega) (by omega)
            have g1 : (mid : Int) < (e : Int) := by omega
            have g2 : ¬ (e : Int) < (b : Int) := by omega
            go_wp2
            go_end0
            exact ⟨rfl, HEE.out⟩
      · as_aux_lemma =>
        have u1 : ¬ (s : Int) < (m : Int) := by omega
        have HT : Hid (Turned w0 blk off N a mid b s e d0 d d wr) := turned_of HCUT.out HS1.out HS2.out HF.out.st hb (Rot.none (by omega) (by omega) (by omega)) (permIn_refl _ _ _) HF.out.st.swk
        have f1 : (a : Int) < (s : Int) := by omega
        by_cases hm1 : s < mid
        · as_aux_lemma =>
          have f1 : (a : Int) < (s : Int) := by omega
          have f2 : (s : Int) < (mid : Int) := by omega
          have hih1 := fun _ : Unit => ih w0 blk off cap N a s mid d0 d wr (by omega) HT.out.st hN (by omega) (by omega) (by omega) HT.out.p1 HT.out.p2
          have HIH1 : Hid _ := hih1
          clear hih1
          go_wp2_with fail
          refine (HIH1.out ()).mono ?_
          rintro e2 wv ⟨rfl, d2, z1, z2, z3⟩
          have HH : Hid (Half w0 blk off N a mid b s e d0 d d d2 wv) := HT.out.half (by omega) z1 z2 z3
          clear z1 z2 z3 HIH1
          have HEE : Hid (∃ d', PermIn a b d d' ∧ SortedIn (ltOf cf) a b d' ∧ SWK PT.enc 2 w0 blk off d' wv) := HH.out.done0 (by omega) (by omega) (by omega)
          have g1 : ¬ (mid : Int) < (e : Int) := by omega
          go_wp2
          go_end0
          exact ⟨rfl, HEE.out⟩
        · as_aux_lemma =>
          have HH : Hid (Half w0 blk off N a mid b s e d0 d d d wr) := HT.out.half0 (by omega) (by omega)
          have f2 : ¬ (s : Int) < (mid : Int) := by omega
          have HEE : Hid (∃ d', PermIn a b d d' ∧ SortedIn (ltOf cf) a b d' ∧ SWK PT.enc 2 w0 blk off d' wr) := HH.out.done0 (by omega) (by omega) (by omega)
          have g1 : ¬ (mid : Int) < (e : Int) := by omega
          go_wp2
          go_end0
          exact ⟨rfl, HEE.out⟩
end Go.Proofs.YtlbadjfcffoakaaDoor
namespace Go.Proofs.YtlbadjfcffoakaaDoor
open Go.RowKit PT Go.Sort
set_option linter.unusedVariables false
set_option maxRecDepth 20000

theorem symAt_all : ∀ n, SymAt n
  | 0 => fun w0 blk off cap N a m b d0 d w hn => by omega
  | n + 1 => fun w0 blk off cap N a m b d0 d w hn hst hN ham hmb hb hs1 hs2 => by
    by_cases h1 : m = a + 1
    · subst h1
      exact symOne w0 blk off cap N a b d0 d w hst hN hmb hb hs2
    · by_cases h2 : b = m + 1
      · subst h2
        exact symLast w0 blk off cap N a m d0 d w hst hN (by omega) hb hs1
      · by_cases h3 : (a + b) / 2 < m
        · exact symGenA n (symAt_all n) w0 blk off cap N a m b d0 d w hn hst hN (by omega) (by omega) hb hs1 hs2 h3
        · exact symGenB n (symAt_all n) w0 blk off cap N a m b d0 d w hn hst hN (by omega) (by omega) hb hs1 hs2 (by omega)
theorem symOK : SymOK := fun w0 blk off cap N a m b d0 d w hst hN ham hmb hb hs1 hs2 => symAt_all (b - a + 1) w0 blk off cap N a m b d0 d w (by omega) hst hN ham hmb hb hs1 hs2
theorem sorts_all (n : Nat) (h : n ≤ 288) : SortsTo n := sorts_of n (by omega) (fun _ => symOK)
end Go.Proofs.YtlbadjfcffoakaaDoor
