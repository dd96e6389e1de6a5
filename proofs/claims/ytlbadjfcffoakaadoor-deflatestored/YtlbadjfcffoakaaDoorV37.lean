/- Layer 5: codesFor, the walk. -/
import Derived.Test.YtlbadjfcffoakaaDoorV36
namespace Go.Proofs.YtlbadjfcffoakaaDoor
open Go.RowKit
set_option linter.unusedVariables false
set_option maxRecDepth 20000

def fiMu (X : Nat) (w : World) : Nat := match w.cell? ⟨X, 4, none⟩ with | some (.int _ n) => n.toNat | _ => 0
theorem fiMu_is {X n : Nat} {w : World} (h : w.cell? ⟨X, 4, none⟩ = some (.int .i64 (n : Nat))) : fiMu X w = n := by
  unfold fiMu; rw [h]; simp
set_option maxHeartbeats 8000000 in
theorem codesFor_ok (g1 g2 mo : Nat) (T : List (Nat × Nat × Nat)) (w : World) (h1 : LB w g1 288 (freqS T)) (h2 : LB w g2 30 (cntD T)) (hfin : ∀ t ∈ T, Fine t) (hTl : T.length ≤ 1048576) (ho : OrdAt w) :
    Calls Tryd.prog 45 #[.agg #[.slice (some ⟨g1, 0, none⟩) 288 288, .slice (some ⟨g2, 0, none⟩) 30 30, .int .i64 (mo : Nat)]] w fun e w' => ∃ c1 c2 cf m1 m2 nf A1 A2 A3 ao cp, e = .returned (.agg #[.slice (some ⟨A1, 0, none⟩) m1 288, .slice (some ⟨A2, 0, none⟩) m2 30, .slice ao (bothP c1 c2 m1 m2).length cp, .slice (some ⟨A3, 0, none⟩) 19 19, .int .i64 (nf : Nat)]) ∧ TC T c1 c2 cf m1 m2 nf A1 A2 A3 ao w' ∧ Below w.heap.size w w' := by
  obtain ⟨i0, hi0, hz0, hz1, hz2⟩ := info_parts intInfo
  have HI : Hid (_ ∧ _ ∧ _ ∧ _) := ⟨hi0, hz0, hz1, hz2⟩
  have HALL : Hid ((∀ t ∈ T, Fine t) ∧ T.length ≤ 1048576) := ⟨hfin, hTl⟩
  have HC1 : Hid (∀ W', LB W' g1 288 (freqS T) → Calls Tryd.prog 61 #[.slice (some ⟨g1, 0, none⟩) 288 288, .int .i64 15] W' fun e w' => ∃ L c Ws, e = .returned (.tuple #[.slice (some ⟨L, 0, none⟩) 288 288, .int .i64 0]) ∧ LB w' L 288 c ∧ W'.heap.size ≤ L ∧ Below W'.heap.size W' w' ∧ BestL (fqL (freqS T) 288) 15 c Ws) := fun W' h => lengths5_ok g1 288 288 15 (freqS T) W' h (by omega) (by omega) (by omega) (by decide) (fq_ok (fun i _ => by unfold freqS; have := cntS_le i T; split <;> omega))
  have HC2 : Hid (∀ W', LB W' g2 30 (cntD T) → Calls Tryd.prog 61 #[.slice (some ⟨g2, 0, none⟩) 30 30, .int .i64 15] W' fun e w' => ∃ L c Ws, e = .returned (.tuple #[.slice (some ⟨L, 0, none⟩) 30 30, .int .i64 0]) ∧ LB w' L 30 c ∧ W'.heap.size ≤ L ∧ Below W'.heap.size W' w' ∧ BestL (fqL (cntD T) 30) 15 c Ws) := fun W' h => lengths5_ok g2 30 30 15 (cntD T) W' h (by omega) (by omega) (by omega) (by decide) (fq_ok (fun i _ => by have := cntD_le i T; omega))
  obtain ⟨W, hW⟩ : ∃ W, (w.alloc (.cells #[.slice (some ⟨g1, 0, none⟩) 288 288, .slice (some ⟨g2, 0, none⟩) 30 30, .int .i64 (mo : Nat)] 91)).alloc (.cells #[.slice none 0 0, .slice none 0 0, .slice none 0 0, .slice none 0 0, .int .i64 0] 95) = W := ⟨_, rfl⟩
  have hbel : Below w.heap.size w W := by rw [← hW]; exact ((Below.refl _ _).alloc (Nat.le_refl _) _).alloc (by simp) _
  obtain ⟨U, hU⟩ : ∃ U, w.heap.size = U := ⟨_, rfl⟩
  obtain ⟨R, hR⟩ : ∃ R, w.heap.size + 1 = R := ⟨_, rfl⟩
  have H0 : Hid (CF w U R g1 g2 mo (freqS T) (cntD T) W) := by
    refine ⟨?_, ?_, h1.below hbel, h2.below hbel, hbel, by omega, ho.below hbel⟩
    · have hb1 := heap_alloc_new w (.cells #[.slice (some ⟨g1, 0, none⟩) 288 288, .slice (some ⟨g2, 0, none⟩) 30 30, .int .i64 (mo : Nat)] 91)
      have hbb : Below (w.heap.size + 1) (w.alloc (.cells #[.slice (some ⟨g1, 0, none⟩) 288 288, .slice (some ⟨g2, 0, none⟩) 30 30, .int .i64 (mo : Nat)] 91)) W := by rw [← hW]; exact (Below.refl _ _).alloc (by simp) _
      rw [← hU]
      exact (hbb.block w.heap.size (by omega)).trans hb1
    · have := heap_alloc_new (w.alloc (.cells #[.slice (some ⟨g1, 0, none⟩) 288 288, .slice (some ⟨g2, 0, none⟩) 30 30, .int .i64 (mo : Nat)] 91)) (.cells #[.slice none 0 0, .slice none 0 0, .slice none 0 0, .slice none 0 0, .int .i64 0] 95)
      rw [hW, show (w.alloc (.cells #[.slice (some ⟨g1, 0, none⟩) 288 288, .slice (some ⟨g2, 0, none⟩) 30 30, .int .i64 (mo : Nat)] 91)).heap.size = w.heap.size + 1 by simp, hR] at this
      exact this
  have HU : Hid (w.heap.size = U ∧ 0 ≠ R ∧ w.heap.size + 1 = R) := ⟨hU, by omega, hR⟩
  clear hU hR h1 h2 hfin hTl ho hbel hi0 hz0 hz1 hz2
  go_enter Tryd.func45, Tryd.ntmps45
  go_upto_region 1 with fail
  try rw [hW]
  rw [HU.out.2.2, HU.out.1]
  clear hW
  obtain ⟨k0, k1⟩ := H0.out.cells
  go_wp2_with fail
  refine (HC1.out _ H0.out.r1).mono ?_
  rintro e w1 ⟨A1, c1, Ws1, he1, hA1, hlo1, hb1, hbest1⟩
  subst he1
  have H1 : Hid (CF w U R g1 g2 mo (freqS T) (cntD T) w1 ∧ LB w1 A1 288 c1 ∧ BestL (fqL (freqS T) 288) 15 c1 Ws1) := ⟨H0.out.quiet hb1, hA1, hbest1⟩
  clear hA1 hlo1 hb1 hbest1 k0 k1 H0 HC1
  obtain ⟨k0, k1⟩ := H1.out.1.cells
  go_wp2_with fail
  refine (HC2.out _ H1.out.1.r2).mono ?_
  rintro e w2 ⟨A2, c2, Ws2, he2, hA2, hlo2, hb2, hbest2⟩
  subst he2
  have H2 : Hid (CF w U R g1 g2 mo (freqS T) (cntD T) w2 ∧ (LB w2 A1 288 c1 ∧ BestL (fqL (freqS T) 288) 15 c1 Ws1) ∧ (LB w2 A2 30 c2 ∧ BestL (fqL (cntD T) 30) 15 c2 Ws2)) := ⟨H1.out.1.quiet hb2, ⟨H1.out.2.1.below hb2, H1.out.2.2⟩, hA2, hbest2⟩
  clear hA2 hlo2 hb2 hbest2 k0 k1 H1 HC2
  have HT1 : Hid (∀ W', LB W' A1 288 c1 → Calls Tryd.prog 62 #[.slice (some ⟨A1, 0, none⟩) 288 288, .int .i64 257] W' fun e w' => (∃ m, 257 ≤ m ∧ m ≤ 288 ∧ (∀ i, m ≤ i → i < 288 → c1 i = 0) ∧ (m = 257 ∨ c1 (m - 1) ≠ 0) ∧ e = .returned (.slice (some ⟨A1, 0, none⟩) m 288)) ∧ ∃ k, w' = W'.drewN k) := fun W' h => by
    refine (trimmedT_ok A1 288 288 257 (cutF c1 288) W' h.cut (by omega) (by omega) (by omega) (cutF_le (fun i hi => H2.out.2.1.2.top i (by rw [fqL_length]; omega)))).mono ?_
    rintro e w' ⟨⟨m, a1, a2, a3, a4, a5⟩, a6⟩
    refine ⟨⟨m, a1, a2, fun i b1 b2 => by have := a3 i b1 b2; rwa [cutF_in b2] at this, ?_, a5⟩, a6⟩
    rcases a4 with a4 | a4
    · exact .inl a4
    · refine .inr ?_
      rwa [cutF_in (by omega)] at a4
  have HT2 : Hid (∀ W', LB W' A2 30 c2 → Calls Tryd.prog 62 #[.slice (some ⟨A2, 0, none⟩) 30 30, .int .i64 1] W' fun e w' => (∃ m, 1 ≤ m ∧ m ≤ 30 ∧ (∀ i, m ≤ i → i < 30 → c2 i = 0) ∧ e = .returned (.slice (some ⟨A2, 0, none⟩) m 30)) ∧ ∃ k, w' = W'.drewN k) := fun W' h => by
    refine (trimmedT_ok A2 30 30 1 (cutF c2 30) W' h.cut (by omega) (by omega) (by omega) (cutF_le (fun i hi => H2.out.2.2.2.top i (by rw [fqL_length]; omega)))).mono ?_
    rintro e w' ⟨⟨m, a1, a2, a3, a4, a5⟩, a6⟩
    exact ⟨⟨m, a1, a2, fun i b1 b2 => by have := a3 i b1 b2; rwa [cutF_in b2] at this, a5⟩, a6⟩
  go_wp2_with fail
  refine (HT1.out _ H2.out.2.1.1).mono ?_
  rintro e w3 ⟨⟨m1, p1, p2, p3, p4, he3⟩, q, hq⟩
  subst he3
  have hb3 : Below w2.heap.size w2 w3 := by rw [hq]; exact ⟨rfl, rfl, rfl, Nat.le_refl _, fun _ _ => rfl⟩
  have H3 : Hid (CF w U R g1 g2 mo (freqS T) (cntD T) w3 ∧ (LB w3 A1 288 c1 ∧ BestL (fqL (freqS T) 288) 15 c1 Ws1) ∧ (LB w3 A2 30 c2 ∧ BestL (fqL (cntD T) 30) 15 c2 Ws2)) := ⟨H2.out.1.quiet hb3, ⟨H2.out.2.1.1.below hb3, H2.out.2.1.2⟩, H2.out.2.2.1.below hb3, H2.out.2.2.2⟩
  have HM1 : Hid ((257 ≤ m1 ∧ m1 ≤ 288) ∧ (∀ i, m1 ≤ i → i < 288 → c1 i = 0) ∧ (m1 = 257 ∨ c1 (m1 - 1) ≠ 0)) := ⟨⟨p1, p2⟩, p3, p4⟩
  clear hq hb3 H2 HT1 p1 p2 p3 p4
  go_wp2_with fail
  refine (HT2.out _ H3.out.2.2.1).mono ?_
  rintro e w4 ⟨⟨m2, p1, p2, p3, he4⟩, q, hq⟩
  subst he4
  have hb4 : Below w3.heap.size w3 w4 := by rw [hq]; exact ⟨rfl, rfl, rfl, Nat.le_refl _, fun _ _ => rfl⟩
  have H4 : Hid (CF w U R g1 g2 mo (freqS T) (cntD T) w4 ∧ (LB w4 A1 288 c1 ∧ BestL (fqL (freqS T) 288) 15 c1 Ws1) ∧ (LB w4 A2 30 c2 ∧ BestL (fqL (cntD T) 30) 15 c2 Ws2)) := ⟨H3.out.1.quiet hb4, ⟨H3.out.2.1.1.below hb4, H3.out.2.1.2⟩, H3.out.2.2.1.below hb4, H3.out.2.2.2⟩
  have HM2 : Hid ((1 ≤ m2 ∧ m2 ≤ 30) ∧ (∀ i, m2 ≤ i → i < 30 → c2 i = 0)) := ⟨⟨p1, p2⟩, p3⟩
  clear hq hb4 H3 HT2 p1 p2 p3
  go_upto_region 4 with fail
  obtain ⟨WX, hWX⟩ : ∃ WX, w4.alloc (.cells #[.slice (some ⟨A1, 0, none⟩) m1 288, .slice (some ⟨A2, 0, none⟩) m2 30, .slice none 0 0, .slice none 0 0, .int .i64 0] 95) = WX := ⟨_, rfl⟩
  obtain ⟨X, hX⟩ : ∃ X, w4.heap.size = X := ⟨_, rfl⟩
  have HX : Hid (CX w R X (.slice (some ⟨A1, 0, none⟩) m1 288) (.slice (some ⟨A2, 0, none⟩) m2 30) (.slice none 0 0) (.slice none 0 0) (.int .i64 0) A1 A2 c1 c2 WX) := by
    have hbX : Below w4.heap.size w4 WX := by rw [← hWX]; exact (Below.refl _ _).alloc (Nat.le_refl _) _
    have hc := H4.out.1.quiet hbX
    have hlt := lt_of_block H4.out.1.res
    refine ⟨hc.res, by rw [← hWX, ← hX]; exact heap_alloc_new _ _, H4.out.2.1.1.below hbX, H4.out.2.2.1.below hbX, hc.bel, hc.loR, by rw [← hX]; exact H4.out.1.bel.size, by omega, hc.ord, by omega, HU.out.2.1⟩
  have HBE : Hid (BestL (fqL (freqS T) 288) 15 c1 Ws1 ∧ BestL (fqL (cntD T) 30) 15 c2 Ws2) := ⟨H4.out.2.1.2, H4.out.2.2.2⟩
  rw [hWX, hX]
  clear hWX hX H4
  obtain ⟨B, hB⟩ : ∃ B, WX.heap.size = B := ⟨_, rfl⟩
  have HO0 : Hid (WX.drew.ownsRow B 3 1 (.slice none 0 0) 0 []) := World.ownsRow_nil _ _ _ _
  have HN1 : Hid ((ivs (lrow c1 m1)).length = m1 * 1 ∧ (∀ j u, (ivs (lrow c1 m1))[j]? = some u → WX.drew.cell? ((⟨A1, 0, none⟩ : Addr).add j) = some u) ∧ (∀ u ∈ ivs (lrow c1 m1), u.oneCell' = true) ∧ 0 < m1 ∧ 0 + m1 ≤ maxLen ∧ (0 + m1) * 8 ≤ 140737488355328 ∧ B ≤ WX.drew.heap.size) :=
    ⟨by rw [ivs_length, lrow_length]; omega, news_row (w := WX.drew) HX.out.r1 HM1.out.1.2, ivs_one _, by have := HM1.out.1; omega, by have := HM1.out.1; unfold maxLen; omega, by have := HM1.out.1; omega, by rw [← hB]; exact Nat.le_refl _⟩
  have HN2 : Hid (∀ W', LB W' A2 30 c2 → (ivs (lrow c2 m2)).length = m2 * 1 ∧ (∀ j u, (ivs (lrow c2 m2))[j]? = some u → W'.cell? ((⟨A2, 0, none⟩ : Addr).add j) = some u) ∧ (∀ u ∈ ivs (lrow c2 m2), u.oneCell' = true) ∧ 0 < m2 ∧ m1 + m2 ≤ maxLen ∧ (m1 + m2) * 8 ≤ 140737488355328) := fun W' h =>
    ⟨by rw [ivs_length, lrow_length]; omega, news_row h HM2.out.1.2, ivs_one _, by have := HM2.out.1; omega, by have := HM1.out.1; have := HM2.out.1; unfold maxLen; omega, by have := HM1.out.1; have := HM2.out.1; omega⟩
  have HBB : Hid (WX.heap.size = B) := hB
  have HXB : Hid (X < B) := by rw [← hB]; exact lt_of_block HX.out.x
  have HS0 : Hid (WX.drew.cell? ⟨X, 0, none⟩ = some (.slice (some ⟨A1, 0, none⟩) m1 288) ∧ WX.drew.cell? ⟨X, 1, none⟩ = some (.slice (some ⟨A2, 0, none⟩) m2 30)) := ⟨HX.out.cells.1.1, HX.out.cells.1.2.1⟩
  clear hB
  go_region_held_law (fun w' => w'.cell? ⟨X, 0, none⟩ = some (.slice (some ⟨A1, 0, none⟩) m1 288) ∧ w'.cell? ⟨X, 1, none⟩ = some (.slice (some ⟨A2, 0, none⟩) m2 30))
    (first | assumption | exact HS0.out | exact KS | go_keep)
    (first
      | (refine step_append_lies _ rfl _ _ 41 rfl B 3 i0 (.int .i64 0) 1 8 Tryd.underlying41 HI.out.1 HI.out.2.1 HI.out.2.2.1 HI.out.2.2.2 rfl (by decide) (.slice none 0 0) 0 [] rfl HO0.out ⟨A1, 0, none⟩ m1 288 (ivs (lrow c1 m1)) rfl HN1.out.1 HN1.out.2.1 HN1.out.2.2.1 HN1.out.2.2.2.1 HN1.out.2.2.2.2.1 HN1.out.2.2.2.2.2.1 HN1.out.2.2.2.2.2.2 _ rfl ?_; intro g cap wb hown hgrow hat hgl; rw [Nat.zero_add] at hown ⊢; rw [List.nil_append] at hown; have hbl : Below B WX.drew wb := D5.Below.grown HO0.out hgrow HN1.out.2.2.2.2.2.2; have hbl' : Below WX.heap.size WX wb := (by rw [HBB.out]; exact ⟨hbl.os, hbl.tape, hbl.output, hbl.size, hbl.block⟩); have HX1 : Hid (CX w R X (.slice (some ⟨A1, 0, none⟩) m1 288) (.slice (some ⟨A2, 0, none⟩) m2 30) (.slice none 0 0) (.slice none 0 0) (.int .i64 0) A1 A2 c1 c2 wb ∧ wb.ownsRow B 3 1 (.slice (some ⟨g, 0, none⟩) m1 cap) m1 (ivs (lrow c1 m1)) ∧ B ≤ wb.heap.size ∧ Below WX.heap.size WX wb) := ⟨HX.out.quiet hbl', hown, (by have := hbl'.size; rw [HBB.out] at this; exact this), hbl'⟩; have KS := (⟨HX1.out.1.cells.1.1, HX1.out.1.cells.1.2.1⟩ : wb.cell? ⟨X, 0, none⟩ = some (.slice (some ⟨A1, 0, none⟩) m1 288) ∧ wb.cell? ⟨X, 1, none⟩ = some (.slice (some ⟨A2, 0, none⟩) m2 30)); clear hown hgrow hat hgl hbl hbl')
      | (refine step_append_lies _ rfl _ _ 41 rfl B 3 i0 (.int .i64 0) 1 8 Tryd.underlying41 HI.out.1 HI.out.2.1 HI.out.2.2.1 HI.out.2.2.2 rfl (by decide) (.slice (some ⟨g, 0, none⟩) m1 cap) m1 (ivs (lrow c1 m1)) rfl HX1.out.2.1 ⟨A2, 0, none⟩ m2 30 (ivs (lrow c2 m2)) rfl (HN2.out _ HX1.out.1.r2).1 (HN2.out _ HX1.out.1.r2).2.1 (HN2.out _ HX1.out.1.r2).2.2.1 (HN2.out _ HX1.out.1.r2).2.2.2.1 (HN2.out _ HX1.out.1.r2).2.2.2.2.1 (HN2.out _ HX1.out.1.r2).2.2.2.2.2 HX1.out.2.2.1 _ rfl ?_; intro g5 cap5 wc hown hgrow hat hgl; have hbl : Below B wb wc := D5.Below.grown HX1.out.2.1 hgrow HX1.out.2.2.1; have HX2 : Hid (wc.ownsRow B 3 1 (.slice (some ⟨g5, 0, none⟩) (m1 + m2) cap5) (m1 + m2) (ivs (lrow c1 m1) ++ ivs (lrow c2 m2)) ∧ Below B wb wc) := ⟨hown, hbl⟩; have KS2 := (⟨cell_low hbl HXB.out KS.1, cell_low hbl HXB.out KS.2⟩ : wc.cell? ⟨X, 0, none⟩ = some (.slice (some ⟨A1, 0, none⟩) m1 288) ∧ wc.cell? ⟨X, 1, none⟩ = some (.slice (some ⟨A2, 0, none⟩) m2 30)); clear hown hgrow hat hgl hbl))
  have H5 : Hid (CX w R X (.slice (some ⟨A1, 0, none⟩) m1 288) (.slice (some ⟨A2, 0, none⟩) m2 30) (.slice none 0 0) (.slice none 0 0) (.int .i64 0) A1 A2 c1 c2 wc ∧ LR wc g5 (m1 + m2) (fun i => (bothL c1 c2 m1 m2).getD i 0) ∧ m1 + m2 ≤ cap5 ∧ cap5 ≤ 9223372036854775807) := by
    have h1 := HX1.out.2.2.2
    have h2 := HX2.out.2
    rw [← HBB.out] at h2
    have h3 := HX2.out.1
    rw [ivs_append] at h3
    obtain ⟨h4, h5, h6⟩ := LR_of_owns (L := bothL c1 c2 m1 m2) h3 (bothL_length _ _ _ _)
    unfold maxLen at h6
    exact ⟨HX.out.quiet (h1.trans h2), h4, h5, by omega⟩
  obtain ⟨PL, hPL⟩ : ∃ PL, bothP c1 c2 m1 m2 = PL := ⟨_, rfl⟩
  have HB15 : Hid (∀ i, (bothL c1 c2 m1 m2).getD i 0 ≤ 15) := by
    have t1 : ∀ i, i < m1 → c1 i ≤ 15 := fun i hi => HBE.out.1.top i (by rw [fqL_length]; have := HM1.out.1; omega)
    have t2 : ∀ i, i < m2 → c2 i ≤ 15 := fun i hi => HBE.out.2.top i (by rw [fqL_length]; have := HM2.out.1; omega)
    exact append_le (lrow_le t1) (lrow_le t2)
  have HPS : Hid ((∀ p ∈ PL, p.1 < 19) ∧ PL.length ≤ 100000) := by
    have t1 : ∀ i, i < m1 → c1 i ≤ 15 := fun i hi => HBE.out.1.top i (by rw [fqL_length]; have := HM1.out.1; omega)
    have t2 : ∀ i, i < m2 → c2 i ≤ 15 := fun i hi => HBE.out.2.top i (by rw [fqL_length]; have := HM2.out.1; omega)
    have hs := bothP_says (c1 := c1) (c2 := c2) (m1 := m1) (m2 := m2) t1 t2
    rw [hPL] at hs
    refine ⟨fun p hp => (hs.ok p hp).small.1, ?_⟩
    have := runsL_length (fun i => (bothL c1 c2 m1 m2).getD i 0) (m1 + m2) (m1 + m2) 0 (Nat.zero_le _)
    have h7 := HM1.out.1
    have h8 := HM2.out.1
    have e : runsL (fun i => (bothL c1 c2 m1 m2).getD i 0) (m1 + m2) (m1 + m2) 0 = PL := hPL
    rw [e] at this
    omega
  have HRN : Hid (∀ _ : Unit, Calls Tryd.prog 63 #[.slice (some ⟨g5, 0, none⟩) (m1 + m2) cap5] wc fun e w' => ∃ v, e = .returned v ∧ QR wc wc.heap.size v PL w') := fun _ => by
    rw [← hPL]
    exact runs_ok g5 (m1 + m2) cap5 _ wc H5.out.2.1 (by have h7 := HM1.out.1; have h8 := HM2.out.1; omega) H5.out.2.2.1 H5.out.2.2.2 HB15.out
  have HPL : Hid (bothP c1 c2 m1 m2 = PL) := hPL
  clear HX1 HX2 KS KS2 HX HO0 HN1 HN2 HBB HXB HS0 hPL
  go_wp2_with fail
  refine (HRN.out ()).mono ?_
  rintro e w5 ⟨v5, he5, hq5⟩
  subst he5
  obtain ⟨ao, cp, hv5, hp5⟩ := hq5.row
  obtain ⟨N, hN⟩ : ∃ N, PL.length = N := ⟨_, rfl⟩
  rw [hN] at hv5
  subst hv5
  have hb5 : Below wc.heap.size wc w5 := hq5.2.1
  have H6 : Hid (CX w R X (.slice (some ⟨A1, 0, none⟩) m1 288) (.slice (some ⟨A2, 0, none⟩) m2 30) (.slice none 0 0) (.slice none 0 0) (.int .i64 0) A1 A2 c1 c2 w5 ∧ PieR w5 ao PL) := ⟨H5.out.1.quiet hb5, hp5⟩
  have HN : Hid (PL.length = N) := hN
  obtain ⟨⟨y0, y1, y2, y3, y4⟩, z2, z3, z4⟩ := H6.out.1.cells
  clear hq5 hp5 hb5 hN H5 HRN y0 y1 y3 y4 z3 z4
  go_upto_region 6 with fail
  obtain ⟨W6, hW6⟩ : ∃ W6, w5.setCell ⟨X, 2, none⟩ (.slice ao N cp) = W6 := ⟨_, rfl⟩
  have H7 : Hid (CX w R X (.slice (some ⟨A1, 0, none⟩) m1 288) (.slice (some ⟨A2, 0, none⟩) m2 30) (.slice ao N cp) (.slice none 0 0) (.int .i64 0) A1 A2 c1 c2 W6 ∧ PieR W6 ao PL) := by
    rw [← hW6]; exact ⟨H6.out.1.set2 _, H6.out.2.set H6.out.1.x (by decide)⟩
  rw [hW6]
  clear hW6 H6 y2 z2
  obtain ⟨⟨y0, y1, y2, y3, y4⟩, z2, z3, z4⟩ := H7.out.1.cells
  have HFC : Hid (∀ _ : Unit, Calls Tryd.prog 64 #[.agg #[.slice (some ⟨A1, 0, none⟩) m1 288, .slice (some ⟨A2, 0, none⟩) m2 30, .slice ao N cp, .slice none 0 0, .int .i64 0]] W6 fun e w' => ∃ g, e = .returned (.slice (some ⟨g, 0, none⟩) 19 19) ∧ LB w' g 19 (cntP PL) ∧ Below W6.heap.size W6 w') := fun _ => by
    rw [← HN.out]
    exact firstCounts_ok _ _ _ _ PL ao cp W6 rfl rfl rfl rfl H7.out.2 HPS.out.2 HPS.out.1
  have HC3 : Hid (∀ W' g, LB W' g 19 (cntP PL) → Calls Tryd.prog 61 #[.slice (some ⟨g, 0, none⟩) 19 19, .int .i64 7] W' fun e w' => ∃ L c Ws, e = .returned (.tuple #[.slice (some ⟨L, 0, none⟩) 19 19, .int .i64 0]) ∧ LB w' L 19 c ∧ W'.heap.size ≤ L ∧ Below W'.heap.size W' w' ∧ BestL (fqL (cntP PL) 19) 7 c Ws) := fun W' g h => lengths5_ok g 19 19 7 (cntP PL) W' h (by omega) (by omega) (by omega) (by decide) (fq_ok (fun i _ => by have := cntP_le i PL; have := HPS.out.2; omega))
  clear z2 z3 z4
  go_wp2_with fail
  refine (HFC.out ()).mono ?_
  rintro e w7 ⟨g7, he7, hl7, hb7⟩
  subst he7
  have H8 : Hid ((CX w R X (.slice (some ⟨A1, 0, none⟩) m1 288) (.slice (some ⟨A2, 0, none⟩) m2 30) (.slice ao N cp) (.slice none 0 0) (.int .i64 0) A1 A2 c1 c2 w7 ∧ PieR w7 ao PL) ∧ LB w7 g7 19 (cntP PL)) := ⟨⟨H7.out.1.quiet hb7, H7.out.2.below hb7⟩, hl7⟩
  clear hl7 hb7 H7 HFC y0 y1 y2 y3 y4
  go_wp2_with fail
  refine (HC3.out _ _ H8.out.2).mono ?_
  rintro e w8 ⟨A3, cf, Ws3, he8, hl8, hlo8, hb8, hbest3⟩
  subst he8
  have H9 : Hid ((CX w R X (.slice (some ⟨A1, 0, none⟩) m1 288) (.slice (some ⟨A2, 0, none⟩) m2 30) (.slice ao N cp) (.slice none 0 0) (.int .i64 0) A1 A2 c1 c2 w8 ∧ PieR w8 ao PL) ∧ LB w8 A3 19 cf) := ⟨⟨H8.out.1.1.quiet hb8, H8.out.1.2.below hb8⟩, hl8⟩
  have HB3 : Hid (BestL (fqL (cntP PL) 19) 7 cf Ws3) := hbest3
  clear hl8 hlo8 hb8 hbest3 H8 HC3
  obtain ⟨⟨y0, y1, y2, y3, y4⟩, z2, z3, z4⟩ := H9.out.1.1.cells
  clear y0 y1 y2 y4 z2 z4
  go_upto_region 7 with fail
  obtain ⟨W9, hW9⟩ : ∃ W9, w8.setCell ⟨X, 3, none⟩ (.slice (some ⟨A3, 0, none⟩) 19 19) = W9 := ⟨_, rfl⟩
  have H10 : Hid ((CX w R X (.slice (some ⟨A1, 0, none⟩) m1 288) (.slice (some ⟨A2, 0, none⟩) m2 30) (.slice ao N cp) (.slice (some ⟨A3, 0, none⟩) 19 19) (.int .i64 0) A1 A2 c1 c2 W9 ∧ PieR W9 ao PL) ∧ LB W9 A3 19 cf) := by
    rw [← hW9]; exact ⟨⟨H9.out.1.1.set3 _, H9.out.1.2.set H9.out.1.1.x (by decide)⟩, H9.out.2.setT H9.out.1.1.x (by decide)⟩
  rw [hW9]
  clear hW9 H9 y3 z3
  obtain ⟨⟨y0, y1, y2, y3, y4⟩, z2, z3, z4⟩ := H10.out.1.1.cells
  clear y0 y1 y2 y3 z2 z3
  have hft : ∃ j, j < 19 ∧ 4 ≤ j ∧ cf (ordL.getD j 0) ≠ 0 := by
    have t1 : ∀ i, i < m1 → c1 i ≤ 15 := fun i hi => HBE.out.1.top i (by rw [fqL_length]; have := HM1.out.1; omega)
    have t2 : ∀ i, i < m2 → c2 i ≤ 15 := fun i hi => HBE.out.2.top i (by rw [fqL_length]; have := HM2.out.1; omega)
    refine first_told (by rw [HPL.out]; exact HB3.out) t1 t2 (by have := HM1.out.1; omega) ?_
    have := (HBE.out.1.has 256 (by rw [fqL_length]; omega)).1 (by rw [fqL_get _ (by omega)]; have := freqS_end T; omega)
    omega
  have HFT : Hid (∃ j, j < 19 ∧ 4 ≤ j ∧ cf (ordL.getD j 0) ≠ 0) := hft
  clear hft
  go_upto_block 0 with fail
  obtain ⟨WA, hWA⟩ : ∃ WA, W9.setCell ⟨X, 4, none⟩ (.int .i64 19) = WA := ⟨_, rfl⟩
  have H11 : Hid ((CX w R X (.slice (some ⟨A1, 0, none⟩) m1 288) (.slice (some ⟨A2, 0, none⟩) m2 30) (.slice ao N cp) (.slice (some ⟨A3, 0, none⟩) 19 19) (.int .i64 (19 : Nat)) A1 A2 c1 c2 WA ∧ PieR WA ao PL) ∧ LB WA A3 19 cf) := by
    rw [← hWA]; exact ⟨⟨H10.out.1.1.set4 _, H10.out.1.2.set H10.out.1.1.x (by decide)⟩, H10.out.2.setT H10.out.1.1.x (by decide)⟩
  rw [hWA]
  clear hWA H10 y4 z4
  go_cut [] (fun wd => ∃ nf : Nat, Hid ((((CX w R X (.slice (some ⟨A1, 0, none⟩) m1 288) (.slice (some ⟨A2, 0, none⟩) m2 30) (.slice ao N cp) (.slice (some ⟨A3, 0, none⟩) 19 19) (.int .i64 (nf : Nat)) A1 A2 c1 c2 wd ∧ PieR wd ao PL) ∧ LB wd A3 19 cf) ∧ (4 ≤ nf ∧ nf ≤ 19)) ∧ ∀ j, nf ≤ j → j < 19 → cf (ordL.getD j 0) = 0))
  case first =>
    as_aux_lemma =>
      go_wp2_with fail
      go_loopw [] (fun wr => ∃ nf : Nat, Hid ((((CX w R X (.slice (some ⟨A1, 0, none⟩) m1 288) (.slice (some ⟨A2, 0, none⟩) m2 30) (.slice ao N cp) (.slice (some ⟨A3, 0, none⟩) 19 19) (.int .i64 (nf : Nat)) A1 A2 c1 c2 wr ∧ PieR wr ao PL) ∧ LB wr A3 19 cf) ∧ (4 ≤ nf ∧ nf ≤ 19)) ∧ ∀ j, nf ≤ j → j < 19 → cf (ordL.getD j 0) = 0)) (fun wr => fiMu X wr)
      case atStart => exact ⟨19, ⟨H11.out, by omega, by omega⟩, fun j a b => by omega⟩
      case round =>
        obtain ⟨nf, HR⟩ := hrel
        obtain ⟨⟨hst, hnf⟩, hzz⟩ := HR.out
        obtain ⟨p, hp⟩ : ∃ p, nf = p + 1 := ⟨nf - 1, by omega⟩
        obtain ⟨⟨y0, y1, y2, y3, y4⟩, z2, z3, z4⟩ := hst.1.1.cells
        have c0 := hst.1.1.ord p (by omega)
        obtain ⟨o, hoo⟩ : ∃ o, ordL.getD p 0 = o := ⟨_, rfl⟩
        have ho19 := ord_lt p (by omega)
        rw [hoo] at c0 ho19
        have c1' := (hst.2.cell (i := o) ho19).1
        obtain ⟨x, hx⟩ : ∃ x, cf o = x := ⟨_, rfl⟩
        rw [hx] at c1'
        have hpi : (nf : Int) - 1 = (p : Int) := by omega
        have hpw := D5.wrapN p (by omega)
        have hp19 : (p : Int) < 19 := by omega
        have ho19i : (o : Int) < 19 := by omega
        have hmu : Hid (fiMu X wr = nf) := fiMu_is y4
        have hdr : ∀ k, Below wr.heap.size wr (wr.drewN k) := fun k => ⟨rfl, rfl, rfl, Nat.le_refl _, fun _ _ => rfl⟩
        by_cases hx0 : x = 0
        · have hxb : ((x : Int) == 0) = true := by simp [hx0]
          have hp4 : 4 ≤ p := by
            obtain ⟨j, j1, j2, j3⟩ := HFT.out
            have h5 : ¬ nf ≤ j := fun h => j3 (hzz j h j1)
            have h6 : j ≠ p := fun h => j3 (by rw [h, hoo, hx]; exact hx0)
            omega
          have HZ : Hid (∀ k, ((((CX w R X (.slice (some ⟨A1, 0, none⟩) m1 288) (.slice (some ⟨A2, 0, none⟩) m2 30) (.slice ao N cp) (.slice (some ⟨A3, 0, none⟩) 19 19) (.int .i64 (p : Nat)) A1 A2 c1 c2 ((wr.drewN k).setCell ⟨X, 4, none⟩ (.int .i64 (p : Nat))) ∧ PieR ((wr.drewN k).setCell ⟨X, 4, none⟩ (.int .i64 (p : Nat))) ao PL) ∧ LB ((wr.drewN k).setCell ⟨X, 4, none⟩ (.int .i64 (p : Nat))) A3 19 cf) ∧ (4 ≤ p ∧ p ≤ 19)) ∧ ∀ j, p ≤ j → j < 19 → cf (ordL.getD j 0) = 0)) := fun k => by
            have q1 := hst.1.1.quiet (hdr k)
            refine ⟨⟨⟨⟨q1.set4 _, (hst.1.2.below (hdr k)).set q1.x (by decide)⟩, (hst.2.below (hdr k)).setT q1.x (by decide)⟩, hp4, by omega⟩, fun j a b => ?_⟩
            rcases Nat.lt_or_ge p j with h | h
            · exact hzz j (by omega) b
            · have : j = p := by omega
              rw [this, hoo, hx]; exact hx0
          have hpn : p < nf := by omega
          have HPN : Hid (p < nf) := hpn
          clear hpn hx0 hx hoo hp hst hzz HR hp4 y0 y1 y2 z2 z3 hnf ho19 hdr
          go_wp2_with fail
          go_quiet (fail)
          go_wp2
          refine ⟨⟨p, HZ.out _⟩, ?_⟩
          rw [hmu.out, fiMu_is (n := p) (HZ.out _).1.1.1.1.cells.1.2.2.2.2]
          exact HPN.out
        · have hxb : ((x : Int) == 0) = false := by simp; omega
          have HZ : Hid (∀ k, ((((CX w R X (.slice (some ⟨A1, 0, none⟩) m1 288) (.slice (some ⟨A2, 0, none⟩) m2 30) (.slice ao N cp) (.slice (some ⟨A3, 0, none⟩) 19 19) (.int .i64 (nf : Nat)) A1 A2 c1 c2 (wr.drewN k) ∧ PieR (wr.drewN k) ao PL) ∧ LB (wr.drewN k) A3 19 cf) ∧ (4 ≤ nf ∧ nf ≤ 19)) ∧ ∀ j, nf ≤ j → j < 19 → cf (ordL.getD j 0) = 0)) := fun k => ⟨⟨⟨⟨hst.1.1.quiet (hdr k), hst.1.2.below (hdr k)⟩, hst.2.below (hdr k)⟩, hnf⟩, hzz⟩
          clear hx0 hx hoo hp hst hzz HR y0 y1 y2 z2 z3 z4 hnf ho19 hdr
          go_wp2_with fail
          go_quiet (fail)
          go_wp2_with fail
          go_meet
          case rel => exact ⟨nf, HZ.out _⟩
  case rest =>
    obtain ⟨nf, HR⟩ := hcut
    obtain ⟨⟨y0, y1, y2, y3, y4⟩, z2, z3, z4⟩ := HR.out.1.1.1.1.cells
    have hu := HR.out.1.1.1.1.res
    have u0 : wc.cell? ⟨R, 0, none⟩ = some (.slice none 0 0) := by simp [World.cell?, hu]
    have u1 : wc.cell? ⟨R, 1, none⟩ = some (.slice none 0 0) := by simp [World.cell?, hu]
    have u2 : wc.cell? ⟨R, 2, none⟩ = some (.slice none 0 0) := by simp [World.cell?, hu]
    have u3 : wc.cell? ⟨R, 3, none⟩ = some (.slice none 0 0) := by simp [World.cell?, hu]
    have u4 : wc.cell? ⟨R, 4, none⟩ = some (.int .i64 0) := by simp [World.cell?, hu]
    have f0 : wc.frozen? ⟨R, 0, none⟩ = false := by simp [World.frozen?, hu]
    have f1 : wc.frozen? ⟨R, 1, none⟩ = false := by simp [World.frozen?, hu]
    have f2 : wc.frozen? ⟨R, 2, none⟩ = false := by simp [World.frozen?, hu]
    have f3 : wc.frozen? ⟨R, 3, none⟩ = false := by simp [World.frozen?, hu]
    have f4 : wc.frozen? ⟨R, 4, none⟩ = false := by simp [World.frozen?, hu]
    have HD : Hid (RXs w R #[.slice (some ⟨A1, 0, none⟩) m1 288, .slice (some ⟨A2, 0, none⟩) m2 30, .slice ao N cp, .slice (some ⟨A3, 0, none⟩) 19 19, .int .i64 (nf : Nat)] A1 A2 A3 c1 c2 cf ao PL (((((wc.setCell ⟨R, 0, none⟩ (.slice (some ⟨A1, 0, none⟩) m1 288)).setCell ⟨R, 1, none⟩ (.slice (some ⟨A2, 0, none⟩) m2 30)).setCell ⟨R, 2, none⟩ (.slice ao N cp)).setCell ⟨R, 3, none⟩ (.slice (some ⟨A3, 0, none⟩) 19 19)).setCell ⟨R, 4, none⟩ (.int .i64 (nf : Nat)))) := by
      have r0 : RXs w R #[.slice none 0 0, .slice none 0 0, .slice none 0 0, .slice none 0 0, .int .i64 0] A1 A2 A3 c1 c2 cf ao PL wc := ⟨hu, HR.out.1.1.1.1.r1, HR.out.1.1.1.1.r2, HR.out.1.1.2, HR.out.1.1.1.2, HR.out.1.1.1.1.bel⟩
      have hlo := HR.out.1.1.1.1.loR
      exact ((((r0.step hlo 0 _).step hlo 1 _).step hlo 2 _).step hlo 3 _).step hlo 4 _
    clear hu z2 z3 z4
    go_wp2
    try simp only [Exit.inBlock, Exit.then]
    refine bodyPost_ret (v := .agg #[.slice (some ⟨A1, 0, none⟩) m1 288, .slice (some ⟨A2, 0, none⟩) m2 30, .slice ao N cp, .slice (some ⟨A3, 0, none⟩) 19 19, .int .i64 (nf : Nat)]) ?_ rfl ?_
    · exact told_ret rfl rfl rfl rfl rfl rfl rfl HD.out.1
    obtain ⟨d1, d2, d3, d4, d5, d6⟩ := HD.out
    have hpl := HPL.out
    subst hpl
    have hn := HN.out
    subst hn
    refine ⟨c1, c2, cf, m1, m2, nf, A1, A2, A3, ao, cp, rfl, ?_, d6⟩
    exact TC.mk' HALL.out.1 d2 d3 d4 d5 HBE.out.1 HBE.out.2 HB3.out HM1.out.1 HM1.out.2.1 HM1.out.2.2 HM2.out.1 HM2.out.2 HR.out.1.2 HR.out.2
end Go.Proofs.YtlbadjfcffoakaaDoor
