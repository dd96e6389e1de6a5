/- HuffCodes' walk: the function itself. -/
import Derived.Test.YtjambofhkophcaaGx
namespace Go.Proofs.Ytjambofhkophcaa
open Go.RowKit PT
set_option linter.unusedVariables false

/-- The words' row, some of them written over; the document's words, and what came in, as they were. -/
structure OverSt (w wr : World) (xs ys : List Int) (a bo : Option Addr) (L M : Nat) : Prop where
  cells : ∀ i, i < M → ∃ v : Int, wr.cell? ⟨L, i, none⟩ = some (.int .i64 v) ∧ wr.frozen? ⟨L, i, none⟩ = false
  lens : IRow wr a xs
  words : IRow wr bo ys
  apart : ∀ b off, (a = some ⟨b, off, none⟩ → b ≠ L ∨ xs = []) ∧ (bo = some ⟨b, off, none⟩ → b ≠ L ∨ ys = [])
  bel : Below w.heap.size w wr
theorem IRow.set {w : World} {a : Option Addr} {xs : List Int} {L i : Nat} {v : Value} (h : IRow w a xs) (hne : ∀ b off, a = some ⟨b, off, none⟩ → b ≠ L ∨ xs = []) : IRow (w.setCell ⟨L, i, none⟩ v) a xs := by
  rcases h with h | ⟨b, off, rfl, hlt, hc⟩
  · exact .inl h
  · rcases hne b off rfl with hb | hb
    · refine .inr ⟨b, off, rfl, by simpa [World.setCell] using hlt, fun j hj => ?_⟩
      rw [(Kp.setCell L i w v).cell hb]; exact hc j hj
    · exact .inl hb
theorem OverSt.set {w wr : World} {xs ys : List Int} {a bo : Option Addr} {L M i : Nat} {v : Int} (h : OverSt w wr xs ys a bo L M) (hi : i < M) (hL : w.heap.size ≤ L) : OverSt w (wr.setCell ⟨L, i, none⟩ (.int .i64 v)) xs ys a bo L M := by
  refine ⟨fun j hj => ?_, h.lens.set (fun b off => (h.apart b off).1), h.words.set (fun b off => (h.apart b off).2), h.apart, h.bel.setCell hL _⟩
  obtain ⟨u, hu, hf⟩ := h.cells j hj
  by_cases e : j = i
  · subst e
    exact ⟨v, World.cell?_setCell_same' _ _ _ (by rw [hu]; rfl), by rw [World.frozen?_setCell]; exact hf⟩
  · refine ⟨u, ?_, by rw [World.frozen?_setCell]; exact hf⟩
    rw [← hu]
    exact World.cell?_setCell_other _ _ _ _ (by intro h; cases h; exact e rfl)

set_option maxRecDepth 20000 in
set_option maxHeartbeats 16000000 in
theorem huffCodes_walk (xs fs : List Int) (a b : Option Addr) (c d N M : Nat) (w : World) (hN : xs.length = N) (hM : fs.length = M) (ha : IRow w a xs) (hb : IRow w b fs) (hlen : N ≤ 9223372036854775807) (hlen2 : M ≤ 9223372036854775807) :
    Calls Try.prog 3 #[.slice a N c, .slice b M d] w fun e w' => e = .returned (.bool true) ∧ Below w.heap.size w w' := by
  have HA : Hid (∀ W, Below w.heap.size w W → IRow W a xs) := fun W h => ha.below h
  have HB : Hid (∀ W, Below w.heap.size w W → IRow W b fs) := fun W h => hb.below h
  have HAL : Hid (∀ b' off, a = some ⟨b', off, none⟩ → b' < w.heap.size ∨ xs = []) := fun b' off e => by
    rcases ha with h | ⟨b2, o2, e2, hl, _⟩
    · exact .inr h
    · rw [e2] at e; cases e; exact .inl hl
  have HN : Hid (xs.length = N ∧ fs.length = M) := ⟨hN, hM⟩
  clear ha hb hN hM
  go_enter Try.func3, Try.ntmps3
  go_wp2_with fail
  refine (codes_ok xs a c N w HN.out.1 (HA.out w (Below.refl _ _)) hlen).mono ?_
  intro e w1 hE
  obtain ⟨ao, M1, q, ys, rfl, hF1⟩ := hE.form
  have H1 : Hid (CodF w w1 xs ao M1 q ys) := hF1
  clear hE hF1
  go_wp2_with fail
  refine (refCodes_ok xs a c N w1 HN.out.1 (HA.out w1 H1.out.bel) hlen).mono ?_
  intro e w2 hE
  obtain ⟨bo, M2, q2, ys2, rfl, hF2⟩ := hE.form
  obtain ⟨rfl, rfl⟩ := H1.out.same hF2
  have hM12 : M2 = M1 := by rw [← hF2.len, H1.out.len]
  subst hM12
  have H2 : Hid (CodF w1 w2 xs bo M2 q ys) := hF2
  have HB2 : Hid (Below w.heap.size w w2) := H1.out.bel.trans (hF2.bel.mono H1.out.bel.size)
  clear hE hF2
  go_wp2_with fail
  refine (whole_form xs a c N w2 HN.out.1 (HA.out w2 HB2.out) hlen).mono ?_
  rintro e w3 ⟨rfl, hb3⟩
  have HB3 : Hid (Below w.heap.size w w3) := HB2.out.trans (hb3.mono HB2.out.size)
  have HO3 : Hid (Below w2.heap.size w2 w3) := hb3
  have hq := H1.out.le
  have hgq : (if isCode xs = true then (0 : Int) else 30) = q := by
    rcases hq.2.1 with h | h
    · rw [hq.2.2, h]; rfl
    · rw [hq.2.2, h]; rfl
  rw [hgq]
  obtain ⟨B, hBB⟩ : ∃ B, (isCode xs && decide (shareV xs = 32768)) = B := ⟨_, rfl⟩
  rw [hBB]
  have HBV : Hid ((isCode xs && decide (shareV xs = 32768)) = B) := hBB
  have HLE : Hid (M2 ≤ 288 ∧ (q = 0 ∨ q = 30) ∧ isCode xs = decide (q = 0)) := hq
  clear hb3 hgq hq hBB
  go_wp2_with fail
  refine (cost_ok fs xs b a d c M N w3 HN.out.2 HN.out.1 (HB.out w3 HB3.out) (HA.out w3 HB3.out) hlen2 hlen).mono ?_
  rintro e w4 ⟨rfl, hb4⟩
  have HB4 : Hid (Below w.heap.size w w4) := HB3.out.trans (hb4.mono HB3.out.size)
  have HO4 : Hid (Below w2.heap.size w2 w4) := HO3.out.trans (hb4.mono HO3.out.size)
  obtain ⟨R1, hR1⟩ : ∃ R, (costR fs xs).1 = R := ⟨_, rfl⟩
  obtain ⟨R2, hR2⟩ : ∃ R, (costR fs xs).2 = R := ⟨_, rfl⟩
  have HRC : Hid ((costR fs xs).1 = R1 ∧ (costR fs xs).2 = R2) := ⟨hR1, hR2⟩
  rw [hR1, hR2]
  clear hb4 hR1 hR2
  go_wp2_with fail
  refine (refCost_ok fs xs b a d c M N w4 HN.out.2 HN.out.1 (HB.out w4 HB4.out) (HA.out w4 HB4.out) hlen2 hlen).mono ?_
  rintro e w5 ⟨rfl, hb5⟩
  have HB5 : Hid (Below w.heap.size w w5) := HB4.out.trans (hb5.mono HB4.out.size)
  have HO5 : Hid (Below w2.heap.size w2 w5) := HO4.out.trans (hb5.mono HO4.out.size)
  rw [HRC.out.1, HRC.out.2]
  have hrA : IRow w5 ao ys := (H1.out.row.below H2.out.bel).below HO5.out
  have hrB : IRow w5 bo ys := H2.out.row.below HO5.out
  have HSA := fun _ : Unit => same_ok ys ys ao bo M2 M2 M2 M2 w5 H1.out.len H1.out.len hrA hrB (by have := HLE.out.1; omega) (by have := HLE.out.1; omega)
  have HSB : Hid _ := HSA
  have HRB : Hid (IRow w5 bo ys) := hrB
  clear hb5 hrA hrB HSA
  go_wp2_with fail
  refine (HSB.out ()).mono ?_
  rintro e w6 ⟨rfl, k6, hw6⟩
  have HB6 : Hid (Below w.heap.size w w6) := by show Below _ _ _; rw [hw6]; exact below_dr HB5.out k6
  have HO6 : Hid (Below w2.heap.size w2 w6) := by show Below _ _ _; rw [hw6]; exact below_dr HO5.out k6
  have HRB6 : Hid (IRow w6 bo ys) := by show IRow _ _ _; rw [hw6]; exact HRB.out.drewN k6
  have hlab := HLE.out.1
  have hFU := fun _ : Unit => full_ok xs a c N w6 HN.out.1 (HA.out w6 HB6.out) hlen
  have hst : ∃ L, (M2 = 0 ∨ ao = some ⟨L, 0, none⟩) ∧ Hid (OverSt w w6 xs ys a bo L M2 ∧ w.heap.size ≤ L) := by
    rcases H1.out.what with ⟨c1, _, e1, L, h1, h2, h3, h4⟩ | ⟨_, _, e1, _⟩
    · have hLw1 : L < w1.heap.size := lt_heap h4
      refine ⟨L, .inr h1, ⟨?_, HA.out w6 HB6.out, HRB6.out, fun b' off' => ⟨fun e => ?_, fun e => ?_⟩, HB6.out⟩, h2⟩
      · intro i hi
        have hlb : LB w6 L M2 (cw (nsOf xs)) := (h4.below H2.out.bel).below HO6.out
        exact ⟨_, (hlb.cell hi).1, (hlb.cell hi).2⟩
      · rcases HAL.out b' off' e with h | h
        · left; omega
        · exact .inr h
      · rcases H2.out.what with ⟨_, _, _, L2, g1, g2, _, _⟩ | ⟨_, _, g, _⟩
        · rw [g1] at e; cases e; left; omega
        · exact .inr g
    · refine ⟨w.heap.size, .inl ?_, ⟨?_, HA.out w6 HB6.out, HRB6.out, fun b' off' => ⟨fun e => ?_, fun e => .inr e1⟩, HB6.out⟩, Nat.le_refl _⟩
      · rw [← H1.out.len, e1]; rfl
      · intro i hi
        rw [← H1.out.len, e1] at hi
        simp at hi
      · rcases HAL.out b' off' e with h | h
        · left; omega
        · exact .inr h
  obtain ⟨L, hao, HST⟩ := hst
  obtain ⟨D, hD⟩ : ∃ D, decide (shareV xs = 32768) = D := ⟨_, rfl⟩
  rw [hD] at hFU
  have hBD : B = (decide (q = 0) && D) := by rw [← HBV.out, HLE.out.2.2, hD]
  have HFU : Hid (∀ _ : Unit, Calls Try.prog 14 #[.slice a N c] w6 fun e w' => e = .returned (.bool D) ∧ w' = w6) := hFU
  clear hw6 hFU hD HSB HRB
  rcases HLE.out.2.1 with rfl | rfl
  · obtain rfl : B = D := by rw [hBD]; rfl
    clear hBD
    cases B with
    | true =>
      rcases hao with hM0 | hao
      · have HM0 : Hid (M2 = 0) := hM0
        clear hM0
        go_wp2_with (go_at_call 14; refine (HFU.out ()).mono ?_; rintro e w7 ⟨rfl, hw⟩; obtain rfl := hw.symm)
        go_loopw [15] (fun v15 wr => ∃ i : Nat, v15 = .int .i64 i ∧ i ≤ M2 ∧ Hid (OverSt w wr xs ys a bo L M2 ∧ w.heap.size ≤ L)) (fun v15 _ => M2 - (intOf v15).toNat)
        case atStart => exact ⟨0, rfl, by omega, HST⟩
        case round =>
          obtain ⟨i, rfl, hi, HS⟩ := hrel
          by_cases hlt : i < M2
          · exact absurd HM0.out (by omega)
          · obtain rfl : i = M2 := by omega
            have hli : ¬ ((i : Int) < (i : Int)) := by omega
            go_wp2_with fail
            refine (codes_ok xs a c N wr HN.out.1 HS.out.1.lens hlen).mono ?_
            intro e w8 hE
            obtain ⟨ao8, M8, q8, ys8, rfl, hF8⟩ := hE.form
            obtain ⟨h8a, rfl⟩ := H1.out.same hF8
            have hM8 : M8 = i := by rw [← hF8.len, H1.out.len]
            subst hM8
            have hsa := fun _ : Unit => same_ok ys ys ao8 bo M8 M8 M8 M8 w8 hF8.len hF8.len hF8.row (HS.out.1.words.below hF8.bel) (by omega) (by omega)
            have HSA : Hid _ := hsa
            have HB8 : Hid (Below w.heap.size w w8) := HS.out.1.bel.trans (hF8.bel.mono HS.out.1.bel.size)
            clear hE hF8 h8a hsa
            go_wp2_with fail
            refine (HSA.out ()).mono ?_
            rintro e w9 ⟨rfl, k9, hw9⟩
            have HB9 : Hid (Below w.heap.size w w9) := by show Below _ _ _; rw [hw9]; exact below_dr HB8.out k9
            clear hw9
            go_wp2_with fail
            refine (awake _).mono ?_
            rintro e w10 ⟨rfl, hb10⟩
            have H10 : Hid (Below w.heap.size w w10) := HB9.out.trans (hb10.mono HB9.out.size)
            clear hb10
            go_wp2
            go_ret
            exact ⟨rfl, H10.out⟩
      · subst hao
        go_wp2_with (go_at_call 14; refine (HFU.out ()).mono ?_; rintro e w7 ⟨rfl, hw⟩; obtain rfl := hw.symm)
        go_loopw [15] (fun v15 wr => ∃ i : Nat, v15 = .int .i64 i ∧ i ≤ M2 ∧ Hid (OverSt w wr xs ys a bo L M2 ∧ w.heap.size ≤ L)) (fun v15 _ => M2 - (intOf v15).toNat)
        case atStart => exact ⟨0, rfl, by omega, HST⟩
        case round =>
          obtain ⟨i, rfl, hi, HS⟩ := hrel
          by_cases hlt : i < M2
          · have hlti : (i : Int) < (M2 : Int) := by omega
            obtain ⟨v, hv, hfr⟩ := HS.out.1.cells i hlt
            have H2' : Hid (OverSt w (wr.setCell ⟨L, i, none⟩ (.int .i64 (-7))) xs ys a bo L M2 ∧ w.heap.size ≤ L) := ⟨HS.out.1.set hlt HS.out.2, HS.out.2⟩
            go_wp2
            exact ⟨⟨i + 1, by go_num, by omega, H2'⟩, by simp [intOf]; omega⟩
          · obtain rfl : i = M2 := by omega
            have hli : ¬ ((i : Int) < (i : Int)) := by omega
            go_wp2_with fail
            refine (codes_ok xs a c N wr HN.out.1 HS.out.1.lens hlen).mono ?_
            intro e w8 hE
            obtain ⟨ao8, M8, q8, ys8, rfl, hF8⟩ := hE.form
            obtain ⟨h8a, rfl⟩ := H1.out.same hF8
            have hM8 : M8 = i := by rw [← hF8.len, H1.out.len]
            subst hM8
            have hsa := fun _ : Unit => same_ok ys ys ao8 bo M8 M8 M8 M8 w8 hF8.len hF8.len hF8.row (HS.out.1.words.below hF8.bel) (by omega) (by omega)
            have HSA : Hid _ := hsa
            have HB8 : Hid (Below w.heap.size w w8) := HS.out.1.bel.trans (hF8.bel.mono HS.out.1.bel.size)
            clear hE hF8 h8a hsa
            go_wp2_with fail
            refine (HSA.out ()).mono ?_
            rintro e w9 ⟨rfl, k9, hw9⟩
            have HB9 : Hid (Below w.heap.size w w9) := by show Below _ _ _; rw [hw9]; exact below_dr HB8.out k9
            clear hw9
            go_wp2_with fail
            refine (awake _).mono ?_
            rintro e w10 ⟨rfl, hb10⟩
            have H10 : Hid (Below w.heap.size w w10) := HB9.out.trans (hb10.mono HB9.out.size)
            clear hb10
            go_wp2
            go_ret
            exact ⟨rfl, H10.out⟩
    | false =>
      rcases hao with hM0 | hao
      · have HM0 : Hid (M2 = 0) := hM0
        clear hM0
        go_wp2_with (go_at_call 14; refine (HFU.out ()).mono ?_; rintro e w7 ⟨rfl, hw⟩; obtain rfl := hw.symm)
        go_loopw [15] (fun v15 wr => ∃ i : Nat, v15 = .int .i64 i ∧ i ≤ M2 ∧ Hid (OverSt w wr xs ys a bo L M2 ∧ w.heap.size ≤ L)) (fun v15 _ => M2 - (intOf v15).toNat)
        case atStart => exact ⟨0, rfl, by omega, HST⟩
        case round =>
          obtain ⟨i, rfl, hi, HS⟩ := hrel
          by_cases hlt : i < M2
          · exact absurd HM0.out (by omega)
          · obtain rfl : i = M2 := by omega
            have hli : ¬ ((i : Int) < (i : Int)) := by omega
            go_wp2_with fail
            refine (codes_ok xs a c N wr HN.out.1 HS.out.1.lens hlen).mono ?_
            intro e w8 hE
            obtain ⟨ao8, M8, q8, ys8, rfl, hF8⟩ := hE.form
            obtain ⟨h8a, rfl⟩ := H1.out.same hF8
            have hM8 : M8 = i := by rw [← hF8.len, H1.out.len]
            subst hM8
            have hsa := fun _ : Unit => same_ok ys ys ao8 bo M8 M8 M8 M8 w8 hF8.len hF8.len hF8.row (HS.out.1.words.below hF8.bel) (by omega) (by omega)
            have HSA : Hid _ := hsa
            have HB8 : Hid (Below w.heap.size w w8) := HS.out.1.bel.trans (hF8.bel.mono HS.out.1.bel.size)
            clear hE hF8 h8a hsa
            go_wp2_with fail
            refine (HSA.out ()).mono ?_
            rintro e w9 ⟨rfl, k9, hw9⟩
            have HB9 : Hid (Below w.heap.size w w9) := by show Below _ _ _; rw [hw9]; exact below_dr HB8.out k9
            clear hw9
            go_wp2_with fail
            refine (awake _).mono ?_
            rintro e w10 ⟨rfl, hb10⟩
            have H10 : Hid (Below w.heap.size w w10) := HB9.out.trans (hb10.mono HB9.out.size)
            clear hb10
            go_wp2
            go_ret
            exact ⟨rfl, H10.out⟩
      · subst hao
        go_wp2_with (go_at_call 14; refine (HFU.out ()).mono ?_; rintro e w7 ⟨rfl, hw⟩; obtain rfl := hw.symm)
        go_loopw [15] (fun v15 wr => ∃ i : Nat, v15 = .int .i64 i ∧ i ≤ M2 ∧ Hid (OverSt w wr xs ys a bo L M2 ∧ w.heap.size ≤ L)) (fun v15 _ => M2 - (intOf v15).toNat)
        case atStart => exact ⟨0, rfl, by omega, HST⟩
        case round =>
          obtain ⟨i, rfl, hi, HS⟩ := hrel
          by_cases hlt : i < M2
          · have hlti : (i : Int) < (M2 : Int) := by omega
            obtain ⟨v, hv, hfr⟩ := HS.out.1.cells i hlt
            have H2' : Hid (OverSt w (wr.setCell ⟨L, i, none⟩ (.int .i64 (-7))) xs ys a bo L M2 ∧ w.heap.size ≤ L) := ⟨HS.out.1.set hlt HS.out.2, HS.out.2⟩
            go_wp2
            exact ⟨⟨i + 1, by go_num, by omega, H2'⟩, by simp [intOf]; omega⟩
          · obtain rfl : i = M2 := by omega
            have hli : ¬ ((i : Int) < (i : Int)) := by omega
            go_wp2_with fail
            refine (codes_ok xs a c N wr HN.out.1 HS.out.1.lens hlen).mono ?_
            intro e w8 hE
            obtain ⟨ao8, M8, q8, ys8, rfl, hF8⟩ := hE.form
            obtain ⟨h8a, rfl⟩ := H1.out.same hF8
            have hM8 : M8 = i := by rw [← hF8.len, H1.out.len]
            subst hM8
            have hsa := fun _ : Unit => same_ok ys ys ao8 bo M8 M8 M8 M8 w8 hF8.len hF8.len hF8.row (HS.out.1.words.below hF8.bel) (by omega) (by omega)
            have HSA : Hid _ := hsa
            have HB8 : Hid (Below w.heap.size w w8) := HS.out.1.bel.trans (hF8.bel.mono HS.out.1.bel.size)
            clear hE hF8 h8a hsa
            go_wp2_with fail
            refine (HSA.out ()).mono ?_
            rintro e w9 ⟨rfl, k9, hw9⟩
            have HB9 : Hid (Below w.heap.size w w9) := by show Below _ _ _; rw [hw9]; exact below_dr HB8.out k9
            clear hw9
            go_wp2_with fail
            refine (awake _).mono ?_
            rintro e w10 ⟨rfl, hb10⟩
            have H10 : Hid (Below w.heap.size w w10) := HB9.out.trans (hb10.mono HB9.out.size)
            clear hb10
            go_wp2
            go_ret
            exact ⟨rfl, H10.out⟩
  · obtain rfl : B = false := by rw [hBD]; rfl
    clear hBD
    rcases hao with hM0 | hao
    · have HM0 : Hid (M2 = 0) := hM0
      clear hM0
      go_wp2
      go_loopw [15] (fun v15 wr => ∃ i : Nat, v15 = .int .i64 i ∧ i ≤ M2 ∧ Hid (OverSt w wr xs ys a bo L M2 ∧ w.heap.size ≤ L)) (fun v15 _ => M2 - (intOf v15).toNat)
      case atStart => exact ⟨0, rfl, by omega, HST⟩
      case round =>
        obtain ⟨i, rfl, hi, HS⟩ := hrel
        by_cases hlt : i < M2
        · exact absurd HM0.out (by omega)
        · obtain rfl : i = M2 := by omega
          have hli : ¬ ((i : Int) < (i : Int)) := by omega
          go_wp2_with fail
          refine (codes_ok xs a c N wr HN.out.1 HS.out.1.lens hlen).mono ?_
          intro e w8 hE
          obtain ⟨ao8, M8, q8, ys8, rfl, hF8⟩ := hE.form
          obtain ⟨h8a, rfl⟩ := H1.out.same hF8
          have hM8 : M8 = i := by rw [← hF8.len, H1.out.len]
          subst hM8
          have hsa := fun _ : Unit => same_ok ys ys ao8 bo M8 M8 M8 M8 w8 hF8.len hF8.len hF8.row (HS.out.1.words.below hF8.bel) (by omega) (by omega)
          have HSA : Hid _ := hsa
          have HB8 : Hid (Below w.heap.size w w8) := HS.out.1.bel.trans (hF8.bel.mono HS.out.1.bel.size)
          clear hE hF8 h8a hsa
          go_wp2_with fail
          refine (HSA.out ()).mono ?_
          rintro e w9 ⟨rfl, k9, hw9⟩
          have HB9 : Hid (Below w.heap.size w w9) := by show Below _ _ _; rw [hw9]; exact below_dr HB8.out k9
          clear hw9
          go_wp2_with fail
          refine (awake _).mono ?_
          rintro e w10 ⟨rfl, hb10⟩
          have H10 : Hid (Below w.heap.size w w10) := HB9.out.trans (hb10.mono HB9.out.size)
          clear hb10
          go_wp2
          go_ret
          exact ⟨rfl, H10.out⟩
    · subst hao
      go_wp2
      go_loopw [15] (fun v15 wr => ∃ i : Nat, v15 = .int .i64 i ∧ i ≤ M2 ∧ Hid (OverSt w wr xs ys a bo L M2 ∧ w.heap.size ≤ L)) (fun v15 _ => M2 - (intOf v15).toNat)
      case atStart => exact ⟨0, rfl, by omega, HST⟩
      case round =>
        obtain ⟨i, rfl, hi, HS⟩ := hrel
        by_cases hlt : i < M2
        · have hlti : (i : Int) < (M2 : Int) := by omega
          obtain ⟨v, hv, hfr⟩ := HS.out.1.cells i hlt
          have H2' : Hid (OverSt w (wr.setCell ⟨L, i, none⟩ (.int .i64 (-7))) xs ys a bo L M2 ∧ w.heap.size ≤ L) := ⟨HS.out.1.set hlt HS.out.2, HS.out.2⟩
          go_wp2
          exact ⟨⟨i + 1, by go_num, by omega, H2'⟩, by simp [intOf]; omega⟩
        · obtain rfl : i = M2 := by omega
          have hli : ¬ ((i : Int) < (i : Int)) := by omega
          go_wp2_with fail
          refine (codes_ok xs a c N wr HN.out.1 HS.out.1.lens hlen).mono ?_
          intro e w8 hE
          obtain ⟨ao8, M8, q8, ys8, rfl, hF8⟩ := hE.form
          obtain ⟨h8a, rfl⟩ := H1.out.same hF8
          have hM8 : M8 = i := by rw [← hF8.len, H1.out.len]
          subst hM8
          have hsa := fun _ : Unit => same_ok ys ys ao8 bo M8 M8 M8 M8 w8 hF8.len hF8.len hF8.row (HS.out.1.words.below hF8.bel) (by omega) (by omega)
          have HSA : Hid _ := hsa
          have HB8 : Hid (Below w.heap.size w w8) := HS.out.1.bel.trans (hF8.bel.mono HS.out.1.bel.size)
          clear hE hF8 h8a hsa
          go_wp2_with fail
          refine (HSA.out ()).mono ?_
          rintro e w9 ⟨rfl, k9, hw9⟩
          have HB9 : Hid (Below w.heap.size w w9) := by show Below _ _ _; rw [hw9]; exact below_dr HB8.out k9
          clear hw9
          go_wp2_with fail
          refine (awake _).mono ?_
          rintro e w10 ⟨rfl, hb10⟩
          have H10 : Hid (Below w.heap.size w w10) := HB9.out.trans (hb10.mono HB9.out.size)
          clear hb10
          go_wp2
          go_ret
          exact ⟨rfl, H10.out⟩
end Go.Proofs.Ytjambofhkophcaa
