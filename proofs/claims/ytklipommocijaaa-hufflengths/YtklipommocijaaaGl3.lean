/- HuffWider's walk: a higher limit never costs more. -/
import Derived.Test.YtklipommocijaaaGl2
namespace Go.Proofs.Ytklipommocijaaa
open Go.RowKit PT
set_option linter.unusedVariables false

def sumTo (fs : List Int) : Nat → Nat
  | 0 => 0
  | j + 1 => sumTo fs j + frq fs j
theorem sumTo_bound {fs : List Int} (hf : okF fs = true) : ∀ j, sumTo fs j ≤ j * 1099511627776
  | 0 => by simp [sumTo]
  | j + 1 => by
    have h1 := sumTo_bound hf j
    have h2 : frq fs j ≤ 1099511627776 := by have := okF_get hf j; unfold frq; omega
    simp only [sumTo]; omega
theorem sumTo_cost {fs : List Int} {mo : Nat} {c : Nat → Nat} {W : List Nat} (h : BestL fs mo c W) : ∀ {j : Nat}, j ≤ fs.length → sumTo fs j ≤ costTo fs (lensOf c fs.length) j
  | 0, _ => Nat.le_refl _
  | j + 1, hj => by
    have ih := sumTo_cost h (j := j) (by omega)
    simp only [sumTo, costTo]
    rw [lensOf_get c (by omega)]
    have hh := h.has j (by omega)
    by_cases e : 0 < fs.getD j 0
    · have h1 := hh.1 e
      have : frq fs j * 1 ≤ frq fs j * ((c j : Nat) : Int).toNat := Nat.mul_le_mul_left _ (by simp; exact h1)
      omega
    · have : frq fs j = 0 := by unfold frq; omega
      omega
theorem BestL.costR {fs : List Int} {mo : Nat} {c : Nat → Nat} {W : List Nat} (h : BestL fs mo c W) (hok : okF fs = true) : Go.Proofs.Ytklipommocijaaa.costR fs (lensOf c fs.length) = (((costTo fs (lensOf c fs.length) fs.length : Nat) : Int), 0) :=
  costR_ok ⟨by rw [lensOf_length], hok⟩ h.code (h.lacks (Nat.le_refl _))
theorem LW_long {W : List Nat} (h2 : 2 ≤ W.length) : ∀ k, W.length ≤ (LW W k).length := fun k => by
  cases k with
  | zero =>
    have h : (LW W 0).length = ([] ++ (W ++ [])).length := (isort_perm (W ++ []) []).length_eq
    rw [h]; simp
  | succ k => rw [LW_length]; omega
theorem wider_le {fs : List Int} {ma mb : Nat} {c d : Nat → Nat} {W V : List Nat} (ha : BestL fs ma c W) (hb : BestL fs mb d V) (hlen : 2 ≤ W.length → 2 * W.length - 2 ≤ (LW W (ma - 1)).length) (h1 : 1 ≤ ma) (hab : ma ≤ mb) : costTo fs (lensOf d fs.length) fs.length ≤ costTo fs (lensOf c fs.length) fs.length := by
  have hWV : W = V := up_same ha.up hb.up (ha.perm.trans hb.perm.symm)
  subst hWV
  by_cases hW : W.length ≤ 1
  · rw [ha.cost1 hW, hb.cost1 hW]; exact Nat.le_refl _
  · rw [ha.cost (by omega), hb.cost (by omega)]
    rcases hb.wide (by omega) (ma - 1) (mb - ma) (by omega) with h | h
    · exact h
    · have := hlen (by omega)
      omega
theorem best_long {fs : List Int} {mo : Nat} {S l r : List PT} (hasc : Asc S) (hr : Lev S (mo - 1) r) (hl : 2 * S.length - 2 ≤ r.length) : 2 * (S.map PT.wt).length - 2 ≤ (LW (S.map PT.wt) (mo - 1)).length := by
  rw [← Lev.weights hasc hr, List.length_map, List.length_map]; exact hl

/-- What a call of Lengths came to: refused, or lengths and what they cost. -/
structure Came (w w' : World) (fs : List Int) (N : Nat) (most : Int) (v : Value) (q : Int) : Prop where
  bel : Below w.heap.size w w'
  or : (¬ Takes fs most ∧ v = .slice none 0 0 ∧ q = 1) ∨ (Takes fs most ∧ q = 0 ∧ ∃ L cc W, v = .slice (some ⟨L, 0, none⟩) N N ∧ LB w' L N cc ∧ w.heap.size ≤ L ∧ BestL fs most.toNat cc W ∧ (2 ≤ W.length → 2 * W.length - 2 ≤ (LW W (most.toNat - 1)).length))
theorem LensEnd.came {w w' : World} {fs : List Int} {N : Nat} {most : Int} {e : Ending} (hN : fs.length = N) (h : LensEnd w fs most e w') : ∃ v q, e = .returned (.tuple #[v, .int .i64 q]) ∧ Came w w' fs N most v q := by
  subst hN
  rcases h with ⟨t1, t2, t3, t4, t5, L, cc, S, l, rfl, hlb, hnew, hb1, hasc, hlv, hpm, hcc⟩ | ⟨hno, rfl, hb1⟩
  · have hbest := best_of (mo := most.toNat) t1 (by omega) (by omega) hasc hlv hpm hcc
    refine ⟨_, _, rfl, hb1, .inr ⟨⟨t1, t2, t3, t4, t5⟩, rfl, L, cc, S.map PT.wt, rfl, hlb, hnew, hbest, fun h2 => ?_⟩⟩
    rcases hcc with ⟨h, _⟩ | ⟨_, r, hr, hl, _⟩
    · simp at h2; omega
    · exact best_long (fs := fs) (l := l) hasc hr hl
  · exact ⟨_, _, rfl, hb1, .inl ⟨hno, rfl, rfl⟩⟩
set_option maxRecDepth 20000 in
set_option maxHeartbeats 4000000 in
theorem huffWider_walk (hsort : ∀ n, n ≤ 288 → SortsTo n) (fs : List Int) (x y : Int) (a : Option Addr) (c N : Nat) (w : World) (hN : fs.length = N) (hrow : IRow w a fs) (hlen : N ≤ 9223372036854775807) :
    Calls Try.prog 7 #[.slice a N c, .int .i64 x, .int .i64 y] w fun e w' => e = .returned (.bool true) ∧ Below w.heap.size w w' := by
  have HR : Hid (IRow w a fs) := hrow
  have HN : Hid (fs.length = N) := hN
  have HC : Hid (∀ most W, Below w.heap.size w W → Calls Try.prog 8 #[.slice a N c, .int .i64 most] W fun e w' => LensEnd W fs most e w') := fun most W hW => lengths_ok fs a c N most W hN (hrow.below hW) hlen (fun h => hsort _ (Nat.le_trans (comes_length_le fs N) h))
  have HM : Hid (∀ most W, Below w.heap.size w W → Calls Try.prog 9 #[.slice a N c, .int .i64 most] W fun e w' => e = .returned (.bool (refF fs most)) ∧ w' = W) := fun most W hW => refused_ok fs a c N most W hN (hrow.below hW) hlen
  have HCO : Hid (∀ (xs : List Int) (L : Nat) W, xs.length = N → Below w.heap.size w W → IRow W (some ⟨L, 0, none⟩) xs → Calls Try.prog 26 #[.slice a N c, .slice (some ⟨L, 0, none⟩) N N] W fun e w' => e = .returned (.tuple #[.int .i64 (costR fs xs).1, .int .i64 (costR fs xs).2]) ∧ Below W.heap.size W w') := fun xs L W h1 h2 h3 => cost_ok fs xs a _ c N N N W hN h1 (hrow.below h2) h3 hlen hlen
  clear hrow hN hsort
  go_enter Try.func7, Try.ntmps7
  by_cases hxy : y < x
  · go_wp2_with fail
    refine (HC.out y w (Below.refl _ _)).mono ?_
    intro e w1 hE
    obtain ⟨v1, q1, rfl, h1⟩ := hE.came HN.out
    have HB1 : Hid (Below w.heap.size w w1) := h1.bel
    clear hE
    rcases h1.or with ⟨n1, rfl, rfl⟩ | ⟨n1, rfl, L1, c1, W1, rfl, lb1, new1, be1, lw1⟩
    · have HM1 : Hid (∀ W, Below w.heap.size w W → Calls Try.prog 9 #[.slice a N c, .int .i64 y] W fun e w' => e = .returned (.bool true) ∧ w' = W) := fun W hW => by
        have := HM.out y W hW
        rw [refF_yes n1] at this
        exact this
      clear h1 n1
      go_wp2_with fail
      refine (HC.out x w1 HB1.out).mono ?_
      intro e w2 hE
      obtain ⟨v2, q2, rfl, h2⟩ := hE.came HN.out
      have HB2 : Hid (Below w.heap.size w w2) := HB1.out.trans (h2.bel.mono HB1.out.size)
      clear hE
      rcases h2.or with ⟨n2, rfl, rfl⟩ | ⟨n2, rfl, L2, c2, W2, rfl, lb2, new2, be2, lw2⟩
      · have HM2 : Hid (∀ W, Below w.heap.size w W → Calls Try.prog 9 #[.slice a N c, .int .i64 x] W fun e w' => e = .returned (.bool true) ∧ w' = W) := fun W hW => by
          have := HM.out x W hW
          rw [refF_yes n2] at this
          exact this
        clear h2 n2
        go_wp2_with fail
        refine (HM1.out w2 HB2.out).mono ?_
        rintro e w3 ⟨rfl, hw⟩
        obtain rfl := hw.symm
        go_wp2_with fail
        refine (HM2.out w2 HB2.out).mono ?_
        rintro e w3 ⟨rfl, hw⟩
        obtain rfl := hw.symm
        go_wp2_with fail
        refine (awake _).mono ?_
        rintro e w4 ⟨rfl, hb4⟩
        have H4 : Hid (Below w.heap.size w w4) := HB2.out.trans (hb4.mono HB2.out.size)
        clear hb4
        go_wp2
        go_ret
        exact ⟨rfl, H4.out⟩
      · have HM2 : Hid (∀ W, Below w.heap.size w W → Calls Try.prog 9 #[.slice a N c, .int .i64 x] W fun e w' => e = .returned (.bool false) ∧ w' = W) := fun W hW => by
          have := HM.out x W hW
          rw [refF_no n2] at this
          exact this
        clear h2 n2 lb2 new2 be2 lw2
        go_wp2_with fail
        refine (HM1.out w2 HB2.out).mono ?_
        rintro e w3 ⟨rfl, hw⟩
        obtain rfl := hw.symm
        go_wp2_with fail
        refine (HM2.out w2 HB2.out).mono ?_
        rintro e w3 ⟨rfl, hw⟩
        obtain rfl := hw.symm
        go_wp2_with fail
        refine (awake _).mono ?_
        rintro e w4 ⟨rfl, hb4⟩
        have H4 : Hid (Below w.heap.size w w4) := HB2.out.trans (hb4.mono HB2.out.size)
        clear hb4
        go_wp2
        go_ret
        exact ⟨rfl, H4.out⟩
    · have hok : okF fs = true := n1.2.1
      have hn288 : N ≤ 288 := by rw [← HN.out]; exact n1.1
      have hm1 : 1 ≤ y := n1.2.2.1
      have HBE1 : Hid (BestL fs (y).toNat c1 W1 ∧ (2 ≤ W1.length → 2 * W1.length - 2 ≤ (LW W1 ((y).toNat - 1)).length)) := ⟨be1, lw1⟩
      have HLB1 : Hid (LB w1 L1 N c1) := lb1
      have HM1 : Hid (∀ W, Below w.heap.size w W → Calls Try.prog 9 #[.slice a N c, .int .i64 y] W fun e w' => e = .returned (.bool false) ∧ w' = W) := fun W hW => by
        have := HM.out y W hW
        rw [refF_no n1] at this
        exact this
      have HOK : Hid (okF fs = true ∧ 1 ≤ y ∧ y ≤ x) := ⟨hok, hm1, by omega⟩
      clear h1 n1 be1 lw1 lb1 hok hm1
      go_wp2_with fail
      refine (HC.out x w1 HB1.out).mono ?_
      intro e w2 hE
      obtain ⟨v2, q2, rfl, h2⟩ := hE.came HN.out
      have HB2 : Hid (Below w.heap.size w w2) := HB1.out.trans (h2.bel.mono HB1.out.size)
      have HLB12 : Hid (LB w2 L1 N c1) := HLB1.out.below h2.bel
      clear hE
      rcases h2.or with ⟨n2, rfl, rfl⟩ | ⟨n2, rfl, L2, c2, W2, rfl, lb2, new2, be2, lw2⟩
      · have HM2 : Hid (∀ W, Below w.heap.size w W → Calls Try.prog 9 #[.slice a N c, .int .i64 x] W fun e w' => e = .returned (.bool true) ∧ w' = W) := fun W hW => by
          have := HM.out x W hW
          rw [refF_yes n2] at this
          exact this
        clear h2 n2
        go_wp2_with fail
        refine (HM1.out w2 HB2.out).mono ?_
        rintro e w3 ⟨rfl, hw⟩
        obtain rfl := hw.symm
        go_wp2_with fail
        refine (HM2.out w2 HB2.out).mono ?_
        rintro e w3 ⟨rfl, hw⟩
        obtain rfl := hw.symm
        go_wp2_with fail
        refine (awake _).mono ?_
        rintro e w4 ⟨rfl, hb4⟩
        have H4 : Hid (Below w.heap.size w w4) := HB2.out.trans (hb4.mono HB2.out.size)
        clear hb4
        go_wp2
        go_ret
        exact ⟨rfl, H4.out⟩
      · have hle := wider_le HBE1.out.1 be2 HBE1.out.2 (by have := HOK.out.2.1; omega) (by have := HOK.out.2.2; omega)
        have hge := sumTo_cost be2 (Nat.le_refl _)
        have e1 := HBE1.out.1.costR HOK.out.1
        have e2 := be2.costR HOK.out.1
        have hbd : costTo fs (lensOf c1 fs.length) fs.length ≤ 4749890231992320 := Nat.le_trans (costTo_bound HOK.out.1 ((isCode_iff _).1 HBE1.out.1.code).1 _) (by rw [HN.out]; omega)
        rw [HN.out] at hle hge e1 e2 hbd
        obtain ⟨X, hX⟩ : ∃ X, costTo fs (lensOf c1 N) N = X := ⟨_, rfl⟩
        obtain ⟨Y, hY⟩ : ∃ Y, costTo fs (lensOf c2 N) N = Y := ⟨_, rfl⟩
        rw [hX] at hle e1 hbd
        rw [hY] at hle hge e2
        have HLB2 : Hid (LB w2 L2 N c2) := lb2
        have HX1 : Hid (∀ _ : Unit, Calls Try.prog 26 #[.slice a N c, .slice (some ⟨L1, 0, none⟩) N N] w2 fun e w' => e = .returned (.tuple #[.int .i64 (X : Nat), .int .i64 0]) ∧ Below w2.heap.size w2 w') := fun _ => by
          have := HCO.out (lensOf c1 N) L1 w2 (lensOf_length _ _) HB2.out HLB12.out.row
          rw [e1] at this
          exact this
        have HX2 : Hid (∀ W, Below w2.heap.size w2 W → Calls Try.prog 26 #[.slice a N c, .slice (some ⟨L2, 0, none⟩) N N] W fun e w' => e = .returned (.tuple #[.int .i64 (Y : Nat), .int .i64 0]) ∧ Below W.heap.size W w') := fun W hW => by
          have := HCO.out (lensOf c2 N) L2 W (lensOf_length _ _) (HB2.out.trans (hW.mono HB2.out.size)) (HLB2.out.row.below hW)
          rw [e2] at this
          exact this
        have HGE : Hid (sumTo fs N ≤ Y) := hge
        clear h2 n2 lb2 new2 be2 lw2 e1 e2 hX hY hge new1
        go_wp2_with fail
        refine (HX1.out ()).mono ?_
        rintro e w3 ⟨rfl, hb3⟩
        have HB3 : Hid (Below w2.heap.size w2 w3) := hb3
        clear hb3
        go_wp2_with fail
        refine (HX2.out w3 HB3.out).mono ?_
        rintro e w4 ⟨rfl, hb4⟩
        have HB4 : Hid (Below w.heap.size w w4) := by
          have h23 := HB2.out.trans (HB3.out.mono HB2.out.size)
          exact h23.trans (hb4.mono h23.size)
        have HR4 : Hid (IRow w4 a fs) := HR.out.below HB4.out
        clear hb4
        go_wp2
        go_loop [15, 16] (fun v12 v13 => ∃ (j : Nat) (S : Nat), v13 = .int .i64 j ∧ j ≤ N ∧ v12 = .int .i64 (S : Int) ∧ Hid (S = sumTo fs j)) (fun _ v13 => N - (intOf v13).toNat)
        case atStart => exact ⟨0, 0, rfl, by omega, rfl, rfl⟩
        case round =>
          obtain ⟨j, S, rfl, hj, rfl, HS⟩ := hrel
          have hSb : S ≤ 316659348799488 := by rw [HS.out]; exact Nat.le_trans (sumTo_bound HOK.out.1 j) (by omega)
          by_cases hlt : j < N
          · have hlti : (j : Int) < (N : Int) := by omega
            obtain ⟨b, off, rfl, hcell, _⟩ := HR4.out.at (show j < fs.length by rw [HN.out]; exact hlt)
            obtain ⟨F, hF⟩ : ∃ F : Nat, fs.getD j 0 = (F : Int) := ⟨(fs.getD j 0).toNat, by have := (okF_get HOK.out.1 j).1; omega⟩
            have hFb : F ≤ 1099511627776 := by have := (okF_get HOK.out.1 j).2; omega
            have HX : Hid (S + F = sumTo fs (j + 1)) := by
              show _ = _
              simp only [sumTo, frq]
              rw [hF, ← HS.out]; simp
            rw [hF] at hcell
            clear hF
            go_wp2
            exact ⟨⟨j + 1, S + F, by go_num, by omega, by go_num, HX⟩, by simp [intOf]; omega⟩
          · obtain rfl : j = N := by omega
            have hSY : S ≤ Y := by rw [HS.out]; exact HGE.out
            have i1 : (Y : Int) ≤ (X : Int) := by omega
            have i2 : (S : Int) ≤ (Y : Int) := by omega
            go_wp2_with fail
            refine (awake _).mono ?_
            rintro e w5 ⟨rfl, hb5⟩
            have H5 : Hid (Below w.heap.size w w5) := HB4.out.trans (hb5.mono HB4.out.size)
            clear hb5
            go_wp2
            go_ret
            exact ⟨rfl, H5.out⟩
  · go_wp2_with fail
    refine (HC.out x w (Below.refl _ _)).mono ?_
    intro e w1 hE
    obtain ⟨v1, q1, rfl, h1⟩ := hE.came HN.out
    have HB1 : Hid (Below w.heap.size w w1) := h1.bel
    clear hE
    rcases h1.or with ⟨n1, rfl, rfl⟩ | ⟨n1, rfl, L1, c1, W1, rfl, lb1, new1, be1, lw1⟩
    · have HM1 : Hid (∀ W, Below w.heap.size w W → Calls Try.prog 9 #[.slice a N c, .int .i64 x] W fun e w' => e = .returned (.bool true) ∧ w' = W) := fun W hW => by
        have := HM.out x W hW
        rw [refF_yes n1] at this
        exact this
      clear h1 n1
      go_wp2_with fail
      refine (HC.out y w1 HB1.out).mono ?_
      intro e w2 hE
      obtain ⟨v2, q2, rfl, h2⟩ := hE.came HN.out
      have HB2 : Hid (Below w.heap.size w w2) := HB1.out.trans (h2.bel.mono HB1.out.size)
      clear hE
      rcases h2.or with ⟨n2, rfl, rfl⟩ | ⟨n2, rfl, L2, c2, W2, rfl, lb2, new2, be2, lw2⟩
      · have HM2 : Hid (∀ W, Below w.heap.size w W → Calls Try.prog 9 #[.slice a N c, .int .i64 y] W fun e w' => e = .returned (.bool true) ∧ w' = W) := fun W hW => by
          have := HM.out y W hW
          rw [refF_yes n2] at this
          exact this
        clear h2 n2
        go_wp2_with fail
        refine (HM1.out w2 HB2.out).mono ?_
        rintro e w3 ⟨rfl, hw⟩
        obtain rfl := hw.symm
        go_wp2_with fail
        refine (HM2.out w2 HB2.out).mono ?_
        rintro e w3 ⟨rfl, hw⟩
        obtain rfl := hw.symm
        go_wp2_with fail
        refine (awake _).mono ?_
        rintro e w4 ⟨rfl, hb4⟩
        have H4 : Hid (Below w.heap.size w w4) := HB2.out.trans (hb4.mono HB2.out.size)
        clear hb4
        go_wp2
        go_ret
        exact ⟨rfl, H4.out⟩
      · have HM2 : Hid (∀ W, Below w.heap.size w W → Calls Try.prog 9 #[.slice a N c, .int .i64 y] W fun e w' => e = .returned (.bool false) ∧ w' = W) := fun W hW => by
          have := HM.out y W hW
          rw [refF_no n2] at this
          exact this
        clear h2 n2 lb2 new2 be2 lw2
        go_wp2_with fail
        refine (HM1.out w2 HB2.out).mono ?_
        rintro e w3 ⟨rfl, hw⟩
        obtain rfl := hw.symm
        go_wp2_with fail
        refine (HM2.out w2 HB2.out).mono ?_
        rintro e w3 ⟨rfl, hw⟩
        obtain rfl := hw.symm
        go_wp2_with fail
        refine (awake _).mono ?_
        rintro e w4 ⟨rfl, hb4⟩
        have H4 : Hid (Below w.heap.size w w4) := HB2.out.trans (hb4.mono HB2.out.size)
        clear hb4
        go_wp2
        go_ret
        exact ⟨rfl, H4.out⟩
    · have hok : okF fs = true := n1.2.1
      have hn288 : N ≤ 288 := by rw [← HN.out]; exact n1.1
      have hm1 : 1 ≤ x := n1.2.2.1
      have HBE1 : Hid (BestL fs (x).toNat c1 W1 ∧ (2 ≤ W1.length → 2 * W1.length - 2 ≤ (LW W1 ((x).toNat - 1)).length)) := ⟨be1, lw1⟩
      have HLB1 : Hid (LB w1 L1 N c1) := lb1
      have HM1 : Hid (∀ W, Below w.heap.size w W → Calls Try.prog 9 #[.slice a N c, .int .i64 x] W fun e w' => e = .returned (.bool false) ∧ w' = W) := fun W hW => by
        have := HM.out x W hW
        rw [refF_no n1] at this
        exact this
      have HOK : Hid (okF fs = true ∧ 1 ≤ x ∧ x ≤ y) := ⟨hok, hm1, by omega⟩
      clear h1 n1 be1 lw1 lb1 hok hm1
      go_wp2_with fail
      refine (HC.out y w1 HB1.out).mono ?_
      intro e w2 hE
      obtain ⟨v2, q2, rfl, h2⟩ := hE.came HN.out
      have HB2 : Hid (Below w.heap.size w w2) := HB1.out.trans (h2.bel.mono HB1.out.size)
      have HLB12 : Hid (LB w2 L1 N c1) := HLB1.out.below h2.bel
      clear hE
      rcases h2.or with ⟨n2, rfl, rfl⟩ | ⟨n2, rfl, L2, c2, W2, rfl, lb2, new2, be2, lw2⟩
      · have HM2 : Hid (∀ W, Below w.heap.size w W → Calls Try.prog 9 #[.slice a N c, .int .i64 y] W fun e w' => e = .returned (.bool true) ∧ w' = W) := fun W hW => by
          have := HM.out y W hW
          rw [refF_yes n2] at this
          exact this
        clear h2 n2
        go_wp2_with fail
        refine (HM1.out w2 HB2.out).mono ?_
        rintro e w3 ⟨rfl, hw⟩
        obtain rfl := hw.symm
        go_wp2_with fail
        refine (HM2.out w2 HB2.out).mono ?_
        rintro e w3 ⟨rfl, hw⟩
        obtain rfl := hw.symm
        go_wp2_with fail
        refine (awake _).mono ?_
        rintro e w4 ⟨rfl, hb4⟩
        have H4 : Hid (Below w.heap.size w w4) := HB2.out.trans (hb4.mono HB2.out.size)
        clear hb4
        go_wp2
        go_ret
        exact ⟨rfl, H4.out⟩
      · have hle := wider_le HBE1.out.1 be2 HBE1.out.2 (by have := HOK.out.2.1; omega) (by have := HOK.out.2.2; omega)
        have hge := sumTo_cost be2 (Nat.le_refl _)
        have e1 := HBE1.out.1.costR HOK.out.1
        have e2 := be2.costR HOK.out.1
        have hbd : costTo fs (lensOf c1 fs.length) fs.length ≤ 4749890231992320 := Nat.le_trans (costTo_bound HOK.out.1 ((isCode_iff _).1 HBE1.out.1.code).1 _) (by rw [HN.out]; omega)
        rw [HN.out] at hle hge e1 e2 hbd
        obtain ⟨X, hX⟩ : ∃ X, costTo fs (lensOf c1 N) N = X := ⟨_, rfl⟩
        obtain ⟨Y, hY⟩ : ∃ Y, costTo fs (lensOf c2 N) N = Y := ⟨_, rfl⟩
        rw [hX] at hle e1 hbd
        rw [hY] at hle hge e2
        have HLB2 : Hid (LB w2 L2 N c2) := lb2
        have HX1 : Hid (∀ _ : Unit, Calls Try.prog 26 #[.slice a N c, .slice (some ⟨L1, 0, none⟩) N N] w2 fun e w' => e = .returned (.tuple #[.int .i64 (X : Nat), .int .i64 0]) ∧ Below w2.heap.size w2 w') := fun _ => by
          have := HCO.out (lensOf c1 N) L1 w2 (lensOf_length _ _) HB2.out HLB12.out.row
          rw [e1] at this
          exact this
        have HX2 : Hid (∀ W, Below w2.heap.size w2 W → Calls Try.prog 26 #[.slice a N c, .slice (some ⟨L2, 0, none⟩) N N] W fun e w' => e = .returned (.tuple #[.int .i64 (Y : Nat), .int .i64 0]) ∧ Below W.heap.size W w') := fun W hW => by
          have := HCO.out (lensOf c2 N) L2 W (lensOf_length _ _) (HB2.out.trans (hW.mono HB2.out.size)) (HLB2.out.row.below hW)
          rw [e2] at this
          exact this
        have HGE : Hid (sumTo fs N ≤ Y) := hge
        clear h2 n2 lb2 new2 be2 lw2 e1 e2 hX hY hge new1
        go_wp2_with fail
        refine (HX1.out ()).mono ?_
        rintro e w3 ⟨rfl, hb3⟩
        have HB3 : Hid (Below w2.heap.size w2 w3) := hb3
        clear hb3
        go_wp2_with fail
        refine (HX2.out w3 HB3.out).mono ?_
        rintro e w4 ⟨rfl, hb4⟩
        have HB4 : Hid (Below w.heap.size w w4) := by
          have h23 := HB2.out.trans (HB3.out.mono HB2.out.size)
          exact h23.trans (hb4.mono h23.size)
        have HR4 : Hid (IRow w4 a fs) := HR.out.below HB4.out
        clear hb4
        go_wp2
        go_loop [15, 16] (fun v12 v13 => ∃ (j : Nat) (S : Nat), v13 = .int .i64 j ∧ j ≤ N ∧ v12 = .int .i64 (S : Int) ∧ Hid (S = sumTo fs j)) (fun _ v13 => N - (intOf v13).toNat)
        case atStart => exact ⟨0, 0, rfl, by omega, rfl, rfl⟩
        case round =>
          obtain ⟨j, S, rfl, hj, rfl, HS⟩ := hrel
          have hSb : S ≤ 316659348799488 := by rw [HS.out]; exact Nat.le_trans (sumTo_bound HOK.out.1 j) (by omega)
          by_cases hlt : j < N
          · have hlti : (j : Int) < (N : Int) := by omega
            obtain ⟨b, off, rfl, hcell, _⟩ := HR4.out.at (show j < fs.length by rw [HN.out]; exact hlt)
            obtain ⟨F, hF⟩ : ∃ F : Nat, fs.getD j 0 = (F : Int) := ⟨(fs.getD j 0).toNat, by have := (okF_get HOK.out.1 j).1; omega⟩
            have hFb : F ≤ 1099511627776 := by have := (okF_get HOK.out.1 j).2; omega
            have HX : Hid (S + F = sumTo fs (j + 1)) := by
              show _ = _
              simp only [sumTo, frq]
              rw [hF, ← HS.out]; simp
            rw [hF] at hcell
            clear hF
            go_wp2
            exact ⟨⟨j + 1, S + F, by go_num, by omega, by go_num, HX⟩, by simp [intOf]; omega⟩
          · obtain rfl : j = N := by omega
            have hSY : S ≤ Y := by rw [HS.out]; exact HGE.out
            have i1 : (Y : Int) ≤ (X : Int) := by omega
            have i2 : (S : Int) ≤ (Y : Int) := by omega
            go_wp2_with fail
            refine (awake _).mono ?_
            rintro e w5 ⟨rfl, hb5⟩
            have H5 : Hid (Below w.heap.size w w5) := HB4.out.trans (hb5.mono HB4.out.size)
            clear hb5
            go_wp2
            go_ret
            exact ⟨rfl, H5.out⟩
end Go.Proofs.Ytklipommocijaaa
