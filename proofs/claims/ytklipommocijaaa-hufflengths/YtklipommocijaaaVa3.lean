/- The document's least cost: the function itself. -/
import Derived.Test.YtklipommocijaaaVa2
namespace Go.Proofs.Ytklipommocijaaa
open Go.RowKit
set_option linter.unusedVariables false

structure CoinSt (w wr : World) (fs : List Int) (j n : Nat) (v : Value) : Prop where
  own : wr.ownsRow w.heap.size 3 1 v n (icells (coinsOf fs j))
  bel : Below w.heap.size w wr
/-- How a level stands: the coins, the packs of the level below. -/
structure LvSt (w wr : World) (W P : List Nat) (gc : Nat) (vp : Value) : Prop where
  coins : IRow wr (some ⟨gc, 0, none⟩) (W.map fun x => ((x : Nat) : Int))
  packs : (P = [] ∧ vp = .slice none 0 0) ∨ ∃ gp cap, 0 < P.length ∧ vp = .slice (some ⟨gp, 0, none⟩) P.length cap ∧ IRow wr (some ⟨gp, 0, none⟩) (P.map fun x => ((x : Nat) : Int))
  bel : Below w.heap.size w wr
/-- The packs that a level l takes. -/
def packsAt (W : List Nat) : Nat → List Nat
  | 0 => []
  | l + 1 => twos (LW W l)
theorem LW_short (W : List Nat) : ∀ l, (LW W l).length ≤ 2 * W.length
  | 0 => by
    have h : (LW W 0).length = (W ++ []).length := isort_len _
    rw [h, List.append_nil]; omega
  | l + 1 => by
    have := LW_short W l
    rw [LW_length, twos_length]; omega
theorem packs_short (W : List Nat) (l : Nat) : (packsAt W l).length ≤ W.length := by
  cases l with
  | zero => exact Nat.zero_le _
  | succ l =>
    have := LW_short W l
    show (twos (LW W l)).length ≤ _
    rw [twos_length]; omega
theorem LW_packs (W : List Nat) (l : Nat) : LW W l = isort [] (W ++ packsAt W l) := by cases l <;> rfl
structure PkSt (w w3 wr : World) (A : List Nat) (j : Nat) (v : Value) : Prop where
  own : wr.ownsRow w3.heap.size 3 1 v j (icells ((twos A).take j))
  bel : Below w3.heap.size w3 wr
set_option maxRecDepth 20000 in
set_option maxHeartbeats 8000000 in
theorem least_ok (fs : List Int) (a : Option Addr) (c N mo : Nat) (w : World) (hN : fs.length = N) (hrow : IRow w a fs) (hlen : N ≤ 288) (hok : okF fs = true) (hm1 : 1 ≤ mo) (hm2 : mo ≤ 15) :
    Calls Try.prog 13 #[.slice a N c, .int .i64 mo] w fun e w' => e = .returned (.int .i64 (leastV fs N mo : Nat)) ∧ Below w.heap.size w w' := by
  have HR : Hid (IRow w a fs) := hrow
  have HN : Hid (fs.length = N) := hN
  have HOK : Hid (okF fs = true) := hok
  obtain ⟨i0, hi, hz0, hz1, hz2⟩ := info_split intInfo
  have HI : Hid (Try.prog.info? 3 = some i0 ∧ i0.zero = some (.int .i64 0) ∧ i0.size = 1 ∧ i0.bytes = 8) := ⟨hi, hz0, hz1, hz2⟩
  obtain ⟨LV, hLV⟩ : ∃ v, leastV fs N mo = v := ⟨_, rfl⟩
  have HLV : Hid (leastV fs N mo = LV) := hLV
  rw [hLV]
  clear hi hz0 hz1 hz2 hrow hN hok hLV
  go_enter Try.func13, Try.ntmps13
  go_wp2
  go_loopw [5, 6] (fun v5 v6 wr => ∃ (j n : Nat) (V : Value), V = v5 ∧ v6 = .int .i64 j ∧ j ≤ N ∧ n ≤ j ∧ Hid (CoinSt w wr fs j n V)) (fun _ v6 _ => N - (intOf v6).toNat)
  case atStart => exact ⟨0, 0, _, rfl, rfl, by omega, by omega, World.ownsRow_nil _ _ _ _, Below.refl _ _⟩
  case round =>
    obtain ⟨j, n, V, rfl, rfl, hj, hnj, HS⟩ := hrel
    by_cases hlt : j < N
    · have hlti : (j : Int) < (N : Int) := by omega
      obtain ⟨b, off, rfl, cx, _⟩ := (HR.out.below HS.out.bel).at (show j < fs.length by rw [HN.out]; exact hlt)
      obtain ⟨F, hF⟩ : ∃ F : Nat, fs.getD j 0 = (F : Int) := ⟨(fs.getD j 0).toNat, by have := (okF_get HOK.out j).1; omega⟩
      have hcs := coins_succ fs j
      have hfr : frq fs j = F := by unfold frq; rw [hF]; simp
      rw [hF, hfr] at hcs
      rw [hF] at cx
      have HCS : Hid (coinsOf fs (j + 1) = if (0 : Int) < (F : Int) then coinsOf fs j ++ [F] else coinsOf fs j) := hcs
      have o1 := HS.out.own
      have HO : Hid (∀ o, (wr.alloc o).ownsRow w.heap.size 3 1 V n (icells (coinsOf fs j)) ∧ w.heap.size ≤ (wr.alloc o).heap.size) := fun o => ⟨o1.alloc o, by have := HS.out.bel.size; simp; omega⟩
      clear hcs hF hfr o1
      by_cases h0 : 0 < F
      · have h0i : (0 : Int) < (F : Int) := by omega
        go_wp2_with (at_builtin; refine wpList_append_lies _ rfl _ _ 22 rfl w.heap.size 3 i0 (.int .i64 0) 1 8 Try.underlying22 HI.out.1 HI.out.2.1 HI.out.2.2.1 HI.out.2.2.2 rfl (by decide) V n (icells (coinsOf fs j)) rfl (HO.out _).1 ⟨wr.heap.size, 0, none⟩ 1 1 [.int .i64 (F : Int)] rfl rfl (news1 wr _ _) (one1 _) (by decide) (by unfold maxLen; omega) (by omega) (HO.out _).2 _ rfl ?_)
        intro g cap w1 hown hgrow hat hgl
        have H2 : Hid (CoinSt w w1 fs (j + 1) (n + 1) (.slice (some ⟨g, 0, none⟩) (n + 1) cap)) := by
          refine ⟨?_, ?_⟩
          · rw [HCS.out, if_pos h0i, ← icells_snoc]; exact hown
          · have hb := HS.out.bel
            exact (hb.alloc hb.size _).trans (below_grown (HO.out _).1 hgrow (HO.out _).2)
        clear hown hgrow hat hgl
        go_wp2
        exact ⟨⟨j + 1, n + 1, _, rfl, by go_num, by omega, by omega, H2⟩, by simp [intOf]; omega⟩
      · have h0i : ¬ (0 : Int) < (F : Int) := by omega
        have H2 : Hid (CoinSt w wr fs (j + 1) n V) := by
          refine ⟨?_, HS.out.bel⟩
          rw [HCS.out, if_neg h0i]; exact HS.out.own
        go_wp2
        exact ⟨⟨j + 1, n, _, rfl, by go_num, by omega, by omega, H2⟩, by simp [intOf]; omega⟩
    · have hlti : ¬ (j : Int) < (N : Int) := by omega
      obtain rfl : j = N := by omega
      obtain ⟨C, hC⟩ : ∃ C, coinsOf fs j = C := ⟨_, rfl⟩
      have hsum : C.sum ≤ 316659348799488 := by rw [← hC]; exact Nat.le_trans (coins_bound HOK.out j) (by omega)
      have hown := HS.out.own
      rw [hC] at hown
      obtain ⟨ao, cp, rfl, hir, hCl, hso⟩ := owned_row hown
      have HC : Hid (coinsOf fs j = C ∧ C.length = n) := ⟨hC, hCl⟩
      have HIR : Hid (IRow wr ao (C.map fun x => ((x : Nat) : Int))) := hir
      have HB : Hid (Below w.heap.size w wr) := HS.out.bel
      clear hC hown hir hCl HS
      by_cases h2 : n < 2
      · have h2i : (n : Int) < 2 := by omega
        have HE : Hid (LV = C.sum) := by
          show _ = _
          rw [← HLV.out]; unfold leastV; rw [HC.out.1, HC.out.2, if_pos h2]
        go_wp2
        go_loop [7, 8] (fun v7 v8 => ∃ (i : Nat) (S : Nat), v8 = .int .i64 i ∧ i ≤ n ∧ v7 = .int .i64 (S : Int) ∧ Hid (S = (C.take i).sum)) (fun _ v8 => n - (intOf v8).toNat)
        case atStart => exact ⟨0, 0, rfl, by omega, rfl, rfl⟩
        case round =>
          obtain ⟨i, S, rfl, hi, rfl, HSS⟩ := hrel
          have hSb : S ≤ 316659348799488 := by rw [HSS.out]; exact Nat.le_trans (take_sum_le C i) hsum
          by_cases hlt2 : i < n
          · have hlt2i : (i : Int) < (n : Int) := by omega
            obtain ⟨g, rfl⟩ := hso (by omega)
            have cc := row_cell HIR.out (j := i) (by rw [HC.out.2]; exact hlt2)
            obtain ⟨y, hy⟩ : ∃ y, C.getD i 0 = y := ⟨_, rfl⟩
            have hyb : y ≤ 316659348799488 := by rw [← hy]; exact Nat.le_trans (getD_le_sum C i) hsum
            rw [hy] at cc
            have HX : Hid (S + y = (C.take (i + 1)).sum) := by
              show _ = _
              rw [take_sum_succ C i (by rw [HC.out.2]; exact hlt2), hy, HSS.out]
            clear hy
            go_wp2
            exact ⟨⟨i + 1, S + y, by go_num, by omega, by go_num, HX⟩, by simp [intOf]; omega⟩
          · obtain rfl : i = n := by omega
            have hlt2i : ¬ (i : Int) < (i : Int) := by omega
            go_wp2
            go_ret
            refine ⟨?_, HB.out⟩
            rw [HE.out, HSS.out, ← HC.out.2, List.take_length]; rfl
      · have h2i : ¬ (n : Int) < 2 := by omega
        obtain ⟨g, rfl⟩ := hso (by omega)
        have HRI : Hid (∀ _ : Unit, Calls Try.prog 34 #[.slice (some ⟨g, 0, none⟩) n cp] wr fun e w' => ∃ v, e = .returned v ∧ RisSt wr w' C n n v) := fun _ => rising_ok C _ cp n wr HC.out.2 HIR.out (by omega)
        go_wp2_with fail
        refine (HRI.out ()).mono ?_
        rintro e w2 ⟨vc, rfl, hri⟩
        have hoc := hri.own
        rw [List.take_of_length_le (by rw [HC.out.2]; exact Nat.le_refl _)] at hoc
        obtain ⟨aoc, cpc, rfl, hirc, hWl, hsoc⟩ := owned_row hoc
        obtain ⟨gc, rfl⟩ := hsoc (by omega)
        obtain ⟨W, hW⟩ : ∃ W, isort [] C = W := ⟨_, rfl⟩
        have hWs : W.sum ≤ 316659348799488 := by rw [← hW, isort_sum]; exact hsum
        rw [hW] at hirc hWl
        have HW : Hid (isort [] C = W ∧ W.length = n) := ⟨hW, hWl⟩
        have HL0 : Hid (LvSt w w2 W (packsAt W 0) gc (.slice none 0 0)) := ⟨hirc, .inl ⟨rfl, rfl⟩, HB.out.trans (hri.bel.mono HB.out.size)⟩
        clear hri hoc hirc hWl hW hso hsoc HRI HIR HB
        go_wp2
        go_loopw [9, 10, 11, 12, 13, 14] (fun v9 v10 _ _ _ _ wr => ∃ (l : Nat) (Vp : Value), Vp = v9 ∧ v10 = .int .i64 l ∧ l < mo ∧ Hid (LvSt w wr W (packsAt W l) gc Vp)) (fun _ v10 _ _ _ _ _ => mo - (intOf v10).toNat)
        case atStart => exact ⟨0, _, rfl, rfl, by omega, HL0⟩
        case round =>
          obtain ⟨l, Vp, rfl, rfl, hl, HS⟩ := hrel
          have hli0 : (l : Int) < (mo : Int) := by omega
          have HN1 : Hid ((icells W).length = n * 1 ∧ ∀ j u, (icells W)[j]? = some u → wr.cell? ((⟨gc, 0, none⟩ : Addr).add j) = some u) := ⟨by rw [icells_length, HW.out.2]; omega, row_news HS.out.coins⟩
          have hn0 : 0 < n := by omega
          go_wp2_with (at_builtin; refine wpList_append_lies _ rfl _ _ 22 rfl wr.heap.size 3 i0 (.int .i64 0) 1 8 Try.underlying22 HI.out.1 HI.out.2.1 HI.out.2.2.1 HI.out.2.2.2 rfl (by decide) (.slice none 0 0) 0 [] rfl (World.ownsRow_nil _ _ _ _) ⟨gc, 0, none⟩ n cpc (icells W) rfl HN1.out.1 HN1.out.2 (one_icells _) hn0 (by unfold maxLen; omega) (by omega) (Nat.le_refl _) _ rfl ?_)
          intro g1 cap1 w1 hown1 hgrow1 hat1 hgl1
          have hown1 : w1.ownsRow wr.heap.size 3 1 (.slice (some ⟨g1, 0, none⟩) (0 + n) cap1) n (icells W) := by simpa using hown1
          have hb1 : Below wr.heap.size wr w1 := ⟨hgrow1.os, hgrow1.tape, hgrow1.output, hgrow1.size, fun j hj => hgrow1.block j hj (by simp [Value.ownBlock])⟩
          have HB1 : Hid (Below wr.heap.size wr w1) := hb1
          have HO1 : Hid (w1.ownsRow wr.heap.size 3 1 (.slice (some ⟨g1, 0, none⟩) n cap1) n (icells W)) := by show World.ownsRow _ _ _ _ _ _ _; simpa using hown1
          clear hown1 hgrow1 hat1 hgl1 hb1 HN1
          rcases HS.out.packs with ⟨hP, rfl⟩ | ⟨gp, capp, hP0, rfl, hPr⟩
          · go_wp2_with (at_builtin; refine wpList_append_own_none rfl _ _ 22 rfl wr.heap.size 3 i0 1 Try.underlying22 HI.out.1 (.slice (some ⟨g1, 0, none⟩) n cap1) n _ rfl HO1.out rfl ?_)
            obtain ⟨m, hm⟩ : ∃ m, n = m := ⟨_, rfl⟩
            have HM : Hid ((W ++ packsAt W l).length = m) := by show _ = _; rw [hP, List.append_nil, HW.out.2, hm]
            have HLW : Hid (LW W l = isort [] (W ++ packsAt W l)) := LW_packs W l
            have hm2' : 2 ≤ m := by omega
            have hm3 : m ≤ 1000 := by omega
            have HB3 : Hid (Below wr.heap.size wr w1) := HB1
            have HRI : Hid (∀ _ : Unit, Calls Try.prog 34 #[.slice (some ⟨g1, 0, none⟩) n cap1] w1 fun e w' => ∃ v, e = .returned v ∧ RisSt w1 w' (W ++ packsAt W l) m m v) := fun _ => by
              obtain ⟨ao, cp', e, h1, h2', _⟩ := owned_row HO1.out
              cases e
              have h := rising_ok (W ++ packsAt W l) (some ⟨g1, 0, none⟩) cap1 m w1 HM.out (by rw [hP, List.append_nil]; exact h1) (by omega)
              rw [← hm] at h ⊢
              exact h
            clear hm
            refine (HRI.out ()).mono ?_
            rintro e w4 ⟨v4, rfl, hr4⟩
            have ho4 := hr4.own
            rw [List.take_of_length_le (by rw [HM.out]; exact Nat.le_refl _), ← HLW.out] at ho4
            obtain ⟨ao4, cp4, rfl, hir4, hA4, hso4⟩ := owned_row ho4
            obtain ⟨ga, rfl⟩ := hso4 (by omega)
            have HA : Hid (IRow w4 (some ⟨ga, 0, none⟩) ((LW W l).map fun x => ((x : Nat) : Int)) ∧ (LW W l).length = m) := ⟨hir4, hA4⟩
            have HB4 : Hid (Below wr.heap.size wr w4) := HB3.out.trans (hr4.bel.mono HB3.out.size)
            have HAS : Hid ((LW W l).sum ≤ 4749890231992320) := Nat.le_trans (LW_sum W l) (Nat.le_trans (Nat.mul_le_mul (show l + 1 ≤ 15 by omega) hWs) (by omega))
            clear hr4 ho4 hir4 hA4 hso4
            by_cases hlast : l = mo - 1
            · have hli : (l : Int) = (mo : Int) - 1 := by omega
              have hlb : ((l : Int) == (mo : Int) - 1) = true := by simpa using hli
              have HE : Hid (LV = ((LW W l).take (2 * n - 2)).sum) := by
                show _ = _
                rw [← HLV.out, hlast]; unfold leastV; rw [HC.out.1, HC.out.2, if_neg h2, HW.out.1]
              have HBE : Hid (Below w.heap.size w w4) := HS.out.bel.trans (HB4.out.mono HS.out.bel.size)
              go_wp2
              go_loop [12, 13] (fun v12 v13 => ∃ (i : Nat) (S : Nat), v13 = .int .i64 i ∧ i ≤ 2 * n - 2 ∧ i ≤ m ∧ v12 = .int .i64 (S : Int) ∧ Hid (S = ((LW W l).take i).sum)) (fun _ v13 => m - (intOf v13).toNat)
              case atStart => exact ⟨0, 0, rfl, by omega, by omega, rfl, rfl⟩
              case round =>
                obtain ⟨i, S, rfl, hi1, hi2, rfl, HSS⟩ := hrel
                have hSb : S ≤ 4749890231992320 := by rw [HSS.out]; exact Nat.le_trans (take_sum_le _ i) HAS.out
                have e2n : IntKind.i64.wrap (2 * (n : Int)) = 2 * (n : Int) := by rw [IntKind.wrap_i64]; omega
                have e2n2 : IntKind.i64.wrap (2 * (n : Int) - 2) = 2 * (n : Int) - 2 := by rw [IntKind.wrap_i64]; omega
                by_cases hlt1 : i < 2 * n - 2
                · have hlt1i : (i : Int) < 2 * (n : Int) - 2 := by omega
                  by_cases hlt2 : i < m
                  · have hlt2i : (i : Int) < (m : Int) := by omega
                    have cc := row_cell HA.out.1 (j := i) (by rw [HA.out.2]; exact hlt2)
                    obtain ⟨y, hy⟩ : ∃ y, (LW W l).getD i 0 = y := ⟨_, rfl⟩
                    have hyb : y ≤ 4749890231992320 := by rw [← hy]; exact Nat.le_trans (getD_le_sum _ i) HAS.out
                    rw [hy] at cc
                    have HX : Hid (S + y = ((LW W l).take (i + 1)).sum) := by
                      show _ = _
                      rw [take_sum_succ _ i (by rw [HA.out.2]; exact hlt2), hy, HSS.out]
                    clear hy
                    go_wp2
                    exact ⟨⟨i + 1, S + y, by go_num, by omega, by omega, by go_num, HX⟩, by simp [intOf]; omega⟩
                  · have hlt2i : ¬ (i : Int) < (m : Int) := by omega
                    have HF : Hid (LV = S) := by
                      show _ = _
                      rw [HE.out, HSS.out, List.take_of_length_le (by rw [HA.out.2]; omega), List.take_of_length_le (by rw [HA.out.2]; omega)]
                    go_wp2
                    go_ret
                    exact ⟨by rw [HF.out]; rfl, HBE.out⟩
                · have hlt1i : ¬ (i : Int) < 2 * (n : Int) - 2 := by omega
                  have HF : Hid (LV = S) := by
                    show _ = _
                    rw [HE.out, HSS.out, show i = 2 * n - 2 by omega]
                  go_wp2
                  go_ret
                  exact ⟨by rw [HF.out]; rfl, HBE.out⟩
            · have hli : ¬ (l : Int) = (mo : Int) - 1 := by omega
              have hlb : ((l : Int) == (mo : Int) - 1) = false := by simpa using hli
              obtain ⟨wq, rfl⟩ : ∃ v, v = wr := ⟨wr, rfl⟩
              go_wp2
              go_loopw [9, 14] (fun v9 v14 ws => ∃ (j2 : Nat) (V : Value), V = v9 ∧ v14 = .int .i64 ((2 * j2 : Nat) : Int) ∧ 2 * j2 ≤ m ∧ Hid (PkSt w w4 ws (LW W l) j2 V)) (fun _ v14 _ => m - (intOf v14).toNat)
              case atStart => exact ⟨0, _, rfl, rfl, by omega, World.ownsRow_nil _ _ _ _, Below.refl _ _⟩
              case round =>
                obtain ⟨j2, V, rfl, rfl, hj2, HP⟩ := hrel
                obtain ⟨i, hi⟩ : ∃ i, 2 * j2 = i := ⟨_, rfl⟩
                rw [hi] at hj2 ⊢
                have HI2 : Hid (2 * j2 = i) := hi
                clear hi
                by_cases hlt1 : i + 1 < m
                · have hlt1i : (i : Int) + 1 < (m : Int) := by omega
                  have himi : (i : Int) < (m : Int) := by omega
                  have hAws : IRow wr (some ⟨ga, 0, none⟩) ((LW W l).map fun x => ((x : Nat) : Int)) := HA.out.1.below HP.out.bel
                  have c1 := row_cell hAws (j := i) (by rw [HA.out.2]; omega)
                  have c2 := row_cell hAws (j := i + 1) (by rw [HA.out.2]; omega)
                  obtain ⟨y, hy⟩ : ∃ y, (LW W l).getD i 0 = y := ⟨_, rfl⟩
                  obtain ⟨z, hz⟩ : ∃ z, (LW W l).getD (i + 1) 0 = z := ⟨_, rfl⟩
                  have hyb : y ≤ 4749890231992320 := by rw [← hy]; exact Nat.le_trans (getD_le_sum _ i) HAS.out
                  have hzb : z ≤ 4749890231992320 := by rw [← hz]; exact Nat.le_trans (getD_le_sum _ (i + 1)) HAS.out
                  rw [hy] at c1
                  rw [hz] at c2
                  have HNX : Hid ((twos (LW W l)).take (j2 + 1) = (twos (LW W l)).take j2 ++ [y + z]) := by
                    show _ = _
                    have h1 := twos_get (LW W l) j2 (by rw [HA.out.2, HI2.out]; exact hlt1)
                    rw [HI2.out, hy, hz] at h1
                    have h2 : j2 < (twos (LW W l)).length := by rw [twos_length, HA.out.2]; have := HI2.out; omega
                    rw [List.take_succ_eq_append_getElem h2, ← getD_in (z := 0) h2, h1]
                  have o1 := HP.out.own
                  have HO : Hid (∀ o, (wr.drew.alloc o).ownsRow w4.heap.size 3 1 V j2 (icells ((twos (LW W l)).take j2)) ∧ w4.heap.size ≤ (wr.drew.alloc o).heap.size) := fun o => ⟨World.ownsRow.alloc (w := wr.drew) o1 o, by have := HP.out.bel.size; simp; omega⟩
                  have hj2b : j2 ≤ 100000 := by have := HI2.out; omega
                  obtain ⟨yz, hyz0⟩ : ∃ v, y + z = v := ⟨_, rfl⟩
                  obtain ⟨i1, hi0⟩ : ∃ v, i + 1 = v := ⟨_, rfl⟩
                  rw [hyz0] at HNX
                  rw [hi0] at c2
                  have hyz : (y : Int) + (z : Int) = (yz : Int) := by omega
                  have hi1b : (i1 : Int) < (m : Int) := by omega
                  have wyz : IntKind.i64.wrap ((y : Int) + (z : Int)) = (yz : Int) := by rw [IntKind.wrap_i64]; omega
                  have wi1 : IntKind.i64.wrap ((i : Int) + 1) = (i1 : Int) := by rw [IntKind.wrap_i64]; omega
                  have wi2 : IntKind.i64.wrap (i1 : Int) = (i1 : Int) := by rw [IntKind.wrap_i64]; omega
                  have wyz2 : IntKind.i64.wrap (yz : Int) = (yz : Int) := by rw [IntKind.wrap_i64]; omega
                  have hi1 : (i : Int) + 1 = (i1 : Int) := by omega
                  clear o1 hy hz hAws hyz0 hi0
                  go_wp2_with fail
                  go_region_law
                    (first
                      | (refine step_append_lies _ rfl _ _ 22 rfl w4.heap.size 3 i0 (.int .i64 0) 1 8 Try.underlying22 HI.out.1 HI.out.2.1 HI.out.2.2.1 HI.out.2.2.2 rfl (by decide) V j2 (icells ((twos (LW W l)).take j2)) rfl (HO.out _).1 ⟨wr.heap.size, 0, none⟩ 1 1 [.int .i64 (yz : Int)] rfl rfl (news1 wr.drew _ _) (one1 _) (by decide) (by unfold maxLen; omega) (by omega) (HO.out _).2 _ rfl ?_; intro g6 cap6 w6 hown hgrow hat hgl))
                  all_goals
                    have H6 : Hid (PkSt w w4 w6 (LW W l) (j2 + 1) (.slice (some ⟨g6, 0, none⟩) (j2 + 1) cap6)) := by
                      refine ⟨?_, ?_⟩
                      · rw [HNX.out, ← icells_snoc]; exact hown
                      · have hb := HP.out.bel
                        have hb2 : Below w4.heap.size w4 (wr.drew.alloc (.cells #[.int .i64 (yz : Int)] 3)) := Below.alloc (a := w4) (w := wr.drew) ⟨hb.os, hb.tape, hb.output, hb.size, hb.block⟩ hb.size _
                        exact hb2.trans (below_grown (HO.out _).1 hgrow (HO.out _).2)
                    clear hown hgrow hat hgl
                    go_wp2
                    refine ⟨⟨j2 + 1, _, rfl, ?_, by have := HI2.out; omega, H6⟩, by simp [intOf]; omega⟩
                    have h := HI2.out
                    congr 1
                    omega
                · have hlt1i : ¬ (i : Int) + 1 < (m : Int) := by omega
                  have h2 := HI2.out
                  have hj2e : j2 = m / 2 := by omega
                  have hpos : 0 < j2 := by omega
                  have hlen2 : (twos (LW W l)).length = j2 := by rw [twos_length, HA.out.2, hj2e]
                  have ho := HP.out.own
                  rw [List.take_of_length_le (by rw [hlen2]; exact Nat.le_refl _)] at ho
                  obtain ⟨ao6, cp6, rfl, hir6, hl6, hso6⟩ := owned_row ho
                  obtain ⟨g6, rfl⟩ := hso6 hpos
                  have HNL : Hid (LvSt w wr W (packsAt W (l + 1)) gc (.slice (some ⟨g6, 0, none⟩) j2 cp6)) := by
                    have hb : Below wq.heap.size wq wr := HB4.out.trans (HP.out.bel.mono HB4.out.size)
                    refine ⟨HS.out.coins.below hb, .inr ⟨g6, cp6, ?_, ?_, hir6⟩, HS.out.bel.trans (hb.mono HS.out.bel.size)⟩
                    · show 0 < (twos (LW W l)).length
                      rw [hlen2]; exact hpos
                    · show _ = Value.slice _ (twos (LW W l)).length _
                      rw [hlen2]
                  clear ho hir6 hl6 hso6 hlen2 hj2e h2
                  go_wp2
                  exact ⟨⟨l + 1, _, rfl, by go_num, by omega, HNL⟩, by simp [intOf]; omega⟩
          · obtain ⟨q, hq⟩ : ∃ q, (packsAt W l).length = q := ⟨_, rfl⟩
            rw [hq] at hP0 ⊢
            have hq288 : q ≤ 600 := by
              have := packs_short W l
              rw [hq, HW.out.2] at this
              omega
            have HN2 : Hid ((icells (packsAt W l)).length = q * 1 ∧ ∀ j u, (icells (packsAt W l))[j]? = some u → w1.cell? ((⟨gp, 0, none⟩ : Addr).add j) = some u) := ⟨by rw [icells_length, hq]; omega, row_news (hPr.below HB1.out)⟩
            have HQ : Hid ((packsAt W l).length = q) := hq
            clear hPr hq
            go_wp2_with (at_builtin; refine wpList_append_lies _ rfl _ _ 22 rfl wr.heap.size 3 i0 (.int .i64 0) 1 8 Try.underlying22 HI.out.1 HI.out.2.1 HI.out.2.2.1 HI.out.2.2.2 rfl (by decide) (.slice (some ⟨g1, 0, none⟩) n cap1) n (icells W) rfl HO1.out ⟨gp, 0, none⟩ q capp (icells (packsAt W l)) rfl HN2.out.1 HN2.out.2 (one_icells _) hP0 (by unfold maxLen; omega) (by omega) HB1.out.size _ rfl ?_)
            intro g2 cap2 w3 hown2 hgrow2 hat2 hgl2
            obtain ⟨m, hm⟩ : ∃ m, n + q = m := ⟨_, rfl⟩
            have HM : Hid ((W ++ packsAt W l).length = m) := by show _ = _; rw [List.length_append, HW.out.2, HQ.out, hm]
            have HLW : Hid (LW W l = isort [] (W ++ packsAt W l)) := LW_packs W l
            have hm2' : 2 ≤ m := by omega
            have hm3 : m ≤ 1000 := by omega
            have HB3 : Hid (Below wr.heap.size wr w3) := HB1.out.trans (below_grown HO1.out hgrow2 HB1.out.size)
            have HO2 : Hid (w3.ownsRow wr.heap.size 3 1 (.slice (some ⟨g2, 0, none⟩) (n + q) cap2) (n + q) (icells W ++ icells (packsAt W l))) := hown2
            have HRI : Hid (∀ _ : Unit, Calls Try.prog 34 #[.slice (some ⟨g2, 0, none⟩) (n + q) cap2] w3 fun e w' => ∃ v, e = .returned v ∧ RisSt w3 w' (W ++ packsAt W l) m m v) := fun _ => by
              have h0 := HO2.out
              rw [show icells W ++ icells (packsAt W l) = icells (W ++ packsAt W l) by simp [icells]] at h0
              obtain ⟨ao, cp', e, h1, h2', _⟩ := owned_row h0
              cases e
              rw [hm]
              exact rising_ok (W ++ packsAt W l) (some ⟨g2, 0, none⟩) cap2 m w3 HM.out h1 (by omega)
            clear hown2 hgrow2 hat2 hgl2 hm HO2 HN2
            go_wp2_with fail
            refine (HRI.out ()).mono ?_
            rintro e w4 ⟨v4, rfl, hr4⟩
            have ho4 := hr4.own
            rw [List.take_of_length_le (by rw [HM.out]; exact Nat.le_refl _), ← HLW.out] at ho4
            obtain ⟨ao4, cp4, rfl, hir4, hA4, hso4⟩ := owned_row ho4
            obtain ⟨ga, rfl⟩ := hso4 (by omega)
            have HA : Hid (IRow w4 (some ⟨ga, 0, none⟩) ((LW W l).map fun x => ((x : Nat) : Int)) ∧ (LW W l).length = m) := ⟨hir4, hA4⟩
            have HB4 : Hid (Below wr.heap.size wr w4) := HB3.out.trans (hr4.bel.mono HB3.out.size)
            have HAS : Hid ((LW W l).sum ≤ 4749890231992320) := Nat.le_trans (LW_sum W l) (Nat.le_trans (Nat.mul_le_mul (show l + 1 ≤ 15 by omega) hWs) (by omega))
            clear hr4 ho4 hir4 hA4 hso4
            by_cases hlast : l = mo - 1
            · have hli : (l : Int) = (mo : Int) - 1 := by omega
              have hlb : ((l : Int) == (mo : Int) - 1) = true := by simpa using hli
              have HE : Hid (LV = ((LW W l).take (2 * n - 2)).sum) := by
                show _ = _
                rw [← HLV.out, hlast]; unfold leastV; rw [HC.out.1, HC.out.2, if_neg h2, HW.out.1]
              have HBE : Hid (Below w.heap.size w w4) := HS.out.bel.trans (HB4.out.mono HS.out.bel.size)
              go_wp2
              go_loop [12, 13] (fun v12 v13 => ∃ (i : Nat) (S : Nat), v13 = .int .i64 i ∧ i ≤ 2 * n - 2 ∧ i ≤ m ∧ v12 = .int .i64 (S : Int) ∧ Hid (S = ((LW W l).take i).sum)) (fun _ v13 => m - (intOf v13).toNat)
              case atStart => exact ⟨0, 0, rfl, by omega, by omega, rfl, rfl⟩
              case round =>
                obtain ⟨i, S, rfl, hi1, hi2, rfl, HSS⟩ := hrel
                have hSb : S ≤ 4749890231992320 := by rw [HSS.out]; exact Nat.le_trans (take_sum_le _ i) HAS.out
                have e2n : IntKind.i64.wrap (2 * (n : Int)) = 2 * (n : Int) := by rw [IntKind.wrap_i64]; omega
                have e2n2 : IntKind.i64.wrap (2 * (n : Int) - 2) = 2 * (n : Int) - 2 := by rw [IntKind.wrap_i64]; omega
                by_cases hlt1 : i < 2 * n - 2
                · have hlt1i : (i : Int) < 2 * (n : Int) - 2 := by omega
                  by_cases hlt2 : i < m
                  · have hlt2i : (i : Int) < (m : Int) := by omega
                    have cc := row_cell HA.out.1 (j := i) (by rw [HA.out.2]; exact hlt2)
                    obtain ⟨y, hy⟩ : ∃ y, (LW W l).getD i 0 = y := ⟨_, rfl⟩
                    have hyb : y ≤ 4749890231992320 := by rw [← hy]; exact Nat.le_trans (getD_le_sum _ i) HAS.out
                    rw [hy] at cc
                    have HX : Hid (S + y = ((LW W l).take (i + 1)).sum) := by
                      show _ = _
                      rw [take_sum_succ _ i (by rw [HA.out.2]; exact hlt2), hy, HSS.out]
                    clear hy
                    go_wp2
                    exact ⟨⟨i + 1, S + y, by go_num, by omega, by omega, by go_num, HX⟩, by simp [intOf]; omega⟩
                  · have hlt2i : ¬ (i : Int) < (m : Int) := by omega
                    have HF : Hid (LV = S) := by
                      show _ = _
                      rw [HE.out, HSS.out, List.take_of_length_le (by rw [HA.out.2]; omega), List.take_of_length_le (by rw [HA.out.2]; omega)]
                    go_wp2
                    go_ret
                    exact ⟨by rw [HF.out]; rfl, HBE.out⟩
                · have hlt1i : ¬ (i : Int) < 2 * (n : Int) - 2 := by omega
                  have HF : Hid (LV = S) := by
                    show _ = _
                    rw [HE.out, HSS.out, show i = 2 * n - 2 by omega]
                  go_wp2
                  go_ret
                  exact ⟨by rw [HF.out]; rfl, HBE.out⟩
            · have hli : ¬ (l : Int) = (mo : Int) - 1 := by omega
              have hlb : ((l : Int) == (mo : Int) - 1) = false := by simpa using hli
              obtain ⟨wq, rfl⟩ : ∃ v, v = wr := ⟨wr, rfl⟩
              go_wp2
              go_loopw [9, 14] (fun v9 v14 ws => ∃ (j2 : Nat) (V : Value), V = v9 ∧ v14 = .int .i64 ((2 * j2 : Nat) : Int) ∧ 2 * j2 ≤ m ∧ Hid (PkSt w w4 ws (LW W l) j2 V)) (fun _ v14 _ => m - (intOf v14).toNat)
              case atStart => exact ⟨0, _, rfl, rfl, by omega, World.ownsRow_nil _ _ _ _, Below.refl _ _⟩
              case round =>
                obtain ⟨j2, V, rfl, rfl, hj2, HP⟩ := hrel
                obtain ⟨i, hi⟩ : ∃ i, 2 * j2 = i := ⟨_, rfl⟩
                rw [hi] at hj2 ⊢
                have HI2 : Hid (2 * j2 = i) := hi
                clear hi
                by_cases hlt1 : i + 1 < m
                · have hlt1i : (i : Int) + 1 < (m : Int) := by omega
                  have himi : (i : Int) < (m : Int) := by omega
                  have hAws : IRow wr (some ⟨ga, 0, none⟩) ((LW W l).map fun x => ((x : Nat) : Int)) := HA.out.1.below HP.out.bel
                  have c1 := row_cell hAws (j := i) (by rw [HA.out.2]; omega)
                  have c2 := row_cell hAws (j := i + 1) (by rw [HA.out.2]; omega)
                  obtain ⟨y, hy⟩ : ∃ y, (LW W l).getD i 0 = y := ⟨_, rfl⟩
                  obtain ⟨z, hz⟩ : ∃ z, (LW W l).getD (i + 1) 0 = z := ⟨_, rfl⟩
                  have hyb : y ≤ 4749890231992320 := by rw [← hy]; exact Nat.le_trans (getD_le_sum _ i) HAS.out
                  have hzb : z ≤ 4749890231992320 := by rw [← hz]; exact Nat.le_trans (getD_le_sum _ (i + 1)) HAS.out
                  rw [hy] at c1
                  rw [hz] at c2
                  have HNX : Hid ((twos (LW W l)).take (j2 + 1) = (twos (LW W l)).take j2 ++ [y + z]) := by
                    show _ = _
                    have h1 := twos_get (LW W l) j2 (by rw [HA.out.2, HI2.out]; exact hlt1)
                    rw [HI2.out, hy, hz] at h1
                    have h2 : j2 < (twos (LW W l)).length := by rw [twos_length, HA.out.2]; have := HI2.out; omega
                    rw [List.take_succ_eq_append_getElem h2, ← getD_in (z := 0) h2, h1]
                  have o1 := HP.out.own
                  have HO : Hid (∀ o, (wr.drew.alloc o).ownsRow w4.heap.size 3 1 V j2 (icells ((twos (LW W l)).take j2)) ∧ w4.heap.size ≤ (wr.drew.alloc o).heap.size) := fun o => ⟨World.ownsRow.alloc (w := wr.drew) o1 o, by have := HP.out.bel.size; simp; omega⟩
                  have hj2b : j2 ≤ 100000 := by have := HI2.out; omega
                  obtain ⟨yz, hyz0⟩ : ∃ v, y + z = v := ⟨_, rfl⟩
                  obtain ⟨i1, hi0⟩ : ∃ v, i + 1 = v := ⟨_, rfl⟩
                  rw [hyz0] at HNX
                  rw [hi0] at c2
                  have hyz : (y : Int) + (z : Int) = (yz : Int) := by omega
                  have hi1b : (i1 : Int) < (m : Int) := by omega
                  have wyz : IntKind.i64.wrap ((y : Int) + (z : Int)) = (yz : Int) := by rw [IntKind.wrap_i64]; omega
                  have wi1 : IntKind.i64.wrap ((i : Int) + 1) = (i1 : Int) := by rw [IntKind.wrap_i64]; omega
                  have wi2 : IntKind.i64.wrap (i1 : Int) = (i1 : Int) := by rw [IntKind.wrap_i64]; omega
                  have wyz2 : IntKind.i64.wrap (yz : Int) = (yz : Int) := by rw [IntKind.wrap_i64]; omega
                  have hi1 : (i : Int) + 1 = (i1 : Int) := by omega
                  clear o1 hy hz hAws hyz0 hi0
                  go_wp2_with fail
                  go_region_law
                    (first
                      | (refine step_append_lies _ rfl _ _ 22 rfl w4.heap.size 3 i0 (.int .i64 0) 1 8 Try.underlying22 HI.out.1 HI.out.2.1 HI.out.2.2.1 HI.out.2.2.2 rfl (by decide) V j2 (icells ((twos (LW W l)).take j2)) rfl (HO.out _).1 ⟨wr.heap.size, 0, none⟩ 1 1 [.int .i64 (yz : Int)] rfl rfl (news1 wr.drew _ _) (one1 _) (by decide) (by unfold maxLen; omega) (by omega) (HO.out _).2 _ rfl ?_; intro g6 cap6 w6 hown hgrow hat hgl))
                  all_goals
                    have H6 : Hid (PkSt w w4 w6 (LW W l) (j2 + 1) (.slice (some ⟨g6, 0, none⟩) (j2 + 1) cap6)) := by
                      refine ⟨?_, ?_⟩
                      · rw [HNX.out, ← icells_snoc]; exact hown
                      · have hb := HP.out.bel
                        have hb2 : Below w4.heap.size w4 (wr.drew.alloc (.cells #[.int .i64 (yz : Int)] 3)) := Below.alloc (a := w4) (w := wr.drew) ⟨hb.os, hb.tape, hb.output, hb.size, hb.block⟩ hb.size _
                        exact hb2.trans (below_grown (HO.out _).1 hgrow (HO.out _).2)
                    clear hown hgrow hat hgl
                    go_wp2
                    refine ⟨⟨j2 + 1, _, rfl, ?_, by have := HI2.out; omega, H6⟩, by simp [intOf]; omega⟩
                    have h := HI2.out
                    congr 1
                    omega
                · have hlt1i : ¬ (i : Int) + 1 < (m : Int) := by omega
                  have h2 := HI2.out
                  have hj2e : j2 = m / 2 := by omega
                  have hpos : 0 < j2 := by omega
                  have hlen2 : (twos (LW W l)).length = j2 := by rw [twos_length, HA.out.2, hj2e]
                  have ho := HP.out.own
                  rw [List.take_of_length_le (by rw [hlen2]; exact Nat.le_refl _)] at ho
                  obtain ⟨ao6, cp6, rfl, hir6, hl6, hso6⟩ := owned_row ho
                  obtain ⟨g6, rfl⟩ := hso6 hpos
                  have HNL : Hid (LvSt w wr W (packsAt W (l + 1)) gc (.slice (some ⟨g6, 0, none⟩) j2 cp6)) := by
                    have hb : Below wq.heap.size wq wr := HB4.out.trans (HP.out.bel.mono HB4.out.size)
                    refine ⟨HS.out.coins.below hb, .inr ⟨g6, cp6, ?_, ?_, hir6⟩, HS.out.bel.trans (hb.mono HS.out.bel.size)⟩
                    · show 0 < (twos (LW W l)).length
                      rw [hlen2]; exact hpos
                    · show _ = Value.slice _ (twos (LW W l)).length _
                      rw [hlen2]
                  clear ho hir6 hl6 hso6 hlen2 hj2e h2
                  go_wp2
                  exact ⟨⟨l + 1, _, rfl, by go_num, by omega, HNL⟩, by simp [intOf]; omega⟩
end Go.Proofs.Ytklipommocijaaa
