/- FrameBlocks: the law's walk. -/
import Derived.Test.YtbncfpbehahidaaGza
namespace Go.Proofs.Ytbncfpbehahidaa
open Go.RowKit
set_option linter.unusedVariables false
set_option maxRecDepth 20000

theorem blk_arith (a M q : Nat) (h : a + 8 + M ≤ q) (hq : q ≤ 16777216) : ∃ a8 a9 : Nat, a + 8 = a8 ∧ a8 + M = a9 ∧ a9 ≤ 16777216 ∧ (a : Int) + 8 = (a8 : Int) ∧ wrap64 (a8 : Int) = (a8 : Int) ∧ (a8 : Int) + (M : Int) = (a9 : Int) ∧ wrap64 (a9 : Int) = (a9 : Int) :=
  ⟨a + 8, a + 8 + M, rfl, rfl, by omega, by omega, wrapN64 _ (by omega), by omega, wrapN64 _ (by omega)⟩
theorem blk_last (n i a : Nat) (Z : ByteArray) (hi : i = (n + 65535) / 65536) (ha : a + 8 = Z.size) (hz : Z.size ≤ 16777216) (hn : n ≤ 262143) : ∃ m : Nat, (a : Int) + 8 = (Z.size : Int) ∧ wrap64 (Z.size : Int) = (Z.size : Int) ∧ (n : Int) + 65535 = (m : Int) ∧ wrap64 (m : Int) = (m : Int) ∧ (m : Int) / 65536 = (i : Int) ∧ (m : Int).tdiv 65536 = (i : Int) ∧ wrap64 (i : Int) = (i : Int) :=
  ⟨n + 65535, by omega, wrapN64 _ (by omega), by omega, wrapN64 _ (by omega), by omega, by rw [Int.tdiv_eq_ediv_of_nonneg (by omega)]; omega, wrapN64 _ (by omega)⟩
set_option maxHeartbeats 4000000 in
theorem frameBlocks_walk (s : ByteArray) (many : Int) (w : World) (hs0 : s.size ≤ 140737488351232) (hmany : (Lit.int .i64 many).wf = true) :
    Calls Try.prog 5 #[.string s, .int .i64 many] w fun e w' => e = .returned (.bool true) ∧ Below w.heap.size w w' := by
  by_cases h0 : s.size = 0
  · have h0b : ((s.size : Int) == 0) = true := by rw [h0]; rfl
    clear h0
    go_enter Try.func5, Try.ntmps5
    go_wp2_with fail
    refine (awake_ok _).mono ?_
    rintro e w3 ⟨rfl, hb3⟩
    have H3 : Hid (Below w.heap.size w w3) := hb3
    clear hb3
    go_wp2
    go_ret
    exact ⟨rfl, H3.out⟩
  · have h0b : ((s.size : Int) == 0) = false := beq_eq_false_iff_ne.2 (by omega)
    by_cases hbig : 100 < s.size
    · have hbi : (100 : Int) < (s.size : Int) := by omega
      have hbb : decide ((100 : Int) < (s.size : Int)) = true := by simpa using hbi
      clear h0
      go_enter Try.func5, Try.ntmps5
      go_wp2_with fail
      refine (awake_ok _).mono ?_
      rintro e w3 ⟨rfl, hb3⟩
      have H3 : Hid (Below w.heap.size w w3) := hb3
      clear hb3
      go_wp2
      go_ret
      exact ⟨rfl, H3.out⟩
    · have hbi : ¬ (100 : Int) < (s.size : Int) := by omega
      have hbb : decide ((100 : Int) < (s.size : Int)) = false := by simpa using hbi
      obtain ⟨n, hn2, hand⟩ := and18 many
      have hp1 : 1 ≤ s.size := by clear hand; omega
      have hp2 : s.size ≤ 100 := by clear hand; omega
      clear h0
      go_enter Try.func5, Try.ntmps5
      go_wp2_with fail
      clear hand
      go_loopw [6] (fun v6 wr => ∃ (ao : Option Addr) (cp L : Nat), v6 = .slice ao L cp ∧ L ≤ 262300 ∧ Hid (∃ j, L = j * s.size ∧ wr.ownsRow w.heap.size 5 1 (.slice ao L cp) L (bcells (repL (bytesOf s) j)) ∧ Below w.heap.size w wr)) (fun v6 _ => n - lenOf v6)
      case atStart => exact ⟨none, 0, 0, rfl, by omega, 0, by omega, World.ownsRow_nil _ _ _ _, Below.refl _ _⟩
      case round =>
        obtain ⟨ao, cp, L, rfl, hL, HS⟩ := hrel
        by_cases hlt : L < n
        · have hlti : (L : Int) < (n : Int) := by omega
          obtain ⟨i0, hi0, hz0, hz1, hz2⟩ := info_parts infoB
          obtain ⟨j, hj, hO, hF⟩ := HS.out
          have HO : Hid (L = j * s.size ∧ wr.ownsRow w.heap.size 5 1 (.slice ao L cp) L (bcells (repL (bytesOf s) j)) ∧ Below w.heap.size w wr) := ⟨hj, hO, hF⟩
          clear hj hO hF HS
          go_wp2_with (at_builtin; refine Lib.wpList_append_own_string _ rfl _ _ 30 9 rfl w.heap.size 5 i0 Try.underlying30 Try.underlying9 hi0 hz0 hz1 hz2 (.slice ao L cp) L (bcells (repL (bytesOf s) j)) rfl HO.out.2.1 s rfl (by unfold maxLen; omega) (by omega) HO.out.2.2.size ?_)
          intro v3 w3 hown hgrow _
          obtain ⟨ao3, cp3, hv⟩ : ∃ ao cp, v3 = .slice ao (L + s.size) cp := by
            rcases hown.2 with ⟨e, h0⟩ | ⟨g, cap, cur, e, _⟩
            · exact ⟨none, 0, by rw [e, h0]⟩
            · exact ⟨_, _, e⟩
          subst hv
          have HN : Hid (∃ j, L + s.size = j * s.size ∧ w3.ownsRow w.heap.size 5 1 (.slice ao3 (L + s.size) cp3) (L + s.size) (bcells (repL (bytesOf s) j)) ∧ Below w.heap.size w w3) := by
            refine ⟨j + 1, by rw [Nat.succ_mul, HO.out.1], ?_, HO.out.2.2.trans (Below.grown HO.out.2.1 hgrow HO.out.2.2.size)⟩
            unfold repL
            rw [bcells_append, ← strCells_eq]
            exact hown
          clear hown hgrow hi0 hz0 hz1 hz2
          go_wp2
          exact ⟨⟨ao3, cp3, L + s.size, rfl, by omega, HN⟩, by simp only [lenOf]; omega⟩
        · have hlti : ¬ (L : Int) < (n : Int) := by omega
          obtain ⟨j, hj, hO, hF⟩ := HS.out
          have hB : Bytes (repL (bytesOf s) j) := repL_bytes (bytesOf_bytes s) j
          have hlen : (repL (bytesOf s) j).length = L := by rw [repL_length, bytesOf_length]; exact hj.symm
          obtain ⟨hc1, hcap, hao⟩ := conv_first wr w.heap.size L n _ ao cp hO hlen hB (by omega)
          have hTs : (toBA ((repL (bytesOf s) j).take n)).size = n := by rw [toBA_size, List.length_take, hlen]; omega
          have HC : Hid (∀ W, Below wr.heap.size wr W → (convert 30 9 (.slice ao n cp)).run Try.prog W = .ok (.string (toBA ((repL (bytesOf s) j).take n))) W) := fun W hW => (conv_first W w.heap.size L n _ ao cp (ownsRow_keep hO hW) hlen hB (by omega)).1
          obtain ⟨T, hT⟩ : ∃ T, toBA ((repL (bytesOf s) j).take n) = T := ⟨_, rfl⟩
          rw [hT] at hc1 hTs HC
          have hl := packFr_length T (by omega)
          have HP : Hid (∀ W, Calls Try.prog 12 #[.string T] W fun e w' => e = .returned (.tuple #[.string (toBA (packFr T)), .int .i64 0]) ∧ Below W.heap.size W w') := fun W => pk T (by omega) W
          have HU : Hid (∀ W, Calls Try.prog 9 #[.string (toBA (packFr T)), .int .i64 (n : Nat)] W fun e w' => e = .returned (.tuple #[.string T, .int .i64 ((packFr T).length : Nat), .int .i64 0]) ∧ Below W.heap.size W w') := fun W => by
            have h := back T [] (fun x hx => by simp at hx) (by simp) n (by omega) (by omega) W
            rw [List.append_nil] at h
            exact h
          have HR : Hid (∀ a, a + 4 ≤ (packFr T).length → ∀ W, Calls Try.prog 13 #[.string ((toBA (packFr T)).extract a (toBA (packFr T)).size), .int .i64 4] W fun e w' => e = .returned (.tuple #[.int .i64 (nF (toBA (packFr T)) a 4 : Nat), .int .i64 0]) ∧ w' = W) := fun a ha W => refNum T (by omega) a ha W
          have HA0 : Hid (At T 0 7 ∧ 7 + 8 ≤ (packFr T).length) := ⟨at_start T, by unfold packFr; simp only [List.length_append, le4_length]; have hh : frHead.length = 7 := rfl; omega⟩
          have HE : Hid (∀ i a, At T i a → T.size ≤ 65536 * i → nF (toBA (packFr T)) a 4 = 0 ∧ a + 8 = (packFr T).length ∧ i = (T.size + 65535) / 65536) := fun i a h1 h2 => at_end h1 h2
          have HX : Hid (∀ i a, At T i a → 65536 * i < T.size → ∃ N, nF (toBA (packFr T)) a 4 = N ∧ N < 4294967296 ∧ N ≠ 0 ∧ At T (i + 1) (a + 8 + N % 2147483648) ∧ a + 8 + N % 2147483648 ≤ (packFr T).length) := fun i a h1 h2 => at_next h1 h2
          have hZs : (toBA (packFr T)).size = (packFr T).length := toBA_size _
          obtain ⟨Z, hZ⟩ : ∃ Z, toBA (packFr T) = Z := ⟨_, rfl⟩
          obtain ⟨q, hq⟩ : ∃ q, (packFr T).length = q := ⟨_, rfl⟩
          rw [hZ] at HP HU HR HE HX hZs
          rw [hq] at HU HR HA0 HE HX hZs hl
          rw [hTs] at HE HX
          have hqz : ((q : Int) != (Z.size : Int)) = false := by rw [hZs]; simp
          have HF : Hid (Below w.heap.size w wr) := hF
          obtain ⟨nn, hnn⟩ : ∃ nn, n = nn := ⟨_, rfl⟩
          rw [hnn] at HE HX
          have HNN : Hid (n = nn ∧ Z.size = q ∧ q ≤ 16777216) := ⟨hnn, hZs, hl⟩
          have hnn2 : nn ≤ 262143 := by omega
          clear hj hO hF hB hlen hT hTs hZ hq HS hnn hZs hl
          rcases hao with ⟨rfl, rfl, rfl, rfl⟩ | ⟨g, rfl⟩
          · go_wp2_with fail
            refine (HP.out _).mono ?_
            rintro e w1 ⟨rfl, hb1⟩
            have H1 : Hid (Below wr.heap.size wr w1) := hb1
            clear hb1 hc1
            go_wp2_with fail
            refine (HU.out _).mono ?_
            rintro e w2 ⟨rfl, hb2⟩
            have H2 : Hid (Below wr.heap.size wr w2) := H1.out.trans (hb2.mono H1.out.size)
            have hc2 := HC.out w2 H2.out
            clear hb2
            go_wp2_with fail
            clear hc2
            go_loopw [12, 13, 14, 15] (fun v12 v13 v14 v15 wl => ∃ (i a : Nat), v12 = .int .i64 (i : Nat) ∧ v13 = .int .i64 (a : Nat) ∧ i ≤ 10 ∧ a ≤ 16777216 ∧ wl = w2 ∧ Hid (At T i a ∧ a + 8 ≤ q)) (fun v12 _ _ _ _ => nn - 65536 * (intOf v12).toNat)
            case atStart => exact ⟨0, 7, rfl, rfl, by omega, by omega, rfl, HA0.out⟩
            case round =>
              obtain ⟨i, a, rfl, rfl, hi10, ha16, rfl, HS⟩ := hrel
              have HRa : Hid (∀ W, Calls Try.prog 13 #[.string (Z.extract a Z.size), .int .i64 4] W fun e w' => e = .returned (.tuple #[.int .i64 (nF Z a 4 : Nat), .int .i64 0]) ∧ w' = W) := fun W => HR.out a (by have := HS.out.2; omega) W
              have hif : (if (Z.size : Int) < (a : Int) then (Z.size : Int) else (a : Int)) = (a : Int) := by
                have h1 := HS.out.2
                have h2 := HNN.out.2.1
                rw [if_neg (by omega)]
              have haz : (a : Int) ≤ (Z.size : Int) := by
                have h1 := HS.out.2
                have h2 := HNN.out.2.1
                omega
              obtain ⟨X, hX⟩ : ∃ X, Z.extract a Z.size = X := ⟨_, rfl⟩
              rw [hX] at HRa
              by_cases hlt : 65536 * i < nn
              · obtain ⟨N, hN, hNl, hN0, hAt, hle⟩ := HX.out i a HS.out.1 hlt
                rw [hN] at HRa
                have hNb : ((N : Int) == 0) = false := beq_eq_false_iff_ne.2 (by omega)
                have hM := and31m N hNl
                obtain ⟨M, hMM⟩ : ∃ M, N % 2147483648 = M := ⟨_, rfl⟩
                rw [hMM] at hM hAt hle
                obtain ⟨a8, a9, ha8, ha9, ha9l, ha8i, ha8w, ha9i, ha9w⟩ := blk_arith a M q hle HNN.out.2.2
                have HW : Hid (_ ∧ _) := ⟨ha8w, ha9w⟩
                clear ha8w ha9w
                rw [ha8, ha9] at hAt hle
                have hlast : a9 + 8 ≤ q := by
                  clear hM
                  by_cases hc : nn ≤ 65536 * (i + 1)
                  · have := (HE.out (i + 1) a9 hAt hc).2.1; omega
                  · obtain ⟨N2, _, _, _, _, h5⟩ := HX.out (i + 1) a9 hAt (by omega); omega
                have HN : Hid (At T (i + 1) a9 ∧ a9 + 8 ≤ q) := ⟨hAt, hlast⟩
                have HM : Hid (65536 * i < nn) := hlt
                have HW2 : Hid (_ ∧ _ ∧ _) := ⟨hM, ha8i, ha9i⟩
                clear hN hNl hN0 hAt hle hMM ha8 ha9 hlast hlt HS HX HE HR hM ha8i ha9i
                go_wp2_with fail
                refine (HRa.out _).mono ?_
                rintro e w5 ⟨rfl, rfl⟩
                clear hif haz hX
                have ha8w := HW.out.1
                have ha9w := HW.out.2
                obtain ⟨hM, ha8i, ha9i⟩ := HW2.out
                go_wp2
                go_roundw
                case rel => exact ⟨i + 1, a9, by go_num, by go_num, by have := HM.out; omega, ha9l, by first | rfl | trivial, HN⟩
                case measure =>
                  have := HM.out
                  simp [intOf]; omega
              · obtain ⟨hN, hae, hie⟩ := HE.out i a HS.out.1 (by omega)
                rw [hN] at HRa
                obtain ⟨m, k1, k2, k3, k4, k5, k6, k7⟩ := blk_last nn i a Z hie (by rw [HNN.out.2.1]; exact hae) (by rw [HNN.out.2.1]; exact HNN.out.2.2) hnn2
                rw [← HNN.out.1] at k3
                have HI0 : Hid ((i : Int) = 0) := by have h1 := HNN.out.1; show (i : Int) = 0; clear k1 k2 k3 k4 k5 k6 k7 hif haz; omega
                have HKK : Hid (_ ∧ _ ∧ _ ∧ _ ∧ _ ∧ _ ∧ _) := ⟨k1, k2, k3, k4, k5, k6, k7⟩
                clear hN hae hie hlt HS HX HE HR k1 k2 k3 k4 k5 k6 k7
                go_wp2_with fail
                refine (HRa.out _).mono ?_
                rintro e w5 ⟨rfl, rfl⟩
                clear hif haz hX
                obtain ⟨k1, k2, k3, k4, k5, k6, k7⟩ := HKK.out
                have hi00 : (i : Int) = 0 := HI0.out
                clear k3 k4 k5 k6 k7
                go_wp2_with fail
                refine (awake_ok _).mono ?_
                rintro e w6 ⟨rfl, hb6⟩
                have H6 : Hid (Below w.heap.size w w6) := HF.out.trans ((H2.out.trans (hb6.mono H2.out.size)).mono HF.out.size)
                clear hb6
                go_wp2
                go_ret
                exact ⟨rfl, H6.out⟩
          · go_wp2_with fail
            refine (HP.out _).mono ?_
            rintro e w1 ⟨rfl, hb1⟩
            have H1 : Hid (Below wr.heap.size wr w1) := hb1
            clear hb1 hc1
            go_wp2_with fail
            refine (HU.out _).mono ?_
            rintro e w2 ⟨rfl, hb2⟩
            have H2 : Hid (Below wr.heap.size wr w2) := H1.out.trans (hb2.mono H1.out.size)
            have hc2 := HC.out w2 H2.out
            clear hb2
            go_wp2_with fail
            clear hc2
            clear hcap hlti hL hbi hbb h0b hqz hp1 hp2 hn2 hbig hs0 hmany
            go_loopw [12, 13, 14, 15] (fun v12 v13 v14 v15 wl => ∃ (i a : Nat), v12 = .int .i64 (i : Nat) ∧ v13 = .int .i64 (a : Nat) ∧ i ≤ 10 ∧ a ≤ 16777216 ∧ wl = w2 ∧ Hid (At T i a ∧ a + 8 ≤ q)) (fun v12 _ _ _ _ => nn - 65536 * (intOf v12).toNat)
            case atStart => exact ⟨0, 7, rfl, rfl, by omega, by omega, rfl, HA0.out⟩
            case round =>
              obtain ⟨i, a, rfl, rfl, hi10, ha16, rfl, HS⟩ := hrel
              have HRa : Hid (∀ W, Calls Try.prog 13 #[.string (Z.extract a Z.size), .int .i64 4] W fun e w' => e = .returned (.tuple #[.int .i64 (nF Z a 4 : Nat), .int .i64 0]) ∧ w' = W) := fun W => HR.out a (by have := HS.out.2; omega) W
              have hif : (if (Z.size : Int) < (a : Int) then (Z.size : Int) else (a : Int)) = (a : Int) := by
                have h1 := HS.out.2
                have h2 := HNN.out.2.1
                rw [if_neg (by omega)]
              have haz : (a : Int) ≤ (Z.size : Int) := by
                have h1 := HS.out.2
                have h2 := HNN.out.2.1
                omega
              obtain ⟨X, hX⟩ : ∃ X, Z.extract a Z.size = X := ⟨_, rfl⟩
              rw [hX] at HRa
              by_cases hlt : 65536 * i < nn
              · obtain ⟨N, hN, hNl, hN0, hAt, hle⟩ := HX.out i a HS.out.1 hlt
                rw [hN] at HRa
                have hNb : ((N : Int) == 0) = false := beq_eq_false_iff_ne.2 (by omega)
                have hM := and31m N hNl
                obtain ⟨M, hMM⟩ : ∃ M, N % 2147483648 = M := ⟨_, rfl⟩
                rw [hMM] at hM hAt hle
                obtain ⟨a8, a9, ha8, ha9, ha9l, ha8i, ha8w, ha9i, ha9w⟩ := blk_arith a M q hle HNN.out.2.2
                have HW : Hid (_ ∧ _) := ⟨ha8w, ha9w⟩
                clear ha8w ha9w
                rw [ha8, ha9] at hAt hle
                have hlast : a9 + 8 ≤ q := by
                  clear hM
                  by_cases hc : nn ≤ 65536 * (i + 1)
                  · have := (HE.out (i + 1) a9 hAt hc).2.1; omega
                  · obtain ⟨N2, _, _, _, _, h5⟩ := HX.out (i + 1) a9 hAt (by omega); omega
                have HN : Hid (At T (i + 1) a9 ∧ a9 + 8 ≤ q) := ⟨hAt, hlast⟩
                have HM : Hid (65536 * i < nn) := hlt
                have HW2 : Hid (_ ∧ _ ∧ _) := ⟨hM, ha8i, ha9i⟩
                clear hN hNl hN0 hAt hle hMM ha8 ha9 hlast hlt HS HX HE HR hM ha8i ha9i
                go_wp2_with fail
                refine (HRa.out _).mono ?_
                rintro e w5 ⟨rfl, rfl⟩
                clear hif haz hX
                have ha8w := HW.out.1
                have ha9w := HW.out.2
                obtain ⟨hM, ha8i, ha9i⟩ := HW2.out
                go_wp2
                go_roundw
                case rel => exact ⟨i + 1, a9, by go_num, by go_num, by have := HM.out; omega, ha9l, by first | rfl | trivial, HN⟩
                case measure =>
                  have := HM.out
                  simp [intOf]; omega
              · obtain ⟨hN, hae, hie⟩ := HE.out i a HS.out.1 (by omega)
                rw [hN] at HRa
                obtain ⟨m, k1, k2, k3, k4, k5, k6, k7⟩ := blk_last nn i a Z hie (by rw [HNN.out.2.1]; exact hae) (by rw [HNN.out.2.1]; exact HNN.out.2.2) hnn2
                rw [← HNN.out.1] at k3
                have HKK : Hid (_ ∧ _ ∧ _ ∧ _ ∧ _ ∧ _ ∧ _) := ⟨k1, k2, k3, k4, k5, k6, k7⟩
                clear hN hae hie hlt HS HX HE HR k1 k2 k3 k4 k5 k6 k7
                go_wp2_with fail
                refine (HRa.out _).mono ?_
                rintro e w5 ⟨rfl, rfl⟩
                clear hif haz hX
                obtain ⟨k1, k2, k3, k4, k5, k6, k7⟩ := HKK.out
                clear k5 k7
                go_wp2_with fail
                refine (awake_ok _).mono ?_
                rintro e w6 ⟨rfl, hb6⟩
                have H6 : Hid (Below w.heap.size w w6) := HF.out.trans ((H2.out.trans (hb6.mono H2.out.size)).mono HF.out.size)
                clear hb6
                go_wp2
                go_ret
                exact ⟨rfl, H6.out⟩
end Go.Proofs.Ytbncfpbehahidaa
