/- LzSays: the law's walk. -/
import Derived.Test.YthefhffgcpoefaaYzn
import Derived.Test.YthefhffgcpoefaaYl
import Derived.Test.YthefhffgcpoefaaYh
namespace Go.Proofs.Ythefhffgcpoefaa
open Go.RowKit
set_option linter.unusedVariables false
set_option maxRecDepth 20000

/-- A round's head: the byte, and one more. -/
def hdL (A m : Nat) : List Nat := [16 * min A 15 + min m 15] ++ (if A < 15 then [] else [A - 15])
def tlL (m : Nat) : List Nat := if m < 15 then [] else [m - 15]
theorem if_min (A : Nat) : (if (15 : Int) < (A : Int) then (15 : Int) else (A : Int)) = ((min A 15 : Nat) : Int) := by split <;> omega
theorem far2 (r W : Nat) (hW : 1 ≤ W) (hr : r ≤ 4095) : ∃ e d d0 d1 : Nat, (r : Int).tmod (W : Int) = (e : Int) ∧ e ≤ 4096 ∧ (1 : Int) + (e : Int) = (d : Int) ∧ d ≤ 4096 ∧ Hid (d % 256 = d0 ∧ d / 256 = d1 ∧ 1 ≤ d ∧ d ≤ W ∧ d ≤ 4096) ∧ bits .and .i64 (d : Int) 255 = (d0 : Int) ∧ (d : Int) / 256 = (d1 : Int) ∧ d0 < 256 ∧ d1 < 256 := by
  obtain ⟨e, d, d0, d1, p1, p2, p3, p4, p5, p6, p7, p8, p9, p10, p11, p12, p13, p14⟩ := far_arith r W hW hr
  clear p6
  exact ⟨e, d, d0, d1, p1, by clear p9; omega, p5, p4, ⟨p7, p8, p2, p3, p4⟩, p9, p10, p13, p14⟩
/-- What stands between two rounds. -/
def SaySt (w : World) (B : Nat) (v3 v4 : Value) (wr : World) : Prop := ∃ z want, Two w wr B v3 z v4 want ∧ Says z want ∧ Bytes z ∧ Bytes want
set_option maxHeartbeats 8000000 in
theorem lzSays_walk (a0 : Option Addr) (len cap : Nat) (f : Nat → Nat → Int) (w : World) (hA : A3 w a0 len f) (hlen : len ≤ 9223372036854775807) :
    Calls Try.prog 3 #[.slice a0 len cap] w fun e w' => e = .returned (.bool true) ∧ Below w.heap.size w w' := by
  have HA : Hid (A3 w a0 len f) := hA
  clear hA
  obtain ⟨B, hB⟩ : ∃ B, w.heap.size = B := ⟨_, rfl⟩
  have HBB : Hid (w.heap.size = B) := hB
  rw [hB]
  clear hB
  go_enter Try.func3, Try.ntmps3
  go_wp2_with fail
  go_loopw [3, 4, 5] (fun v3 v4 v5 wr => ∃ (az aw : Option Addr) (cz cw Lz Lw i : Nat), v3 = .slice az Lz cz ∧ v4 = .slice aw Lw cw ∧ v5 = .int .i64 (i : Nat) ∧ i ≤ len ∧ i ≤ 2000 ∧ Lw ≤ 4400 ∧ Lz ≤ 120000 ∧ Hid (4 * i ≤ Lw ∧ Lz ≤ 50 * i ∧ SaySt w B (.slice az Lz cz) (.slice aw Lw cw) wr)) (fun _ _ v5 _ => len - (intOf v5).toNat)
  case atStart => exact ⟨none, none, 0, 0, 0, 0, 0, rfl, rfl, rfl, by omega, by omega, by omega, by omega, by omega, by omega, [], [], ⟨World.ownsRow_nil _ _ _ _, World.ownsRow_nil _ _ _ _, fun g hg => by simp [Value.ownBlock] at hg, Below.refl _ _, by rw [HBB.out]; exact Nat.le_refl _⟩, says_nil, fun x hx => by simp at hx, fun x hx => by simp at hx⟩
  case round =>
    obtain ⟨az, aw, cz, cw, Lz, Lw, i, rfl, rfl, rfl, hil, hi2, hLw, hLz, HS⟩ := hrel
    by_cases hgo : i < len ∧ Lw < 4096
    · obtain ⟨hi, hw⟩ := hgo
      have hii : (i : Int) < (len : Int) := by omega
      have hwi : (Lw : Int) < 4096 := by omega
      obtain ⟨b, off, hab, hbw, hcell⟩ := (HA.out).resolve_left (by omega)
      subst hab
      obtain ⟨h4i, h50, z, want, hT, hsay, hBz, hBw⟩ := HS.out
      have hbl := hT.bel.block b (by rw [← HBB.out]; exact hbw)
      have e0 : wr.cell? ⟨b, off + i * 3, none⟩ = some (.int .i64 (f i 0)) := by rw [World.cell?_of_block hbl]; exact hcell i hi 0 (by omega)
      have e1 : wr.cell? ⟨b, off + i * 3 + 1, none⟩ = some (.int .i64 (f i 1)) := by rw [World.cell?_of_block hbl]; exact hcell i hi 1 (by omega)
      have e2 : wr.cell? ⟨b, off + i * 3 + 2, none⟩ = some (.int .i64 (f i 2)) := by rw [World.cell?_of_block hbl]; exact hcell i hi 2 (by omega)
      have HT : Hid (Two w wr B (.slice az Lz cz) z (.slice aw Lw cw) want ∧ z.length = Lz ∧ want.length = Lw ∧ Says z want ∧ Bytes z ∧ Bytes want) := ⟨hT, hT.lenz, hT.lenw, hsay, hBz, hBw⟩
      have HN : Hid (4 * i ≤ Lw ∧ Lz ≤ 50 * i ∧ i < len ∧ Lw < 4096 ∧ i ≤ 1024) := ⟨h4i, h50, hi, hw, by omega⟩
      have hi1 : i ≤ 1024 := by omega
      have hLz1 : Lz ≤ 60000 := by omega
      obtain ⟨a, hac, hand⟩ := andN (f i 0) 31 (by omega)
      obtain ⟨r, hrc, hanr⟩ := andN (f i 1) 4095 (by omega)
      obtain ⟨m, hmc, hanm⟩ := andN (f i 2) 255 (by omega)
      obtain ⟨n, hn⟩ : ∃ n, 4 + m = n := ⟨_, rfl⟩
      have hni : (4 : Int) + (m : Int) = (n : Int) := by omega
      have hnl : n ≤ 259 := by omega
      have HW4 : Hid (wrap64 ((4 : Int) + (m : Int)) = (n : Int)) := (by rw [hni]; exact wrapN64 n (by omega) : wrap64 ((4 : Int) + (m : Int)) = (n : Int))
      have HNM : Hid (4 + m = n) := hn
      have hand' : bits .and .i64 (f i 0) 31 = (a : Int) := hand
      have hanr' : bits .and .i64 (f i 1) 4095 = (r : Int) := hanr
      have hanm' : bits .and .i64 (f i 2) 255 = (m : Int) := hanm
      obtain ⟨x0, hx0⟩ : ∃ q, f i 0 = q := ⟨_, rfl⟩
      obtain ⟨x1, hx1⟩ : ∃ q, f i 1 = q := ⟨_, rfl⟩
      obtain ⟨x2, hx2⟩ : ∃ q, f i 2 = q := ⟨_, rfl⟩
      rw [hx0] at e0 hand'
      rw [hx1] at e1 hanr'
      rw [hx2] at e2 hanm'
      have HH : Hid (bits .and .i64 x0 31 = (a : Int) ∧ bits .and .i64 x1 4095 = (r : Int) ∧ bits .and .i64 x2 255 = (m : Int)) := ⟨hand', hanr', hanm'⟩
      clear hT hsay hBz hBw hbl hcell HS hand hanr hanm hx0 hx1 hx2 hand' hanr' hanm' h4i h50 hn hbw hil hi2 hLw hLz hi hw
      go_wp2_with fail
      go_quiet (fail)
      rw [HH.out.1, HH.out.2.1, HH.out.2.2, HW4.out]
      obtain ⟨w2, hw2⟩ : ∃ w2, wr.drewN nq = w2 := ⟨_, rfl⟩
      have HT2 : Hid (Two w w2 B (.slice az Lz cz) z (.slice aw Lw cw) want) := by rw [← hw2]; exact HT.out.1.drewN nq
      rw [hw2]
      clear hw2 e0 e1 e2 HH HW4
      go_upto_if 49 with fail
      go_cut [6] from 15 to 133 (fun v6 wc => ∃ A : Nat, v6 = .int .i64 (A : Nat) ∧ A ≤ 31 ∧ Hid (1 ≤ Lw + A) ∧ wc = w2)
      case first =>
        by_cases hz : Lw + a = 0
        · have hzb : ((Lw : Int) + (a : Int) == 0) = true := by rw [beq_iff_eq]; omega
          have hzj : (Lw : Int) + (a : Int) = 0 := by omega
          go_wp2_with fail
          go_meet
          case rel => exact ⟨1, rfl, by omega, (by omega : 1 ≤ Lw + 1), rfl⟩
        · have hzb : ((Lw : Int) + (a : Int) == 0) = false := beq_eq_false_iff_ne.2 (by omega)
          have hzj : ¬ (Lw : Int) + (a : Int) = 0 := by omega
          go_wp2_with fail
          go_meet
          case rel => exact ⟨a, rfl, hac, (by omega : 1 ≤ Lw + a), rfl⟩
      case rest =>
        obtain ⟨A, rfl, hA, HLA, rfl⟩ := hcut
        have hnm : (n : Int) - 4 = (m : Int) := by omega
        have hiA := if_min A
        have him := if_min m
        obtain ⟨PA, hPA⟩ : ∃ x, min A 15 = x := ⟨_, rfl⟩
        obtain ⟨PM, hPM⟩ : ∃ x, min m 15 = x := ⟨_, rfl⟩
        rw [hPA] at hiA
        rw [hPM] at him
        have hPAl : PA ≤ 15 := by omega
        have hPMl : PM ≤ 15 := by omega
        obtain ⟨X, hX'⟩ : ∃ X, 16 * PA + PM = X := ⟨_, rfl⟩
        have hX : 16 * min A 15 + min m 15 = X := by rw [hPA, hPM]; exact hX'
        have hhd : (PA : Int) * 16 + (PM : Int) = (X : Int) := by omega
        have hXl : X < 256 := by omega
        have HX : Hid (16 * min A 15 + min m 15 = X) := hX
        have HLz : Hid (Lz ≤ 1000000) := (by omega : Lz ≤ 1000000)
        clear hX hX' hac hni hPA hPM
        go_upto_if 62 with (at_builtin; refine wq1 w _ rfl _ _ rfl B az Lz cz z (.slice aw Lw cw) want _ X (by first | exact hhd | rfl) HT2 HLz rfl rfl ?_; intro ao1 L1 cp1 w3 hL1 HT3)
        clear hhd hXl hiA him hPAl hPMl
        go_cut [3] from 15 to 133 (fun v3 wc => ∃ (ao : Option Addr) (L cp : Nat), v3 = .slice ao L cp ∧ L ≤ 60002 ∧ Hid (Two w wc B (.slice ao L cp) (z ++ hdL A m) (.slice aw Lw cw) want))
        case first =>
          have hL1b : L1 ≤ 60001 := by have := hL1.out; omega
          by_cases hA15 : A < 15
          · have h15 : ¬ (15 : Int) ≤ (A : Int) := by omega
            go_wp2_with fail
            go_meet
            case rel => exact ⟨ao1, L1, cp1, rfl, by omega, (by unfold hdL; rw [if_pos hA15, HX.out, List.append_nil]; exact HT3.out : Two w w3 B (.slice ao1 L1 cp1) (z ++ hdL A m) (.slice aw Lw cw) want)⟩
          · have h15 : (15 : Int) ≤ (A : Int) := by omega
            have hsub : (A : Int) - 15 = ((A - 15 : Nat) : Int) := by omega
            obtain ⟨Y, hY⟩ : ∃ Y, A - 15 = Y := ⟨_, rfl⟩
            rw [hY] at hsub
            have hYl : Y < 256 := by omega
            have HL1 : Hid (L1 ≤ 1000000) := (by omega : L1 ≤ 1000000)
            go_wp2_with (at_builtin; refine wq1 w _ rfl _ _ rfl B ao1 L1 cp1 (z ++ [X]) (.slice aw Lw cw) want _ Y (by first | exact hsub | rfl) HT3 HL1 rfl rfl ?_; intro ao2 L2 cp2 w4 hL2 HT4)
            go_meet
            case rel => exact ⟨ao2, L2, cp2, rfl, by have := hL2.out; omega, (by unfold hdL; rw [if_neg hA15, HX.out, hY, ← List.append_assoc]; exact HT4.out : Two w w4 B (.slice ao2 L2 cp2) (z ++ hdL A m) (.slice aw Lw cw) want)⟩
        case rest =>
          obtain ⟨bz, Lq, dz, rfl, hLq, HT5⟩ := hcut
          obtain ⟨w5, hw5⟩ : ∃ x, wc = x := ⟨_, rfl⟩
          subst hw5
          clear hnm HX HT3 hL1 HT2
          go_wp2_with fail
          go_loopw [3, 4, 9] (fun v3 v4 v9 wl => ∃ (bz bw : Option Addr) (dz dw Lz' Lw' k : Nat), v3 = .slice bz Lz' dz ∧ v4 = .slice bw Lw' dw ∧ v9 = .int .i64 (k : Nat) ∧ k ≤ A ∧ Lz' ≤ 60100 ∧ Lw' ≤ 4200 ∧ Hid (Two w wl B (.slice bz Lz' dz) (z ++ hdL A m ++ pl i k) (.slice bw Lw' dw) (want ++ pl i k))) (fun _ _ v9 _ => A - (intOf v9).toNat)
          case atStart => exact ⟨bz, aw, dz, cw, Lq, Lw, 0, rfl, rfl, rfl, Nat.zero_le _, by omega, by have := HN.out; omega, (by rw [show pl i 0 = [] from rfl, List.append_nil, List.append_nil]; exact HT5.out : Two w _ B (.slice bz Lq dz) (z ++ hdL A m ++ pl i 0) (.slice aw Lw cw) (want ++ pl i 0))⟩
          case round =>
            obtain ⟨bz1, bw1, dz1, dw1, Lz1, Lw1, k, rfl, rfl, rfl, hkA, hb1, hb2, HK⟩ := hrel
            by_cases hkl : k < A
            · have hkli : (k : Int) < (A : Int) := by omega
              obtain ⟨Y, hY⟩ : ∃ Y, (7 * i + k) % 256 = Y := ⟨_, rfl⟩
              have hYi : ((i : Int) * 7 + (k : Int)) % 256 = (Y : Int) := by omega
              have HY : Hid ((7 * i + k) % 256 = Y) := hY
              have HLa : Hid (Lz1 ≤ 1000000) := (by omega : Lz1 ≤ 1000000)
              have HLb : Hid (Lw1 ≤ 1000000) := (by omega : Lw1 ≤ 1000000)
              have HKL : Hid (k + 1 ≤ A ∧ A - (k + 1) < A - k) := ⟨by omega, by omega⟩
              clear hY
              go_wp2_with (first
                | (at_builtin; refine wq1 w _ rfl _ _ rfl B bz1 Lz1 dz1 (z ++ hdL A m ++ pl i k) (.slice bw1 Lw1 dw1) (want ++ pl i k) _ Y (by first | exact hYi | rfl) HK HLa rfl rfl ?_; intro ao6 L6 cp6 w6 hL6 HT6)
                | (at_builtin; refine wq1' w _ rfl _ _ rfl B bw1 Lw1 dw1 (want ++ pl i k) (.slice ao6 L6 cp6) (z ++ hdL A m ++ pl i k ++ [Y]) _ Y (by first | exact hYi | rfl) HT6 HLb rfl rfl ?_; intro ao7 L7 cp7 w7 hL7 HT7))
              have HT8 : Hid (Two w w7 B (.slice ao6 L6 cp6) (z ++ hdL A m ++ pl i (k + 1)) (.slice ao7 L7 cp7) (want ++ pl i (k + 1))) := by
                show Two _ _ _ _ _ _ _
                unfold pl
                rw [HY.out, ← List.append_assoc, ← List.append_assoc]
                exact HT7.out
              have hz8 := HT8.out.lenz
              have hw8 := HT8.out.lenw
              have hz9 := HT5.out.lenz
              simp only [List.length_append, pl_length] at hz8 hw8 hz9
              have HB8 : Hid (L6 ≤ 60100 ∧ L7 ≤ 4200) := ⟨by have := HKL.out; omega, by have := HKL.out; have := HN.out; have := HT.out.2.2.1; omega⟩
              clear hz8 hw8 hz9
              exact ⟨⟨ao6, ao7, cp6, cp7, L6, L7, k + 1, rfl, rfl, by go_num, HKL.out.1, HB8.out.1, HB8.out.2, HT8⟩, by have := HKL.out.2; simp [intOf]; omega⟩
            · obtain rfl : A = k := by omega
              have hkli : ¬ (A : Int) < (A : Int) := by omega
              clear hkl hkA
              have hzl := HK.out.lenz
              have hwl := HK.out.lenw
              simp only [List.length_append, pl_length] at hzl hwl
              rw [HT.out.2.2.1] at hwl
              rw [HT.out.2.1] at hzl
              have hhl : (hdL A m).length ≤ 2 := by unfold hdL; split <;> simp
              have hW1 : 1 ≤ Lw1 := by have := HLA.out; omega
              have HLN : Hid (Lw + A = Lw1 ∧ Lz1 ≤ Lz + A + 2 ∧ A ≤ 31) := ⟨hwl, by omega, hA⟩
              have hWz : ¬ (Lw1 : Int) = 0 := by omega
              have HLa : Hid (Lz1 ≤ 1000000) := (by omega : Lz1 ≤ 1000000)
              have hnm : (n : Int) - 4 = (m : Int) := by have := HNM.out; omega
              obtain ⟨e, d, d0, d1, p1, hel, p5, p4, HD, p9, p10, p13, p14⟩ := far2 r Lw1 hW1 hrc
              clear hzl hwl hhl hkli
              go_upto_if 103 with (at_builtin; refine wq2 w _ rfl _ _ rfl B bz1 Lz1 dz1 (z ++ hdL A m ++ pl i A) (.slice bw1 Lw1 dw1) (want ++ pl i A) _ _ d0 d1 (by first | rfl | exact p9) (by first | rfl | exact p10) HK HLa rfl rfl ?_; intro ao8 L8 cp8 w8 hL8 HT8)
              clear p1 p5 p9 p10 p13 p14 hWz hel
              go_cut [3] from 15 to 133 (fun v3 wc => ∃ (ao : Option Addr) (L cp : Nat), v3 = .slice ao L cp ∧ Hid (L ≤ Lz1 + 3) ∧ Hid (Two w wc B (.slice ao L cp) (z ++ hdL A m ++ pl i A ++ [d0, d1] ++ tlL m) (.slice bw1 Lw1 dw1) (want ++ pl i A)))
              case first =>
                by_cases hm15 : m < 15
                · have h15 : ¬ (15 : Int) ≤ (m : Int) := by omega
                  go_wp2_with fail
                  go_meet
                  case rel => exact ⟨ao8, L8, cp8, rfl, (by have := hL8.out; omega : L8 ≤ Lz1 + 3), (by unfold tlL; rw [if_pos hm15, List.append_nil]; exact HT8.out : Two w w8 B (.slice ao8 L8 cp8) (z ++ hdL A m ++ pl i A ++ [d0, d1] ++ tlL m) (.slice bw1 Lw1 dw1) (want ++ pl i A))⟩
                · have h15 : (15 : Int) ≤ (m : Int) := by omega
                  have hsub : (m : Int) - 15 = ((m - 15 : Nat) : Int) := by omega
                  obtain ⟨Y, hY⟩ : ∃ Y, m - 15 = Y := ⟨_, rfl⟩
                  rw [hY] at hsub
                  have hYl : Y < 256 := by omega
                  have hY255 : ¬ (255 : Int) ≤ (Y : Int) := by omega
                  have HL8 : Hid (L8 ≤ 1000000) := (by have := hL8.out; omega : L8 ≤ 1000000)
                  go_wp2_with (at_builtin; refine wq1 w _ rfl _ _ rfl B ao8 L8 cp8 (z ++ hdL A m ++ pl i A ++ [d0, d1]) (.slice bw1 Lw1 dw1) (want ++ pl i A) _ Y (by first | rfl | exact hsub) HT8 HL8 rfl rfl ?_; intro ao9 L9 cp9 w9 hL9 HT9)
                  go_meet
                  case rel => exact ⟨ao9, L9, cp9, rfl, (by have := hL8.out; have := hL9.out; omega : L9 ≤ Lz1 + 3), (by unfold tlL; rw [if_neg hm15, hY]; exact HT9.out : Two w w9 B (.slice ao9 L9 cp9) (z ++ hdL A m ++ pl i A ++ [d0, d1] ++ tlL m) (.slice bw1 Lw1 dw1) (want ++ pl i A))⟩
              case rest =>
                obtain ⟨ao9, L9, cp9, rfl, HL9, HT9⟩ := hcut
                clear HT8 hL8 hnm HK HT5
                go_wp2_with fail
                go_loopw [4, 12] (fun v4 v12 wm => ∃ (bw : Option Addr) (dw Lw' k : Nat), v4 = .slice bw Lw' dw ∧ v12 = .int .i64 (k : Nat) ∧ k ≤ n ∧ Lw' ≤ 4500 ∧ Hid (Two w wm B (.slice ao9 L9 cp9) (z ++ hdL A m ++ pl i A ++ [d0, d1] ++ tlL m) (.slice bw Lw' dw) (copyL d k (want ++ pl i A)) ∧ Lw' = Lw1 + k)) (fun _ v12 _ => n - (intOf v12).toNat)
                case atStart => exact ⟨bw1, dw1, Lw1, 0, rfl, rfl, Nat.zero_le _, by omega, HT9.out, by omega⟩
                case round =>
                  obtain ⟨bw2, dw2, Lw2, k, rfl, rfl, hkn, hb2', HK2⟩ := hrel
                  by_cases hkl : k < n
                  · have hkli : (k : Int) < (n : Int) := by omega
                    obtain ⟨hT10, hL10⟩ := HK2.out
                    obtain ⟨ix, hix⟩ : ∃ x, Lw2 - d = x := ⟨_, rfl⟩
                    obtain ⟨q1, q2, q3, q4, q5⟩ := HD.out
                    have hixi : (Lw2 : Int) - (d : Int) = (ix : Int) := by omega
                    have hixl : ix < Lw2 := by omega
                    have hixj : (ix : Int) < (Lw2 : Int) := by omega
                    obtain ⟨gw, hgw, hcell⟩ := hT10.cellW hT10.lenw ix hixl
                    subst hgw
                    obtain ⟨y, hy⟩ : ∃ y, (copyL d k (want ++ pl i A)).getD ix 0 = y := ⟨_, rfl⟩
                    rw [hy] at hcell
                    have HYY : Hid (copyL d k (want ++ pl i A) ++ [y] = copyL d (k + 1) (want ++ pl i A)) := by
                      show _ = _
                      rw [copyL_succ, hT10.lenw, hix, hy]
                    have HT10 : Hid (Two w wr B (.slice ao9 L9 cp9) (z ++ hdL A m ++ pl i A ++ [d0, d1] ++ tlL m) (.slice (some ⟨gw, 0, none⟩) Lw2 dw2) (copyL d k (want ++ pl i A))) := hT10
                    have HLb : Hid (Lw2 ≤ 1000000) := (by omega : Lw2 ≤ 1000000)
                    have HKL : Hid (k + 1 ≤ n ∧ n - (k + 1) < n - k ∧ Lw2 + 1 = Lw1 + (k + 1) ∧ Lw2 + 1 ≤ 4500) := ⟨by omega, by omega, by omega, by omega⟩
                    have hixb : ix ≤ 4611686018427387904 := by omega
                    clear hy hix hT10 hL10 HK2 hkl hkn hb2' q1 q2 q3 q4 hixl
                    have hixw := wrapN64 ix hixb
                    clear hixb
                    go_wp2_with (at_builtin; refine wq1' w _ rfl _ _ rfl B (some ⟨gw, 0, none⟩) Lw2 dw2 (copyL d k (want ++ pl i A)) (.slice ao9 L9 cp9) (z ++ hdL A m ++ pl i A ++ [d0, d1] ++ tlL m) _ y rfl HT10 HLb rfl rfl ?_; intro ao11 L11 cp11 w11 hL11 HT11)
                    clear hixw hixi hixj hcell
                    refine ⟨⟨ao11, cp11, L11, k + 1, rfl, by go_num, HKL.out.1, by have := hL11.out; have := HKL.out; omega, by rw [← HYY.out]; exact HT11.out, by have := hL11.out; have := HKL.out; omega⟩, by have := HKL.out.2.1; simp [intOf]; omega⟩
                  · obtain rfl : n = k := by omega
                    have hkli : ¬ (n : Int) < (n : Int) := by omega
                    have HEND : Hid (4 * (i + 1) ≤ Lw2 ∧ L9 ≤ 50 * (i + 1) ∧ SaySt w B (.slice ao9 L9 cp9) (.slice bw2 Lw2 dw2) wr) := by
                      obtain ⟨hT10, hL10⟩ := HK2.out
                      obtain ⟨q1, q2, q3, q4, q5⟩ := HD.out
                      obtain ⟨t1, t2, t3, t4, t5, t6⟩ := HT.out
                      have hnn := HNM.out
                      have hl := HLN.out
                      have hN := HN.out
                      have h9 := HL9.out
                      have hsr := says_round t4 i A m n d hnn.symm hmc hl.2.2 q3 (by rw [t3, hl.1]; exact q4) q5 t5 t6
                      simp only at hsr
                      rw [q1, q2] at hsr
                      exact ⟨by omega, by omega, _, _, hT10, hsr.1, hsr.2.1, hsr.2.2⟩
                    have HNUM : Hid (i + 1 ≤ len ∧ i + 1 ≤ 2000 ∧ Lw2 ≤ 4400 ∧ L9 ≤ 120000 ∧ len - (i + 1) < len - i) := by
                      have hL10 := HK2.out.2
                      have hl := HLN.out
                      have hN := HN.out
                      have h9 := HL9.out
                      have hnn := HNM.out
                      exact ⟨by omega, by omega, by omega, by omega, by omega⟩
                    clear hkl hkn hb2' HK2
                    go_wp2
                    exact ⟨⟨ao9, bw2, cp9, dw2, L9, Lw2, i + 1, rfl, rfl, by go_num, HNUM.out.1, HNUM.out.2.1, HNUM.out.2.2.1, HNUM.out.2.2.2.1, HEND.out⟩, by have := HNUM.out.2.2.2.2; simp [intOf]; omega⟩
    · obtain ⟨h4i, h50, z, want, hT, hsay, hBz, hBw⟩ := HS.out
      have HT : Hid (Two w wr B (.slice az Lz cz) z (.slice aw Lw cw) want) := hT
      have hzl := hT.lenz
      have hwl := hT.lenw
      obtain ⟨Z, hZ⟩ : ∃ Z, toBA (z ++ [16, 101]) = Z := ⟨_, rfl⟩
      obtain ⟨WT, hWT⟩ : ∃ Z, toBA (want ++ [101]) = Z := ⟨_, rfl⟩
      have HU : Hid (∀ W N, N = Lw + 1 → Calls Try.prog 4 #[.string Z, .int .i64 (N : Nat)] W fun e w' => e = .returned (.tuple #[.string WT, .int .i64 0]) ∧ Below W.heap.size W w') := fun W N hN => by
        rw [← hZ, ← hWT]
        exact says_unpack z want hsay hBz (by omega) (by omega) W N (by omega)
      have HCz : Hid (∀ W ao L cp vw, Two w W B (.slice ao L cp) (z ++ [16, 101]) vw (want ++ [101]) → (convert 23 9 (.slice ao L cp)).run Try.prog W = .ok (.string Z) W) := fun W ao L cp vw h => by
        rw [← hZ]
        exact conv_row (P := Try.prog) W 23 9 5 B (.slice ao L cp) (z ++ [16, 101]) Try.underlying23 Try.underlying5 Try.underlying9 h.oz (hBz.append (fun x hx => by simp at hx; omega))
      have HCw : Hid (∀ W vz ao L cp, Two w W B vz (z ++ [16, 101]) (.slice ao L cp) (want ++ [101]) → (convert 23 9 (.slice ao L cp)).run Try.prog W = .ok (.string WT) W) := fun W vz ao L cp h => by
        rw [← hWT]
        exact conv_row (P := Try.prog) W 23 9 5 B (.slice ao L cp) (want ++ [101]) Try.underlying23 Try.underlying5 Try.underlying9 h.ow (hBw.append (fun x hx => by simp at hx; omega))
      have HAw : Hid (∀ W, Calls Try.prog 5 #[] W fun e w' => e = .returned (.bool true) ∧ Below W.heap.size W w') := fun W => awake_ok W
      have HLa : Hid (Lz ≤ 1000000) := (by omega : Lz ≤ 1000000)
      have HLb : Hid (Lw ≤ 1000000) := (by omega : Lw ≤ 1000000)
      clear hT hsay hBz hBw h4i h50 hzl hwl HS hZ hWT
      by_cases hi : i < len
      · have hii : (i : Int) < (len : Int) := by omega
        have hwi : ¬ (Lw : Int) < 4096 := by omega
        clear hgo hi hil hi2
        go_wp2_with (first
          | (at_builtin; refine wq2 w _ rfl _ _ rfl B az Lz cz z (.slice aw Lw cw) want _ _ 16 101 rfl rfl HT HLa rfl rfl ?_; intro ao1 L1 cp1 w1 hL1 HT1)
          | (at_builtin; refine wq1' w _ rfl _ _ rfl B aw Lw cw want (.slice ao1 L1 cp1) (z ++ [16, 101]) _ 101 rfl HT1 HLb rfl rfl ?_; intro ao2 L2 cp2 w2 hL2 HT2; have hcz := HCz.out w2 ao1 L1 cp1 (.slice ao2 L2 cp2) HT2.out))
        refine (HU.out w2 L2 hL2.out).mono ?_
        rintro e w3 ⟨rfl, hb3⟩
        have HT3 : Hid (Two w w3 B (.slice ao1 L1 cp1) (z ++ [16, 101]) (.slice ao2 L2 cp2) (want ++ [101])) := HT2.out.below hb3
        have hcw := HCw.out w3 (.slice ao1 L1 cp1) ao2 L2 cp2 HT3.out
        clear hb3 hcz
        go_wp2_with fail
        refine (HAw.out w3).mono ?_
        rintro e w4 ⟨rfl, hb4⟩
        have H4 : Hid (Below B w w4) := HT3.out.bel.trans (hb4.mono HT3.out.hB)
        clear hb4
        go_wp2
        go_ret
        exact ⟨rfl, H4.out⟩
      · have hii : ¬ (i : Int) < (len : Int) := by omega
        clear hgo hi hil hi2
        go_wp2_with (first
          | (at_builtin; refine wq2 w _ rfl _ _ rfl B az Lz cz z (.slice aw Lw cw) want _ _ 16 101 rfl rfl HT HLa rfl rfl ?_; intro ao1 L1 cp1 w1 hL1 HT1)
          | (at_builtin; refine wq1' w _ rfl _ _ rfl B aw Lw cw want (.slice ao1 L1 cp1) (z ++ [16, 101]) _ 101 rfl HT1 HLb rfl rfl ?_; intro ao2 L2 cp2 w2 hL2 HT2; have hcz := HCz.out w2 ao1 L1 cp1 (.slice ao2 L2 cp2) HT2.out))
        refine (HU.out w2 L2 hL2.out).mono ?_
        rintro e w3 ⟨rfl, hb3⟩
        have HT3 : Hid (Two w w3 B (.slice ao1 L1 cp1) (z ++ [16, 101]) (.slice ao2 L2 cp2) (want ++ [101])) := HT2.out.below hb3
        have hcw := HCw.out w3 (.slice ao1 L1 cp1) ao2 L2 cp2 HT3.out
        clear hb3 hcz
        go_wp2_with fail
        refine (HAw.out w3).mono ?_
        rintro e w4 ⟨rfl, hb4⟩
        have H4 : Hid (Below B w w4) := HT3.out.bel.trans (hb4.mono HT3.out.hB)
        clear hb4
        go_wp2
        go_ret
        exact ⟨rfl, H4.out⟩
end Go.Proofs.Ythefhffgcpoefaa
