/- xxHash32 of the document: its contract. -/
import Derived.Test.YtbncfpbehahidaaGs3
namespace Go.Proofs.Ytbncfpbehahidaa.S2
open Go.RowKit
set_option linter.unusedVariables false
set_option maxRecDepth 20000

theorem xsh_i64 (x k d : Nat) (hx : x < 4294967296) (hd : d = 2 ^ k) : bits .xor .i64 (x : Int) ((x : Int) / (d : Nat)) = (xsh k x : Nat) := by
  have e : (x : Int) / (d : Nat) = ((x / d : Nat) : Int) := by simp
  have hl : x / d ≤ x := Nat.div_le_self _ _
  rw [e, i64_xor_nat _ _ (by omega) (by omega), hd]
  rfl
set_option maxRecDepth 20000 in
set_option maxHeartbeats 1000000 in
theorem refHash_short (s : ByteArray) (seed : Int) (sd : Nat) (w : World) (hs : s.size ≤ 140737488351232) (hsd : (sd : Int) = seed % 4294967296) (h16 : s.size < 16) :
    Calls Try.prog 42 #[.string s, .int .i64 seed] w fun e w' => e = .returned (.int .i64 (hashOf (BL s) sd : Nat)) ∧ Below w.heap.size w w' := by
    have hsl : sd < 4294967296 := by omega
    have hsm : bits .and .i64 seed 4294967295 = (sd : Int) := by rw [i64_and_all]; exact hsd.symm
    clear hsd
    have hlen : ¬ ((16 : Int) ≤ (s.size : Int)) := by omega
    have hBL0 := BL_length s
    obtain ⟨h0, hh0⟩ : ∃ h0, (sd + 374761393) % 4294967296 = h0 := ⟨_, rfl⟩
    have hh0l : h0 < 4294967296 := by omega
    obtain ⟨y0, hy00⟩ : ∃ y0, (h0 + s.size) % 4294967296 = y0 := ⟨_, rfl⟩
    have HY0 : Hid ((h0 + s.size) % 4294967296 = y0 ∧ y0 < 4294967296 ∧ hashOf (BL s) sd = spr (hrest (BL s) y0)) := by
      refine ⟨hy00, by omega, ?_⟩
      unfold hashOf hbeg
      rw [if_pos (by omega), hh0, hBL0, hy00]
    obtain ⟨A0, hA0⟩ : ∃ A0, A0 = (BL s).length / 16 * 16 + 4 * 0 := ⟨_, rfl⟩
    have hA00 : A0 = 0 := by omega
    have HA0 : Hid (A0 = (BL s).length / 16 * 16 + 4 * 0) := hA0
    have HWB : Hid (Below w.heap.size w w) := Below.refl _ _
    have b1 := i64_and_all ((sd : Int) + 374761393)
    have hb1 : ((sd : Int) + 374761393) % 4294967296 = (h0 : Int) := by rw [← hh0]; simp
    rw [hb1] at b1
    clear hA0 hy00 hh0 hBL0 hb1
    subst hA00
    go_enter Try.func42, Try.ntmps42

    have b5 := i64_and_all ((h0 : Int) + (s.size : Int))
    have hy0 : ((h0 : Int) + (s.size : Int)) % 4294967296 = (y0 : Int) := by have := HY0.out.1; omega
    go_wp2
    (try rw [hy0])
    clear b5 hy0
    go_loopw [5, 6] (fun at_ h wr => ∃ (j a y : Nat), 4 * j ≤ (BL s).length % 16 ∧ a = (BL s).length / 16 * 16 + 4 * j ∧ at_ = .int .i64 a ∧ h = .int .i64 (y : Nat) ∧ y < 4294967296 ∧ y = hws (BL s) ((BL s).length / 16 * 16) y0 j ∧ Below w.heap.size w wr) (fun at_ _ _ => s.size - (intOf at_).toNat)
    case atStart => exact ⟨0, 0, y0, by omega, HA0.out, rfl, rfl, HY0.out.2.1, rfl, HWB.out⟩
    case round =>
      obtain ⟨j, a, y, hj, ha, rfl, rfl, hyl, hy, hbel⟩ := hrel
      have hBL := BL_length s
      have HY : Hid (y = hws (BL s) ((BL s).length / 16 * 16) y0 j) := hy
      have HA : Hid (a = (BL s).length / 16 * 16 + 4 * j ∧ 4 * j ≤ (BL s).length % 16) := ⟨ha, hj⟩
      have HBL : Hid (Below w.heap.size w wr) := hbel
      have has : a ≤ s.size := by omega
      clear hy ha hj hbel
      by_cases hc4 : a + 4 ≤ s.size
      · have hci : (a : Int) + 4 ≤ (s.size : Int) := by omega
        have HJ : Hid (4 * j + 4 ≤ (BL s).length % 16) := by have := HA.out; show _ ≤ _; omega
        clear hBL
        obtain ⟨z, hz⟩ : ∃ z, wd (BL s) a = z := ⟨_, rfl⟩
        have hzl : z < 4294967296 := by rw [← hz]; exact wd_lt (BL_lt s) _
        have hF := fun w1 : World => refFour s a w1 hc4 hs
        simp only [hz] at hF
        obtain ⟨m1, hm1⟩ : ∃ m1, hmul z 3266489917 = m1 := ⟨_, rfl⟩
        have hm1l : m1 < 4294967296 := by rw [← hm1]; exact hmul_lt _ _
        have hM := fun w1 : World => refMul z 3266489917 w1 hzl (by omega)
        simp only [hm1, Int.cast_ofNat_Int] at hM
        obtain ⟨u, hu⟩ : ∃ u, (y + m1) % 4294967296 = u := ⟨_, rfl⟩
        have hul : u < 4294967296 := by omega
        have bu := i64_and_all ((y : Int) + (m1 : Int))
        have hui : ((y : Int) + (m1 : Int)) % 4294967296 = (u : Int) := by omega
        obtain ⟨r, hr⟩ : ∃ r, rot 17 u = r := ⟨_, rfl⟩
        have hrl : r < 4294967296 := by rw [← hr]; exact rot_lt _ _ (by omega) hul
        have hT := fun w1 : World => refTurned u 17 w1 hul (by omega) (by omega)
        simp only [hr, Int.cast_ofNat_Int] at hT
        obtain ⟨y', hy'⟩ : ∃ y', hmul r 668265263 = y' := ⟨_, rfl⟩
        have hM2 := fun w1 : World => refMul r 668265263 w1 hrl (by omega)
        simp only [hy', Int.cast_ofNat_Int] at hM2
        have HY' : Hid (y' < 4294967296 ∧ y' = hws (BL s) ((BL s).length / 16 * 16) y0 (j + 1)) := by
          constructor
          · rw [← hy']; exact hmul_lt _ _
          · simp only [hws]
            rw [← HY.out, ← HA.out.1, hz]
            unfold hstep
            rw [hm1, hu, hr, hy']
        have H1 : Hid _ := hF
        have H2 : Hid _ := hM
        have H3 : Hid _ := hT
        have H4 : Hid _ := hM2
        clear hF hM hT hM2 hz hm1 hr hy' hu
        rw [hui] at bu
        go_wp2_with fail
        refine (H1.out _).mono ?_
        rintro e w1 ⟨rfl, k1, hw1⟩
        have HB1 : Hid (Below w.heap.size w w1) := by rw [hw1]; exact below_drewN HBL.out k1
        clear hw1
        go_wp2_with fail
        refine (H2.out _).mono ?_
        rintro e w2 ⟨rfl, hw2⟩
        obtain rfl := hw2.symm
        go_wp2_with fail
        refine (H3.out _).mono ?_
        rintro e w3 ⟨rfl, k3, hw3⟩
        have HB3 : Hid (Below w.heap.size w w3) := by rw [hw3]; exact below_drewN HB1.out k3
        clear hw3
        go_wp2_with fail
        refine (H4.out _).mono ?_
        rintro e w4 ⟨rfl, hw4⟩
        obtain rfl := hw4.symm
        go_wp2
        go_roundw
        case rel => exact ⟨j + 1, a + 4, y', by have := HJ.out; omega, by have := HA.out; omega, by go_num, rfl, HY'.out.1, HY'.out.2, HB3.out⟩
        case measure => simp [intOf]; omega
      · have hci : ¬ ((a : Int) + 4 ≤ (s.size : Int)) := by omega
        have HJ : Hid (j = (BL s).length % 16 / 4 ∧ a = (BL s).length / 4 * 4) := by have := HA.out; constructor <;> omega
        clear hBL
        go_wp2
        go_loopw [5, 6] (fun at_ h wr => ∃ (i a2 v : Nat), i ≤ (BL s).length % 4 ∧ a2 = (BL s).length / 4 * 4 + i ∧ at_ = .int .i64 a2 ∧ h = .int .i64 (v : Nat) ∧ v < 4294967296 ∧ v = hbs (BL s) ((BL s).length / 4 * 4) y i ∧ Below w.heap.size w wr) (fun at_ _ _ => s.size - (intOf at_).toNat)
        case atStart => exact ⟨0, a, y, by omega, by rw [HJ.out.2]; rfl, rfl, rfl, hyl, rfl, HBL.out⟩
        case round =>
          obtain ⟨i, a2, v, hi, ha2, rfl, rfl, hvl, hv, hbel⟩ := hrel
          have hBL := BL_length s
          have HV : Hid (v = hbs (BL s) ((BL s).length / 4 * 4) y i) := hv
          have HA2 : Hid (a2 = (BL s).length / 4 * 4 + i ∧ i ≤ (BL s).length % 4) := ⟨ha2, hi⟩
          have HBL2 : Hid (Below w.heap.size w wr) := hbel
          have has2 : a2 ≤ s.size := by omega
          clear hv ha2 hi hbel
          by_cases hlt : a2 < s.size
          · have HJ2 : Hid (i < (BL s).length % 4) := by have := HA2.out; show _ < _; omega
            clear hBL
            obtain ⟨z, hz⟩ : ∃ z, s[a2].toNat = z := ⟨_, rfl⟩
            have hzl : z < 4294967296 := by rw [← hz]; have := UInt8.toNat_lt s[a2]; omega
            have hzw : wrap64 (z : Int) = (z : Int) := IntWalk.wrap64_in _ ⟨by omega, by omega⟩
            obtain ⟨m1, hm1⟩ : ∃ m1, hmul z 374761393 = m1 := ⟨_, rfl⟩
            have hm1l : m1 < 4294967296 := by rw [← hm1]; exact hmul_lt _ _
            have hM := fun w1 : World => refMul z 374761393 w1 hzl (by omega)
            simp only [hm1, Int.cast_ofNat_Int] at hM
            obtain ⟨u, hu⟩ : ∃ u, (v + m1) % 4294967296 = u := ⟨_, rfl⟩
            have hul : u < 4294967296 := by omega
            have bu := i64_and_all ((v : Int) + (m1 : Int))
            have hui : ((v : Int) + (m1 : Int)) % 4294967296 = (u : Int) := by omega
            obtain ⟨r, hr⟩ : ∃ r, rot 11 u = r := ⟨_, rfl⟩
            have hrl : r < 4294967296 := by rw [← hr]; exact rot_lt _ _ (by omega) hul
            have hT := fun w1 : World => refTurned u 11 w1 hul (by omega) (by omega)
            simp only [hr, Int.cast_ofNat_Int] at hT
            obtain ⟨y', hy'⟩ : ∃ y', hmul r 2654435761 = y' := ⟨_, rfl⟩
            have hM2 := fun w1 : World => refMul r 2654435761 w1 hrl (by omega)
            simp only [hy', Int.cast_ofNat_Int] at hM2
            have HY' : Hid (y' < 4294967296 ∧ y' = hbs (BL s) ((BL s).length / 4 * 4) y (i + 1)) := by
              constructor
              · rw [← hy']; exact hmul_lt _ _
              · simp only [hbs]
                rw [← HV.out, ← HA2.out.1, ← BL_getD s a2 hlt, hz]
                unfold hstep
                rw [hm1, hu, hr, hy']
            have HZ : Hid (s[a2].toNat = z) := hz
            have H2 : Hid _ := hM
            have H3 : Hid _ := hT
            have H4 : Hid _ := hM2
            clear hM hT hM2 hm1 hr hy' hu
            rw [hui] at bu
            go_wp2_with fail
            refine (H2.out _).mono ?_
            rintro e w2 ⟨rfl, hw2⟩
            obtain rfl := hw2.symm
            go_wp2_with fail
            refine (H3.out _).mono ?_
            rintro e w3 ⟨rfl, k3, hw3⟩
            have HB3 : Hid (Below w.heap.size w w3) := by rw [hw3]; exact below_drewN HBL2.out k3
            clear hw3
            go_wp2_with fail
            refine (H4.out _).mono ?_
            rintro e w4 ⟨rfl, hw4⟩
            obtain rfl := hw4.symm
            go_wp2
            go_roundw
            case rel => exact ⟨i + 1, a2 + 1, y', by have := HJ2.out; omega, by have := HA2.out; omega, by go_num, rfl, HY'.out.1, HY'.out.2, HB3.out⟩
            case measure => simp [intOf]; omega
          · have HE : Hid (spr v = hashOf (BL s) sd) := by
              show _ = _
              have e1 := HA2.out
              have e2 : i = (BL s).length % 4 := by omega
              rw [HY0.out.2.2]
              unfold hrest
              rw [← HJ.out.1, ← e2, ← HY.out, ← HV.out]
            clear hBL
            have x1 := xsh_i64 v 15 32768 hvl rfl
            obtain ⟨v1, hv1⟩ : ∃ v1, xsh 15 v = v1 := ⟨_, rfl⟩
            have hv1l : v1 < 4294967296 := by rw [← hv1]; exact xsh_lt _ _ hvl
            have hN1 := fun w1 : World => refMul v1 2246822519 w1 hv1l (by omega)
            obtain ⟨v2, hv2⟩ : ∃ v2, hmul v1 2246822519 = v2 := ⟨_, rfl⟩
            have hv2l : v2 < 4294967296 := by rw [← hv2]; exact hmul_lt _ _
            simp only [hv2, Int.cast_ofNat_Int] at hN1
            have x2 := xsh_i64 v2 13 8192 hv2l rfl
            obtain ⟨v3, hv3⟩ : ∃ v3, xsh 13 v2 = v3 := ⟨_, rfl⟩
            have hv3l : v3 < 4294967296 := by rw [← hv3]; exact xsh_lt _ _ hv2l
            have hN2 := fun w1 : World => refMul v3 3266489917 w1 hv3l (by omega)
            obtain ⟨v4, hv4⟩ : ∃ v4, hmul v3 3266489917 = v4 := ⟨_, rfl⟩
            have hv4l : v4 < 4294967296 := by rw [← hv4]; exact hmul_lt _ _
            simp only [hv4, Int.cast_ofNat_Int] at hN2
            have x3 := xsh_i64 v4 16 65536 hv4l rfl
            simp only [Int.cast_ofNat_Int, hv1, hv3] at x1 x2 x3
            have HF : Hid (xsh 16 v4 = hashOf (BL s) sd) := by
              show _ = _
              rw [← HE.out]
              unfold spr
              rw [hv1, hv2, hv3, hv4]
            have H1 : Hid _ := hN1
            have H2 : Hid _ := hN2
            clear hN1 hN2 hv1 hv2 hv3 hv4
            go_wp2_with fail
            refine (H1.out _).mono ?_
            rintro e w2 ⟨rfl, hw2⟩
            obtain rfl := hw2.symm
            go_wp2_with fail
            refine (H2.out _).mono ?_
            rintro e w2 ⟨rfl, hw2⟩
            obtain rfl := hw2.symm
            go_wp2
            go_ret
            exact ⟨ret_int (by rw [← HF.out]), HBL2.out⟩
end Go.Proofs.Ytbncfpbehahidaa.S2
