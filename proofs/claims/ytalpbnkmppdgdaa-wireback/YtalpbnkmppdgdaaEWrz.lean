/- The walk of WireBack. -/
import Derived.Test.YtalpbnkmppdgdaaEWry
namespace Go.Proofs.Ytalpbnkmppdgdaa
open Go.RowKit
set_option linter.unusedVariables false

theorem mk_x (S : List UInt8) : mk S ++ ⟨#[120]⟩ = mk (S ++ [120]) := append_x S
set_option maxHeartbeats 8000000 in
theorem wback_walk (m : Msg) (s : Spot) (w : World) (hin : MIn w m s) :
    Calls Try.prog 5 #[m.v s] w fun e w' => e = .returned (.bool true) ∧ Below w.heap.size w w' := by
  have HIN : Hid (MIn w m s) := hin
  clear hin
  have HBY : Hid (∀ W, MIn W m s → Calls Try.prog 9 #[m.v s] W fun e w' => e = .returned (bytesW m) ∧ Below W.heap.size W w') := fun W h => wbytes_ok m s W h
  have HRB : Hid (∀ W, MIn W m s → Calls Try.prog 10 #[m.v s] W fun e w' => e = .returned (bytesW m) ∧ Below W.heap.size W w') := fun W h => rwbytes_ok m s W h
  have HBA : Hid (Below w.heap.size w (w.alloc (.cells (m.cs s) 28))) := (Below.refl _ _).alloc (Nat.le_refl _) _
  have HMB : Hid (MB (w.alloc (.cells (m.cs s) 28)) w.heap.size m s) := heap_alloc_new _ _
  obtain ⟨mb, hmb⟩ : ∃ mb, w.heap.size = mb := ⟨_, rfl⟩
  rw [hmb] at HMB
  generalize hWA : (w.alloc (.cells (m.cs s) 28)) = wA at HMB HBA
  have HI1 : Hid (MIn wA m s) := HIN.out.below HBA.out (Nat.le_refl _)
  rcases bytesW_cases m with ⟨mm, ml, hv⟩ | ⟨_, k, hk, hv⟩
  · rw [hv] at HBY
    clear hv HRB
    have hpos := msgL_pos m
    have hms := mk_size (msgL m)
    have HO1 : Hid (∀ W, Calls Try.prog 14 #[.string (mk (msgL m))] W fun e w' => ∃ s, e = .returned (.tuple #[Msg.v m s, .int .i64 0]) ∧ MIn w' m s ∧ Below W.heap.size W w') := fun W => of_msg _ m W ml (rdMsg_msgL m mm)
    have HO2 : Hid (∃ kx : Int, (kx = 140 ∨ (mk (msgL m)).size = 1048576) ∧ ∀ W, Calls Try.prog 14 #[.string (mk (msgL m) ++ ⟨#[120]⟩)] W fun e w' => e = .returned (.tuple #[.agg #[.int .i64 0, .int .i64 0, .int .i64 0, .int .i64 0, .int .i64 0, .int .i64 0, .int .i64 0, .int .i64 0, .int .i64 0, .int .i64 0, .int .i64 0, .slice none 0 0, .slice none 0 0], .int .i64 kx]) ∧ Below W.heap.size W w') := by
      by_cases hx : (msgL m).length = 1048576
      · refine ⟨4, .inr (by rw [hms]; exact hx), fun W => ?_⟩
        refine wof_long _ W ?_
        rw [mk_x, mk_size, List.length_append, hx]
        decide
      · refine ⟨140, .inl rfl, fun W => ?_⟩
        rw [mk_x]
        exact of_no (msgL m ++ [120]) W (by rw [List.length_append, List.length_cons, List.length_nil]; omega) (rdMsg_behind (rdMsg_msgL m mm) 120 [])
    have HO3 : Hid (∀ W, Calls Try.prog 14 #[.string ((mk (msgL m)).extract 0 ((mk (msgL m)).size - 1))] W fun e w' => e = .returned (.tuple #[.agg #[.int .i64 0, .int .i64 0, .int .i64 0, .int .i64 0, .int .i64 0, .int .i64 0, .int .i64 0, .int .i64 0, .int .i64 0, .int .i64 0, .int .i64 0, .slice none 0 0, .slice none 0 0], .int .i64 140]) ∧ Below W.heap.size W w') := fun W => by
      rw [extract_take, hms]
      exact of_no _ W (by rw [List.length_take]; omega) (rdMsg_cut m mm _ (by omega))
    have HSM : Hid (∀ W s', MIn W m s → MIn W m s' → Calls Try.prog 16 #[m.v s, m.v s'] W fun e w' => e = .returned (.bool true) ∧ Below W.heap.size W w') := fun W s' h1 h2 => by
      have := same_walk m m s s' W h1 h2
      rw [eqB_true rfl] at this
      exact this
    obtain ⟨n, hn⟩ : ∃ n, (mk (msgL m)).size = n := ⟨_, rfl⟩
    have hn0 : 0 < n := by omega
    have hn1 : n ≤ 1048576 := by omega
    generalize mk (msgL m) = z at HBY HO1 HO2 HO3 hn hms
    rw [hn] at HO2 HO3
    obtain ⟨kx, hkx, HO2'⟩ := HO2.out
    have HX : Hid (∀ W, Calls Try.prog 14 #[.string (z ++ ⟨#[120]⟩)] W fun e w' => e = .returned (.tuple #[.agg #[.int .i64 0, .int .i64 0, .int .i64 0, .int .i64 0, .int .i64 0, .int .i64 0, .int .i64 0, .int .i64 0, .int .i64 0, .int .i64 0, .int .i64 0, .slice none 0 0, .slice none 0 0], .int .i64 kx]) ∧ Below W.heap.size W w') := HO2'
    clear HO2 HO2' hms hpos ml mm
    go_enter Try.func5, Try.ntmps5
    go_upto_region 1 with fail
    clear hWA
    obtain ⟨d0, d1, d2, d3, d4, d5, d6, d7, d8, d9, d10, d11, d12⟩ := HMB.out.cells
    go_wp2_with fail
    refine (HBY.out _ HI1.out).mono ?_
    rintro e w1 ⟨rfl, hb1⟩
    have HM1 : Hid (MB w1 mb m s) := HMB.out.below hb1
    have HB1 : Hid (Below w.heap.size w w1) := HBA.out.trans (hb1.mono HBA.out.size)
    clear hb1 d0 d1 d2 d3 d4 d5 d6 d7 d8 d9 d10 d11 d12
    have hnn : ¬ (n : Int) = 0 := by omega
    have hcat : z.size + 1 ≤ 2000000 := by omega
    go_wp2_with fail
    refine (HO1.out _).mono ?_
    rintro e w2 ⟨s', rfl, hin2, hb2⟩
    have hBa : Below w2.heap.size w2 (w2.alloc (.cells (m.cs s') 28)) := (Below.refl _ _).alloc (Nat.le_refl _) _
    have HM2 : Hid (MB (w2.alloc (.cells (m.cs s') 28)) mb m s) := (HM1.out.below hb2).below hBa
    have HJ2 : Hid (MIn (w2.alloc (.cells (m.cs s') 28)) m s') := hin2.below hBa (Nat.le_refl _)
    have HN2 : Hid (MB (w2.alloc (.cells (m.cs s') 28)) w2.heap.size m s') := heap_alloc_new _ _
    have HB2 : Hid (Below w.heap.size w (w2.alloc (.cells (m.cs s') 28))) := (HB1.out.trans (hb2.mono HB1.out.size)).trans (hBa.mono (HB1.out.trans (hb2.mono HB1.out.size)).size)
    clear hBa hb2 hin2 HM1 HB1
    obtain ⟨nb, hnb⟩ : ∃ nb, w2.heap.size = nb := ⟨_, rfl⟩
    rw [hnb] at HN2
    generalize hW2 : w2.alloc (.cells (m.cs s') 28) = w2a at HM2 HJ2 HN2 HB2
    go_upto_region 8 with fail
    clear hW2 hnb
    go_wp2_with fail
    refine (HX.out _).mono ?_
    rintro e w3 ⟨rfl, hb3⟩
    have HM3 : Hid (MB w3 mb m s) := HM2.out.below hb3
    have HN3 : Hid (MB w3 nb m s') := HN2.out.below hb3
    have HJ3 : Hid (MIn w3 m s') := HJ2.out.below hb3 (Nat.le_refl _)
    have HB3 : Hid (Below w.heap.size w w3) := HB2.out.trans (hb3.mono HB2.out.size)
    clear hb3 HM2 HN2 HJ2 HB2
    have HB3a : Hid (Below w.heap.size w (w3.alloc (.cells #[.int .i64 0, .int .i64 0, .int .i64 0, .int .i64 0, .int .i64 0, .int .i64 0, .int .i64 0, .int .i64 0, .int .i64 0, .int .i64 0, .int .i64 0, .slice none 0 0, .slice none 0 0] 28))) := HB3.out.alloc HB3.out.size _
    have HM3a : Hid (MB (w3.alloc (.cells #[.int .i64 0, .int .i64 0, .int .i64 0, .int .i64 0, .int .i64 0, .int .i64 0, .int .i64 0, .int .i64 0, .int .i64 0, .int .i64 0, .int .i64 0, .slice none 0 0, .slice none 0 0] 28)) mb m s) := HM3.out.below ((Below.refl _ _).alloc (Nat.le_refl _) _)
    have HN3a : Hid (MB (w3.alloc (.cells #[.int .i64 0, .int .i64 0, .int .i64 0, .int .i64 0, .int .i64 0, .int .i64 0, .int .i64 0, .int .i64 0, .int .i64 0, .int .i64 0, .int .i64 0, .slice none 0 0, .slice none 0 0] 28)) nb m s') := HN3.out.below ((Below.refl _ _).alloc (Nat.le_refl _) _)
    have HJ3a : Hid (MIn (w3.alloc (.cells #[.int .i64 0, .int .i64 0, .int .i64 0, .int .i64 0, .int .i64 0, .int .i64 0, .int .i64 0, .int .i64 0, .int .i64 0, .int .i64 0, .int .i64 0, .slice none 0 0, .slice none 0 0] 28)) m s') := HJ3.out.below ((Below.refl _ _).alloc (Nat.le_refl _) _) (Nat.le_refl _)
    go_upto_region 9 with fail
    generalize hW3 : w3.alloc (.cells #[.int .i64 0, .int .i64 0, .int .i64 0, .int .i64 0, .int .i64 0, .int .i64 0, .int .i64 0, .int .i64 0, .int .i64 0, .int .i64 0, .int .i64 0, .slice none 0 0, .slice none 0 0] 28) = w3a at HB3a HM3a HN3a HJ3a
    clear hW3 HB3 HM3 HN3 HJ3
    go_wp2_with fail
    refine (HO3.out _).mono ?_
    rintro e w4 ⟨rfl, hb4⟩
    have HM4 : Hid (MB w4 mb m s) := HM3a.out.below hb4
    have HN4 : Hid (MB w4 nb m s') := HN3a.out.below hb4
    have HJ4 : Hid (MIn w4 m s') := HJ3a.out.below hb4 (Nat.le_refl _)
    have HB4 : Hid (Below w.heap.size w w4) := HB3a.out.trans (hb4.mono HB3a.out.size)
    clear hb4 HM3a HN3a HJ3a HB3a
    have HB4a : Hid (Below w.heap.size w (w4.alloc (.cells #[.int .i64 0, .int .i64 0, .int .i64 0, .int .i64 0, .int .i64 0, .int .i64 0, .int .i64 0, .int .i64 0, .int .i64 0, .int .i64 0, .int .i64 0, .slice none 0 0, .slice none 0 0] 28))) := HB4.out.alloc HB4.out.size _
    have HM4a : Hid (MB (w4.alloc (.cells #[.int .i64 0, .int .i64 0, .int .i64 0, .int .i64 0, .int .i64 0, .int .i64 0, .int .i64 0, .int .i64 0, .int .i64 0, .int .i64 0, .int .i64 0, .slice none 0 0, .slice none 0 0] 28)) mb m s) := HM4.out.below ((Below.refl _ _).alloc (Nat.le_refl _) _)
    have HN4a : Hid (MB (w4.alloc (.cells #[.int .i64 0, .int .i64 0, .int .i64 0, .int .i64 0, .int .i64 0, .int .i64 0, .int .i64 0, .int .i64 0, .int .i64 0, .int .i64 0, .int .i64 0, .slice none 0 0, .slice none 0 0] 28)) nb m s') := HN4.out.below ((Below.refl _ _).alloc (Nat.le_refl _) _)
    have HJ4a : Hid (MIn (w4.alloc (.cells #[.int .i64 0, .int .i64 0, .int .i64 0, .int .i64 0, .int .i64 0, .int .i64 0, .int .i64 0, .int .i64 0, .int .i64 0, .int .i64 0, .int .i64 0, .slice none 0 0, .slice none 0 0] 28)) m s') := HJ4.out.below ((Below.refl _ _).alloc (Nat.le_refl _) _) (Nat.le_refl _)
    go_upto_region 10 with fail
    generalize hW4 : w4.alloc (.cells #[.int .i64 0, .int .i64 0, .int .i64 0, .int .i64 0, .int .i64 0, .int .i64 0, .int .i64 0, .int .i64 0, .int .i64 0, .int .i64 0, .int .i64 0, .slice none 0 0, .slice none 0 0] 28) = w4a at HB4a HM4a HN4a HJ4a
    clear hW4 HB4 HM4 HN4 HJ4
    have HI4 : Hid (MIn w4a m s) := HIN.out.below HB4a.out (Nat.le_refl _)
    obtain ⟨d0, d1, d2, d3, d4, d5, d6, d7, d8, d9, d10, d11, d12⟩ := HM4a.out.cells
    obtain ⟨c0, c1, c2, c3, c4, c5, c6, c7, c8, c9, c10, c11, c12⟩ := HN4a.out.cells
    by_cases hbig : n = 1048576
    · have hq : ((n : Int) == 1048576) = true := by simp [hbig]
      clear hkx
      go_wp2_with fail
      refine (HSM.out _ _ HI4.out HJ4a.out).mono ?_
      rintro e w5 ⟨rfl, hb5⟩
      have HB5 : Hid (Below w.heap.size w w5) := HB4a.out.trans (hb5.mono HB4a.out.size)
      clear hb5 d0 d1 d2 d3 d4 d5 d6 d7 d8 d9 d10 d11 d12 c0 c1 c2 c3 c4 c5 c6 c7 c8 c9 c10 c11 c12
      go_wp2_with fail
      refine (wawake_ok _).mono ?_
      rintro e w9 ⟨rfl, hb9⟩
      have HB9 : Hid (Below w.heap.size w w9) := HB5.out.trans (hb9.mono HB5.out.size)
      clear hb9
      go_wp2
      go_ret
      exact ⟨rfl, HB9.out⟩
    · have hq : ((n : Int) == 1048576) = false := by simp; omega
      obtain rfl : kx = 140 := hkx.resolve_right hbig
      go_wp2_with fail
      refine (HSM.out _ _ HI4.out HJ4a.out).mono ?_
      rintro e w5 ⟨rfl, hb5⟩
      have HB5 : Hid (Below w.heap.size w w5) := HB4a.out.trans (hb5.mono HB4a.out.size)
      clear hb5 d0 d1 d2 d3 d4 d5 d6 d7 d8 d9 d10 d11 d12 c0 c1 c2 c3 c4 c5 c6 c7 c8 c9 c10 c11 c12
      go_wp2_with fail
      refine (wawake_ok _).mono ?_
      rintro e w9 ⟨rfl, hb9⟩
      have HB9 : Hid (Below w.heap.size w w9) := HB5.out.trans (hb9.mono HB5.out.size)
      clear hb9
      go_wp2
      go_ret
      exact ⟨rfl, HB9.out⟩
  · rw [hv] at HBY HRB
    clear hv
    rcases hk with rfl | rfl
    all_goals
      go_enter Try.func5, Try.ntmps5
      go_upto_region 1 with fail
      clear hWA
      obtain ⟨d0, d1, d2, d3, d4, d5, d6, d7, d8, d9, d10, d11, d12⟩ := HMB.out.cells
      go_wp2_with fail
      refine (HBY.out _ HI1.out).mono ?_
      rintro e w1 ⟨rfl, hb1⟩
      have HM1 : Hid (MB w1 mb m s) := HMB.out.below hb1
      have HB1 : Hid (Below w.heap.size w w1) := HBA.out.trans (hb1.mono HBA.out.size)
      have HI2 : Hid (MIn w1 m s) := HI1.out.below hb1 (Nat.le_refl _)
      clear hb1 d0 d1 d2 d3 d4 d5 d6 d7 d8 d9 d10 d11 d12
      obtain ⟨d0, d1, d2, d3, d4, d5, d6, d7, d8, d9, d10, d11, d12⟩ := HM1.out.cells
      go_wp2_with fail
      refine (HRB.out _ HI2.out).mono ?_
      rintro e w2 ⟨rfl, hb2⟩
      have HB2 : Hid (Below w.heap.size w w2) := HB1.out.trans (hb2.mono HB1.out.size)
      clear hb2 d0 d1 d2 d3 d4 d5 d6 d7 d8 d9 d10 d11 d12
      go_wp2_with fail
      refine (wawake_ok _).mono ?_
      rintro e w9 ⟨rfl, hb9⟩
      have HB9 : Hid (Below w.heap.size w w9) := HB2.out.trans (hb9.mono HB2.out.size)
      clear hb9
      go_wp2
      go_ret
      exact ⟨rfl, HB9.out⟩
end Go.Proofs.Ytalpbnkmppdgdaa
