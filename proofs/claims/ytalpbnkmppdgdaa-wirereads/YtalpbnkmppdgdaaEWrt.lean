/- The walk of WireCuts. -/
import Derived.Test.YtalpbnkmppdgdaaEWrs
namespace Go.Proofs.Ytalpbnkmppdgdaa
open Go.RowKit
set_option linter.unusedVariables false

theorem zero_same (W : World) : Calls Try.prog 16 #[Msg.v zeroM zeroS, Msg.v zeroM zeroS] W fun e w' => e = .returned (.bool true) ∧ Below W.heap.size W w' := by
  have := same_walk zeroM zeroM zeroS zeroS W (MIn.zero W) (MIn.zero W)
  rw [eqB_true rfl] at this
  exact this
set_option maxHeartbeats 4000000 in
theorem wcuts_walk (m : Msg) (s : Spot) (cut : Int) (w : World) (hin : MIn w m s) (hc0 : -9223372036854775808 ≤ cut) (hc1 : cut ≤ 9223372036854775807) :
    Calls Try.prog 7 #[m.v s, .int .i64 cut] w fun e w' => e = .returned (.bool true) ∧ Below w.heap.size w w' := by
  have HIN : Hid (MIn w m s) := hin
  clear hin
  have HBY : Hid (∀ W, MIn W m s → Calls Try.prog 9 #[m.v s] W fun e w' => e = .returned (bytesW m) ∧ Below W.heap.size W w') := fun W h => wbytes_ok m s W h
  have HBA : Hid (Below w.heap.size w (w.alloc (.cells (m.cs s) 28))) := (Below.refl _ _).alloc (Nat.le_refl _) _
  have HMB : Hid (MB (w.alloc (.cells (m.cs s) 28)) w.heap.size m s) := heap_alloc_new _ _
  obtain ⟨mb, hmb⟩ : ∃ mb, w.heap.size = mb := ⟨_, rfl⟩
  rw [hmb] at HMB
  generalize hWA : (w.alloc (.cells (m.cs s) 28)) = wA at HMB HBA
  have HI1 : Hid (MIn wA m s) := HIN.out.below HBA.out (Nat.le_refl _)
  rcases bytesW_cases m with ⟨mm, ml, hv⟩ | ⟨_, k, hk, hv⟩
  · rw [hv] at HBY
    clear hv
    have HCUT : Hid (∀ k, k < (msgL m).length → rdMsg ((msgL m).take k) = none) := fun k hk => rdMsg_cut m mm k hk
    have hpos := msgL_pos m
    have hms := mk_size (msgL m)
    have hn0 : ¬ (mk (msgL m)).size = 0 := by omega
    obtain ⟨n, hn⟩ : ∃ n, (mk (msgL m)).size = n := ⟨_, rfl⟩
    obtain ⟨k, hk, hkt⟩ : ∃ k : Nat, k < n ∧ ((Int.tmod cut (n : Int) = -((k : Nat) : Int) ∧ 0 < k) ∨ Int.tmod cut (n : Int) = ((k : Nat) : Int)) := by
      have h1 := Int.tmod_lt_of_pos cut (show (0 : Int) < n by omega)
      have h2 : -(n : Int) < Int.tmod cut n := Int.lt_tmod_of_pos cut (show (0 : Int) < n by omega)
      by_cases hs : Int.tmod cut n < 0
      · exact ⟨(0 - Int.tmod cut n).toNat, by omega, .inl ⟨by omega, by omega⟩⟩
      · exact ⟨(Int.tmod cut n).toNat, by omega, .inr (by omega)⟩
    have HOF : Hid (∀ W, Calls Try.prog 14 #[.string ((mk (msgL m)).extract 0 k)] W fun e w' => e = .returned (.tuple #[.agg #[.int .i64 0, .int .i64 0, .int .i64 0, .int .i64 0, .int .i64 0, .int .i64 0, .int .i64 0, .int .i64 0, .int .i64 0, .int .i64 0, .int .i64 0, .slice none 0 0, .slice none 0 0], .int .i64 140]) ∧ Below W.heap.size W w') := fun W => by
      rw [extract_take]
      exact of_no ((msgL m).take k) W (by rw [List.length_take]; omega) (HCUT.out k (by omega))
    clear HCUT hpos
    generalize mk (msgL m) = z at HBY hn hn0 hms HOF
    have hnb : n ≤ 1048576 := by omega
    clear hms ml mm
    rcases hkt with ⟨hkt, hk0⟩ | hkt
    all_goals
      go_enter Try.func7, Try.ntmps7
      go_upto_region 1 with fail
      clear hWA
      obtain ⟨d0, d1, d2, d3, d4, d5, d6, d7, d8, d9, d10, d11, d12⟩ := HMB.out.cells
      go_wp2_with fail
      refine (HBY.out _ HI1.out).mono ?_
      rintro e w1 ⟨rfl, hb1⟩
      have HB1 : Hid (Below w.heap.size w w1) := HBA.out.trans (hb1.mono HBA.out.size)
      clear hb1 d0 d1 d2 d3 d4 d5 d6 d7 d8 d9 d10 d11 d12
      go_wp2_with fail
      refine (HOF.out _).mono ?_
      rintro e w2 ⟨rfl, hb2⟩
      have HB2 : Hid (Below w.heap.size w w2) := HB1.out.trans (hb2.mono HB1.out.size)
      have HB3 : Hid (Below w.heap.size w (w2.alloc (.cells #[.int .i64 0, .int .i64 0, .int .i64 0, .int .i64 0, .int .i64 0, .int .i64 0, .int .i64 0, .int .i64 0, .int .i64 0, .int .i64 0, .int .i64 0, .slice none 0 0, .slice none 0 0] 28))) := HB2.out.alloc HB2.out.size _
      have HZ : Hid ((w2.alloc (.cells #[.int .i64 0, .int .i64 0, .int .i64 0, .int .i64 0, .int .i64 0, .int .i64 0, .int .i64 0, .int .i64 0, .int .i64 0, .int .i64 0, .int .i64 0, .slice none 0 0, .slice none 0 0] 28)).heap[w2.heap.size]? = some (.cells #[.int .i64 0, .int .i64 0, .int .i64 0, .int .i64 0, .int .i64 0, .int .i64 0, .int .i64 0, .int .i64 0, .int .i64 0, .int .i64 0, .int .i64 0, .slice none 0 0, .slice none 0 0] 28 (0, 0))) := heap_alloc_new _ _
      obtain ⟨zb, hzb⟩ : ∃ zb, w2.heap.size = zb := ⟨_, rfl⟩
      rw [hzb] at HZ
      clear hb2
      go_upto_region 8 with fail
      generalize hW3 : w2.alloc (.cells #[.int .i64 0, .int .i64 0, .int .i64 0, .int .i64 0, .int .i64 0, .int .i64 0, .int .i64 0, .int .i64 0, .int .i64 0, .int .i64 0, .int .i64 0, .slice none 0 0, .slice none 0 0] 28) = w3 at HB3 HZ
      clear hW3 hzb
      obtain ⟨z0, z1, z2, z3, z4, z5, z6, z7, z8, z9, z10, z11, z12⟩ := cells13 HZ.out
      go_wp2_with fail
      refine (zero_same _).mono ?_
      rintro e w4 ⟨rfl, hb4⟩
      have HB4 : Hid (Below w.heap.size w w4) := HB3.out.trans (hb4.mono HB3.out.size)
      clear hb4 z0 z1 z2 z3 z4 z5 z6 z7 z8 z9 z10 z11 z12
      go_wp2_with fail
      refine (wawake_ok _).mono ?_
      rintro e w9 ⟨rfl, hb9⟩
      have HB9 : Hid (Below w.heap.size w w9) := HB4.out.trans (hb9.mono HB4.out.size)
      clear hb9
      go_wp2
      go_ret
      exact ⟨rfl, HB9.out⟩
  · rw [hv] at HBY
    clear hv
    rcases hk with rfl | rfl
    all_goals
      go_enter Try.func7, Try.ntmps7
      go_upto_region 1 with fail
      clear hWA
      obtain ⟨d0, d1, d2, d3, d4, d5, d6, d7, d8, d9, d10, d11, d12⟩ := HMB.out.cells
      go_wp2_with fail
      refine (HBY.out _ HI1.out).mono ?_
      rintro e w1 ⟨rfl, hb1⟩
      have HB1 : Hid (Below w.heap.size w w1) := HBA.out.trans (hb1.mono HBA.out.size)
      clear hb1 d0 d1 d2 d3 d4 d5 d6 d7 d8 d9 d10 d11 d12
      go_wp2_with fail
      refine (wawake_ok _).mono ?_
      rintro e w9 ⟨rfl, hb9⟩
      have HB9 : Hid (Below w.heap.size w w9) := HB1.out.trans (hb9.mono HB1.out.size)
      clear hb9
      go_wp2
      go_ret
      exact ⟨rfl, HB9.out⟩
end Go.Proofs.Ytalpbnkmppdgdaa
