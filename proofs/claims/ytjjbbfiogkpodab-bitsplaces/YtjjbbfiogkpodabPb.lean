/- The walk of BitsPlaces. -/
import Derived.Test.YtjjbbfiogkpodabPk
namespace Go.Proofs.Ytjjbbfiogkpodab
open Go.RowKit
set_option linter.unusedVariables false

set_option maxHeartbeats 1000000 in
theorem places_1 (s : ByteArray) (K kn M : Nat) (n more : Int) (w : World) (hK : bits .and .i64 n 255 = (K : Int)) (hM : bits .and .i64 more 31 = (M : Int)) (h256 : K < 256) (h32 : M < 32) (hs : s.size ≤ 140737488351232) (hkn : (K : Int) ≤ 8 * (s.size : Int)) (hk8 : K ≤ 8 * s.size) :
    Calls Try.prog 4 #[.string s, .int .i64 n, .int .i64 more] w fun e w' => e = .returned (.bool true) ∧ Below w.heap.size w w' := by
  have Hs : Hid (s.size ≤ 281474976710656) := by unfold Hid; omega
  go_enter Try.func4, Try.ntmps4
  go_wp2_with fail
  refine (newReader _ _ Hs.out).mono ?_
  rintro e w1 ⟨ba, rfl, hl1, hs1, hr1, hb1⟩
  have HR1 : Hid (RS w1 ba s 0 ∧ w.heap.size ≤ ba ∧ ba < w1.heap.size ∧ Below w.heap.size w w1) := ⟨hr1, hl1, hs1, hb1⟩
  clear hl1 hs1 hr1 hb1
  go_wp2_with fail
  refine (newReader _ _ Hs.out).mono ?_
  rintro e w2 ⟨bb, rfl, hl2, hs2, hr2, hb2⟩
  have HR2 : Hid (RS w2 ba s 0 ∧ RS w2 bb s 0 ∧ ba ≠ bb ∧ w.heap.size ≤ ba ∧ w.heap.size ≤ bb ∧ Below w.heap.size w w2) :=
    ⟨HR1.out.1.below hb2 HR1.out.2.2.1, hr2, by have := HR1.out.2.2.1; omega, HR1.out.2.1, Nat.le_trans HR1.out.2.2.2.size hl2, HR1.out.2.2.2.trans (hb2.mono HR1.out.2.2.2.size)⟩
  clear hl2 hs2 hr2 hb2
  go_wp2
  go_loopw [11] (fun i wr => ∃ j : Nat, j ≤ K ∧ i = .int .i64 j ∧ Hid (RS wr ba s j ∧ RS wr bb s 0 ∧ Below w.heap.size w wr)) (fun i _ => K - (intOf i).toNat)
  case atStart => exact ⟨0, Nat.zero_le _, rfl, HR2.out.1, HR2.out.2.1, HR2.out.2.2.2.2.2⟩
  case round =>
    obtain ⟨j, hj, rfl, hR⟩ := hrel
    by_cases hlt : j < K
    · go_wp2_with fail
      refine (rbit1 ba s j wr (by omega) Hs.out hR.out.1).mono ?_
      rintro e w3 ⟨rfl, hr3, ho3⟩
      have HR3 : Hid (RS w3 ba s (j + 1) ∧ RS w3 bb s 0 ∧ Below w.heap.size w w3) :=
        ⟨hr3, (ho3.block bb (lt_of_block hR.out.2.1) (fun h => HR2.out.2.2.1 h.symm)).trans hR.out.2.1, hR.out.2.2.trans (ho3.below HR2.out.2.2.2.1 hR.out.2.2.size)⟩
      clear hr3 ho3
      go_wp2_with fail
      refine (refBit s j _ (by omega) Hs.out).mono ?_
      rintro e w4 ⟨rfl, hw4⟩
      subst hw4
      go_wp2
      go_roundw
      case rel => exact ⟨j + 1, by omega, by go_num, HR3⟩
      case measure => simp [intOf]; omega
    · obtain rfl : K = j := by omega
      obtain ⟨wo, rfl⟩ : ∃ wo : World, wo = wr := ⟨_, rfl⟩
      go_wp2
      go_loopw [14] (fun i wr => ∃ q : Nat, q ≤ K ∧ i = .int .i64 q ∧ Hid (RS wr ba s K ∧ RS wr bb s q ∧ Below w.heap.size w wr)) (fun i _ => K - (intOf i).toNat)
      case atStart => exact ⟨0, Nat.zero_le _, rfl, hR.out.1, hR.out.2.1, hR.out.2.2⟩
      case round =>
        obtain ⟨q, hq, rfl, hQ⟩ := hrel
        by_cases hlq : q < K
        · obtain ⟨c, hc, hcp, hcq, hc57⟩ : ∃ c : Nat, min (57 : Int) ((K : Int) - (q : Int)) = (c : Int) ∧ 0 < c ∧ q + c ≤ K ∧ c ≤ 57 := ⟨min 57 (K - q), by omega, by omega, by omega, by omega⟩
          go_wp2_with fail
          refine (rbits bb s q c wr hc57 (by omega) Hs.out hQ.out.2.1).mono ?_
          rintro e w3 ⟨rfl, hr3, ho3⟩
          have HR3 : Hid (RS w3 ba s K ∧ RS w3 bb s (q + c) ∧ Below w.heap.size w w3) :=
            ⟨(ho3.block ba (lt_of_block hQ.out.1) HR2.out.2.2.1).trans hQ.out.1, hr3, hQ.out.2.2.trans (ho3.below HR2.out.2.2.2.2.1 hQ.out.2.2.size)⟩
          clear hr3 ho3
          go_wp2
          go_roundw
          case rel => exact ⟨q + c, by omega, by go_num, HR3⟩
          case measure => simp [intOf]; omega
        · obtain rfl : K = q := by omega
          by_cases hmm : K + M ≤ 8 * s.size
          · go_wp2_with fail
            refine (rbits ba s K M wr (by omega) hmm Hs.out hQ.out.1).mono ?_
            rintro e w3 ⟨rfl, hr3, ho3⟩
            have HR3 : Hid (RS w3 ba s (K + M) ∧ RS w3 bb s K ∧ Below w.heap.size w w3) :=
              ⟨hr3, (ho3.block bb (lt_of_block hQ.out.2.1) (fun h => HR2.out.2.2.1 h.symm)).trans hQ.out.2.1, hQ.out.2.2.trans (ho3.below HR2.out.2.2.2.1 hQ.out.2.2.size)⟩
            clear hr3 ho3
            go_wp2_with fail
            refine (rbits bb s K M w3 (by omega) hmm Hs.out HR3.out.2.1).mono ?_
            rintro e w4 ⟨rfl, hr4, ho4⟩
            have HR4 : Hid (RS w4 ba s (K + M) ∧ RS w4 bb s (K + M) ∧ Below w.heap.size w w4) :=
              ⟨(ho4.block ba (lt_of_block HR3.out.1) HR2.out.2.2.1).trans HR3.out.1, hr4, HR3.out.2.2.trans (ho4.below HR2.out.2.2.2.2.1 HR3.out.2.2.size)⟩
            clear hr4 ho4
            go_wp2_with fail
            refine (rplace ba (K + M : Nat) w4 HR4.out.1.cells.1 HR4.out.1.cells.2.2.1).mono ?_
            rintro e w5 ⟨rfl, hw5⟩
            subst hw5
            go_wp2_with fail
            refine (rplace bb (K + M : Nat) _ HR4.out.2.1.cells.1 HR4.out.2.1.cells.2.2.1).mono ?_
            rintro e w6 ⟨rfl, hw6⟩
            subst hw6
            go_wp2_with fail
            refine (awake _).mono ?_
            rintro e w7 ⟨rfl, hb7⟩
            go_wp2
            go_ret
            exact ⟨rfl, HR4.out.2.2.trans (hb7.mono HR4.out.2.2.size)⟩
          · go_wp2_with fail
            refine (rbits_short ba s K M wr (by omega) hk8 (by omega) Hs.out hQ.out.1).mono ?_
            rintro e w3 ⟨rfl, n3, hw3⟩
            have HR3 : Hid (RS w3 ba s K ∧ RS w3 bb s K ∧ Below w.heap.size w w3) := by
              rw [hw3]; exact ⟨hQ.out.1.drewN n3, hQ.out.2.1.drewN n3, below_drewN hQ.out.2.2 n3⟩
            clear hw3
            go_wp2_with fail
            refine (rbits_short bb s K M w3 (by omega) hk8 (by omega) Hs.out HR3.out.2.1).mono ?_
            rintro e w4 ⟨rfl, n4, hw4⟩
            have HR4 : Hid (RS w4 ba s K ∧ RS w4 bb s K ∧ Below w.heap.size w w4) := by
              rw [hw4]; exact ⟨HR3.out.1.drewN n4, HR3.out.2.1.drewN n4, below_drewN HR3.out.2.2 n4⟩
            clear hw4
            go_wp2_with fail
            refine (rplace ba (K : Nat) w4 HR4.out.1.cells.1 HR4.out.1.cells.2.2.1).mono ?_
            rintro e w5 ⟨rfl, hw5⟩
            subst hw5
            go_wp2_with fail
            refine (rplace bb (K : Nat) _ HR4.out.2.1.cells.1 HR4.out.2.1.cells.2.2.1).mono ?_
            rintro e w6 ⟨rfl, hw6⟩
            subst hw6
            go_wp2_with fail
            refine (awake _).mono ?_
            rintro e w7 ⟨rfl, hb7⟩
            go_wp2
            go_ret
            exact ⟨rfl, HR4.out.2.2.trans (hb7.mono HR4.out.2.2.size)⟩
set_option maxHeartbeats 1000000 in
theorem places_2 (s : ByteArray) (K kn M : Nat) (n more : Int) (w : World) (hK : bits .and .i64 n 255 = (K : Int)) (hM : bits .and .i64 more 31 = (M : Int)) (h256 : K < 256) (h32 : M < 32) (hs : s.size ≤ 140737488351232) (hkn : 8 * (s.size : Int) = (kn : Int)) (hltK : kn < K) (hk8 : kn ≤ 8 * s.size) :
    Calls Try.prog 4 #[.string s, .int .i64 n, .int .i64 more] w fun e w' => e = .returned (.bool true) ∧ Below w.heap.size w w' := by
  have Hs : Hid (s.size ≤ 281474976710656) := by unfold Hid; omega
  go_enter Try.func4, Try.ntmps4
  go_wp2_with fail
  refine (newReader _ _ Hs.out).mono ?_
  rintro e w1 ⟨ba, rfl, hl1, hs1, hr1, hb1⟩
  have HR1 : Hid (RS w1 ba s 0 ∧ w.heap.size ≤ ba ∧ ba < w1.heap.size ∧ Below w.heap.size w w1) := ⟨hr1, hl1, hs1, hb1⟩
  clear hl1 hs1 hr1 hb1
  go_wp2_with fail
  refine (newReader _ _ Hs.out).mono ?_
  rintro e w2 ⟨bb, rfl, hl2, hs2, hr2, hb2⟩
  have HR2 : Hid (RS w2 ba s 0 ∧ RS w2 bb s 0 ∧ ba ≠ bb ∧ w.heap.size ≤ ba ∧ w.heap.size ≤ bb ∧ Below w.heap.size w w2) :=
    ⟨HR1.out.1.below hb2 HR1.out.2.2.1, hr2, by have := HR1.out.2.2.1; omega, HR1.out.2.1, Nat.le_trans HR1.out.2.2.2.size hl2, HR1.out.2.2.2.trans (hb2.mono HR1.out.2.2.2.size)⟩
  clear hl2 hs2 hr2 hb2
  go_wp2
  go_loopw [11] (fun i wr => ∃ j : Nat, j ≤ kn ∧ i = .int .i64 j ∧ Hid (RS wr ba s j ∧ RS wr bb s 0 ∧ Below w.heap.size w wr)) (fun i _ => kn - (intOf i).toNat)
  case atStart => exact ⟨0, Nat.zero_le _, rfl, HR2.out.1, HR2.out.2.1, HR2.out.2.2.2.2.2⟩
  case round =>
    obtain ⟨j, hj, rfl, hR⟩ := hrel
    by_cases hlt : j < kn
    · go_wp2_with fail
      refine (rbit1 ba s j wr (by omega) Hs.out hR.out.1).mono ?_
      rintro e w3 ⟨rfl, hr3, ho3⟩
      have HR3 : Hid (RS w3 ba s (j + 1) ∧ RS w3 bb s 0 ∧ Below w.heap.size w w3) :=
        ⟨hr3, (ho3.block bb (lt_of_block hR.out.2.1) (fun h => HR2.out.2.2.1 h.symm)).trans hR.out.2.1, hR.out.2.2.trans (ho3.below HR2.out.2.2.2.1 hR.out.2.2.size)⟩
      clear hr3 ho3
      go_wp2_with fail
      refine (refBit s j _ (by omega) Hs.out).mono ?_
      rintro e w4 ⟨rfl, hw4⟩
      subst hw4
      go_wp2
      go_roundw
      case rel => exact ⟨j + 1, by omega, by go_num, HR3⟩
      case measure => simp [intOf]; omega
    · obtain rfl : kn = j := by omega
      obtain ⟨wo, rfl⟩ : ∃ wo : World, wo = wr := ⟨_, rfl⟩
      go_wp2
      go_loopw [14] (fun i wr => ∃ q : Nat, q ≤ kn ∧ i = .int .i64 q ∧ Hid (RS wr ba s kn ∧ RS wr bb s q ∧ Below w.heap.size w wr)) (fun i _ => kn - (intOf i).toNat)
      case atStart => exact ⟨0, Nat.zero_le _, rfl, hR.out.1, hR.out.2.1, hR.out.2.2⟩
      case round =>
        obtain ⟨q, hq, rfl, hQ⟩ := hrel
        by_cases hlq : q < kn
        · obtain ⟨c, hc, hcp, hcq, hc57⟩ : ∃ c : Nat, min (57 : Int) ((kn : Int) - (q : Int)) = (c : Int) ∧ 0 < c ∧ q + c ≤ kn ∧ c ≤ 57 := ⟨min 57 (kn - q), by omega, by omega, by omega, by omega⟩
          go_wp2_with fail
          refine (rbits bb s q c wr hc57 (by omega) Hs.out hQ.out.2.1).mono ?_
          rintro e w3 ⟨rfl, hr3, ho3⟩
          have HR3 : Hid (RS w3 ba s kn ∧ RS w3 bb s (q + c) ∧ Below w.heap.size w w3) :=
            ⟨(ho3.block ba (lt_of_block hQ.out.1) HR2.out.2.2.1).trans hQ.out.1, hr3, hQ.out.2.2.trans (ho3.below HR2.out.2.2.2.2.1 hQ.out.2.2.size)⟩
          clear hr3 ho3
          go_wp2
          go_roundw
          case rel => exact ⟨q + c, by omega, by go_num, HR3⟩
          case measure => simp [intOf]; omega
        · obtain rfl : kn = q := by omega
          by_cases hmm : kn + M ≤ 8 * s.size
          · go_wp2_with fail
            refine (rbits ba s kn M wr (by omega) hmm Hs.out hQ.out.1).mono ?_
            rintro e w3 ⟨rfl, hr3, ho3⟩
            have HR3 : Hid (RS w3 ba s (kn + M) ∧ RS w3 bb s kn ∧ Below w.heap.size w w3) :=
              ⟨hr3, (ho3.block bb (lt_of_block hQ.out.2.1) (fun h => HR2.out.2.2.1 h.symm)).trans hQ.out.2.1, hQ.out.2.2.trans (ho3.below HR2.out.2.2.2.1 hQ.out.2.2.size)⟩
            clear hr3 ho3
            go_wp2_with fail
            refine (rbits bb s kn M w3 (by omega) hmm Hs.out HR3.out.2.1).mono ?_
            rintro e w4 ⟨rfl, hr4, ho4⟩
            have HR4 : Hid (RS w4 ba s (kn + M) ∧ RS w4 bb s (kn + M) ∧ Below w.heap.size w w4) :=
              ⟨(ho4.block ba (lt_of_block HR3.out.1) HR2.out.2.2.1).trans HR3.out.1, hr4, HR3.out.2.2.trans (ho4.below HR2.out.2.2.2.2.1 HR3.out.2.2.size)⟩
            clear hr4 ho4
            go_wp2_with fail
            refine (rplace ba (kn + M : Nat) w4 HR4.out.1.cells.1 HR4.out.1.cells.2.2.1).mono ?_
            rintro e w5 ⟨rfl, hw5⟩
            subst hw5
            go_wp2_with fail
            refine (rplace bb (kn + M : Nat) _ HR4.out.2.1.cells.1 HR4.out.2.1.cells.2.2.1).mono ?_
            rintro e w6 ⟨rfl, hw6⟩
            subst hw6
            go_wp2_with fail
            refine (awake _).mono ?_
            rintro e w7 ⟨rfl, hb7⟩
            go_wp2
            go_ret
            exact ⟨rfl, HR4.out.2.2.trans (hb7.mono HR4.out.2.2.size)⟩
          · go_wp2_with fail
            refine (rbits_short ba s kn M wr (by omega) hk8 (by omega) Hs.out hQ.out.1).mono ?_
            rintro e w3 ⟨rfl, n3, hw3⟩
            have HR3 : Hid (RS w3 ba s kn ∧ RS w3 bb s kn ∧ Below w.heap.size w w3) := by
              rw [hw3]; exact ⟨hQ.out.1.drewN n3, hQ.out.2.1.drewN n3, below_drewN hQ.out.2.2 n3⟩
            clear hw3
            go_wp2_with fail
            refine (rbits_short bb s kn M w3 (by omega) hk8 (by omega) Hs.out HR3.out.2.1).mono ?_
            rintro e w4 ⟨rfl, n4, hw4⟩
            have HR4 : Hid (RS w4 ba s kn ∧ RS w4 bb s kn ∧ Below w.heap.size w w4) := by
              rw [hw4]; exact ⟨HR3.out.1.drewN n4, HR3.out.2.1.drewN n4, below_drewN HR3.out.2.2 n4⟩
            clear hw4
            go_wp2_with fail
            refine (rplace ba (kn : Nat) w4 HR4.out.1.cells.1 HR4.out.1.cells.2.2.1).mono ?_
            rintro e w5 ⟨rfl, hw5⟩
            subst hw5
            go_wp2_with fail
            refine (rplace bb (kn : Nat) _ HR4.out.2.1.cells.1 HR4.out.2.1.cells.2.2.1).mono ?_
            rintro e w6 ⟨rfl, hw6⟩
            subst hw6
            go_wp2_with fail
            refine (awake _).mono ?_
            rintro e w7 ⟨rfl, hb7⟩
            go_wp2
            go_ret
            exact ⟨rfl, HR4.out.2.2.trans (hb7.mono HR4.out.2.2.size)⟩
theorem places_any (s : ByteArray) (n more : Int) (w : World) (hs : s.size ≤ 140737488351232) (_ : (Lit.int .i64 n).wf = true) (_ : (Lit.int .i64 more).wf = true) :
    Calls Try.prog 4 #[.string s, .int .i64 n, .int .i64 more] w fun e w' => e = .returned (.bool true) ∧ Below w.heap.size w w' := by
  obtain ⟨K, hK256, hK⟩ := and255i n
  obtain ⟨M, hM32, hM⟩ := and31 more
  by_cases h : K ≤ 8 * s.size
  · exact places_1 s K K M n more w hK hM hK256 hM32 hs (by omega) h
  · exact places_2 s K (8 * s.size) M n more w hK hM hK256 hM32 hs (by omega) (by omega) (Nat.le_refl _)
end Go.Proofs.Ytjjbbfiogkpodab
