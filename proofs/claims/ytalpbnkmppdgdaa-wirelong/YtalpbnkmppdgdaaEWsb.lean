/- The walk of WireLong. -/
import Derived.Test.YtalpbnkmppdgdaaEWsa
namespace Go.Proofs.Ytalpbnkmppdgdaa
open Go.RowKit
set_option linter.unusedVariables false

set_option maxHeartbeats 4000000 in
theorem wlong_walk (many long : Int) (w : World) :
    Calls Try.prog 6 #[.int .i64 many, .int .i64 long] w fun e w' => e = .returned (.bool true) ∧ Below w.heap.size w w' := by
  obtain ⟨n, hn, hne⟩ := and15 many
  obtain ⟨k, hk, hke⟩ := and3ffff long
  obtain ⟨i0, hi, hz0, hz1, hz2⟩ := info_split strInfo
  have HI : Hid (Try.prog.info? 9 = some i0 ∧ i0.zero = some (.string ⟨#[]⟩) ∧ i0.size = 1 ∧ i0.bytes = 16) := ⟨hi, hz0, hz1, hz2⟩
  clear hi hz0 hz1 hz2
  have hBA : Below w.heap.size w (w.alloc (.cells #[.int .i64 8, .int .i64 0, .int .i64 0, .int .i64 0, .int .i64 0, .int .i64 0, .int .i64 0, .int .i64 0, .int .i64 0, .int .i64 0, .int .i64 0, .slice none 0 0, .slice none 0 0] 28)) := (Below.refl _ _).alloc (Nat.le_refl _) _
  have hMA : (w.alloc (.cells #[.int .i64 8, .int .i64 0, .int .i64 0, .int .i64 0, .int .i64 0, .int .i64 0, .int .i64 0, .int .i64 0, .int .i64 0, .int .i64 0, .int .i64 0, .slice none 0 0, .slice none 0 0] 28)).heap[w.heap.size]? = some (.cells #[.int .i64 8, .int .i64 0, .int .i64 0, .int .i64 0, .int .i64 0, .int .i64 0, .int .i64 0, .int .i64 0, .int .i64 0, .int .i64 0, .int .i64 0, .slice none 0 0, .slice none 0 0] 28 (0, 0)) := heap_alloc_new _ _
  have HBA : Hid (Below w.heap.size w (w.alloc (.cells #[.int .i64 8, .int .i64 0, .int .i64 0, .int .i64 0, .int .i64 0, .int .i64 0, .int .i64 0, .int .i64 0, .int .i64 0, .int .i64 0, .int .i64 0, .slice none 0 0, .slice none 0 0] 28))) := hBA
  have HMA : Hid ((w.alloc (.cells #[.int .i64 8, .int .i64 0, .int .i64 0, .int .i64 0, .int .i64 0, .int .i64 0, .int .i64 0, .int .i64 0, .int .i64 0, .int .i64 0, .int .i64 0, .slice none 0 0, .slice none 0 0] 28)).heap[w.heap.size]? = some (.cells #[.int .i64 8, .int .i64 0, .int .i64 0, .int .i64 0, .int .i64 0, .int .i64 0, .int .i64 0, .int .i64 0, .int .i64 0, .int .i64 0, .int .i64 0, .slice none 0 0, .slice none 0 0] 28 (0, 0))) := hMA
  clear hBA hMA
  have HNE : Hid (bits .and .i64 many 15 = (n : Int)) := hne
  have HKE : Hid (bits .and .i64 long 262143 = (k : Int)) := hke
  go_enter Try.func6, Try.ntmps6
  go_upto_region 3 with fail
  clear hne hke HNE HKE
  generalize hWA : w.alloc (.cells #[.int .i64 8, .int .i64 0, .int .i64 0, .int .i64 0, .int .i64 0, .int .i64 0, .int .i64 0, .int .i64 0, .int .i64 0, .int .i64 0, .int .i64 0, .slice none 0 0, .slice none 0 0] 28) = wA at HBA HMA
  clear hWA
  obtain ⟨w1, hmk, hob, hb1⟩ := zeros_made k wA (by omega)
  have hcv := conv_mk w1 wA.heap.size _ _ hob
  have hts : (mk (List.replicate k 0)).size = k := by rw [mk_size, List.length_replicate]
  obtain ⟨t, ht⟩ : ∃ t, mk (List.replicate k 0) = t := ⟨_, rfl⟩
  rw [ht] at hcv hts
  have HST : Hid (LG w w1 w.heap.size w1.heap.size (.slice none 0 0) []) := ⟨(hb1.block _ (lt_of_block HMA.out)).trans HMA.out, OT.nil _ _, HBA.out.trans (hb1.mono HBA.out.size), Nat.le_refl _, Nat.lt_of_lt_of_le (lt_of_block HMA.out) hb1.size, Nat.le_refl _⟩
  clear ht hob hb1 HBA HMA
  obtain ⟨C, hC⟩ : ∃ C, w1.heap.size = C := ⟨_, rfl⟩
  rw [hC] at HST
  go_wp2
  clear hmk hcv hC
  go_loopw [9] (fun i wr => ∃ (j : Nat) (V : Value), i = .int .i64 (j : Nat) ∧ j ≤ n ∧ LG w wr w.heap.size C V (List.replicate j t)) (fun i _ => n - (intOf i).toNat)
  case atStart => exact ⟨0, _, rfl, Nat.zero_le _, HST.out⟩
  case round =>
    clear HST
    obtain ⟨j, V, rfl, hj, hlg⟩ := hrel
    have HLG : Hid (LG w wr w.heap.size C V (List.replicate j t)) := hlg
    have c11 := hlg.at11
    by_cases hlt : j < n
    · have hlti : (j : Int) < (n : Int) := by omega
      have HOW : Hid (∀ o, (wr.alloc o).ownsRow C 9 1 V j ((List.replicate j t).map Value.string) ∧ C ≤ (wr.alloc o).heap.size) := fun o => by
        have h1 : OT (wr.alloc o) C V (List.replicate j t) := hlg.own.keep (fun k hk hk2 => ((Below.refl wr.heap.size wr).alloc (Nat.le_refl _) o).block k hk2)
        have h2 : (wr.alloc o).ownsRow C 9 1 V (List.replicate j t).length ((List.replicate j t).map Value.string) := h1
        rw [List.length_replicate] at h2
        exact ⟨h2, by have := hlg.big; simp; omega⟩
      clear hlg
      go_wp2_with (at_builtin; refine wpList_append_lies _ rfl _ _ 25 rfl C 9 i0 (.string ⟨#[]⟩) 1 16 Try.underlying25 HI.out.1 HI.out.2.1 HI.out.2.2.1 HI.out.2.2.2 rfl (by decide) V j ((List.replicate j t).map Value.string) rfl (HOW.out _).1 ⟨wr.heap.size, 0, none⟩ 1 1 [.string t] rfl rfl (news1 _ _ _) (one1 _) (by decide) (by unfold maxLen; omega) (by omega) (HOW.out _).2 _ rfl ?_; intro g5 cap5 w5 hown hgrow hat hgl; obtain ⟨k4, k5, hnx⟩ := HLG.out.next (t := t) (by rw [List.length_replicate]; exact hown) hgrow; have HNX : Hid _ := hnx; clear hown hgrow hat hgl hnx c11)
      go_roundw
      case rel =>
        refine ⟨j + 1, .slice (some ⟨g5, 0, none⟩) (j + 1) cap5, by go_num, by omega, ?_⟩
        have := HNX.out
        rw [List.length_replicate, ← List.replicate_succ'] at this
        exact this
      case measure => simp [intOf]; omega
    · obtain rfl : j = n := by omega
      obtain ⟨la, lc, hV, hTI⟩ := hlg.own.slice
      rw [List.length_replicate] at hV
      subst hV
      have HMM : Hid (MB wr w.heap.size (longM j t) ⟨la, lc, none, 0⟩) := by
        have := hlg.hm
        show wr.heap[w.heap.size]? = some (.cells #[_, _, _, _, _, _, _, _, _, _, _, .slice la (List.replicate j t).length lc, _] _ _)
        rw [List.length_replicate]
        exact this
      have HIN : Hid (MIn wr (longM j t) ⟨la, lc, none, 0⟩) := ⟨hTI, RIn.nil _ _, (fun y hy => by rw [List.eq_of_mem_replicate hy, hts]; omega), (fun r hr => by cases hr), by show (List.replicate j t).length ≤ _; rw [List.length_replicate]; omega, Nat.zero_le _⟩
      have HBW : Hid (Below w.heap.size w wr) := hlg.bel
      have hlen := longM_len j k t hn hts hk
      have hmay := longM_may j t hn (by omega)
      clear hlg hTI HLG HI c11 hlt hj
      have hij : ¬ (j : Int) < (j : Int) := by omega
      obtain ⟨k3, hk3⟩ : ∃ k3, k + 3 = k3 := ⟨_, rfl⟩
      obtain ⟨P, hP⟩ : ∃ P, j * k3 = P := ⟨_, rfl⟩
      obtain ⟨Q, hQ⟩ : ∃ Q, j * k = Q := ⟨_, rfl⟩
      obtain ⟨L, hL⟩ : ∃ L, (msgL (longM j t)).length = L := ⟨_, rfl⟩
      have hPb : P ≤ 15 * 262146 := by rw [← hP]; exact Nat.mul_le_mul hn (by omega)
      have hQb : Q ≤ 15 * 262143 := by rw [← hQ]; exact Nat.mul_le_mul hn hk
      rw [hL, hk3, hP, hQ] at hlen
      obtain ⟨hlen1, hlen2⟩ := hlen
      have hPi : (j : Int) * (k3 : Int) = (P : Int) := by rw [← hP]; exact (Int.natCast_mul j k3).symm
      have hQi : (j : Int) * (k : Int) = (Q : Int) := by rw [← hQ]; exact (Int.natCast_mul j k).symm
      have e1 : IntKind.i64.wrap ((k : Int) + 3) = (k3 : Int) := by rw [IntKind.wrap_i64]; omega
      have e2 : IntKind.i64.wrap ((j : Int) * (k3 : Int)) = (P : Int) := by rw [hPi, IntKind.wrap_i64]; omega
      have e3 : IntKind.i64.wrap ((j : Int) * (k : Int)) = (Q : Int) := by rw [hQi, IntKind.wrap_i64]; omega
      have e4 : IntKind.i64.wrap ((P : Int) + 40) = (P : Int) + 40 := by rw [IntKind.wrap_i64]; omega
      have HBY : Hid (∀ W, MIn W (longM j t) ⟨la, lc, none, 0⟩ → Calls Try.prog 9 #[.agg #[.int .i64 8, .int .i64 0, .int .i64 0, .int .i64 0, .int .i64 0, .int .i64 0, .int .i64 0, .int .i64 0, .int .i64 0, .int .i64 0, .int .i64 0, .slice la j lc, .slice none 0 0]] W fun e w' => e = .returned (bytesW (longM j t)) ∧ Below W.heap.size W w') := fun W h => by
        have := wbytes_ok (longM j t) ⟨la, lc, none, 0⟩ W h
        unfold Msg.v Msg.cs at this
        simp only [List.length_replicate] at this
        exact this
      obtain ⟨d0, d1, d2, d3, d4, d5, d6, d7, d8, d9, d10, d11, d12⟩ := HMM.out.cells
      simp only [List.length_replicate, List.length_nil] at d0 d1 d2 d3 d4 d5 d6 d7 d8 d9 d10 d11 d12
      have HML : Hid ((mk (msgL (longM j t))).size = L ∧ (msgL (longM j t)).length = L) := ⟨by rw [mk_size]; exact hL, hL⟩
      have HMY : Hid (mayM (longM j t) = true) := hmay
      clear hk3 hP hQ hL hPi hQi hmay hn hk hts HMM
      by_cases hA : 1048576 < P
      · have a1 : decide ((1048576 : Int) < (P : Int)) = true := decide_eq_true (by omega)
        by_cases hB : L ≤ 1048576
        · rw [bytesW_good HMY.out (by rw [HML.out.2]; exact hB)] at HBY
          have a2 : decide ((L : Int) ≤ 1048576) = true := decide_eq_true (by omega)
          have hzs := HML.out.1
          generalize mk (msgL (longM j t)) = z at HBY hzs
          clear hA hB hlen1 hlen2 hPb hQb HML
          go_wp2_with fail
          refine (HBY.out _ HIN.out).mono ?_
          rintro e w8 ⟨rfl, hb8⟩
          have HB8 : Hid (Below w.heap.size w w8) := HBW.out.trans (hb8.mono HBW.out.size)
          clear hb8 d0 d1 d2 d3 d4 d5 d6 d7 d8 d9 d10 d11 d12
          go_wp2_with fail
          refine (wawake_ok _).mono ?_
          rintro e w9 ⟨rfl, hb9⟩
          have HB9 : Hid (Below w.heap.size w w9) := HB8.out.trans (hb9.mono HB8.out.size)
          clear hb9
          go_wp2
          go_ret
          exact ⟨rfl, HB9.out⟩
        · rw [bytesW_long HMY.out (by rw [HML.out.2]; exact hB)] at HBY
          clear hA hB hlen1 hlen2 hPb hQb HML
          go_wp2_with fail
          refine (HBY.out _ HIN.out).mono ?_
          rintro e w8 ⟨rfl, hb8⟩
          have HB8 : Hid (Below w.heap.size w w8) := HBW.out.trans (hb8.mono HBW.out.size)
          clear hb8 d0 d1 d2 d3 d4 d5 d6 d7 d8 d9 d10 d11 d12
          go_wp2_with fail
          refine (wawake_ok _).mono ?_
          rintro e w9 ⟨rfl, hb9⟩
          have HB9 : Hid (Below w.heap.size w w9) := HB8.out.trans (hb9.mono HB8.out.size)
          clear hb9
          go_wp2
          go_ret
          exact ⟨rfl, HB9.out⟩
      · have a1 : decide ((1048576 : Int) < (P : Int)) = false := decide_eq_false (by omega)
        by_cases hB : L ≤ 1048576
        · rw [bytesW_good HMY.out (by rw [HML.out.2]; exact hB)] at HBY
          have a2 : decide (Q ≤ L) = true := decide_eq_true (by omega)
          have hzs := HML.out.1
          generalize mk (msgL (longM j t)) = z at HBY hzs
          clear hA hB hlen1 hlen2 hPb hQb HML
          go_wp2_with fail
          refine (HBY.out _ HIN.out).mono ?_
          rintro e w8 ⟨rfl, hb8⟩
          have HB8 : Hid (Below w.heap.size w w8) := HBW.out.trans (hb8.mono HBW.out.size)
          clear hb8 d0 d1 d2 d3 d4 d5 d6 d7 d8 d9 d10 d11 d12
          go_wp2_with fail
          refine (wawake_ok _).mono ?_
          rintro e w9 ⟨rfl, hb9⟩
          have HB9 : Hid (Below w.heap.size w w9) := HB8.out.trans (hb9.mono HB8.out.size)
          clear hb9
          go_wp2
          go_ret
          exact ⟨rfl, HB9.out⟩
        · rw [bytesW_long HMY.out (by rw [HML.out.2]; exact hB)] at HBY
          have a2 : decide ((1048576 : Int) < (P : Int) + 40) = true := decide_eq_true (by omega)
          clear hA hB hlen1 hlen2 hPb hQb HML
          go_wp2_with fail
          refine (HBY.out _ HIN.out).mono ?_
          rintro e w8 ⟨rfl, hb8⟩
          have HB8 : Hid (Below w.heap.size w w8) := HBW.out.trans (hb8.mono HBW.out.size)
          clear hb8 d0 d1 d2 d3 d4 d5 d6 d7 d8 d9 d10 d11 d12
          go_wp2_with fail
          refine (wawake_ok _).mono ?_
          rintro e w9 ⟨rfl, hb9⟩
          have HB9 : Hid (Below w.heap.size w w9) := HB8.out.trans (hb9.mono HB8.out.size)
          clear hb9
          go_wp2
          go_ret
          exact ⟨rfl, HB9.out⟩
end Go.Proofs.Ytalpbnkmppdgdaa
