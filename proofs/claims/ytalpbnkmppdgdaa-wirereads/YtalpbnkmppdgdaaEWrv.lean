/- The document's May of messages. -/
import Derived.Test.YtalpbnkmppdgdaaEWru
namespace Go.Proofs.Ytalpbnkmppdgdaa
open Go.RowKit
set_option linter.unusedVariables false

set_option maxHeartbeats 4000000 in
theorem wmay_ok (m : Msg) (s : Spot) (w : World) (hin : MIn w m s) :
    Calls Try.prog 22 #[m.v s] w fun e w' => e = .returned (.bool (mayM m)) ∧ Below w.heap.size w w' := by
  have HIN : Hid (MIn w m s) := hin
  have hll := hin.ll
  have hbl := hin.bl
  have HN : Hid (∀ W, Calls Try.prog 23 #[m.v s] W fun e w' => ∃ nb, e = .returned (.slice (some ⟨nb, 0, none⟩) 11 11) ∧ W.heap.size ≤ nb ∧ NB w' nb m ∧ Below W.heap.size W w') := fun W => rnumbers_ok m s W
  obtain ⟨rv, hrv⟩ : ∃ rv, mayM m = rv := ⟨_, rfl⟩
  have HRV : Hid (mayM m = rv) := hrv
  rw [hrv]
  clear hrv hin
  have HBA : Hid (Below w.heap.size w (w.alloc (.cells (m.cs s) 28))) := (Below.refl _ _).alloc (Nat.le_refl _) _
  have HMB : Hid (MB (w.alloc (.cells (m.cs s) 28)) w.heap.size m s) := heap_alloc_new _ _
  obtain ⟨mb, hmb⟩ : ∃ mb, w.heap.size = mb := ⟨_, rfl⟩
  rw [hmb] at HMB
  generalize hWA : (w.alloc (.cells (m.cs s) 28)) = wA at HMB HBA
  go_enter Try.func22, Try.ntmps22
  go_upto_region 1 with fail
  clear hWA
  obtain ⟨d0, d1, d2, d3, d4, d5, d6, d7, d8, d9, d10, d11, d12⟩ := HMB.out.cells
  go_wp2_with fail
  refine (HN.out _).mono ?_
  rintro e w1 ⟨nb, rfl, hnb, hna, hb1⟩
  have hBa : Below w1.heap.size w1 (w1.alloc (.cells #[.int .i64 10, .int .i64 255, .int .i64 255, .int .i64 1099511627776, .int .i64 1099511627776, .int .i64 1099511627776, .int .i64 1099511627776, .int .i64 999, .int .i64 1099511627776, .int .i64 1099511627776, .int .i64 1099511627776] 3)) := (Below.refl _ _).alloc (Nat.le_refl _) _
  have HYS : Hid (YS w (w1.alloc (.cells #[.int .i64 10, .int .i64 255, .int .i64 255, .int .i64 1099511627776, .int .i64 1099511627776, .int .i64 1099511627776, .int .i64 1099511627776, .int .i64 999, .int .i64 1099511627776, .int .i64 1099511627776, .int .i64 1099511627776] 3)) m s mb nb w1.heap.size) :=
    ⟨(HMB.out.below hb1).below hBa, (hBa.block _ (lt_of_block hna)).trans hna, heap_alloc_new _ _, (HBA.out.trans (hb1.mono HBA.out.size)).trans (hBa.mono (HBA.out.trans (hb1.mono HBA.out.size)).size)⟩
  clear hnb hna hb1 hBa d0 d1 d2 d3 d4 d5 d6 d7 d8 d9 d10 d11 d12 HBA HMB HN
  obtain ⟨lb, hlb⟩ : ∃ lb, w1.heap.size = lb := ⟨_, rfl⟩
  rw [hlb] at HYS
  generalize hW2 : w1.alloc (.cells #[.int .i64 10, .int .i64 255, .int .i64 255, .int .i64 1099511627776, .int .i64 1099511627776, .int .i64 1099511627776, .int .i64 1099511627776, .int .i64 999, .int .i64 1099511627776, .int .i64 1099511627776, .int .i64 1099511627776] 3) = w2 at HYS
  go_wp2
  clear hW2 hlb
  go_loopw [5] (fun i wr => ∃ (j : Nat), i = .int .i64 (j : Nat) ∧ j ≤ 11 ∧ (∀ k, k < j → okAt m k) ∧ YS w wr m s mb nb lb) (fun i _ => 11 - (intOf i).toNat)
  case atStart => exact ⟨0, rfl, Nat.zero_le _, (fun k hk => by omega), HYS.out⟩
  case round =>
    clear HYS
    obtain ⟨j, rfl, hj, hall, hss⟩ := hrel
    have HYS : Hid (YS w wr m s mb nb lb) := hss
    have HALL : Hid (∀ k, k < j → okAt m k) := hall
    clear hall hss
    by_cases hlt : j < 11
    · obtain ⟨p, hp⟩ : ∃ p, m.ns[j]? = some p := ⟨m.ns[j]'(by show j < 11; exact hlt), List.getElem?_eq_getElem _⟩
      obtain ⟨q, hq⟩ : ∃ q, lims[j]? = some q := ⟨lims[j]'(by show j < 11; exact hlt), List.getElem?_eq_getElem _⟩
      have c0 := (NIn.of HYS.out.na) j p hp
      have d0 := (NIn.of HYS.out.li) j q hq
      have hlti : (j : Int) < 11 := by omega
      by_cases h1 : p < 0
      · have HV : Hid (rv = false) := by
          rw [← HRV.out]
          refine mayM_nums (fun h => ?_)
          have := (numsB_lims.1 h).1 j hlt p q hp hq
          omega
        clear hp hq
        go_wp2_with fail
        go_region
        go_wp2
        go_ret
        exact ⟨by rw [HV.out]; rfl, HYS.out.bel.drew⟩
      · by_cases h2 : q < p
        · have HV : Hid (rv = false) := by
            rw [← HRV.out]
            refine mayM_nums (fun h => ?_)
            have := (numsB_lims.1 h).1 j hlt p q hp hq
            omega
          have k1 : decide (p < 0) = false := decide_eq_false h1
          have k2 : decide (q < p) = true := decide_eq_true h2
          clear hp hq h1 h2
          go_wp2_with fail
          go_region
          go_wp2
          go_ret
          exact ⟨by rw [HV.out]; rfl, HYS.out.bel.drew⟩
        · have HN : Hid (∀ k, k < j + 1 → okAt m k) := fun k hk => by
            rcases Nat.lt_or_ge k j with h | h
            · exact HALL.out k h
            · obtain rfl : k = j := by omega
              intro p' q' hp' hq'
              rw [hp] at hp'
              rw [hq] at hq'
              cases hp'
              cases hq'
              omega
          have k1 : decide (p < 0) = false := decide_eq_false h1
          have k2 : decide (q < p) = false := decide_eq_false h2
          clear hp hq h1 h2
          go_wp2_with fail
          go_region
          go_wp2
          go_roundw
          case rel => exact ⟨j + 1, by go_num, by omega, HN.out, HYS.out.drew⟩
          case measure => simp [intOf]; omega
    · obtain rfl : j = 11 := by omega
      obtain ⟨d0, d1, d2, d3, d4, d5, d6, d7, d8, d9, d10, d11, d12⟩ := HYS.out.ma.cells
      clear d1 d2 d3 d4 d5 d6 d7 d8 d9 d10 hlt hj
      obtain ⟨len, hlen⟩ : ∃ len, m.log.length = len := ⟨_, rfl⟩
      obtain ⟨len2, hlen2⟩ : ∃ len, m.body.length = len := ⟨_, rfl⟩
      have HLL : Hid (m.log.length = len ∧ m.body.length = len2) := ⟨hlen, hlen2⟩
      rw [hlen] at d11 hll
      rw [hlen2] at d12 hbl
      clear hlen hlen2
      by_cases hk : m.kind < 1
      · have HV : Hid (rv = false) := by
          rw [← HRV.out]
          refine mayM_nums (fun h => ?_)
          have := (numsB_lims.1 h).2
          omega
        have k1 : decide (m.kind < 1) = true := decide_eq_true hk
        clear hk
        go_wp2
        go_ret
        exact ⟨by rw [HV.out]; rfl, HYS.out.bel⟩
      · have HNB : Hid (numsB m = true) := numsB_lims.2 ⟨HALL.out, by omega⟩
        have k1 : decide (m.kind < 1) = false := decide_eq_false hk
        clear hk HALL
        by_cases hl : len ≤ 4096
        · have k2 : decide ((4096 : Int) < (len : Int)) = false := decide_eq_false (by omega)
          by_cases hb : len2 ≤ 256
          · have k3 : decide ((256 : Int) < (len2 : Int)) = false := decide_eq_false (by omega)
            have HLB : Hid (m.log.length ≤ 4096 ∧ m.body.length ≤ 256) := by rw [HLL.out.1, HLL.out.2]; exact ⟨hl, hb⟩
            clear hl hb
            go_wp2
            clear k1 k2 k3 d0 d11 d12
            go_loopw [6] (fun i wr => ∃ (M T : List ByteArray), i = .int .i64 (M.length : Nat) ∧ m.log = M ++ T ∧ (∀ t ∈ M, t.size ≤ 262154) ∧ YS w wr m s mb nb lb) (fun i _ => len - (intOf i).toNat)
            case atStart => exact ⟨[], m.log, rfl, rfl, (fun t ht => by cases ht), HYS.out⟩
            case round =>
              clear HYS
              obtain ⟨M, T, rfl, hT, hall, hys⟩ := hrel
              have HYS : Hid (YS w wr m s mb nb lb) := hys
              have HT : Hid (m.log = M ++ T) := hT
              have HALL : Hid (∀ t ∈ M, t.size ≤ 262154) := hall
              clear hT hall hys
              obtain ⟨d0, d1, d2, d3, d4, d5, d6, d7, d8, d9, d10, d11, d12⟩ := HYS.out.ma.cells
              clear d0 d1 d2 d3 d4 d5 d6 d7 d8 d9 d10
              rw [HLL.out.1] at d11
              rw [HLL.out.2] at d12
              cases T with
              | nil =>
                have hM : m.log = M := by rw [HT.out, List.append_nil]
                have hML : M.length = len := by have := HLL.out.1; rw [hM] at this; exact this
                have HLO : Hid (logB m.log = true) := by refine (logB_iff _).2 ⟨HLB.out.1, ?_⟩; rw [hM]; exact HALL.out
                clear hM
                go_wp2
                clear d11 d12 hML
                go_loopw [7] (fun i wr => ∃ (M T : List Rec), i = .int .i64 (M.length : Nat) ∧ m.body = M ++ T ∧ bodyF M 0 = true ∧ YS w wr m s mb nb lb) (fun i _ => len2 - (intOf i).toNat)
                case atStart => exact ⟨[], m.body, rfl, rfl, rfl, HYS.out⟩
                case round =>
                  clear HYS HT HALL
                  obtain ⟨M, T, rfl, hT, hall, hys⟩ := hrel
                  have HYS : Hid (YS w wr m s mb nb lb) := hys
                  have HT : Hid (m.body = M ++ T) := hT
                  have HALL : Hid (bodyF M 0 = true) := hall
                  clear hT hall hys
                  obtain ⟨d0, d1, d2, d3, d4, d5, d6, d7, d8, d9, d10, d11, d12⟩ := HYS.out.ma.cells
                  clear d0 d1 d2 d3 d4 d5 d6 d7 d8 d9 d10 d11
                  rw [HLL.out.2] at d12
                  cases T with
                  | nil =>
                    have hM : m.body = M := by rw [HT.out, List.append_nil]
                    have hML : M.length = len2 := by have := HLL.out.2; rw [hM] at this; exact this
                    have HV : Hid (rv = true) := by
                      rw [← HRV.out]
                      refine (mayM_iff m).2 ⟨HNB.out, HLO.out, ?_⟩
                      rw [hM]
                      exact bodyB_good HALL.out (by rw [← hM]; exact HLB.out.2)
                    clear hM
                    go_wp2
                    go_ret
                    exact ⟨by rw [HV.out]; rfl, HYS.out.bel⟩
                  | cons r T =>
                    have hlt : M.length < len2 := by have := HLL.out.2; rw [HT.out] at this; simp at this; omega
                    obtain ⟨hrk, hrv⟩ := HIN.out.bsz r (by rw [HT.out]; simp)
                    obtain ⟨sb, so, hsa, hsb, c0, c1, c2, c3⟩ := (HIN.out.body.below HYS.out.bel (Nat.le_refl _)) M.length r (by rw [HT.out]; simp)
                    rw [hsa] at d12
                    clear hsa
                    obtain ⟨off, key, val, gone⟩ := r
                    simp only at c0 c1 c2 c3 hrk hrv
                    have HC : Hid (∀ W, Calls Try.prog 36 #[.agg #[.int .i64 off, .string key, .string val, .bool gone]] W fun e w' => e = .returned (.bool (mayB ⟨off, key, val, gone⟩)) ∧ Below W.heap.size W w') := fun W => may_ok off key val gone W hrk hrv
                    by_cases ho : off = (M.length : Int)
                    · have hne : ((off : Int) != (M.length : Int)) = false := by simp [ho]
                      by_cases hm : mayB ⟨off, key, val, gone⟩ = true
                      · rw [hm] at HC
                        have HN : Hid (bodyF (M ++ [⟨off, key, val, gone⟩]) 0 = true) := bodyF_snoc HALL.out ho hm
                        clear ho hm
                        go_wp2_with fail
                        refine (HC.out _).mono ?_
                        rintro e w3 ⟨rfl, hb3⟩
                        have HY3 : Hid (YS w w3 m s mb nb lb) := HYS.out.below hb3
                        clear hb3 c0 c1 c2 c3 d12
                        go_wp2
                        go_roundw
                        case rel =>
                          refine ⟨_, _, _, _, _, _, _, _, _, _, _, _, _, _, _, _, _, _, _, _, _, _, _, _, _, _, ?_, rfl⟩
                          exact ⟨M ++ [⟨off, key, val, gone⟩], T, by simp, by rw [HT.out]; simp, HN.out, HY3.out⟩
                        case measure => simp [intOf]; omega
                      · have hm' : mayB ⟨off, key, val, gone⟩ = false := by simpa using hm
                        rw [hm'] at HC
                        have HV : Hid (rv = false) := by rw [← HRV.out]; refine mayM_body ?_; rw [HT.out]; exact bodyB_bad (by simp only [hm', Bool.and_false])
                        clear ho hm hm'
                        go_wp2_with fail
                        refine (HC.out _).mono ?_
                        rintro e w3 ⟨rfl, hb3⟩
                        have HY3 : Hid (YS w w3 m s mb nb lb) := HYS.out.below hb3
                        clear hb3 c0 c1 c2 c3 d12
                        go_wp2
                        go_ret
                        exact ⟨by rw [HV.out]; rfl, HY3.out.bel⟩
                    · have hne : ((off : Int) != (M.length : Int)) = true := by simp [ho]
                      have HV : Hid (rv = false) := by rw [← HRV.out]; refine mayM_body ?_; rw [HT.out]; exact bodyB_bad (by simp only [decide_eq_false ho, Bool.false_and])
                      clear ho
                      go_wp2
                      go_ret
                      exact ⟨by rw [HV.out]; rfl, HYS.out.bel⟩
              | cons t T =>
                have hlt : M.length < len := by have := HLL.out.1; rw [HT.out] at this; simp at this; omega
                have hts := HIN.out.lsz t (by rw [HT.out]; simp)
                obtain ⟨sb, so, hsa, hsb, c0⟩ := (HIN.out.log.below HYS.out.bel (Nat.le_refl _)) M.length t (by rw [HT.out]; simp)
                rw [hsa] at d11
                clear hsa d12
                by_cases ht : t.size ≤ 262154
                · have k1 : decide ((262154 : Int) < (t.size : Int)) = false := decide_eq_false (by omega)
                  have HN : Hid (∀ y ∈ M ++ [t], y.size ≤ 262154) := fun y hy => by
                    rcases List.mem_append.1 hy with hy | hy
                    · exact HALL.out y hy
                    · simp at hy; subst hy; exact ht
                  clear ht
                  go_wp2
                  go_roundw
                  case rel => exact ⟨M ++ [t], T, by simp, by rw [HT.out]; simp, HN.out, HYS.out⟩
                  case measure => simp [intOf]; omega
                · have HV : Hid (rv = false) := by rw [← HRV.out]; refine mayM_log ?_; rw [HT.out]; exact all_prefix ht
                  have k1 : decide ((262154 : Int) < (t.size : Int)) = true := decide_eq_true (by omega)
                  clear ht
                  go_wp2
                  go_ret
                  exact ⟨by rw [HV.out]; rfl, HYS.out.bel⟩
          · have k3 : decide ((256 : Int) < (len2 : Int)) = true := decide_eq_true (by omega)
            have HV : Hid (rv = false) := by rw [← HRV.out]; exact mayM_body (bodyB_len (by rw [HLL.out.2]; exact hb))
            clear hl hb
            go_wp2
            go_ret
            exact ⟨by rw [HV.out]; rfl, HYS.out.bel⟩
        · have k2 : decide ((4096 : Int) < (len : Int)) = true := decide_eq_true (by omega)
          have HV : Hid (rv = false) := by rw [← HRV.out]; exact mayM_log (logB_len (by rw [HLL.out.1]; exact hl))
          clear hl
          go_wp2
          go_ret
          exact ⟨by rw [HV.out]; rfl, HYS.out.bel⟩
set_option maxHeartbeats 1000000 in
theorem rwcheck_ok (m : Msg) (s : Spot) (w : World) (hin : MIn w m s) :
    Calls Try.prog 12 #[m.v s] w fun e w' => e = .returned (.int .i64 (errW (mayM m))) ∧ Below w.heap.size w w' := by
  have HIN : Hid (MIn w m s) := hin
  have HMY : Hid (∀ W, MIn W m s → Calls Try.prog 22 #[m.v s] W fun e w' => e = .returned (.bool (mayM m)) ∧ Below W.heap.size W w') := fun W h => wmay_ok m s W h
  clear hin
  generalize mayM m = rv at HMY
  have h0 : errW true = 0 := rfl
  have h1 : errW false = 140 := rfl
  have HBA : Hid (Below w.heap.size w (w.alloc (.cells (m.cs s) 28))) := (Below.refl _ _).alloc (Nat.le_refl _) _
  have HMB : Hid (MB (w.alloc (.cells (m.cs s) 28)) w.heap.size m s) := heap_alloc_new _ _
  obtain ⟨mb, hmb⟩ : ∃ mb, w.heap.size = mb := ⟨_, rfl⟩
  rw [hmb] at HMB
  generalize hWA : (w.alloc (.cells (m.cs s) 28)) = wA at HMB HBA
  have HI1 : Hid (MIn wA m s) := HIN.out.below HBA.out (Nat.le_refl _)
  cases rv
  all_goals
    first | rw [h0] | rw [h1]
    go_enter Try.func12, Try.ntmps12
    go_upto_region 1 with fail
    clear hWA
    obtain ⟨d0, d1, d2, d3, d4, d5, d6, d7, d8, d9, d10, d11, d12⟩ := HMB.out.cells
    go_wp2_with fail
    refine (HMY.out _ HI1.out).mono ?_
    rintro e w1 ⟨rfl, hb1⟩
    have HB1 : Hid (Below w.heap.size w w1) := HBA.out.trans (hb1.mono HBA.out.size)
    clear hb1 d0 d1 d2 d3 d4 d5 d6 d7 d8 d9 d10 d11 d12
    go_wp2
    go_ret
    exact ⟨rfl, HB1.out⟩
end Go.Proofs.Ytalpbnkmppdgdaa
