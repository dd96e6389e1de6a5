/- The document's Bytes of messages: the walk. -/
import Derived.Test.YtalpbnkmppdgdaaEWrw
namespace Go.Proofs.Ytalpbnkmppdgdaa
open Go.RowKit
set_option linter.unusedVariables false

set_option maxHeartbeats 4000000 in
theorem rwbytes_ok (m : Msg) (s : Spot) (w : World) (hin : MIn w m s) :
    Calls Try.prog 10 #[m.v s] w fun e w' => e = .returned (bytesW m) ∧ Below w.heap.size w w' := by
  have HIN : Hid (MIn w m s) := hin
  have HMY : Hid (∀ W, MIn W m s → Calls Try.prog 22 #[m.v s] W fun e w' => e = .returned (.bool (mayM m)) ∧ Below W.heap.size W w') := fun W h => wmay_ok m s W h
  have HN : Hid (∀ W, Calls Try.prog 23 #[m.v s] W fun e w' => ∃ nb, e = .returned (.slice (some ⟨nb, 0, none⟩) 11 11) ∧ W.heap.size ≤ nb ∧ NB w' nb m ∧ Below W.heap.size W w') := fun W => rnumbers_ok m s W
  clear hin
  have HBA : Hid (Below w.heap.size w (w.alloc (.cells (m.cs s) 28))) := (Below.refl _ _).alloc (Nat.le_refl _) _
  have HMB : Hid (MB (w.alloc (.cells (m.cs s) 28)) w.heap.size m s) := heap_alloc_new _ _
  obtain ⟨mb, hmb⟩ : ∃ mb, w.heap.size = mb := ⟨_, rfl⟩
  rw [hmb] at HMB
  generalize hWA : (w.alloc (.cells (m.cs s) 28)) = wA at HMB HBA
  have HI1 : Hid (MIn wA m s) := HIN.out.below HBA.out (Nat.le_refl _)
  by_cases hm : mayM m = true
  · rw [hm] at HMY
    obtain ⟨hmn, hml, hmbo⟩ := (mayM_iff m).1 hm
    obtain ⟨hL1, hL2⟩ := (logB_iff _).1 hml
    obtain ⟨hb1', hb2'⟩ := (bodyB_iff _).1 hmbo
    have HMM : Hid (mayM m = true ∧ (∀ n ∈ m.ns, 0 ≤ n ∧ n ≤ 1099511627776) ∧ (∀ t ∈ m.log, t.size ≤ 262154) ∧ comes m.body 0 = true) := ⟨hm, numsB_ns hmn, hL2, bodyF_comes hb2'⟩
    obtain ⟨bv, hbv⟩ : ∃ bv, bytesW m = bv := ⟨_, rfl⟩
    have HBV : Hid (bytesW m = bv) := hbv
    rw [hbv]
    clear hbv hm hmn hml hmbo hL2 hb2'
    obtain ⟨ln, hln⟩ : ∃ ln, m.ns = ln := ⟨_, rfl⟩
    have HLN : Hid (m.ns = ln ∧ ln.length = 11) := ⟨hln, by rw [← hln]; rfl⟩
    clear hln
    obtain ⟨len, hlen⟩ : ∃ len, m.log.length = len := ⟨_, rfl⟩
    obtain ⟨len2, hlen2⟩ : ∃ len, m.body.length = len := ⟨_, rfl⟩
    have HLL : Hid (m.log.length = len ∧ m.body.length = len2) := ⟨hlen, hlen2⟩
    rw [hlen] at hL1
    rw [hlen2] at hb1'
    clear hlen hlen2
    go_enter Try.func10, Try.ntmps10
    go_upto_region 1 with fail
    clear hWA
    obtain ⟨d0, d1, d2, d3, d4, d5, d6, d7, d8, d9, d10, d11, d12⟩ := HMB.out.cells
    go_wp2_with fail
    refine (HMY.out _ HI1.out).mono ?_
    rintro e w1 ⟨rfl, hb1⟩
    have HM1 : Hid (MB w1 mb m s) := HMB.out.below hb1
    have HB1 : Hid (Below w.heap.size w w1) := HBA.out.trans (hb1.mono HBA.out.size)
    clear hb1 d0 d1 d2 d3 d4 d5 d6 d7 d8 d9 d10 d11 d12
    obtain ⟨d0, d1, d2, d3, d4, d5, d6, d7, d8, d9, d10, d11, d12⟩ := HM1.out.cells
    go_wp2_with fail
    refine (HN.out _).mono ?_
    rintro e w2 ⟨nb, rfl, hnb, hna, hb2⟩
    have HZ : Hid (ZS w w2 m s w2.heap.size mb nb (.slice none 0 0) []) := ⟨HM1.out.below hb2, hna, OB.nil _ _, HB1.out.trans (hb2.mono HB1.out.size), Nat.lt_of_lt_of_le (lt_of_block HM1.out) hb2.size, lt_of_block hna, Nat.le_refl _, Nat.le_trans HB1.out.size hb2.size⟩
    clear hnb hna hb2 d0 d1 d2 d3 d4 d5 d6 d7 d8 d9 d10 d11 d12 HM1 HB1 HMB HBA HI1 HMY HN
    obtain ⟨B, hB⟩ : ∃ B, w2.heap.size = B := ⟨_, rfl⟩
    rw [hB] at HZ
    clear hB
    go_wp2
    go_loopw [4, 6] (fun v i wr => ∃ (V : Value) (M T : List Int), V = v ∧ i = .int .i64 (M.length : Nat) ∧ ln = M ++ T ∧ ZS w wr m s B mb nb V (numsL M)) (fun _ i _ => 11 - (intOf i).toNat)
    case atStart => exact ⟨_, [], ln, rfl, rfl, rfl, HZ.out⟩
    case round =>
      clear HZ
      obtain ⟨V, M, T, rfl, rfl, hT, hz⟩ := hrel
      have HZ : Hid (ZS w wr m s B mb nb V (numsL M)) := hz
      have HT : Hid (ln = M ++ T) := hT
      have hll := numsL_len M
      have hsz := hz.size
      clear hT hz
      cases T with
      | nil =>
        have hM : ln = M := by rw [HT.out, List.append_nil]
        have hML : M.length = 11 := by have := HLN.out.2; rw [hM] at this; exact this
        have HZ0 : Hid (ZS w wr m s B mb nb V (numsL m.ns)) := by rw [HLN.out.1, hM]; exact HZ.out
        have hnl : (numsL m.ns).length ≤ 110 := by rw [HLN.out.1, hM]; omega
        clear hM hll HZ
        obtain ⟨d0, d1, d2, d3, d4, d5, d6, d7, d8, d9, d10, d11, d12⟩ := HZ0.out.ma.cells
        clear d0 d1 d2 d3 d4 d5 d6 d7 d8 d9 d10 d12
        rw [HLL.out.1] at d11
        go_wp2_with fail
        refine (rput_ok B V _ len _ HZ0.out.own (by omega) (by omega) hsz).mono ?_
        rintro e w3 ⟨V3, rfl, ho3, hb3⟩
        have HZ3 : Hid (ZS w w3 m s B mb nb V3 (numsL m.ns ++ vb len)) := HZ0.out.step ho3 hb3
        clear ho3 hb3 d11
        go_wp2
        go_loopw [4, 7] (fun v i wr => ∃ (V : Value) (M T : List ByteArray), V = v ∧ i = .int .i64 (M.length : Nat) ∧ m.log = M ++ T ∧ ZS w wr m s B mb nb V (numsL m.ns ++ (vb len ++ logL M))) (fun _ i _ => len - (intOf i).toNat)
        case atStart => exact ⟨_, [], m.log, rfl, rfl, rfl, by simpa [logL] using HZ3.out⟩
        case round =>
          clear HZ3 hML
          obtain ⟨V, M, T, rfl, rfl, hT, hz⟩ := hrel
          have HZ : Hid (ZS w wr m s B mb nb V (numsL m.ns ++ (vb len ++ logL M))) := hz
          have HT : Hid (m.log = M ++ T) := hT
          have hll := logL_len M (fun t ht => HMM.out.2.2.1 t (by rw [hT]; simp [ht]))
          have hvl := vb_length len
          have hsz := hz.size
          clear hT hz
          obtain ⟨d0, d1, d2, d3, d4, d5, d6, d7, d8, d9, d10, d11, d12⟩ := HZ.out.ma.cells
          clear d0 d1 d2 d3 d4 d5 d6 d7 d8 d9 d10
          rw [HLL.out.1] at d11
          rw [HLL.out.2] at d12
          cases T with
          | nil =>
            have hM : m.log = M := by rw [HT.out, List.append_nil]
            have hML : M.length = len := by have := HLL.out.1; rw [hM] at this; exact this
            have hl5 : (numsL m.ns ++ (vb len ++ logL M)).length ≤ 1500000000 := by simp only [List.length_append]; omega
            have HLM : Hid (logL M = logL m.log) := by rw [hM]; rfl
            clear hM hll
            obtain ⟨l5, hl5e⟩ : ∃ l5, numsL m.ns ++ (vb len ++ logL M) = l5 := ⟨_, rfl⟩
            have HL5 : Hid (numsL m.ns ++ (vb len ++ logL M) = l5) := hl5e
            rw [hl5e] at HZ hl5
            clear hl5e
            go_wp2_with fail
            refine (rput_ok B V _ len2 _ HZ.out.own (by omega) (by omega) hsz).mono ?_
            rintro e w4 ⟨V4, rfl, ho4, hb4⟩
            have HZ4 : Hid (ZS w w4 m s B mb nb V4 (l5 ++ vb len2)) := HZ.out.step ho4 hb4
            have hs4 : B ≤ w4.heap.size := HZ4.out.size
            have HR4 : Hid (RIn w4 s.ba m.body) := HIN.out.body.below HZ4.out.bel (Nat.le_refl _)
            clear ho4 hb4 d12 d11 hML
            obtain ⟨d0, d1, d2, d3, d4, d5, d6, d7, d8, d9, d10, d11, d12⟩ := HZ4.out.ma.cells
            clear d0 d1 d2 d3 d4 d5 d6 d7 d8 d9 d10 d11
            have HRB : Hid (∀ W, RIn W s.ba m.body → Calls Try.prog 25 #[.slice s.ba m.body.length s.bc, .int .i64 0] W fun e w' => e = .returned (.tuple #[.string (mk (recsL 0 m.body)), .int .i64 0]) ∧ Below W.heap.size W w') := fun W h => by
              have := rbytes_ok s.ba s.bc m.body 0 W h HIN.out.bsz (by rw [HLL.out.2]; omega)
              rw [bytesV_good (by rw [HMM.out.2.2.2]; rfl)] at this
              exact this
            have hrl : (mk (recsL 0 m.body)).size ≤ 4190 * len2 := by rw [mk_size, ← HLL.out.2]; exact recsL_len 0 m.body (comes_mem _ _ HMM.out.2.2.2)
            have HZD : Hid ((mk (recsL 0 m.body)).data.toList = recsL 0 m.body) := mk_toList _
            generalize mk (recsL 0 m.body) = z at HRB hrl HZD
            rw [HLL.out.2] at HRB d12
            have hv2 := vb_length len2
            go_wp2_with fail
            refine (HRB.out _ HR4.out).mono ?_
            rintro e w5 ⟨rfl, hb5⟩
            have HZ5 : Hid (ZS w w5 m s B mb nb V4 (l5 ++ vb len2)) := HZ4.out.step (HZ4.out.own.below hb5) (hb5.mono hs4)
            have hs5 : B ≤ w5.heap.size := HZ5.out.size
            clear hb5 d12
            have hl6 : (l5 ++ vb len2).length + z.size ≤ 1600000000 := by rw [List.length_append]; omega
            have hE : (l5 ++ vb len2) ++ z.data.toList = msgL m := by
              rw [HZD.out, ← HL5.out, HLM.out, ← HLL.out.1, ← HLL.out.2]
              unfold msgL
              simp [List.append_assoc]
            have HEE : Hid ((l5 ++ vb len2) ++ z.data.toList = msgL m) := hE
            obtain ⟨n6, hn6⟩ : ∃ n6, (msgL m).length = n6 := ⟨_, rfl⟩
            have hn6b : n6 ≤ 1600000000 := by rw [← hn6, ← hE, List.length_append, data_len]; exact hl6
            have HN6 : Hid ((msgL m).length = n6) := hn6
            clear hE hn6
            by_cases hbig : n6 ≤ 1048576
            · have k1 : decide ((1048576 : Int) < (n6 : Int)) = false := decide_eq_false (by omega)
              have HV : Hid (bv = .tuple #[.string (mk (msgL m)), .int .i64 0]) := by rw [← HBV.out]; exact bytesW_good HMM.out.1 (by rw [HN6.out]; exact hbig)
              clear hbig
              go_wp2_with (first
                | (at_builtin; refine wpList_append_txt rfl _ _ rfl B V4 (l5 ++ vb len2) rfl HZ5.out.own z rfl (by omega) hs5 ?_; intro v6 w6 ho6 hg6; have HZ6 : Hid (ZS w w6 m s B mb nb v6 ((l5 ++ vb len2) ++ z.data.toList)) := HZ5.out.step ho6 (OB.frame HZ5.out.own hg6 hs5); rw [HEE.out] at ho6; have hcv := conv_mk w6 B v6 (msgL m) ho6; obtain ⟨va, vc, hv6⟩ := ho6.slice; rw [HN6.out] at hv6; subst hv6; clear ho6 hg6)
                | fail)
              go_ret2
              exact ⟨by rw [HV.out]; rfl, HZ6.out.bel⟩
            · have k1 : decide ((1048576 : Int) < (n6 : Int)) = true := decide_eq_true (by omega)
              have HV : Hid (bv = .tuple #[.string ⟨#[]⟩, .int .i64 4]) := by rw [← HBV.out]; exact bytesW_long HMM.out.1 (by rw [HN6.out]; exact hbig)
              clear hbig
              go_wp2_with (first
                | (at_builtin; refine wpList_append_txt rfl _ _ rfl B V4 (l5 ++ vb len2) rfl HZ5.out.own z rfl (by omega) hs5 ?_; intro v6 w6 ho6 hg6; have HZ6 : Hid (ZS w w6 m s B mb nb v6 ((l5 ++ vb len2) ++ z.data.toList)) := HZ5.out.step ho6 (OB.frame HZ5.out.own hg6 hs5); rw [HEE.out] at ho6; obtain ⟨va, vc, hv6⟩ := ho6.slice; rw [HN6.out] at hv6; subst hv6; clear ho6 hg6)
                | fail)
              go_ret2
              exact ⟨by rw [HV.out]; rfl, HZ6.out.bel⟩
          | cons t T =>
            have hlt : M.length < len := by have := HLL.out.1; rw [HT.out] at this; simp at this; omega
            have hts := HMM.out.2.2.1 t (by rw [HT.out]; simp)
            obtain ⟨sb, so, hsa, hsb, c0⟩ := (HIN.out.log.below HZ.out.bel (Nat.le_refl _)) M.length t (by rw [HT.out]; simp)
            rw [hsa] at d11
            have hl5 : (numsL m.ns ++ (vb len ++ logL M)).length ≤ 1200000000 := by simp only [List.length_append]; omega
            obtain ⟨l5, hl5e⟩ : ∃ l5, numsL m.ns ++ (vb len ++ logL M) = l5 := ⟨_, rfl⟩
            have HL5 : Hid (numsL m.ns ++ (vb len ++ logL M) = l5) := hl5e
            rw [hl5e] at HZ hl5
            clear hl5e hll d12
            go_wp2_with fail
            refine (rput_ok B V _ t.size _ HZ.out.own (by omega) (by omega) hsz).mono ?_
            rintro e w4 ⟨V4, rfl, ho4, hb4⟩
            have HZ4 : Hid (ZS w w4 m s B mb nb V4 (l5 ++ vb t.size)) := HZ.out.step ho4 hb4
            have hs4 : B ≤ w4.heap.size := HZ4.out.size
            clear ho4 hb4 d11 c0 hsb
            obtain ⟨sb', so', hsa', hsb, c0⟩ := (HIN.out.log.below HZ4.out.bel (Nat.le_refl _)) M.length t (by rw [HT.out]; simp)
            rw [hsa] at hsa'
            cases hsa'
            obtain ⟨d0, d1, d2, d3, d4, d5, d6, d7, d8, d9, d10, d11, d12⟩ := HZ4.out.ma.cells
            clear d0 d1 d2 d3 d4 d5 d6 d7 d8 d9 d10 d12
            rw [HLL.out.1, hsa] at d11
            clear hsa
            have hvt := vb_length t.size
            have hE : (l5 ++ vb t.size) ++ t.data.toList = numsL m.ns ++ (vb len ++ logL (M ++ [t])) := by
              rw [← HL5.out, logL_append]
              simp [logL, List.append_assoc]
            have HEE : Hid ((l5 ++ vb t.size) ++ t.data.toList = numsL m.ns ++ (vb len ++ logL (M ++ [t]))) := hE
            obtain ⟨n6, hn6⟩ : ∃ n6, (numsL m.ns ++ (vb len ++ logL (M ++ [t]))).length = n6 := ⟨_, rfl⟩
            have hn6b : n6 ≤ 1600000000 := by rw [← hn6, ← hE, List.length_append, List.length_append, data_len]; omega
            have HN6 : Hid ((numsL m.ns ++ (vb len ++ logL (M ++ [t]))).length = n6) := hn6
            have hap : (l5 ++ vb t.size).length + t.size ≤ 140737488355328 := by rw [List.length_append]; omega
            clear hE hn6
            by_cases hbig : n6 ≤ 1048576
            · have k1 : decide ((1048576 : Int) < (n6 : Int)) = false := decide_eq_false (by omega)
              clear hbig
              go_wp2_with (first
                | (at_builtin; refine wpList_append_txt rfl _ _ rfl B V4 (l5 ++ vb t.size) rfl HZ4.out.own t rfl hap hs4 ?_; intro v6 w6 ho6 hg6; have HZ6' : Hid (ZS w w6 m s B mb nb v6 ((l5 ++ vb t.size) ++ t.data.toList)) := HZ4.out.step ho6 (OB.frame HZ4.out.own hg6 hs4); rw [HEE.out] at HZ6'; have HZ6 : Hid (ZS w w6 m s B mb nb v6 (numsL m.ns ++ (vb len ++ logL (M ++ [t])))) := HZ6'.out; rw [HEE.out] at ho6; obtain ⟨va, vc, hv6⟩ := ho6.slice; rw [HN6.out] at hv6; subst hv6; clear ho6 hg6 HZ6')
                | fail)
              go_roundw
              case rel => exact ⟨_, M ++ [t], T, rfl, by simp, by rw [HT.out]; simp, HZ6.out⟩
              case measure => simp [intOf]; omega
            · have k1 : decide ((1048576 : Int) < (n6 : Int)) = true := decide_eq_true (by omega)
              have HV : Hid (bv = .tuple #[.string ⟨#[]⟩, .int .i64 4]) := by
                rw [← HBV.out]
                refine bytesW_long HMM.out.1 (long_prefix (M := M ++ [t]) (T := T) (by rw [HT.out]; simp) ?_)
                rw [HLL.out.1, HN6.out]
                omega
              clear hbig
              go_wp2_with (first
                | (at_builtin; refine wpList_append_txt rfl _ _ rfl B V4 (l5 ++ vb t.size) rfl HZ4.out.own t rfl hap hs4 ?_; intro v6 w6 ho6 hg6; have HZ6' : Hid (ZS w w6 m s B mb nb v6 ((l5 ++ vb t.size) ++ t.data.toList)) := HZ4.out.step ho6 (OB.frame HZ4.out.own hg6 hs4); rw [HEE.out] at HZ6'; have HZ6 : Hid (ZS w w6 m s B mb nb v6 (numsL m.ns ++ (vb len ++ logL (M ++ [t])))) := HZ6'.out; rw [HEE.out] at ho6; obtain ⟨va, vc, hv6⟩ := ho6.slice; rw [HN6.out] at hv6; subst hv6; clear ho6 hg6 HZ6')
                | fail)
              go_ret2
              exact ⟨by rw [HV.out]; rfl, HZ6.out.bel⟩
      | cons n T =>
        have hlt : M.length < 11 := by have := HLN.out.2; rw [HT.out] at this; simp at this; omega
        have hn0 := HMM.out.2.1 n (by rw [HLN.out.1, HT.out]; simp)
        have c0 := (NIn.of HZ.out.na) M.length n (by rw [HLN.out.1, HT.out]; simp)
        obtain ⟨k, rfl⟩ : ∃ k : Nat, n = k := Int.eq_ofNat_of_zero_le hn0.1
        go_wp2_with fail
        refine (rput_ok B V _ k _ HZ.out.own (by omega) (by omega) hsz).mono ?_
        rintro e w3 ⟨V3, rfl, ho3, hb3⟩
        have hz3 : ZS w w3 m s B mb nb V3 (numsL (M ++ [(k : Int)])) := by
          rw [numsL_append]; exact HZ.out.step (by simpa [numsL] using ho3) hb3
        have HZ3 : Hid (ZS w w3 m s B mb nb V3 (numsL (M ++ [(k : Int)]))) := hz3
        clear ho3 hb3 hz3 c0 hll
        go_wp2
        go_roundw
        case rel => exact ⟨_, M ++ [(k : Int)], T, rfl, by simp, by rw [HT.out]; simp, HZ3.out⟩
        case measure => simp [intOf]; omega
  · have hm' : mayM m = false := by simpa using hm
    rw [hm'] at HMY
    have HE : Hid (bytesW m = .tuple #[.string ⟨#[]⟩, .int .i64 140]) := bytesW_bad hm'
    obtain ⟨bv, hbv⟩ : ∃ bv, bytesW m = bv := ⟨_, rfl⟩
    rw [hbv] at HE ⊢
    clear hbv hm hm'
    go_enter Try.func10, Try.ntmps10
    go_upto_region 1 with fail
    clear hWA
    obtain ⟨d0, d1, d2, d3, d4, d5, d6, d7, d8, d9, d10, d11, d12⟩ := HMB.out.cells
    go_wp2_with fail
    refine (HMY.out _ HI1.out).mono ?_
    rintro e w1 ⟨rfl, hb1⟩
    have HB1 : Hid (Below w.heap.size w w1) := HBA.out.trans (hb1.mono HBA.out.size)
    clear hb1 d0 d1 d2 d3 d4 d5 d6 d7 d8 d9 d10 d11 d12
    go_wp2
    go_ret2
    exact ⟨by rw [HE.out]; rfl, HB1.out⟩
end Go.Proofs.Ytalpbnkmppdgdaa
