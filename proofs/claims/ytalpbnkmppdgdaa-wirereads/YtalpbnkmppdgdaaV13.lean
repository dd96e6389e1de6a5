/- Which messages may be: numbersMayBe. -/
/- Which messages may be: Check. -/
/- A message's bytes are written: putNumber, putNumbers, Len. -/
/- A message's bytes are written: putLog, putBody. -/
/- A message's bytes: Bytes. -/
/- Messages out of bytes: the closures that read takes numbers and texts by, and what they hold. -/
import Derived.Test.YtalpbnkmppdgdaaV12
import Derived.Test.YtalpbnkmppdgdaaV08
namespace Go.Proofs.Ytalpbnkmppdgdaa
open Go.RowKit
set_option linter.unusedVariables false

/-- A row of numbers in a block. -/
def NIn (w : World) (b : Nat) (l : List Int) : Prop := ∀ i n, l[i]? = some n → w.cell? ⟨b, i, none⟩ = some (.int .i64 n)
theorem NIn.of {w : World} {b : Nat} {l : List Int} {t : TypeId} (h : w.heap[b]? = some (.cells (l.map (Value.int .i64 ·)).toArray t (0, 0))) : NIn w b l := by
  intro i n hn
  have : ((l.map (Value.int .i64 ·)).toArray)[i]? = some (Value.int .i64 n) := by simp [hn]
  simp [World.cell?, h, hn]
theorem NIn.below {w w' : World} {b : Nat} {l : List Int} (h : NIn w b l) (hb : Below w.heap.size w w') (hlt : b < w.heap.size) : NIn w' b l := fun i n hn => by
  rw [cell_below hb hlt]; exact h i n hn
theorem offsB_bad {M T : List Int} {n : Int} (h : inB n 0 1099511627776 = false) : offsB (M ++ n :: T) = false := by
  unfold offsB; simp [h]
theorem offsB_snoc {M : List Int} {n : Int} (h : offsB M = true) (hn : inB n 0 1099511627776 = true) : offsB (M ++ [n]) = true := by
  unfold offsB at h ⊢; simp only [List.all_append, h, List.all_cons, hn, List.all_nil]; rfl
set_option maxHeartbeats 2000000 in
theorem numbers_ok (m : Msg) (s : Spot) (w : World) :
    Calls Try.prog 26 #[m.v s] w fun e w' => e = .returned (.bool (numsB m)) ∧ Below w.heap.size w w' := by
  have HW := isWithin_ok
  obtain ⟨rv, hrb⟩ : ∃ rb, numsB m = rb := ⟨_, rfl⟩
  have HRV : Hid (numsB m = rv) := hrb
  rw [hrb]
  clear hrb
  have HBA : Hid (Below w.heap.size w (w.alloc (.cells (m.cs s) 28))) := (Below.refl _ _).alloc (Nat.le_refl _) _
  have HMB : Hid (MB (w.alloc (.cells (m.cs s) 28)) w.heap.size m s) := heap_alloc_new _ _
  obtain ⟨mb, hmb⟩ : ∃ mb, w.heap.size = mb := ⟨_, rfl⟩
  rw [hmb] at HMB
  generalize hWA : (w.alloc (.cells (m.cs s) 28)) = wA at HMB HBA
  go_enter Try.func26, Try.ntmps26
  go_upto_region 1 with fail
  clear hWA
  obtain ⟨d0, d1, d2, d3, d4, d5, d6, d7, d8, d9, d10, d11, d12⟩ := HMB.out.cells
  obtain ⟨ln, hln⟩ : ∃ ln, [m.view, m.norm, m.fin, m.com, m.base, m.prod, m.seq] = ln := ⟨_, rfl⟩
  have HLN : Hid ([m.view, m.norm, m.fin, m.com, m.base, m.prod, m.seq] = ln ∧ ln.length = 7) := ⟨hln, by rw [← hln]; rfl⟩
  have HNI : Hid (NIn (wA.alloc (.cells #[.int .i64 m.view, .int .i64 m.norm, .int .i64 m.fin, .int .i64 m.com, .int .i64 m.base, .int .i64 m.prod, .int .i64 m.seq] 3)) wA.heap.size ln) := by
    rw [← hln]; exact NIn.of (heap_alloc_new _ _)
  have HBB : Hid (Below w.heap.size w (wA.alloc (.cells #[.int .i64 m.view, .int .i64 m.norm, .int .i64 m.fin, .int .i64 m.com, .int .i64 m.base, .int .i64 m.prod, .int .i64 m.seq] 3))) := HBA.out.alloc HBA.out.size _
  have HMC : Hid (MB (wA.alloc (.cells #[.int .i64 m.view, .int .i64 m.norm, .int .i64 m.fin, .int .i64 m.com, .int .i64 m.base, .int .i64 m.prod, .int .i64 m.seq] 3)) mb m s) := HMB.out.below ((Below.refl _ _).alloc (Nat.le_refl _) _)
  obtain ⟨nb, hnb⟩ : ∃ nb, wA.heap.size = nb := ⟨_, rfl⟩
  rw [hnb] at HNI
  generalize hWB : (wA.alloc (.cells #[.int .i64 m.view, .int .i64 m.norm, .int .i64 m.fin, .int .i64 m.com, .int .i64 m.base, .int .i64 m.prod, .int .i64 m.seq] 3)) = wB at HNI HBB HMC
  go_wp2
  clear hWB hln d0 d1 d2 d3 d4 d5 d6 d7 d8 d9 d10 d11 d12
  go_loopw [23] (fun i wr => ∃ (M T : List Int), i = .int .i64 (M.length : Nat) ∧ ln = M ++ T ∧ offsB M = true ∧ NIn wr nb ln ∧ MB wr mb m s ∧ Below mb w wr) (fun i _ => 7 - (intOf i).toNat)
  case atStart => exact ⟨[], ln, rfl, rfl, rfl, HNI.out, HMC.out, hmb ▸ HBB.out⟩
  case round =>
    obtain ⟨M, T, rfl, hT, hall, hni, hmbw, hbel⟩ := hrel
    have HALL : Hid (offsB M = true) := hall
    have HT : Hid (ln = M ++ T) := hT
    have HBE : Hid (Below mb w wr) := hbel
    have HM2 : Hid (MB wr mb m s) := hmbw
    have HN2 : Hid (NIn wr nb ln) := hni
    clear hall hT hbel hmbw hni
    cases T with
    | nil =>
      have hM : ln = M := by rw [HT.out, List.append_nil]
      have hML : M.length = 7 := by have := HLN.out.2; rw [hM] at this; exact this
      have HG : Hid (rv = (inB m.kind 1 10 && (inB m.frm 0 255 && (inB m.dst 0 255 && inB m.err 0 999)))) := by
        rw [← HRV.out]
        unfold numsB
        rw [HLN.out.1, hM, HALL.out]
        rfl
      obtain ⟨d0, d1, d2, d3, d4, d5, d6, d7, d8, d9, d10, d11, d12⟩ := HM2.out.cells
      clear hM d3 d4 d5 d6 d8 d9 d10 d11 d12
      obtain ⟨k, hk⟩ : ∃ k, inB m.kind 1 10 = k := ⟨_, rfl⟩
      obtain ⟨f, hf⟩ : ∃ k, inB m.frm 0 255 = k := ⟨_, rfl⟩
      obtain ⟨t, ht⟩ : ∃ k, inB m.dst 0 255 = k := ⟨_, rfl⟩
      obtain ⟨u, hu⟩ : ∃ k, inB m.err 0 999 = k := ⟨_, rfl⟩
      rw [hk, hf, ht, hu] at HG
      cases k
      · go_wp2_with (go_at_call 40; refine (HW _ _ _ _).mono ?_; rintro e w' ⟨rfl, hw⟩; obtain rfl := hw.symm)
        go_ret
        exact ⟨by rw [HG.out]; rfl, hmb ▸ HBE.out⟩
      · cases f
        · go_wp2_with (go_at_call 40; refine (HW _ _ _ _).mono ?_; rintro e w' ⟨rfl, hw⟩; obtain rfl := hw.symm)
          go_ret
          exact ⟨by rw [HG.out]; rfl, hmb ▸ HBE.out⟩
        · cases t
          · go_wp2_with (go_at_call 40; refine (HW _ _ _ _).mono ?_; rintro e w' ⟨rfl, hw⟩; obtain rfl := hw.symm)
            go_ret
            exact ⟨by rw [HG.out]; rfl, hmb ▸ HBE.out⟩
          · cases u
            all_goals
              go_wp2_with (go_at_call 40; refine (HW _ _ _ _).mono ?_; rintro e w' ⟨rfl, hw⟩; obtain rfl := hw.symm)
              go_ret
              exact ⟨by rw [HG.out]; rfl, hmb ▸ HBE.out⟩
    | cons n T =>
      have hlt : M.length < 7 := by have := HLN.out.2; rw [HT.out] at this; simp at this; omega
      have c0 := HN2.out M.length n (by rw [HT.out]; simp)
      by_cases hn : inB n 0 1099511627776 = true
      · have HN : Hid (offsB (M ++ [n]) = true) := offsB_snoc HALL.out hn
        go_wp2_with (go_at_call 40; refine (HW _ _ _ _).mono ?_; rintro e w' ⟨rfl, hw⟩; obtain rfl := hw.symm)
        go_roundw
        case rel => exact ⟨M ++ [n], T, by simp, by rw [HT.out]; simp, HN.out, HN2.out, HM2.out, HBE.out⟩
        case measure => simp [intOf]; omega
      · have hn' : inB n 0 1099511627776 = false := by simpa using hn
        have HV : Hid (rv = false) := by
          rw [← HRV.out]
          unfold numsB
          rw [HLN.out.1, HT.out, offsB_bad hn']
          rfl
        clear hn
        go_wp2_with (go_at_call 40; refine (HW _ _ _ _).mono ?_; rintro e w' ⟨rfl, hw⟩; obtain rfl := hw.symm)
        go_ret
        exact ⟨by rw [HV.out]; rfl, hmb ▸ HBE.out⟩
end Go.Proofs.Ytalpbnkmppdgdaa
namespace Go.Proofs.Ytalpbnkmppdgdaa
open Go.RowKit
set_option linter.unusedVariables false

def errW (b : Bool) : Int := if b then 0 else 140
set_option maxHeartbeats 2000000 in
theorem wcheck_ok (m : Msg) (s : Spot) (w : World) (hin : MIn w m s) :
    Calls Try.prog 11 #[m.v s] w fun e w' => e = .returned (.int .i64 (errW (mayM m))) ∧ Below w.heap.size w w' := by
  have HIN : Hid (MIn w m s) := hin
  have HA : Hid (∀ W, Calls Try.prog 26 #[m.v s] W fun e w' => e = .returned (.bool (numsB m)) ∧ Below W.heap.size W w') := fun W => numbers_ok m s W
  have HB : Hid (∀ W, MIn W m s → Calls Try.prog 27 #[.slice s.la m.log.length s.lc] W fun e w' => e = .returned (.bool (logB m.log)) ∧ w' = W) := fun W h => logMayBe_ok s.la s.lc m.log W h.log h.lsz h.ll
  have HC : Hid (∀ W, MIn W m s → Calls Try.prog 28 #[.slice s.ba m.body.length s.bc] W fun e w' => e = .returned (.bool (bodyB m.body)) ∧ Below W.heap.size W w') := fun W h => bodyMayBe_ok s.ba s.bc m.body W h.body h.bsz h.bl
  have HRV : Hid (mayM m = (numsB m && (logB m.log && bodyB m.body))) := rfl
  obtain ⟨rv, hrb⟩ : ∃ rb, mayM m = rb := ⟨_, rfl⟩
  rw [hrb] at HRV ⊢
  clear hrb hin
  generalize numsB m = nb at HA HRV
  generalize logB m.log = lb at HB HRV
  generalize bodyB m.body = bb at HC HRV
  have HBA : Hid (Below w.heap.size w (w.alloc (.cells (m.cs s) 28))) := (Below.refl _ _).alloc (Nat.le_refl _) _
  have HMB : Hid (MB (w.alloc (.cells (m.cs s) 28)) w.heap.size m s) := heap_alloc_new _ _
  obtain ⟨mb, hmb⟩ : ∃ mb, w.heap.size = mb := ⟨_, rfl⟩
  rw [hmb] at HMB
  generalize hWA : (w.alloc (.cells (m.cs s) 28)) = wA at HMB HBA
  go_enter Try.func11, Try.ntmps11
  go_upto_region 1 with fail
  clear hWA
  obtain ⟨d0, d1, d2, d3, d4, d5, d6, d7, d8, d9, d10, d11, d12⟩ := HMB.out.cells
  go_wp2_with fail
  refine (HA.out _).mono ?_
  rintro e w1 ⟨rfl, hb1⟩
  have HM1 : Hid (MB w1 mb m s) := HMB.out.below hb1
  have HB1 : Hid (Below w.heap.size w w1) := HBA.out.trans (hb1.mono HBA.out.size)
  clear hb1 d0 d1 d2 d3 d4 d5 d6 d7 d8 d9 d10 d11 d12
  have HI1 : Hid (MIn w1 m s) := HIN.out.below HB1.out (Nat.le_refl _)
  obtain ⟨d0, d1, d2, d3, d4, d5, d6, d7, d8, d9, d10, d11, d12⟩ := HM1.out.cells
  clear d0 d1 d2 d3 d4 d5 d6 d7 d8 d9 d10
  cases nb
  · go_wp2
    go_ret
    exact ⟨by rw [HRV.out]; rfl, HB1.out⟩
  · go_wp2_with fail
    refine (HB.out _ HI1.out).mono ?_
    rintro e w2 ⟨rfl, hw2⟩
    obtain rfl := hw2.symm
    cases lb
    · go_wp2
      go_ret
      exact ⟨by rw [HRV.out]; rfl, HB1.out⟩
    · go_wp2_with fail
      refine (HC.out _ HI1.out).mono ?_
      rintro e w3 ⟨rfl, hb3⟩
      have HB3 : Hid (Below w.heap.size w w3) := HB1.out.trans (hb3.mono HB1.out.size)
      clear hb3
      cases bb
      · go_wp2
        go_ret
        exact ⟨by rw [HRV.out]; rfl, HB3.out⟩
      · go_wp2
        go_ret
        exact ⟨by rw [HRV.out]; rfl, HB3.out⟩
end Go.Proofs.Ytalpbnkmppdgdaa
namespace Go.Proofs.Ytalpbnkmppdgdaa
open Go.RowKit
set_option linter.unusedVariables false

set_option maxHeartbeats 400000 in
theorem wput_ok (B b : Nat) (l : List UInt8) (n : Nat) (w : World) (h : BS w B b l) (hn : n ≤ 9223372036854775807) (hlen : l.length + 10 ≤ 140737488355328) (hB : B ≤ w.heap.size) :
    Calls Try.prog 33 #[.pointer (some ⟨b, 0, none⟩), .int .i64 n] w fun e w' => e = .returned (.tuple #[]) ∧ BS w' B b (l ++ vb n) ∧ BF B b w w' := by
  have HW : Hid (BS w B b l) := h
  have HL : Hid (∀ W, BS W B b l → B ≤ W.heap.size → Calls Try.prog 34 #[.pointer (some ⟨b, 0, none⟩), .string (mk (vb n))] W fun e w' => e = .returned (.tuple #[.int .i64 (mk (vb n)).size, .nilIface]) ∧ BS w' B b (l ++ vb n) ∧ BF B b W w') := fun W h hB => by
    have := write_ok B b l (mk (vb n)) W h (by rw [mk_size]; have := vb_length n; omega) hB
    rw [mk_toList] at this
    exact this
  have HP : Hid (∀ W, Calls Try.prog 48 #[.int .i64 n] W fun e w' => e = .returned (.tuple #[.string (mk (vb n)), .int .i64 0]) ∧ Below W.heap.size W w') := fun W => putVar n W hn
  obtain ⟨z, hz⟩ : ∃ z, mk (vb n) = z := ⟨_, rfl⟩
  rw [hz] at HL HP
  clear hz h hlen
  go_enter Try.func33, Try.ntmps33
  go_wp2_with fail
  refine (HP.out _).mono ?_
  rintro e w1 ⟨rfl, hb1⟩
  have H1 : Hid (BS w1 B b l) := HW.out.below hb1
  have F1 : Hid (BF B b w w1) := BF.of_below hb1 hB
  have hs1 : B ≤ w1.heap.size := Nat.le_trans hB hb1.size
  clear hb1
  go_wp2_with fail
  refine (HL.out _ H1.out hs1).mono ?_
  rintro e w2 ⟨rfl, hb2, hf2⟩
  have H2 : Hid (BS w2 B b (l ++ vb n)) := hb2
  have F2 : Hid (BF B b w w2) := F1.out.trans hf2
  clear hb2 hf2
  go_wp2
  first | go_ret | go_end0 | skip
  exact ⟨rfl, H2.out, F2.out⟩
theorem BS.row {w : World} {B b : Nat} {l : List UInt8} (h : BS w B b l) : ∃ p a c, w.heap[b]? = some (.cells #[p, .slice a l.length c] 43 (0, 0)) := by
  rcases h with ⟨_, v, hb, ho, _⟩ | ⟨_, v, hb, ho, _⟩
  all_goals
    have hl : (Lib.byteCells l).length = l.length := Lib.byteCells_length l
    rcases ho.2 with ⟨rfl, hn⟩ | ⟨g, cap, cur, fz, hv, hg, hh, r⟩
    · have e : l.length = 0 := by rw [← hl]; exact hn
      rw [e]; exact ⟨_, none, 0, hb⟩
    · rw [hv, hl] at hb
      exact ⟨_, _, cap, hb⟩
theorem BS.len {w : World} {B b : Nat} {l : List UInt8} (h : BS w B b l) (hl : l.length ≤ 140737488355328) :
    Calls Try.prog 20 #[.pointer (some ⟨b, 0, none⟩)] w fun e w' => e = .returned (.int .i64 (l.length : Nat)) ∧ w' = w := by
  obtain ⟨p, a, c, hb⟩ := h.row
  have c1 : w.cell? ⟨b, 1, none⟩ = some (.slice a l.length c) := by simp [World.cell?, hb]
  clear hb h
  go_enter Try.func20, Try.ntmps20
  go_wp2
  go_ret
  exact ⟨rfl, rfl⟩
theorem numsL_append (a b : List Int) : numsL (a ++ b) = numsL a ++ numsL b := by
  induction a with
  | nil => rfl
  | cons x a ih => simp [numsL, ih, List.append_assoc]
theorem numsL_len (l : List Int) : (numsL l).length ≤ 10 * l.length := by
  induction l with
  | nil => exact Nat.le_refl _
  | cons x l ih => have := vb_length x.toNat; simp only [numsL, List.length_append, List.length_cons]; omega
set_option maxHeartbeats 2000000 in
theorem putNumbers_ok (B b : Nat) (l : List UInt8) (m : Msg) (s : Spot) (w : World) (h : BS w B b l) (hn : numsB m = true) (hlen : l.length + 200 ≤ 140737488355328) (hB : B ≤ w.heap.size) :
    Calls Try.prog 17 #[.pointer (some ⟨b, 0, none⟩), m.v s] w fun e w' => e = .returned (.tuple #[]) ∧ BS w' B b (l ++ numsL m.ns) ∧ BF B b w w' := by
  have hlt := h.lt
  have HB0 : Below w.heap.size w (w.alloc (.cells (m.cs s) 28)) := (Below.refl _ _).alloc (Nat.le_refl _) _
  have HW : Hid (BS (w.alloc (.cells (m.cs s) 28)) B b l) := h.below HB0
  have HMB : Hid (MB (w.alloc (.cells (m.cs s) 28)) w.heap.size m s) := heap_alloc_new _ _
  have HF : Hid (BF B b w (w.alloc (.cells (m.cs s) 28))) := BF.of_below HB0 hB
  have hB1 : B ≤ (w.alloc (.cells (m.cs s) 28)).heap.size := by simp; omega
  have hb1 : b < (w.alloc (.cells (m.cs s) 28)).heap.size := by simp; omega
  have HNS : Hid (∀ n ∈ m.ns, 0 ≤ n ∧ n ≤ 1099511627776) := numsB_ns hn
  clear hlt HB0 h hn
  obtain ⟨mb, hmb⟩ : ∃ mb, w.heap.size = mb := ⟨_, rfl⟩
  rw [hmb] at HMB
  generalize hWA : (w.alloc (.cells (m.cs s) 28)) = wA at HW HMB HF hB1 hb1
  obtain ⟨ln, hln⟩ : ∃ ln, m.ns = ln := ⟨_, rfl⟩
  rw [hln] at HNS ⊢
  go_enter Try.func17, Try.ntmps17
  go_upto_region 1 with fail
  clear hWA
  obtain ⟨d0, d1, d2, d3, d4, d5, d6, d7, d8, d9, d10, d11, d12⟩ := HMB.out.cells
  have hl11 : ln.length = 11 := by rw [← hln]; rfl
  have HLN : Hid (ln.length = 11) := hl11
  obtain ⟨nb, hnb⟩ : ∃ nb, wA.heap.size = nb := ⟨_, rfl⟩
  have HBA : Below wA.heap.size wA (wA.alloc (.cells #[.int .i64 m.kind, .int .i64 m.frm, .int .i64 m.dst, .int .i64 m.view, .int .i64 m.norm, .int .i64 m.fin, .int .i64 m.com, .int .i64 m.err, .int .i64 m.prod, .int .i64 m.seq, .int .i64 m.base] 3)) := (Below.refl _ _).alloc (Nat.le_refl _) _
  have HNI : Hid ((wA.alloc (.cells #[.int .i64 m.kind, .int .i64 m.frm, .int .i64 m.dst, .int .i64 m.view, .int .i64 m.norm, .int .i64 m.fin, .int .i64 m.com, .int .i64 m.err, .int .i64 m.prod, .int .i64 m.seq, .int .i64 m.base] 3)).heap[wA.heap.size]? = some (.cells (ln.map (Value.int .i64 ·)).toArray 3 (0, 0))) := by
    rw [← hln]; exact heap_alloc_new _ _
  have HST : Hid (BS (wA.alloc (.cells #[.int .i64 m.kind, .int .i64 m.frm, .int .i64 m.dst, .int .i64 m.view, .int .i64 m.norm, .int .i64 m.fin, .int .i64 m.com, .int .i64 m.err, .int .i64 m.prod, .int .i64 m.seq, .int .i64 m.base] 3)) B b l ∧ BF B b w (wA.alloc (.cells #[.int .i64 m.kind, .int .i64 m.frm, .int .i64 m.dst, .int .i64 m.view, .int .i64 m.norm, .int .i64 m.fin, .int .i64 m.com, .int .i64 m.err, .int .i64 m.prod, .int .i64 m.seq, .int .i64 m.base] 3))) := ⟨HW.out.below HBA, HF.out.trans (BF.of_below HBA hB1)⟩
  have hne : nb ≠ b := by omega
  rw [hnb] at HNI
  generalize hWB : (wA.alloc (.cells #[.int .i64 m.kind, .int .i64 m.frm, .int .i64 m.dst, .int .i64 m.view, .int .i64 m.norm, .int .i64 m.fin, .int .i64 m.com, .int .i64 m.err, .int .i64 m.prod, .int .i64 m.seq, .int .i64 m.base] 3)) = wB at HNI HST
  clear HBA hl11
  go_wp2
  clear hWB hln hnb d0 d1 d2 d3 d4 d5 d6 d7 d8 d9 d10 d11 d12
  go_loopw [32] (fun i wr => ∃ (M T : List Int), i = .int .i64 (M.length : Nat) ∧ ln = M ++ T ∧ wr.heap[nb]? = some (.cells (ln.map (Value.int .i64 ·)).toArray 3 (0, 0)) ∧ BS wr B b (l ++ numsL M) ∧ BF B b w wr) (fun i _ => 11 - (intOf i).toNat)
  case atStart => exact ⟨[], ln, rfl, rfl, HNI.out, by simpa [numsL] using HST.out.1, HST.out.2⟩
  case round =>
    obtain ⟨M, T, rfl, hT, hni, hbs, hbf⟩ := hrel
    have HT : Hid (ln = M ++ T) := hT
    have HN2 : Hid (wr.heap[nb]? = some (.cells (ln.map (Value.int .i64 ·)).toArray 3 (0, 0))) := hni
    have HBS : Hid (BS wr B b (l ++ numsL M)) := hbs
    have HBF : Hid (BF B b w wr) := hbf
    have hBr : B ≤ wr.heap.size := Nat.le_trans hB hbf.size
    clear hT hni hbs hbf
    cases T with
    | nil =>
      have hM : ln = M := by rw [HT.out, List.append_nil]
      have hML : M.length = 11 := by have := HLN.out; rw [hM] at this; exact this
      have HE : Hid (BS wr B b (l ++ numsL ln)) := by rw [hM]; exact HBS.out
      clear hM
      go_wp2
      first | go_ret | go_end0 | skip
      exact ⟨rfl, HE.out, HBF.out⟩
    | cons n T =>
      have hlt : M.length < 11 := by have := HLN.out; rw [HT.out] at this; simp at this; omega
      have c0 := (NIn.of HN2.out) M.length n (by rw [HT.out]; simp)
      obtain ⟨hn0, hn1⟩ := HNS.out n (by rw [HT.out]; simp)
      obtain ⟨k, rfl⟩ : ∃ k : Nat, n = k := Int.eq_ofNat_of_zero_le hn0
      have hll := numsL_len M
      go_wp2_with fail
      refine (wput_ok B b _ k _ HBS.out (by omega) (by rw [List.length_append]; omega) hBr).mono ?_
      rintro e w2 ⟨rfl, g1, g2⟩
      have hnx : BS w2 B b (l ++ numsL (M ++ [(k : Int)])) := by
        rw [numsL_append]; simpa [numsL, List.append_assoc] using g1
      have HNX : Hid (BS w2 B b (l ++ numsL (M ++ [(k : Int)]))) := hnx
      clear hnx
      have HFX : Hid (BF B b w w2) := HBF.out.trans g2
      have HN3 : Hid (w2.heap[nb]? = some (.cells (ln.map (Value.int .i64 ·)).toArray 3 (0, 0))) := g2.kept nb _ HN2.out (by simpa using hne) (fun c fz e => by cases e)
      clear g1 g2 c0 hll
      go_wp2
      go_roundw
      case rel => exact ⟨M ++ [(k : Int)], T, by simp, by rw [HT.out]; simp, HN3.out, HNX.out, HFX.out⟩
      case measure => simp [intOf]; omega
end Go.Proofs.Ytalpbnkmppdgdaa
namespace Go.Proofs.Ytalpbnkmppdgdaa
open Go.RowKit
set_option linter.unusedVariables false

theorem logL_append (a b : List ByteArray) : logL (a ++ b) = logL a ++ logL b := by
  induction a with
  | nil => rfl
  | cons x a ih => simp [logL, ih, List.append_assoc]
theorem logL_len (l : List ByteArray) (h : ∀ t ∈ l, t.size ≤ 262154) : (logL l).length ≤ 262164 * l.length := by
  induction l with
  | nil => exact Nat.le_refl _
  | cons x l ih =>
    have h1 := vb_length x.size
    have h2 := h x List.mem_cons_self
    have h3 := data_len x
    have h4 := ih (fun t ht => h t (List.mem_cons_of_mem _ ht))
    simp only [logL, List.length_append, List.length_cons]
    omega
/-- What putLog wrote: all texts, or the first ones, if there are too many bytes already. -/
def PutE (l : List UInt8) (L : List ByteArray) (l' : List UInt8) : Prop :=
  ∃ M T, L = M ++ T ∧ l' = l ++ (vb L.length ++ logL M) ∧ (T = [] ∨ 1048576 < l'.length)
set_option maxHeartbeats 2000000 in
theorem putLog_ok (w0 : World) (B b : Nat) (l : List UInt8) (a : Option Addr) (cap : Nat) (L : List ByteArray) (w : World) (h : BS w B b l) (h0 : TIn w0 a L) (hb0 : Below w0.heap.size w0 w) (hB0 : w0.heap.size ≤ B) (hL : logB L = true) (hlen : l.length ≤ 1000) (hB : B ≤ w.heap.size) :
    Calls Try.prog 18 #[.pointer (some ⟨b, 0, none⟩), .slice a L.length cap] w fun e w' => e = .returned (.tuple #[]) ∧ ∃ l', PutE l L l' ∧ BS w' B b l' ∧ BF B b w w' := by
  obtain ⟨hL1, hL2⟩ := (logB_iff _).1 hL
  have HL2 : Hid (∀ t ∈ L, t.size ≤ 262154) := hL2
  have H0 : Hid (TIn w0 a L ∧ Below w0.heap.size w0 w) := ⟨h0, hb0⟩
  have HW : Hid (BS w B b l) := h
  clear hL hL2 h0 hb0 h
  obtain ⟨len, hl⟩ : ∃ len, L.length = len := ⟨_, rfl⟩
  rw [hl] at hL1 ⊢
  have HL : Hid (L.length = len) := hl
  clear hl
  have hvl := vb_length len
  go_enter Try.func18, Try.ntmps18
  go_wp2_with fail
  refine (wput_ok B b _ len _ HW.out (by omega) (by omega) hB).mono ?_
  rintro e w1 ⟨rfl, g1, g2⟩
  have HB1 : Hid (BS w1 B b (l ++ vb len)) := g1
  have HF1 : Hid (BF B b w w1) := g2
  clear g1 g2
  go_wp2
  go_loopw [12] (fun i wr => ∃ (M T : List ByteArray), i = .int .i64 (M.length : Nat) ∧ L = M ++ T ∧ BS wr B b (l ++ (vb len ++ logL M)) ∧ BF B b w wr) (fun i _ => len - (intOf i).toNat)
  case atStart => exact ⟨[], L, rfl, rfl, by simpa [logL] using HB1.out, HF1.out⟩
  case round =>
    obtain ⟨M, T, rfl, hT, hbs, hbf⟩ := hrel
    have HT : Hid (L = M ++ T) := hT
    have HBS : Hid (BS wr B b (l ++ (vb len ++ logL M))) := hbs
    have HBF : Hid (BF B b w wr) := hbf
    have hBr : B ≤ wr.heap.size := Nat.le_trans hB hbf.size
    have hTI : TIn wr a L := H0.out.1.below (H0.out.2.trans (hbf.below.mono hB0)) (Nat.le_refl _)
    have hMl := logL_len M (fun t ht => HL2.out t (by rw [hT]; simp [ht]))
    clear hT hbs hbf
    cases T with
    | nil =>
      have hM : L = M := by rw [HT.out, List.append_nil]
      have hML : M.length = len := by have := HL.out; rw [hM] at this; exact this
      have HE : Hid (PutE l L (l ++ (vb len ++ logL M))) := ⟨M, [], HT.out, by rw [HL.out], .inl rfl⟩
      clear hM hTI hMl
      go_wp2
      first | go_ret | go_end0 | skip
      exact ⟨rfl, _, HE.out, HBS.out, HBF.out⟩
    | cons t T =>
      have hlt : M.length < len := by have := HL.out; rw [HT.out] at this; simp at this; omega
      have hts := HL2.out t (by rw [HT.out]; simp)
      obtain ⟨sb, so, rfl, hsb, c0⟩ := hTI M.length t (by rw [HT.out]; simp)
      have hll : (l ++ (vb len ++ logL M)).length ≤ 2000000000 := by simp only [List.length_append]; omega
      clear hTI hMl
      obtain ⟨l1, hl1⟩ : ∃ l1, l ++ (vb len ++ logL M) = l1 := ⟨_, rfl⟩
      have HL1 : Hid (l ++ (vb len ++ logL M) = l1) := hl1
      rw [hl1] at HBS hll
      clear hl1
      by_cases hbig : 1048576 < l1.length
      · have hbi : (1048576 : Int) < (l1.length : Int) := by omega
        have HE : Hid (PutE l L l1) := ⟨M, t :: T, HT.out, by rw [HL.out, HL1.out], .inr hbig⟩
        go_wp2_with fail
        refine (HBS.out.len (by omega)).mono ?_
        rintro e w2 ⟨rfl, hw2⟩
        obtain rfl := hw2.symm
        go_wp2
        first | go_ret | go_end0 | exact bodyPost_ret (v := .tuple #[]) (by simp [results, Try.results18]) rfl ⟨rfl, _, HE.out, HBS.out, HBF.out⟩ | skip
        all_goals exact ⟨rfl, _, HE.out, HBS.out, HBF.out⟩
      · have hbi : ¬ (1048576 : Int) < (l1.length : Int) := by omega
        go_wp2_with fail
        refine (HBS.out.len (by omega)).mono ?_
        rintro e w2 ⟨rfl, hw2⟩
        obtain rfl := hw2.symm
        go_wp2_with fail
        refine (wput_ok B b _ t.size _ HBS.out (by omega) (by omega) hBr).mono ?_
        rintro e w3 ⟨rfl, g1, g2⟩
        have HB3 : Hid (BS w3 B b (l1 ++ vb t.size)) := g1
        have HF3 : Hid (BF B b w w3) := HBF.out.trans g2
        have hB3 : B ≤ w3.heap.size := Nat.le_trans hBr g2.size
        clear g1 g2 c0
        have hvt := vb_length t.size
        go_wp2_with fail
        refine (write_ok B b _ t _ HB3.out (by simp only [List.length_append]; omega) hB3).mono ?_
        rintro e w4 ⟨rfl, g1, g2⟩
        have hnx : BS w4 B b (l ++ (vb len ++ logL (M ++ [t]))) := by
          rw [← HL1.out] at g1
          rw [logL_append]
          simpa [logL, List.append_assoc] using g1
        have HNX : Hid (BS w4 B b (l ++ (vb len ++ logL (M ++ [t])))) := hnx
        have HF4 : Hid (BF B b w w4) := HF3.out.trans g2
        clear g1 g2 hnx hvt
        go_wp2
        go_roundw
        case rel => exact ⟨M ++ [t], T, by simp, by rw [HT.out]; simp, HNX.out, HF4.out⟩
        case measure => simp [intOf]; omega
set_option maxHeartbeats 1000000 in
theorem putBody_ok (w0 : World) (B b : Nat) (l : List UInt8) (a : Option Addr) (cap : Nat) (L : List Rec) (w : World) (h : BS w B b l) (h0 : RIn w0 a L) (hsz : Sized L) (hb0 : Below w0.heap.size w0 w) (hB0 : w0.heap.size ≤ B) (hL : bodyB L = true) (hlen : l.length ≤ 2000000000) (hB : B ≤ w.heap.size) :
    Calls Try.prog 19 #[.pointer (some ⟨b, 0, none⟩), .slice a L.length cap] w fun e w' => e = .returned (.tuple #[]) ∧ BS w' B b (l ++ (vb L.length ++ recsL 0 L)) ∧ BF B b w w' := by
  obtain ⟨hL1, hL2⟩ := (bodyB_iff _).1 hL
  have hc := bodyF_comes hL2
  have hrl := recsL_len 0 L (comes_mem L 0 hc)
  have HBY : Hid (∀ W, RIn W a L → Calls Try.prog 35 #[.slice a L.length cap, .int .i64 0] W fun e w' => e = .returned (.tuple #[.string (mk (recsL 0 L)), .int .i64 0]) ∧ Below W.heap.size W w') := fun W h => by
    have := bytes_ok a cap L 0 W h hsz (by omega)
    rw [bytesV_good (by rw [hc]; rfl)] at this
    exact this
  have hms := mk_size (recsL 0 L)
  have HML : Hid ((mk (recsL 0 L)).data.toList = recsL 0 L) := mk_toList _
  have H0 : Hid (RIn w0 a L ∧ Below w0.heap.size w0 w) := ⟨h0, hb0⟩
  have HW : Hid (BS w B b l) := h
  generalize mk (recsL 0 L) = z at HBY HML hms
  rw [← hms] at hrl
  clear hL hL2 h0 hb0 h hc hms
  obtain ⟨len, hl⟩ : ∃ len, L.length = len := ⟨_, rfl⟩
  rw [hl] at hL1 hrl HBY ⊢
  clear hl
  have hvl := vb_length len
  go_enter Try.func19, Try.ntmps19
  go_wp2_with fail
  refine (wput_ok B b _ len _ HW.out (by omega) (by omega) hB).mono ?_
  rintro e w1 ⟨rfl, g1, g2⟩
  have HB1 : Hid (BS w1 B b (l ++ vb len)) := g1
  have HF1 : Hid (BF B b w w1) := g2
  have hs1 : B ≤ w1.heap.size := Nat.le_trans hB g2.size
  have HR1 : Hid (RIn w1 a L) := H0.out.1.below (H0.out.2.trans (g2.below.mono hB0)) (Nat.le_refl _)
  clear g1 g2
  go_wp2_with fail
  refine (HBY.out _ HR1.out).mono ?_
  rintro e w2 ⟨rfl, hb2⟩
  have HB2 : Hid (BS w2 B b (l ++ vb len)) := HB1.out.below hb2
  have HF2 : Hid (BF B b w w2) := HF1.out.trans (BF.of_below hb2 hs1)
  have hs2 : B ≤ w2.heap.size := Nat.le_trans hs1 hb2.size
  clear hb2
  go_wp2_with fail
  refine (write_ok B b _ z _ HB2.out (by simp only [List.length_append]; omega) hs2).mono ?_
  rintro e w3 ⟨rfl, g1, g2⟩
  have hnx : BS w3 B b (l ++ (vb len ++ recsL 0 L)) := by
    rw [HML.out] at g1
    simpa [List.append_assoc] using g1
  have HB3 : Hid (BS w3 B b (l ++ (vb len ++ recsL 0 L))) := hnx
  have HF3 : Hid (BF B b w w3) := HF2.out.trans g2
  clear g1 g2 hnx
  go_wp2
  first | go_ret | go_end0 | skip
  exact ⟨rfl, HB3.out, HF3.out⟩
end Go.Proofs.Ytalpbnkmppdgdaa
namespace Go.Proofs.Ytalpbnkmppdgdaa
open Go.RowKit
set_option linter.unusedVariables false

/-- What Bytes answers. -/
def bytesW (m : Msg) : Value := if mayM m then (if (msgL m).length ≤ 1048576 then .tuple #[.string (mk (msgL m)), .int .i64 0] else .tuple #[.string ⟨#[]⟩, .int .i64 4]) else .tuple #[.string ⟨#[]⟩, .int .i64 140]
theorem bytesW_bad {m : Msg} (h : mayM m = false) : bytesW m = .tuple #[.string ⟨#[]⟩, .int .i64 140] := by unfold bytesW; rw [h]; rfl
theorem bytesW_good {m : Msg} (h : mayM m = true) (hl : (msgL m).length ≤ 1048576) : bytesW m = .tuple #[.string (mk (msgL m)), .int .i64 0] := by unfold bytesW; rw [if_pos h, if_pos hl]
theorem bytesW_long {m : Msg} (h : mayM m = true) (hl : ¬ (msgL m).length ≤ 1048576) : bytesW m = .tuple #[.string ⟨#[]⟩, .int .i64 4] := by unfold bytesW; rw [if_pos h, if_neg hl]
/-- What was written is all, or too much already, and so is all. -/
theorem put_whole {m : Msg} {l' : List UInt8} (h : PutE (numsL m.ns) m.log l') :
    (l' ++ (vb m.body.length ++ recsL 0 m.body) = msgL m) ∨ (1048576 < (l' ++ (vb m.body.length ++ recsL 0 m.body)).length ∧ ¬ (msgL m).length ≤ 1048576) := by
  obtain ⟨M, T, hT, rfl, rfl | hb⟩ := h
  · left
    rw [List.append_nil] at hT
    rw [← hT]
    unfold msgL
    simp [List.append_assoc]
  · right
    simp only [List.length_append] at hb ⊢
    refine ⟨by omega, ?_⟩
    unfold msgL
    have : (logL m.log).length = (logL M).length + (logL T).length := by rw [hT, logL_append, List.length_append]
    simp only [List.length_append]
    omega
theorem putE_len {l : List UInt8} {L : List ByteArray} {l' : List UInt8} (h : PutE l L l') (hl : l.length ≤ 1000) (hL : logB L = true) : l'.length ≤ 1500000000 := by
  obtain ⟨M, T, hT, rfl, _⟩ := h
  obtain ⟨h1, h2⟩ := (logB_iff _).1 hL
  have h3 := logL_len M (fun t ht => h2 t (by rw [hT]; simp [ht]))
  have h4 := vb_length L.length
  have h5 : M.length ≤ L.length := by rw [hT, List.length_append]; omega
  simp only [List.length_append]
  omega
set_option maxHeartbeats 2000000 in
theorem wbytes_ok (m : Msg) (s : Spot) (w : World) (hin : MIn w m s) :
    Calls Try.prog 9 #[m.v s] w fun e w' => e = .returned (bytesW m) ∧ Below w.heap.size w w' := by
  have HIN : Hid (MIn w m s) := hin
  have HC : Hid (∀ W, MIn W m s → Calls Try.prog 11 #[m.v s] W fun e w' => e = .returned (.int .i64 (errW (mayM m))) ∧ Below W.heap.size W w') := fun W h => wcheck_ok m s W h
  clear hin
  have hBA0 : Below w.heap.size w (w.alloc (.cells (m.cs s) 28)) := (Below.refl _ _).alloc (Nat.le_refl _) _
  have HIA : Hid (MIn (w.alloc (.cells (m.cs s) 28)) m s) := HIN.out.below hBA0 (Nat.le_refl _)
  have HBA : Hid (Below w.heap.size w (w.alloc (.cells (m.cs s) 28))) := hBA0
  have HMB : Hid (MB (w.alloc (.cells (m.cs s) 28)) w.heap.size m s) := heap_alloc_new _ _
  clear hBA0
  obtain ⟨mb, hmb⟩ : ∃ mb, w.heap.size = mb := ⟨_, rfl⟩
  rw [hmb] at HMB
  generalize hWA : (w.alloc (.cells (m.cs s) 28)) = wA at HMB HBA HIA
  have h0 : errW true = 0 := rfl
  have h1 : errW false = 140 := rfl
  by_cases hm : mayM m = true
  · rw [hm, h0] at HC
    obtain ⟨hmn, hml, hmbo⟩ := (mayM_iff m).1 hm
    have HMM : Hid (mayM m = true ∧ numsB m = true ∧ logB m.log = true ∧ bodyB m.body = true) := ⟨hm, hmn, hml, hmbo⟩
    obtain ⟨bv, hbv⟩ : ∃ bv, bytesW m = bv := ⟨_, rfl⟩
    have HBV : Hid (bytesW m = bv) := hbv
    rw [hbv]
    clear hbv hm hmn hml hmbo h0 h1
    go_enter Try.func9, Try.ntmps9
    go_upto_region 1 with fail
    clear hWA
    obtain ⟨d0, d1, d2, d3, d4, d5, d6, d7, d8, d9, d10, d11, d12⟩ := HMB.out.cells
    go_wp2_with fail
    refine (HC.out _ HIA.out).mono ?_
    rintro e w1 ⟨rfl, hb1⟩
    have HM1 : Hid (MB w1 mb m s) := HMB.out.below hb1
    have HB1 : Hid (Below w.heap.size w w1) := HBA.out.trans (hb1.mono HBA.out.size)
    have hmlt : mb < w1.heap.size := lt_of_block HM1.out
    clear hb1 d0 d1 d2 d3 d4 d5 d6 d7 d8 d9 d10 d11 d12
    have hBn : Below w1.heap.size w1 (w1.alloc (.cells #[.pointer none, .slice none 0 0] 43)) := (Below.refl _ _).alloc (Nat.le_refl _) _
    have HM2 : Hid (MB (w1.alloc (.cells #[.pointer none, .slice none 0 0] 43)) mb m s) := HM1.out.below hBn
    have HB2 : Hid (Below w.heap.size w (w1.alloc (.cells #[.pointer none, .slice none 0 0] 43))) := HB1.out.trans (hBn.mono HB1.out.size)
    have HS2 : Hid (BS (w1.alloc (.cells #[.pointer none, .slice none 0 0] 43)) w1.heap.size w1.heap.size []) := BS.new w1
    have hs2 : w1.heap.size ≤ (w1.alloc (.cells #[.pointer none, .slice none 0 0] 43)).heap.size := by simp
    have hwB : w.heap.size ≤ w1.heap.size := HB1.out.size
    obtain ⟨B, hB⟩ : ∃ B, w1.heap.size = B := ⟨_, rfl⟩
    rw [hB] at HS2 hs2 hmlt hwB
    have hne : mb ≠ B := by omega
    generalize hW2 : (w1.alloc (.cells #[.pointer none, .slice none 0 0] 43)) = w2 at HM2 HB2 HS2 hs2
    clear hBn
    go_upto_region 5 with fail
    clear hW2
    obtain ⟨d0, d1, d2, d3, d4, d5, d6, d7, d8, d9, d10, d11, d12⟩ := HM2.out.cells
    go_wp2_with fail
    refine (putNumbers_ok B B [] m s _ HS2.out HMM.out.2.1 (by simp) hs2).mono ?_
    rintro e w3 ⟨rfl, g1, g2⟩
    have HS3 : Hid (BS w3 B B (numsL m.ns)) := g1
    have HM3 : Hid (MB w3 mb m s) := HM2.out.kept hne g2
    have HB3 : Hid (Below w.heap.size w w3) := HB2.out.trans (g2.below.mono hwB)
    have hs3 : B ≤ w3.heap.size := Nat.le_trans hs2 g2.size
    clear g1 g2 d0 d1 d2 d3 d4 d5 d6 d7 d8 d9 d10 d11 d12
    obtain ⟨d0, d1, d2, d3, d4, d5, d6, d7, d8, d9, d10, d11, d12⟩ := HM3.out.cells
    clear d0 d1 d2 d3 d4 d5 d6 d7 d8 d9 d10
    have hnl : (numsL m.ns).length ≤ 1000 := by have := numsL_len m.ns; have h11 : m.ns.length = 11 := rfl; omega
    go_wp2_with fail
    refine (putLog_ok w B B (numsL m.ns) s.la s.lc m.log _ HS3.out HIN.out.log HB3.out hwB HMM.out.2.2.1 hnl hs3).mono ?_
    rintro e w4 ⟨rfl, l4, hp4, g1, g2⟩
    have HP4 : Hid (PutE (numsL m.ns) m.log l4) := hp4
    have hl4 := putE_len hp4 hnl HMM.out.2.2.1
    have HS4 : Hid (BS w4 B B l4) := g1
    have HM4 : Hid (MB w4 mb m s) := HM3.out.kept hne g2
    have HB4 : Hid (Below w.heap.size w w4) := HB3.out.trans (g2.below.mono hwB)
    have hs4 : B ≤ w4.heap.size := Nat.le_trans hs3 g2.size
    clear hp4 g1 g2 d11 d12 hnl
    obtain ⟨d0, d1, d2, d3, d4, d5, d6, d7, d8, d9, d10, d11, d12⟩ := HM4.out.cells
    clear d0 d1 d2 d3 d4 d5 d6 d7 d8 d9 d10 d11
    go_wp2_with fail
    refine (putBody_ok w B B l4 s.ba s.bc m.body _ HS4.out HIN.out.body HIN.out.bsz HB4.out hwB HMM.out.2.2.2 (by omega) hs4).mono ?_
    rintro e w5 ⟨rfl, g1, g2⟩
    have hlb : (l4 ++ (vb m.body.length ++ recsL 0 m.body)).length ≤ 2000000000 := by
      obtain ⟨hb1, hb2⟩ := (bodyB_iff _).1 HMM.out.2.2.2
      have h1 := recsL_len 0 m.body (comes_mem _ _ (bodyF_comes hb2))
      have h2 := vb_length m.body.length
      simp only [List.length_append]
      omega
    obtain ⟨l5, hl5⟩ : ∃ l5, l4 ++ (vb m.body.length ++ recsL 0 m.body) = l5 := ⟨_, rfl⟩
    have hpw := put_whole HP4.out
    rw [hl5] at g1 hlb hpw
    have HS5 : Hid (BS w5 B B l5) := g1
    have HB5 : Hid (Below w.heap.size w w5) := HB4.out.trans (g2.below.mono hwB)
    have hs5 : B ≤ w5.heap.size := Nat.le_trans hs4 g2.size
    clear g1 g2 d12 hl4 hl5
    by_cases hbig : 1048576 < l5.length
    · have hbi : (1048576 : Int) < (l5.length : Int) := by omega
      have HE : Hid (bv = .tuple #[.string ⟨#[]⟩, .int .i64 4]) := by
        rw [← HBV.out]
        refine bytesW_long HMM.out.1 ?_
        rcases hpw with h | h
        · rw [← h]; omega
        · exact h.2
      clear hpw
      go_wp2_with fail
      refine (HS5.out.len (by omega)).mono ?_
      rintro e w6 ⟨rfl, hw6⟩
      obtain rfl := hw6.symm
      go_wp2
      go_ret2
      exact ⟨by rw [HE.out]; rfl, HB5.out⟩
    · have hbi : ¬ (1048576 : Int) < (l5.length : Int) := by omega
      have HE : Hid (bv = .tuple #[.string (mk l5), .int .i64 0]) := by
        rw [← HBV.out]
        rcases hpw with h | h
        · rw [h]; exact bytesW_good HMM.out.1 (by rw [← h]; omega)
        · exact absurd h.1 hbig
      clear hpw
      go_wp2_with fail
      refine (HS5.out.len (by omega)).mono ?_
      rintro e w6 ⟨rfl, hw6⟩
      obtain rfl := hw6.symm
      go_wp2_with fail
      refine (Try.Builder_String_any_k _ _ _ _ HS5.out hs5).mono ?_
      rintro e w7 ⟨rfl, g1, g2, g3⟩
      have HB7 : Hid (Below w.heap.size w w7) := HB5.out.trans (g2.mono hwB)
      clear g1 g2 g3
      go_wp2
      go_ret2
      exact ⟨by rw [HE.out]; rfl, HB7.out⟩
  · have hm' : mayM m = false := by simpa using hm
    rw [hm', h1] at HC
    have HE : Hid (bytesW m = .tuple #[.string ⟨#[]⟩, .int .i64 140]) := bytesW_bad hm'
    obtain ⟨bv, hbv⟩ : ∃ bv, bytesW m = bv := ⟨_, rfl⟩
    rw [hbv] at HE ⊢
    clear hbv hm hm' h0 h1
    go_enter Try.func9, Try.ntmps9
    go_upto_region 1 with fail
    clear hWA
    obtain ⟨d0, d1, d2, d3, d4, d5, d6, d7, d8, d9, d10, d11, d12⟩ := HMB.out.cells
    go_wp2_with fail
    refine (HC.out _ HIA.out).mono ?_
    rintro e w1 ⟨rfl, hb1⟩
    have HB1 : Hid (Below w.heap.size w w1) := HBA.out.trans (hb1.mono HBA.out.size)
    clear hb1 d0 d1 d2 d3 d4 d5 d6 d7 d8 d9 d10 d11 d12
    go_wp2
    go_ret2
    exact ⟨by rw [HE.out]; rfl, HB1.out⟩
end Go.Proofs.Ytalpbnkmppdgdaa
namespace Go.Proofs.Ytalpbnkmppdgdaa
open Go.RowKit
set_option linter.unusedVariables false

/-- What the closures hold: what is left (block B + 1), whether all went well (block B + 2). -/
structure RD (w : World) (B : Nat) (s : ByteArray) (ok : Bool) : Prop where
  hr : w.heap[B + 1]? = some (.cells #[.string s] 9 (0, 0))
  ho : w.heap[B + 2]? = some (.cells #[.bool ok] 4 (0, 0))
theorem RD.cells {w : World} {B : Nat} {s : ByteArray} {ok : Bool} (h : RD w B s ok) :
    w.cell? ⟨B + 1, 0, none⟩ = some (.string s) ∧ w.cell? ⟨B + 2, 0, none⟩ = some (.bool ok) ∧ w.frozen? ⟨B + 1, 0, none⟩ = false ∧ w.frozen? ⟨B + 2, 0, none⟩ = false :=
  ⟨by simp [World.cell?, h.hr], by simp [World.cell?, h.ho], by simp [World.frozen?, h.hr], by simp [World.frozen?, h.ho]⟩
theorem RD.set1 {w : World} {B : Nat} {s : ByteArray} {ok : Bool} (h : RD w B s ok) (t : ByteArray) : RD (w.setCell ⟨B + 1, 0, none⟩ (.string t)) B t ok :=
  ⟨(block_setCell h.hr).trans (by simp), (Below.heap_setCell _ _ _ _ (by simp)).trans h.ho⟩
theorem RD.set2 {w : World} {B : Nat} {s : ByteArray} {ok : Bool} (h : RD w B s ok) (t : Bool) : RD (w.setCell ⟨B + 2, 0, none⟩ (.bool t)) B s t :=
  ⟨(Below.heap_setCell _ _ _ _ (by simp)).trans h.hr, (block_setCell h.ho).trans (by simp)⟩
theorem RD.below {w w' : World} {B : Nat} {s : ByteArray} {ok : Bool} (h : RD w B s ok) (hb : Below w.heap.size w w') : RD w' B s ok :=
  ⟨(hb.block _ (lt_of_block h.hr)).trans h.hr, (hb.block _ (lt_of_block h.ho)).trans h.ho⟩
theorem RD.drew {w : World} {B : Nat} {s : ByteArray} {ok : Bool} (h : RD w B s ok) : RD w.drew B s ok := ⟨h.hr, h.ho⟩
theorem RD.other {w : World} {B : Nat} {s : ByteArray} {ok : Bool} (h : RD w B s ok) {rb i : Nat} (h1 : rb ≠ B + 1) (h2 : rb ≠ B + 2) (u : Value) : RD (w.setCell ⟨rb, i, none⟩ u) B s ok :=
  ⟨(Below.heap_setCell _ _ _ _ (fun e => h1 (by simpa using e.symm))).trans h.hr, (Below.heap_setCell _ _ _ _ (fun e => h2 (by simpa using e.symm))).trans h.ho⟩
set_option maxHeartbeats 1000000 in
theorem wnumber_ok (B : Nat) (s : ByteArray) (ok : Bool) (w : World) (h : RD w B s ok) (hsz : s.size ≤ 9223372036854775807) :
    Calls Try.prog 42 #[pv (B + 1), pv (B + 2)] w fun e w' => ∃ x t g, NumE s x t g ∧ e = .returned (.int .i64 x) ∧ RD w' B t (ok && g) ∧ NF B w w' := by
  obtain ⟨c1, c2, f1, f2⟩ := h.cells
  have HR : Hid (RD w B s ok) := h
  obtain ⟨r, hr, hv, _⟩ := var_ways s hsz
  clear h
  unfold pv
  rcases hr with ⟨X, n, hd, he⟩ | ⟨hd, he⟩
  · cases he
    obtain ⟨hx, hn1, hn9, hns⟩ := varD_le hd
    have HD : Hid (varD s = some (X, n)) := hd
    clear hd
    have d1 : (w.setCell ⟨B + 2, 0, none⟩ (.bool ok)).cell? ⟨B + 1, 0, none⟩ = some (.string s) := (HR.out.set2 ok).cells.1
    have d2 : (w.setCell ⟨B + 2, 0, none⟩ (.bool ok)).frozen? ⟨B + 1, 0, none⟩ = false := (HR.out.set2 ok).cells.2.2.1
    have HE : Hid (RD ((w.setCell ⟨B + 2, 0, none⟩ (.bool ok)).setCell ⟨B + 1, 0, none⟩ (.string (s.extract n s.size))) B (s.extract n s.size) ok ∧ NF B w ((w.setCell ⟨B + 2, 0, none⟩ (.bool ok)).setCell ⟨B + 1, 0, none⟩ (.string (s.extract n s.size)))) :=
      ⟨(HR.out.set2 ok).set1 _, (NF.set2 _ _ _).trans (NF.set1 _ _ _)⟩
    go_enter Try.func42, Try.ntmps42
    go_wp2_with fail
    refine (hv _).mono ?_
    rintro e w1 ⟨rfl, hw⟩
    obtain rfl := hw.symm
    cases ok
    all_goals
      go_wp2
      go_ret
      exact ⟨_, _, true, .inl ⟨X, n, HD.out, rfl, rfl, rfl⟩, rfl, HE.out.1, HE.out.2⟩
  · have HD : Hid (varD s = none) := hd
    clear hd
    have d1 : (w.setCell ⟨B + 2, 0, none⟩ (.bool false)).cell? ⟨B + 1, 0, none⟩ = some (.string s) := (HR.out.set2 false).cells.1
    have d2 : (w.setCell ⟨B + 2, 0, none⟩ (.bool false)).frozen? ⟨B + 1, 0, none⟩ = false := (HR.out.set2 false).cells.2.2.1
    have HE : Hid (∀ t, RD ((w.setCell ⟨B + 2, 0, none⟩ (.bool false)).setCell ⟨B + 1, 0, none⟩ (.string t)) B t false ∧ NF B w ((w.setCell ⟨B + 2, 0, none⟩ (.bool false)).setCell ⟨B + 1, 0, none⟩ (.string t))) :=
      fun t => ⟨(HR.out.set2 false).set1 _, (NF.set2 _ _ _).trans (NF.set1 _ _ _)⟩
    have hx0 : (s.extract 0 s.size).size ≤ s.size := by simp
    rcases he with he | he
    all_goals
      cases he
      go_enter Try.func42, Try.ntmps42
      go_wp2_with fail
      refine (hv _).mono ?_
      rintro e w1 ⟨rfl, hw⟩
      obtain rfl := hw.symm
      cases ok
      all_goals
        go_wp2
        go_ret
        exact ⟨0, _, false, .inr ⟨HD.out, rfl, (by first | exact hx0 | simp), rfl⟩, rfl, (HE.out _).1, (HE.out _).2⟩
/-- How a number is read, on Nat. -/
theorem wnumber_nat (B : Nat) (s : ByteArray) (ok : Bool) (w : World) (h : RD w B s ok) (hsz : s.size ≤ 9223372036854775807) :
    Calls Try.prog 42 #[.pointer (some ⟨B + 1, 0, none⟩), .pointer (some ⟨B + 2, 0, none⟩)] w fun e w' => ∃ (x : Nat) (t : ByteArray) (g : Bool), NumN s x t g ∧ e = .returned (.int .i64 (x : Nat)) ∧ RD w' B t (ok && g) ∧ NF B w w' := by
  refine (wnumber_ok B s ok w h hsz).mono ?_
  rintro e w' ⟨x, t, g, hN, rfl, h1, h2⟩
  rcases hN with ⟨X, n, hd, rfl, rfl, rfl⟩ | ⟨hd, rfl, ht, rfl⟩
  · exact ⟨X, _, _, .inl ⟨n, hd, rfl, rfl⟩, rfl, h1, h2⟩
  · exact ⟨0, t, _, .inr ⟨hd, rfl, ht, rfl⟩, rfl, h1, h2⟩
set_option maxHeartbeats 1000000 in
theorem wtext_ok (B : Nat) (s : ByteArray) (ok : Bool) (n : Nat) (w : World) (h : RD w B s ok) (hsz : s.size ≤ 140737488355328) (hn : n ≤ 9223372036854775807) :
    Calls Try.prog 44 #[.int .i64 n, pv (B + 1), pv (B + 2)] w fun e w' => ∃ p t g, TextE s n p t g ∧ e = .returned (.string p) ∧ RD w' B t (ok && g) ∧ NF B w w' := by
  obtain ⟨c1, c2, f1, f2⟩ := h.cells
  have HR : Hid (RD w B s ok) := h
  clear h
  unfold pv
  by_cases hlt : n ≤ s.size
  · have hxs : (s.extract 0 n).size ≤ 281474976710656 := by rw [ByteArray.size_extract]; omega
    have HCL : Hid (∀ W, Calls Try.prog 45 #[.string (s.extract 0 n)] W fun e w' => e = .returned (.string (s.extract 0 n)) ∧ Below W.heap.size W w') := fun W => clone _ W hxs
    clear hxs
    go_enter Try.func44, Try.ntmps44
    go_wp2_with fail
    refine (HCL.out _).mono ?_
    rintro e w1 ⟨rfl, hb1⟩
    have HR1 : Hid (RD w1 B s ok) := HR.out.below hb1
    have HF1 : Hid (NF B w w1) := NF.of_below hb1
    clear hb1 c1 c2 f1 f2
    obtain ⟨c1, c2, f1, f2⟩ := HR1.out.cells
    have HE : Hid (RD (w1.setCell ⟨B + 1, 0, none⟩ (.string (s.extract n s.size))) B (s.extract n s.size) ok ∧ NF B w (w1.setCell ⟨B + 1, 0, none⟩ (.string (s.extract n s.size)))) := ⟨HR1.out.set1 _, HF1.out.trans (NF.set1 _ _ _)⟩
    go_wp2
    go_ret
    exact ⟨_, _, true, .inl ⟨hlt, rfl, rfl, rfl⟩, rfl, by rw [Bool.and_true]; exact HE.out.1, HE.out.2⟩
  · have HE : Hid (RD (w.setCell ⟨B + 2, 0, none⟩ (.bool false)) B s false ∧ NF B w (w.setCell ⟨B + 2, 0, none⟩ (.bool false))) := ⟨HR.out.set2 _, NF.set2 _ _ _⟩
    go_enter Try.func44, Try.ntmps44
    go_wp2
    go_ret
    exact ⟨_, _, false, .inr ⟨by omega, rfl, rfl, rfl⟩, rfl, by rw [Bool.and_false]; exact HE.out.1, HE.out.2⟩
theorem wtext_nat (B : Nat) (s : ByteArray) (ok : Bool) (n : Nat) (w : World) (h : RD w B s ok) (hsz : s.size ≤ 140737488355328) (hn : n ≤ 9223372036854775807) :
    Calls Try.prog 44 #[.int .i64 n, .pointer (some ⟨B + 1, 0, none⟩), .pointer (some ⟨B + 2, 0, none⟩)] w fun e w' => ∃ p t g, TextE s n p t g ∧ e = .returned (.string p) ∧ RD w' B t (ok && g) ∧ NF B w w' := wtext_ok B s ok n w h hsz hn
end Go.Proofs.Ytalpbnkmppdgdaa
