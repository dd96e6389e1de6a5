/- Layer 11: SegmentNobody: the walk. -/
import Derived.Test.YtmokjopffgmfjaaGreatDoorV23
namespace Go.Proofs.YtmokjopffgmfjaaGreatDoor
open Go.RowKit
set_option linter.unusedVariables false
set_option maxRecDepth 20000
set_option maxRecDepth 20000

set_option maxHeartbeats 4000000 in
theorem nobody_walk (n : Int) (t : ByteArray) (w : World) (hT : TabF w) :
    Calls Tryz.prog 3 #[.int .i64 n, .string t] w fun e w' => e = .returned (.bool true) ∧ Below w.heap.size w w' := by
  have HT := hide hT
  have HO0 : Hid (Calls Tryz.prog 6 #[.pointer none, .string segN, .int .i64 0] w fun e w' => e = .returned (.tuple #[.pointer none, .int .i64 0, .int .i64 1]) ∧ w' = w) := open_bad w (.pointer none) segN 0 (by decide) (V8.find_no w (.pointer none) (.inl rfl) segN)
  have HN : Hid (Calls Tryz.prog 7 #[.int .i64 99] w fun e w' => e = .returned (.tuple #[.pointer (some ⟨w.heap.size + 1, 0, none⟩), .int .i64 0]) ∧ V8.VD w' w.heap.size (w.heap.size + 1) 99 (fun _ => none) 0 0 ∧ Below w.heap.size w w') := V8.new_ok w 99 (by decide)
  obtain ⟨D, hD⟩ : ∃ D, w.heap.size + 1 = D := ⟨_, rfl⟩
  rw [hD] at HN
  clear hD hT
  go_enter Tryz.func3, Tryz.ntmps3
  go_wp2_with fail
  refine HO0.out.mono ?_
  rintro e W ⟨rfl, hW⟩
  obtain rfl := hW.symm
  clear hW HO0
  go_wp2_with fail
  refine HN.out.mono ?_
  rintro e w1 ⟨rfl, hd1, hb1⟩
  have H1 := hide (And.intro hd1 hb1)
  clear hd1 hb1 HN
  by_cases hn : 0 ≤ n ∧ n ≤ 1099511627520
  · obtain ⟨m, rfl⟩ : ∃ m : Nat, n = (m : Int) := ⟨n.toNat, by omega⟩
    have HO : Hid (Calls Tryz.prog 6 #[.pointer (some ⟨D, 0, none⟩), .string segN, .int .i64 (m : Nat)] w1 fun e w' => ∃ s, e = .returned (.tuple #[.pointer (some ⟨s, 0, none⟩), .int .i64 0, .int .i64 0]) ∧ SG w' w1.heap.size s D segN m [] ⟨m, 0, 0⟩ ∧ Below w1.heap.size w1 w') := open_none w1 D m segN w.heap.size 99 0 0 (fun _ => none) H1.out.1 segN_may rfl (by omega)
    have g1 : (0 : Int) ≤ (m : Int) := by omega
    have g2 : (m : Int) ≤ 1099511627520 := hn.2
    clear hn
    go_wp2_with fail
    refine HO.out.mono ?_
    rintro e w2 ⟨s, rfl, _, hb2⟩
    have H2 : Hid (V8.VD w2 w.heap.size D 99 (fun _ => none) 0 0 ∧ Below w.heap.size w w2) := ⟨H1.out.1.below hb2, H1.out.2.trans (hb2.mono H1.out.2.size)⟩
    clear hb2 HO H1
    have HBd : Hid (Calls Tryz.prog 6 #[.pointer (some ⟨D, 0, none⟩), .string ⟨#[]⟩, .int .i64 0] w2 fun e w' => e = .returned (.tuple #[.pointer none, .int .i64 0, .int .i64 1]) ∧ w' = w2) := open_bad w2 (.pointer (some ⟨D, 0, none⟩)) ⟨#[]⟩ 0 (by decide) (V8.find_bad w2 w.heap.size D 99 0 0 (fun _ => none) H2.out.1 ⟨#[]⟩ (.inl rfl))
    go_wp2_with fail
    refine HBd.out.mono ?_
    rintro e WW ⟨rfl, hW⟩
    obtain rfl := hW.symm
    clear hW HBd
    have H5 : Hid ((((w2.alloc (.cells #[.pointer none, .pointer none, .string ⟨#[]⟩, .int .i64 0, .slice none 0 0, .int .i64 0, .int .i64 0, .int .i64 0] 33)).alloc (.cells #[.pointer none, .pointer (some ⟨w2.heap.size, 0, none⟩)] 22))).heap[w2.heap.size]? = some (.cells #[.pointer none, .pointer none, .string ⟨#[]⟩, .int .i64 0, .slice none 0 0, .int .i64 0, .int .i64 0, .int .i64 0] 33 (0, 0)) ∧ (((w2.alloc (.cells #[.pointer none, .pointer none, .string ⟨#[]⟩, .int .i64 0, .slice none 0 0, .int .i64 0, .int .i64 0, .int .i64 0] 33)).alloc (.cells #[.pointer none, .pointer (some ⟨w2.heap.size, 0, none⟩)] 22))).heap[w2.heap.size + 1]? = some (.cells #[.pointer none, .pointer (some ⟨w2.heap.size, 0, none⟩)] 22 (0, 0)) ∧ Below w.heap.size w ((w2.alloc (.cells #[.pointer none, .pointer none, .string ⟨#[]⟩, .int .i64 0, .slice none 0 0, .int .i64 0, .int .i64 0, .int .i64 0] 33)).alloc (.cells #[.pointer none, .pointer (some ⟨w2.heap.size, 0, none⟩)] 22))) := by
      have hba := below_a w2 (.cells #[.pointer none, .pointer none, .string ⟨#[]⟩, .int .i64 0, .slice none 0 0, .int .i64 0, .int .i64 0, .int .i64 0] 33)
      have hbb := below_a (w2.alloc (.cells #[.pointer none, .pointer none, .string ⟨#[]⟩, .int .i64 0, .slice none 0 0, .int .i64 0, .int .i64 0, .int .i64 0] 33)) (.cells #[.pointer none, .pointer (some ⟨w2.heap.size, 0, none⟩)] 22)
      have hsz : (w2.alloc (.cells #[.pointer none, .pointer none, .string ⟨#[]⟩, .int .i64 0, .slice none 0 0, .int .i64 0, .int .i64 0, .int .i64 0] 33)).heap.size = w2.heap.size + 1 := by simp
      exact ⟨(hbb.block _ (by rw [hsz]; omega)).trans (heap_alloc_new _ _), by rw [← hsz]; exact heap_alloc_new _ _, H2.out.2.trans ((hba.trans (hbb.mono hba.size)).mono H2.out.2.size)⟩
    go_upto_region 10 with fail
    generalize ((w2.alloc (.cells #[.pointer none, .pointer none, .string ⟨#[]⟩, .int .i64 0, .slice none 0 0, .int .i64 0, .int .i64 0, .int .i64 0] 33)).alloc (.cells #[.pointer none, .pointer (some ⟨w2.heap.size, 0, none⟩)] 22)) = w5 at H5
    obtain ⟨X, hX⟩ : ∃ X, w2.heap.size = X := ⟨_, rfl⟩
    rw [hX] at H5
    try rw [hX]
    clear hX
    have y0 : w5.cell? ⟨X + 1, 0, none⟩ = some (.pointer none) := by simp [World.cell?, H5.out.2.1]
    have y1 : w5.cell? ⟨X + 1, 1, none⟩ = some (.pointer (some ⟨X, 0, none⟩)) := by simp [World.cell?, H5.out.2.1]
    have HZ : Hid (w5.cell? ⟨X, 0, none⟩ = some (.pointer none)) := by show w5.cell? _ = _; simp [World.cell?, H5.out.1]
    have HA := hide (awake11 w5 (HT.out.low H5.out.2.2 HT.out.1))
    go_wp2
    go_loopw [17] (fun i wr => ∃ k : Nat, i = .int .i64 (k : Nat) ∧ k ≤ 2 ∧ wr = w5) (fun i _ => 2 - (intOf i).toNat)
    case atStart => exact ⟨0, rfl, by omega, rfl⟩
    case round =>
      obtain ⟨k, rfl, hk, rfl⟩ := hrel
      by_cases hlt : k < 2
      · obtain rfl | rfl : k = 0 ∨ k = 1 := by omega
        · skip
          have hlti : (((0 : Nat)) : Int) < 2 := by decide
          have hv : NobS wr (.pointer none) := .inl rfl
          have HBatch := hide (sno_Batch wr _ hv (m : Nat))
          have HAppend := hide (sno_Append wr _ hv t)
          have HSync := hide (sno_Sync wr _ hv)
          have HCut := hide (sno_Cut wr _ hv (m : Nat))
          have HBase := hide (sno_Base wr _ hv)
          have HEnd := hide (sno_End wr _ hv)
          have HSize := hide (sno_Size wr _ hv)
          have HLen := hide (sno_Len wr _ hv)
          clear hv
          go_wp2_with fail
          refine HBatch.out.mono ?_
          rintro e W ⟨rfl, hW⟩
          obtain rfl := hW.symm
          clear hW HBatch
          go_wp2_with fail
          refine HAppend.out.mono ?_
          rintro e W ⟨rfl, hW⟩
          obtain rfl := hW.symm
          clear hW HAppend
          go_wp2_with fail
          refine HSync.out.mono ?_
          rintro e W ⟨rfl, hW⟩
          obtain rfl := hW.symm
          clear hW HSync
          go_wp2_with fail
          refine HCut.out.mono ?_
          rintro e W ⟨rfl, hW⟩
          obtain rfl := hW.symm
          clear hW HCut
          go_wp2_with fail
          refine HBase.out.mono ?_
          rintro e W ⟨rfl, hW⟩
          obtain rfl := hW.symm
          clear hW HBase
          go_wp2_with fail
          refine HEnd.out.mono ?_
          rintro e W ⟨rfl, hW⟩
          obtain rfl := hW.symm
          clear hW HEnd
          go_wp2_with fail
          refine HSize.out.mono ?_
          rintro e W ⟨rfl, hW⟩
          obtain rfl := hW.symm
          clear hW HSize
          go_wp2_with fail
          refine HLen.out.mono ?_
          rintro e W ⟨rfl, hW⟩
          obtain rfl := hW.symm
          clear hW HLen
          go_wp2
          go_roundw
          case rel => exact ⟨1, rfl, by omega, by first | trivial | rfl⟩
          case measure => simp [intOf]
        · skip
          have hlti : (((1 : Nat)) : Int) < 2 := by decide
          have hv : NobS wr (.pointer (some ⟨X, 0, none⟩)) := .inr ⟨X, rfl, HZ.out⟩
          have HBatch := hide (sno_Batch wr _ hv (m : Nat))
          have HAppend := hide (sno_Append wr _ hv t)
          have HSync := hide (sno_Sync wr _ hv)
          have HCut := hide (sno_Cut wr _ hv (m : Nat))
          have HBase := hide (sno_Base wr _ hv)
          have HEnd := hide (sno_End wr _ hv)
          have HSize := hide (sno_Size wr _ hv)
          have HLen := hide (sno_Len wr _ hv)
          clear hv
          go_wp2_with fail
          refine HBatch.out.mono ?_
          rintro e W ⟨rfl, hW⟩
          obtain rfl := hW.symm
          clear hW HBatch
          go_wp2_with fail
          refine HAppend.out.mono ?_
          rintro e W ⟨rfl, hW⟩
          obtain rfl := hW.symm
          clear hW HAppend
          go_wp2_with fail
          refine HSync.out.mono ?_
          rintro e W ⟨rfl, hW⟩
          obtain rfl := hW.symm
          clear hW HSync
          go_wp2_with fail
          refine HCut.out.mono ?_
          rintro e W ⟨rfl, hW⟩
          obtain rfl := hW.symm
          clear hW HCut
          go_wp2_with fail
          refine HBase.out.mono ?_
          rintro e W ⟨rfl, hW⟩
          obtain rfl := hW.symm
          clear hW HBase
          go_wp2_with fail
          refine HEnd.out.mono ?_
          rintro e W ⟨rfl, hW⟩
          obtain rfl := hW.symm
          clear hW HEnd
          go_wp2_with fail
          refine HSize.out.mono ?_
          rintro e W ⟨rfl, hW⟩
          obtain rfl := hW.symm
          clear hW HSize
          go_wp2_with fail
          refine HLen.out.mono ?_
          rintro e W ⟨rfl, hW⟩
          obtain rfl := hW.symm
          clear hW HLen
          go_wp2
          go_roundw
          case rel => exact ⟨2, rfl, by omega, by first | trivial | rfl⟩
          case measure => simp [intOf]
      · obtain rfl : k = 2 := by omega
        have hlti : ¬ (((2 : Nat)) : Int) < 2 := by decide
        go_wp2_with fail
        refine HA.out.mono ?_
        rintro e w9 ⟨rfl, hb9⟩
        have HF := hide (H5.out.2.2.trans (hb9.mono H5.out.2.2.size))
        clear hb9 HA
        go_wp2
        go_ret
        exact ⟨rfl, HF.out⟩
  · have HO : Hid (Calls Tryz.prog 6 #[.pointer (some ⟨D, 0, none⟩), .string segN, .int .i64 n] w1 fun e w' => e = .returned (.tuple #[.pointer none, .int .i64 0, .int .i64 1]) ∧ w' = w1) := open_out w1 _ segN n (by omega)
    have HNN := hide hn
    have H2 : Hid (V8.VD w1 w.heap.size D 99 (fun _ => none) 0 0 ∧ Below w.heap.size w w1) := H1.out
    obtain ⟨g, hg⟩ : ∃ g, (decide (0 ≤ n) && decide (n ≤ 1099511627520)) = g := ⟨_, rfl⟩
    clear hn
    go_wp2_with fail
    refine HO.out.mono ?_
    rintro e w2 ⟨rfl, hW⟩
    obtain rfl := hW.symm
    clear hW HO H1
    by_cases g1 : 0 ≤ n
    · have g2 : ¬ n ≤ 1099511627520 := by have := HNN.out; omega
      clear hg
      have HBd : Hid (Calls Tryz.prog 6 #[.pointer (some ⟨D, 0, none⟩), .string ⟨#[]⟩, .int .i64 0] w1 fun e w' => e = .returned (.tuple #[.pointer none, .int .i64 0, .int .i64 1]) ∧ w' = w1) := open_bad w1 (.pointer (some ⟨D, 0, none⟩)) ⟨#[]⟩ 0 (by decide) (V8.find_bad w1 w.heap.size D 99 0 0 (fun _ => none) H2.out.1 ⟨#[]⟩ (.inl rfl))
      go_wp2_with fail
      refine HBd.out.mono ?_
      rintro e WW ⟨rfl, hW⟩
      obtain rfl := hW.symm
      clear hW HBd
      have H5 : Hid ((((w1.alloc (.cells #[.pointer none, .pointer none, .string ⟨#[]⟩, .int .i64 0, .slice none 0 0, .int .i64 0, .int .i64 0, .int .i64 0] 33)).alloc (.cells #[.pointer none, .pointer (some ⟨w1.heap.size, 0, none⟩)] 22))).heap[w1.heap.size]? = some (.cells #[.pointer none, .pointer none, .string ⟨#[]⟩, .int .i64 0, .slice none 0 0, .int .i64 0, .int .i64 0, .int .i64 0] 33 (0, 0)) ∧ (((w1.alloc (.cells #[.pointer none, .pointer none, .string ⟨#[]⟩, .int .i64 0, .slice none 0 0, .int .i64 0, .int .i64 0, .int .i64 0] 33)).alloc (.cells #[.pointer none, .pointer (some ⟨w1.heap.size, 0, none⟩)] 22))).heap[w1.heap.size + 1]? = some (.cells #[.pointer none, .pointer (some ⟨w1.heap.size, 0, none⟩)] 22 (0, 0)) ∧ Below w.heap.size w ((w1.alloc (.cells #[.pointer none, .pointer none, .string ⟨#[]⟩, .int .i64 0, .slice none 0 0, .int .i64 0, .int .i64 0, .int .i64 0] 33)).alloc (.cells #[.pointer none, .pointer (some ⟨w1.heap.size, 0, none⟩)] 22))) := by
        have hba := below_a w1 (.cells #[.pointer none, .pointer none, .string ⟨#[]⟩, .int .i64 0, .slice none 0 0, .int .i64 0, .int .i64 0, .int .i64 0] 33)
        have hbb := below_a (w1.alloc (.cells #[.pointer none, .pointer none, .string ⟨#[]⟩, .int .i64 0, .slice none 0 0, .int .i64 0, .int .i64 0, .int .i64 0] 33)) (.cells #[.pointer none, .pointer (some ⟨w1.heap.size, 0, none⟩)] 22)
        have hsz : (w1.alloc (.cells #[.pointer none, .pointer none, .string ⟨#[]⟩, .int .i64 0, .slice none 0 0, .int .i64 0, .int .i64 0, .int .i64 0] 33)).heap.size = w1.heap.size + 1 := by simp
        exact ⟨(hbb.block _ (by rw [hsz]; omega)).trans (heap_alloc_new _ _), by rw [← hsz]; exact heap_alloc_new _ _, H2.out.2.trans ((hba.trans (hbb.mono hba.size)).mono H2.out.2.size)⟩
      go_upto_region 10 with fail
      generalize ((w1.alloc (.cells #[.pointer none, .pointer none, .string ⟨#[]⟩, .int .i64 0, .slice none 0 0, .int .i64 0, .int .i64 0, .int .i64 0] 33)).alloc (.cells #[.pointer none, .pointer (some ⟨w1.heap.size, 0, none⟩)] 22)) = w5 at H5
      obtain ⟨X, hX⟩ : ∃ X, w1.heap.size = X := ⟨_, rfl⟩
      rw [hX] at H5
      try rw [hX]
      clear hX
      have y0 : w5.cell? ⟨X + 1, 0, none⟩ = some (.pointer none) := by simp [World.cell?, H5.out.2.1]
      have y1 : w5.cell? ⟨X + 1, 1, none⟩ = some (.pointer (some ⟨X, 0, none⟩)) := by simp [World.cell?, H5.out.2.1]
      have HZ : Hid (w5.cell? ⟨X, 0, none⟩ = some (.pointer none)) := by show w5.cell? _ = _; simp [World.cell?, H5.out.1]
      have HA := hide (awake11 w5 (HT.out.low H5.out.2.2 HT.out.1))
      go_wp2
      go_loopw [17] (fun i wr => ∃ k : Nat, i = .int .i64 (k : Nat) ∧ k ≤ 2 ∧ wr = w5) (fun i _ => 2 - (intOf i).toNat)
      case atStart => exact ⟨0, rfl, by omega, rfl⟩
      case round =>
        obtain ⟨k, rfl, hk, rfl⟩ := hrel
        by_cases hlt : k < 2
        · obtain rfl | rfl : k = 0 ∨ k = 1 := by omega
          · skip
            have hlti : (((0 : Nat)) : Int) < 2 := by decide
            have hv : NobS wr (.pointer none) := .inl rfl
            have HBatch := hide (sno_Batch wr _ hv n)
            have HAppend := hide (sno_Append wr _ hv t)
            have HSync := hide (sno_Sync wr _ hv)
            have HCut := hide (sno_Cut wr _ hv n)
            have HBase := hide (sno_Base wr _ hv)
            have HEnd := hide (sno_End wr _ hv)
            have HSize := hide (sno_Size wr _ hv)
            have HLen := hide (sno_Len wr _ hv)
            clear hv
            go_wp2_with fail
            refine HBatch.out.mono ?_
            rintro e W ⟨rfl, hW⟩
            obtain rfl := hW.symm
            clear hW HBatch
            go_wp2_with fail
            refine HAppend.out.mono ?_
            rintro e W ⟨rfl, hW⟩
            obtain rfl := hW.symm
            clear hW HAppend
            go_wp2_with fail
            refine HSync.out.mono ?_
            rintro e W ⟨rfl, hW⟩
            obtain rfl := hW.symm
            clear hW HSync
            go_wp2_with fail
            refine HCut.out.mono ?_
            rintro e W ⟨rfl, hW⟩
            obtain rfl := hW.symm
            clear hW HCut
            go_wp2_with fail
            refine HBase.out.mono ?_
            rintro e W ⟨rfl, hW⟩
            obtain rfl := hW.symm
            clear hW HBase
            go_wp2_with fail
            refine HEnd.out.mono ?_
            rintro e W ⟨rfl, hW⟩
            obtain rfl := hW.symm
            clear hW HEnd
            go_wp2_with fail
            refine HSize.out.mono ?_
            rintro e W ⟨rfl, hW⟩
            obtain rfl := hW.symm
            clear hW HSize
            go_wp2_with fail
            refine HLen.out.mono ?_
            rintro e W ⟨rfl, hW⟩
            obtain rfl := hW.symm
            clear hW HLen
            go_wp2
            go_roundw
            case rel => exact ⟨1, rfl, by omega, by first | trivial | rfl⟩
            case measure => simp [intOf]
          · skip
            have hlti : (((1 : Nat)) : Int) < 2 := by decide
            have hv : NobS wr (.pointer (some ⟨X, 0, none⟩)) := .inr ⟨X, rfl, HZ.out⟩
            have HBatch := hide (sno_Batch wr _ hv n)
            have HAppend := hide (sno_Append wr _ hv t)
            have HSync := hide (sno_Sync wr _ hv)
            have HCut := hide (sno_Cut wr _ hv n)
            have HBase := hide (sno_Base wr _ hv)
            have HEnd := hide (sno_End wr _ hv)
            have HSize := hide (sno_Size wr _ hv)
            have HLen := hide (sno_Len wr _ hv)
            clear hv
            go_wp2_with fail
            refine HBatch.out.mono ?_
            rintro e W ⟨rfl, hW⟩
            obtain rfl := hW.symm
            clear hW HBatch
            go_wp2_with fail
            refine HAppend.out.mono ?_
            rintro e W ⟨rfl, hW⟩
            obtain rfl := hW.symm
            clear hW HAppend
            go_wp2_with fail
            refine HSync.out.mono ?_
            rintro e W ⟨rfl, hW⟩
            obtain rfl := hW.symm
            clear hW HSync
            go_wp2_with fail
            refine HCut.out.mono ?_
            rintro e W ⟨rfl, hW⟩
            obtain rfl := hW.symm
            clear hW HCut
            go_wp2_with fail
            refine HBase.out.mono ?_
            rintro e W ⟨rfl, hW⟩
            obtain rfl := hW.symm
            clear hW HBase
            go_wp2_with fail
            refine HEnd.out.mono ?_
            rintro e W ⟨rfl, hW⟩
            obtain rfl := hW.symm
            clear hW HEnd
            go_wp2_with fail
            refine HSize.out.mono ?_
            rintro e W ⟨rfl, hW⟩
            obtain rfl := hW.symm
            clear hW HSize
            go_wp2_with fail
            refine HLen.out.mono ?_
            rintro e W ⟨rfl, hW⟩
            obtain rfl := hW.symm
            clear hW HLen
            go_wp2
            go_roundw
            case rel => exact ⟨2, rfl, by omega, by first | trivial | rfl⟩
            case measure => simp [intOf]
        · obtain rfl : k = 2 := by omega
          have hlti : ¬ (((2 : Nat)) : Int) < 2 := by decide
          go_wp2_with fail
          refine HA.out.mono ?_
          rintro e w9 ⟨rfl, hb9⟩
          have HF := hide (H5.out.2.2.trans (hb9.mono H5.out.2.2.size))
          clear hb9 HA
          go_wp2
          go_ret
          exact ⟨rfl, HF.out⟩
    · clear hg
      have HBd : Hid (Calls Tryz.prog 6 #[.pointer (some ⟨D, 0, none⟩), .string ⟨#[]⟩, .int .i64 0] w1 fun e w' => e = .returned (.tuple #[.pointer none, .int .i64 0, .int .i64 1]) ∧ w' = w1) := open_bad w1 (.pointer (some ⟨D, 0, none⟩)) ⟨#[]⟩ 0 (by decide) (V8.find_bad w1 w.heap.size D 99 0 0 (fun _ => none) H2.out.1 ⟨#[]⟩ (.inl rfl))
      go_wp2_with fail
      refine HBd.out.mono ?_
      rintro e WW ⟨rfl, hW⟩
      obtain rfl := hW.symm
      clear hW HBd
      have H5 : Hid ((((w1.alloc (.cells #[.pointer none, .pointer none, .string ⟨#[]⟩, .int .i64 0, .slice none 0 0, .int .i64 0, .int .i64 0, .int .i64 0] 33)).alloc (.cells #[.pointer none, .pointer (some ⟨w1.heap.size, 0, none⟩)] 22))).heap[w1.heap.size]? = some (.cells #[.pointer none, .pointer none, .string ⟨#[]⟩, .int .i64 0, .slice none 0 0, .int .i64 0, .int .i64 0, .int .i64 0] 33 (0, 0)) ∧ (((w1.alloc (.cells #[.pointer none, .pointer none, .string ⟨#[]⟩, .int .i64 0, .slice none 0 0, .int .i64 0, .int .i64 0, .int .i64 0] 33)).alloc (.cells #[.pointer none, .pointer (some ⟨w1.heap.size, 0, none⟩)] 22))).heap[w1.heap.size + 1]? = some (.cells #[.pointer none, .pointer (some ⟨w1.heap.size, 0, none⟩)] 22 (0, 0)) ∧ Below w.heap.size w ((w1.alloc (.cells #[.pointer none, .pointer none, .string ⟨#[]⟩, .int .i64 0, .slice none 0 0, .int .i64 0, .int .i64 0, .int .i64 0] 33)).alloc (.cells #[.pointer none, .pointer (some ⟨w1.heap.size, 0, none⟩)] 22))) := by
        have hba := below_a w1 (.cells #[.pointer none, .pointer none, .string ⟨#[]⟩, .int .i64 0, .slice none 0 0, .int .i64 0, .int .i64 0, .int .i64 0] 33)
        have hbb := below_a (w1.alloc (.cells #[.pointer none, .pointer none, .string ⟨#[]⟩, .int .i64 0, .slice none 0 0, .int .i64 0, .int .i64 0, .int .i64 0] 33)) (.cells #[.pointer none, .pointer (some ⟨w1.heap.size, 0, none⟩)] 22)
        have hsz : (w1.alloc (.cells #[.pointer none, .pointer none, .string ⟨#[]⟩, .int .i64 0, .slice none 0 0, .int .i64 0, .int .i64 0, .int .i64 0] 33)).heap.size = w1.heap.size + 1 := by simp
        exact ⟨(hbb.block _ (by rw [hsz]; omega)).trans (heap_alloc_new _ _), by rw [← hsz]; exact heap_alloc_new _ _, H2.out.2.trans ((hba.trans (hbb.mono hba.size)).mono H2.out.2.size)⟩
      go_upto_region 10 with fail
      generalize ((w1.alloc (.cells #[.pointer none, .pointer none, .string ⟨#[]⟩, .int .i64 0, .slice none 0 0, .int .i64 0, .int .i64 0, .int .i64 0] 33)).alloc (.cells #[.pointer none, .pointer (some ⟨w1.heap.size, 0, none⟩)] 22)) = w5 at H5
      obtain ⟨X, hX⟩ : ∃ X, w1.heap.size = X := ⟨_, rfl⟩
      rw [hX] at H5
      try rw [hX]
      clear hX
      have y0 : w5.cell? ⟨X + 1, 0, none⟩ = some (.pointer none) := by simp [World.cell?, H5.out.2.1]
      have y1 : w5.cell? ⟨X + 1, 1, none⟩ = some (.pointer (some ⟨X, 0, none⟩)) := by simp [World.cell?, H5.out.2.1]
      have HZ : Hid (w5.cell? ⟨X, 0, none⟩ = some (.pointer none)) := by show w5.cell? _ = _; simp [World.cell?, H5.out.1]
      have HA := hide (awake11 w5 (HT.out.low H5.out.2.2 HT.out.1))
      go_wp2
      go_loopw [17] (fun i wr => ∃ k : Nat, i = .int .i64 (k : Nat) ∧ k ≤ 2 ∧ wr = w5) (fun i _ => 2 - (intOf i).toNat)
      case atStart => exact ⟨0, rfl, by omega, rfl⟩
      case round =>
        obtain ⟨k, rfl, hk, rfl⟩ := hrel
        by_cases hlt : k < 2
        · obtain rfl | rfl : k = 0 ∨ k = 1 := by omega
          · skip
            have hlti : (((0 : Nat)) : Int) < 2 := by decide
            have hv : NobS wr (.pointer none) := .inl rfl
            have HBatch := hide (sno_Batch wr _ hv n)
            have HAppend := hide (sno_Append wr _ hv t)
            have HSync := hide (sno_Sync wr _ hv)
            have HCut := hide (sno_Cut wr _ hv n)
            have HBase := hide (sno_Base wr _ hv)
            have HEnd := hide (sno_End wr _ hv)
            have HSize := hide (sno_Size wr _ hv)
            have HLen := hide (sno_Len wr _ hv)
            clear hv
            go_wp2_with fail
            refine HBatch.out.mono ?_
            rintro e W ⟨rfl, hW⟩
            obtain rfl := hW.symm
            clear hW HBatch
            go_wp2_with fail
            refine HAppend.out.mono ?_
            rintro e W ⟨rfl, hW⟩
            obtain rfl := hW.symm
            clear hW HAppend
            go_wp2_with fail
            refine HSync.out.mono ?_
            rintro e W ⟨rfl, hW⟩
            obtain rfl := hW.symm
            clear hW HSync
            go_wp2_with fail
            refine HCut.out.mono ?_
            rintro e W ⟨rfl, hW⟩
            obtain rfl := hW.symm
            clear hW HCut
            go_wp2_with fail
            refine HBase.out.mono ?_
            rintro e W ⟨rfl, hW⟩
            obtain rfl := hW.symm
            clear hW HBase
            go_wp2_with fail
            refine HEnd.out.mono ?_
            rintro e W ⟨rfl, hW⟩
            obtain rfl := hW.symm
            clear hW HEnd
            go_wp2_with fail
            refine HSize.out.mono ?_
            rintro e W ⟨rfl, hW⟩
            obtain rfl := hW.symm
            clear hW HSize
            go_wp2_with fail
            refine HLen.out.mono ?_
            rintro e W ⟨rfl, hW⟩
            obtain rfl := hW.symm
            clear hW HLen
            go_wp2
            go_roundw
            case rel => exact ⟨1, rfl, by omega, by first | trivial | rfl⟩
            case measure => simp [intOf]
          · skip
            have hlti : (((1 : Nat)) : Int) < 2 := by decide
            have hv : NobS wr (.pointer (some ⟨X, 0, none⟩)) := .inr ⟨X, rfl, HZ.out⟩
            have HBatch := hide (sno_Batch wr _ hv n)
            have HAppend := hide (sno_Append wr _ hv t)
            have HSync := hide (sno_Sync wr _ hv)
            have HCut := hide (sno_Cut wr _ hv n)
            have HBase := hide (sno_Base wr _ hv)
            have HEnd := hide (sno_End wr _ hv)
            have HSize := hide (sno_Size wr _ hv)
            have HLen := hide (sno_Len wr _ hv)
            clear hv
            go_wp2_with fail
            refine HBatch.out.mono ?_
            rintro e W ⟨rfl, hW⟩
            obtain rfl := hW.symm
            clear hW HBatch
            go_wp2_with fail
            refine HAppend.out.mono ?_
            rintro e W ⟨rfl, hW⟩
            obtain rfl := hW.symm
            clear hW HAppend
            go_wp2_with fail
            refine HSync.out.mono ?_
            rintro e W ⟨rfl, hW⟩
            obtain rfl := hW.symm
            clear hW HSync
            go_wp2_with fail
            refine HCut.out.mono ?_
            rintro e W ⟨rfl, hW⟩
            obtain rfl := hW.symm
            clear hW HCut
            go_wp2_with fail
            refine HBase.out.mono ?_
            rintro e W ⟨rfl, hW⟩
            obtain rfl := hW.symm
            clear hW HBase
            go_wp2_with fail
            refine HEnd.out.mono ?_
            rintro e W ⟨rfl, hW⟩
            obtain rfl := hW.symm
            clear hW HEnd
            go_wp2_with fail
            refine HSize.out.mono ?_
            rintro e W ⟨rfl, hW⟩
            obtain rfl := hW.symm
            clear hW HSize
            go_wp2_with fail
            refine HLen.out.mono ?_
            rintro e W ⟨rfl, hW⟩
            obtain rfl := hW.symm
            clear hW HLen
            go_wp2
            go_roundw
            case rel => exact ⟨2, rfl, by omega, by first | trivial | rfl⟩
            case measure => simp [intOf]
        · obtain rfl : k = 2 := by omega
          have hlti : ¬ (((2 : Nat)) : Int) < 2 := by decide
          go_wp2_with fail
          refine HA.out.mono ?_
          rintro e w9 ⟨rfl, hb9⟩
          have HF := hide (H5.out.2.2.trans (hb9.mono H5.out.2.2.size))
          clear hb9 HA
          go_wp2
          go_ret
          exact ⟨rfl, HF.out⟩
end Go.Proofs.YtmokjopffgmfjaaGreatDoor
