/- Layer 12: a log that nobody opened; SeglogNobody: the walk. -/
import Derived.Test.YtogmfdgpnkbpaaaGreatDoorV33
namespace Go.Proofs.YtogmfdgpnkbpaaaGreatDoor
open Go.RowKit
set_option linter.unusedVariables false
set_option maxRecDepth 20000
set_option maxRecDepth 20000

def NobL (w : World) (v : Value) : Prop := v = .pointer none ∨ ∃ g, v = .pointer (some ⟨g, 0, none⟩) ∧ w.cell? ⟨g, 0, none⟩ = some (.pointer none)
theorem lgiven_no (w : World) (v : Value) (h : NobL w v) : Calls Tryz.prog 17 #[v] w fun e w' => e = .returned (.bool false) ∧ w' = w := by
  rcases h with rfl | ⟨s, rfl, h⟩
  · exact lgiven_nil w
  · exact lgiven_zero s w h
theorem lno_Batch (w : World) (v : Value) (h : NobL w v) (n : Int) : Calls Tryz.prog 5 #[v, .int .i64 n] w fun e w' => e = .returned (.tuple #[.string ⟨#[]⟩, .int .i64 1]) ∧ w' = w := by
  have HG := hide (lgiven_no w v h)
  clear h
  go_enter Tryz.func5, Tryz.ntmps5
  go_wp2_with fail
  refine HG.out.mono ?_
  rintro e W ⟨rfl, hW⟩
  obtain rfl := hW.symm
  clear HG hW
  go_wp2
  go_ret2
  exact ⟨rfl, rfl⟩
theorem lno_Batches (w : World) (v : Value) (h : NobL w v) (n : Int) : Calls Tryz.prog 6 #[v, .int .i64 n] w fun e w' => e = .returned (.tuple #[.slice none 0 0, .int .i64 1]) ∧ w' = w := by
  have HG := hide (lgiven_no w v h)
  clear h
  go_enter Tryz.func6, Tryz.ntmps6
  go_wp2_with fail
  refine HG.out.mono ?_
  rintro e W ⟨rfl, hW⟩
  obtain rfl := hW.symm
  clear HG hW
  go_wp2
  go_ret2
  exact ⟨rfl, rfl⟩
theorem lno_Read (w : World) (v : Value) (h : NobL w v) (n : Int) : Calls Tryz.prog 7 #[v, .int .i64 n, .int .i64 n, .int .i64 n] w fun e w' => e = .returned (.tuple #[.slice none 0 0, .int .i64 1]) ∧ w' = w := by
  have HG := hide (lgiven_no w v h)
  clear h
  go_enter Tryz.func7, Tryz.ntmps7
  go_wp2_with fail
  refine HG.out.mono ?_
  rintro e W ⟨rfl, hW⟩
  obtain rfl := hW.symm
  clear HG hW
  go_wp2
  go_ret2
  exact ⟨rfl, rfl⟩
theorem lno_Append (w : World) (v : Value) (h : NobL w v) (t : ByteArray) : Calls Tryz.prog 8 #[v, .string t] w fun e w' => e = .returned (.int .i64 1) ∧ w' = w := by
  have HG := hide (lgiven_no w v h)
  clear h
  go_enter Tryz.func8, Tryz.ntmps8
  go_wp2_with fail
  refine HG.out.mono ?_
  rintro e W ⟨rfl, hW⟩
  obtain rfl := hW.symm
  clear HG hW
  go_wp2
  go_ret
  exact ⟨rfl, rfl⟩
theorem lno_Sync (w : World) (v : Value) (h : NobL w v) : Calls Tryz.prog 9 #[v] w fun e w' => e = .returned (.int .i64 1) ∧ w' = w := by
  have HG := hide (lgiven_no w v h)
  clear h
  go_enter Tryz.func9, Tryz.ntmps9
  go_wp2_with fail
  refine HG.out.mono ?_
  rintro e W ⟨rfl, hW⟩
  obtain rfl := hW.symm
  clear HG hW
  go_wp2
  go_ret
  exact ⟨rfl, rfl⟩
theorem lno_Cut (w : World) (v : Value) (h : NobL w v) (n : Int) : Calls Tryz.prog 10 #[v, .int .i64 n] w fun e w' => e = .returned (.int .i64 1) ∧ w' = w := by
  have HG := hide (lgiven_no w v h)
  clear h
  go_enter Tryz.func10, Tryz.ntmps10
  go_wp2_with fail
  refine HG.out.mono ?_
  rintro e W ⟨rfl, hW⟩
  obtain rfl := hW.symm
  clear HG hW
  go_wp2
  go_ret
  exact ⟨rfl, rfl⟩
theorem lno_End (w : World) (v : Value) (h : NobL w v) : Calls Tryz.prog 11 #[v] w fun e w' => e = .returned (.int .i64 0) ∧ w' = w := by
  have HG := hide (lgiven_no w v h)
  clear h
  go_enter Tryz.func11, Tryz.ntmps11
  go_wp2_with fail
  refine HG.out.mono ?_
  rintro e W ⟨rfl, hW⟩
  obtain rfl := hW.symm
  clear HG hW
  go_wp2
  go_ret
  exact ⟨rfl, rfl⟩
theorem lno_Segments (w : World) (v : Value) (h : NobL w v) : Calls Tryz.prog 12 #[v] w fun e w' => e = .returned (.slice none 0 0) ∧ w' = w := by
  have HG := hide (lgiven_no w v h)
  clear h
  go_enter Tryz.func12, Tryz.ntmps12
  go_wp2_with fail
  refine HG.out.mono ?_
  rintro e W ⟨rfl, hW⟩
  obtain rfl := hW.symm
  clear HG hW
  go_wp2
  go_ret
  exact ⟨rfl, rfl⟩
theorem lno_Swap (w : World) (v : Value) (h : NobL w v) (n : Int) : Calls Tryz.prog 13 #[v, .int .i64 n, .slice none 0 0] w fun e w' => e = .returned (.int .i64 1) ∧ w' = w := by
  have HG := hide (lgiven_no w v h)
  clear h
  go_enter Tryz.func13, Tryz.ntmps13
  go_wp2_with fail
  refine HG.out.mono ?_
  rintro e W ⟨rfl, hW⟩
  obtain rfl := hW.symm
  clear HG hW
  go_wp2
  go_ret
  exact ⟨rfl, rfl⟩
set_option maxHeartbeats 1000000 in
theorem openPart_nil (w : World) (hP : TabP w) :
    Calls Tryz.prog 15 #[.pointer none, .int .i64 0] w fun e w' => e = .returned (.tuple #[.pointer none, .int .i64 1]) ∧ Below w.heap.size w w' := by
  have HN : Hid (Calls Tryz.prog 38 #[.int .i64 0] w fun e w' => e = .returned (.string (nmB 0)) ∧ Below w.heap.size w w') := nameOf_ok w 0 (by decide) hP
  obtain ⟨N, hN⟩ : ∃ N, nmB 0 = N := ⟨_, rfl⟩
  rw [hN] at HN
  have HO : Hid (∀ W, Calls Tryz.prog 39 #[.pointer none, .string N, .int .i64 0] W fun e w' => e = .returned (.tuple #[.pointer none, .int .i64 0, .int .i64 1]) ∧ w' = W) := fun W => open_bad W (.pointer none) N 0 (by decide) (V8.find_no W (.pointer none) (.inl rfl) N)
  clear hN hP
  go_enter Tryz.func15, Tryz.ntmps15
  go_wp2_with fail
  refine HN.out.mono ?_
  rintro e w1 ⟨rfl, hb1⟩
  have H1 := hide hb1
  clear hb1 HN
  go_wp2_with fail
  refine (HO.out _).mono ?_
  rintro e W ⟨rfl, hW⟩
  obtain rfl := hW.symm
  clear HO hW
  go_wp2
  go_ret2
  exact ⟨rfl, H1.out⟩
theorem lopen_nil (w : World) (hP : TabP w) :
    Calls Tryz.prog 4 #[.pointer none, .int .i64 9] w fun e w' => e = .returned (.tuple #[.pointer none, .int .i64 1]) ∧ Below w.heap.size w w' := by
  have HO := hide (openPart_nil w hP)
  clear hP
  go_enter Tryz.func4, Tryz.ntmps4
  go_wp2_with fail
  refine HO.out.mono ?_
  rintro e w1 ⟨rfl, hb1⟩
  have H1 := hide hb1
  clear hb1 HO
  go_wp2
  go_ret2
  exact ⟨rfl, H1.out⟩
set_option maxHeartbeats 4000000 in
theorem lnobody_walk (n : Int) (t : ByteArray) (w : World) (hT : TabF w) (hP : TabP w) :
    Calls Tryz.prog 3 #[.int .i64 n, .string t] w fun e w' => e = .returned (.bool true) ∧ Below w.heap.size w w' := by
  have HO := hide (lopen_nil w hP)
  have HT := hide (And.intro hT hP)
  clear hT hP
  go_enter Tryz.func3, Tryz.ntmps3
  go_wp2_with fail
  refine HO.out.mono ?_
  rintro e w1 ⟨rfl, hb1⟩
  have H1 := hide hb1
  clear hb1 HO
  have H5 : Hid (((w1.alloc (.cells #[.pointer none, .pointer none, .int .i64 0, .slice none 0 0] 29)).alloc (.cells #[.pointer none, .pointer (some ⟨w1.heap.size, 0, none⟩)] 22)).heap[w1.heap.size]? = some (.cells #[.pointer none, .pointer none, .int .i64 0, .slice none 0 0] 29 (0, 0)) ∧ ((w1.alloc (.cells #[.pointer none, .pointer none, .int .i64 0, .slice none 0 0] 29)).alloc (.cells #[.pointer none, .pointer (some ⟨w1.heap.size, 0, none⟩)] 22)).heap[w1.heap.size + 1]? = some (.cells #[.pointer none, .pointer (some ⟨w1.heap.size, 0, none⟩)] 22 (0, 0)) ∧ Below w.heap.size w ((w1.alloc (.cells #[.pointer none, .pointer none, .int .i64 0, .slice none 0 0] 29)).alloc (.cells #[.pointer none, .pointer (some ⟨w1.heap.size, 0, none⟩)] 22))) := by
    have hba := below_a w1 (.cells #[.pointer none, .pointer none, .int .i64 0, .slice none 0 0] 29)
    have hbb := below_a (w1.alloc (.cells #[.pointer none, .pointer none, .int .i64 0, .slice none 0 0] 29)) (.cells #[.pointer none, .pointer (some ⟨w1.heap.size, 0, none⟩)] 22)
    have hsz : (w1.alloc (.cells #[.pointer none, .pointer none, .int .i64 0, .slice none 0 0] 29)).heap.size = w1.heap.size + 1 := by simp
    exact ⟨(hbb.block _ (by rw [hsz]; omega)).trans (heap_alloc_new _ _), by rw [← hsz]; exact heap_alloc_new _ _, H1.out.trans ((hba.trans (hbb.mono hba.size)).mono H1.out.size)⟩
  go_upto_region 5 with fail
  generalize ((w1.alloc (.cells #[.pointer none, .pointer none, .int .i64 0, .slice none 0 0] 29)).alloc (.cells #[.pointer none, .pointer (some ⟨w1.heap.size, 0, none⟩)] 22)) = w5 at H5
  obtain ⟨X, hX⟩ : ∃ X, w1.heap.size = X := ⟨_, rfl⟩
  rw [hX] at H5
  try rw [hX]
  clear hX H1
  have HV : Hid (∀ k, k < 2 → ∃ v, w5.cell? ⟨X + 1, k, none⟩ = some v ∧ NobL w5 v) := fun k hk => by
    have hz : w5.cell? ⟨X, 0, none⟩ = some (.pointer none) := by simp [World.cell?, H5.out.1]
    obtain rfl | rfl : k = 0 ∨ k = 1 := by omega
    · exact ⟨.pointer none, by simp [World.cell?, H5.out.2.1], .inl rfl⟩
    · exact ⟨.pointer (some ⟨X, 0, none⟩), by simp [World.cell?, H5.out.2.1], .inr ⟨X, rfl, hz⟩⟩
  have HA := hide (awake12 w5 (HT.out.1.new H5.out.2.2) (HT.out.2.low H5.out.2.2 HT.out.2.lt))
  have HB5 := hide H5.out.2.2
  clear H5 HT
  go_wp2
  go_loopw [8] (fun i wr => ∃ k : Nat, i = .int .i64 (k : Nat) ∧ k ≤ 2 ∧ wr = w5) (fun i _ => 2 - (intOf i).toNat)
  case atStart => exact ⟨0, rfl, by omega, rfl⟩
  case round =>
    obtain ⟨k, rfl, hk, rfl⟩ := hrel
    by_cases hlt : k < 2
    · have hlti : (k : Int) < 2 := by omega
      obtain ⟨v, hc, hv⟩ := HV.out k hlt
      have HBatch := hide (lno_Batch wr v hv n)
      have HBatches := hide (lno_Batches wr v hv n)
      have HRead := hide (lno_Read wr v hv n)
      have HAppend := hide (lno_Append wr v hv t)
      have HSync := hide (lno_Sync wr v hv)
      have HCut := hide (lno_Cut wr v hv n)
      have HEnd := hide (lno_End wr v hv)
      have HSegments := hide (lno_Segments wr v hv)
      have HSwap := hide (lno_Swap wr v hv n)
      clear hv HV HA
      go_wp2_with fail
      refine HBatch.out.mono ?_
      rintro e W ⟨rfl, hW⟩
      obtain rfl := hW.symm
      clear hW HBatch
      go_wp2_with fail
      refine HBatches.out.mono ?_
      rintro e W ⟨rfl, hW⟩
      obtain rfl := hW.symm
      clear hW HBatches
      go_wp2_with fail
      refine HRead.out.mono ?_
      rintro e W ⟨rfl, hW⟩
      obtain rfl := hW.symm
      clear hW HRead
      go_wp2_with fail
      refine HAppend.out.mono ?_
      rintro e W ⟨rfl, hW⟩
      obtain rfl := hW.symm
      clear hW HAppend
      go_wp2_with fail
      refine HSync.out.mono ?_
      rintro e W ⟨rfl, hW⟩
      obtain rfl := hW.symm
      clear hW HSync
      go_wp2_with fail
      refine HCut.out.mono ?_
      rintro e W ⟨rfl, hW⟩
      obtain rfl := hW.symm
      clear hW HCut
      go_wp2_with fail
      refine HEnd.out.mono ?_
      rintro e W ⟨rfl, hW⟩
      obtain rfl := hW.symm
      clear hW HEnd
      go_wp2_with fail
      refine HSegments.out.mono ?_
      rintro e W ⟨rfl, hW⟩
      obtain rfl := hW.symm
      clear hW HSegments
      go_wp2_with fail
      refine HSwap.out.mono ?_
      rintro e W ⟨rfl, hW⟩
      obtain rfl := hW.symm
      clear hW HSwap
      go_wp2
      refine ⟨⟨k + 1, by first | rfl | simp, hlt, trivial⟩, ?_⟩
      simp [intOf]
      omega
    · have hki : ¬ (k : Int) < 2 := by omega
      clear hlt HV
      go_wp2_with fail
      refine HA.out.mono ?_
      rintro e w9 ⟨rfl, hb9⟩
      have H9 := hide (HB5.out.trans (hb9.mono HB5.out.size))
      clear hb9 HA
      go_wp2
      go_ret
      exact ⟨rfl, H9.out⟩
end Go.Proofs.YtogmfdgpnkbpaaaGreatDoor
