/- The walk of WireReads. -/
import Derived.Test.YtalpbnkmppdgdaaEWsd
import Derived.Test.YtalpbnkmppdgdaaEWrt
namespace Go.Proofs.Ytalpbnkmppdgdaa
open Go.RowKit
set_option linter.unusedVariables false

set_option maxRecDepth 20000 in
set_option maxHeartbeats 4000000 in
theorem rwof_long (s : ByteArray) (w : World) (h : 1048576 < s.size) :
    Calls Try.prog 15 #[.string s] w fun e w' => e = .returned (.tuple #[Msg.v zeroM zeroS, .int .i64 4]) ∧ Below w.heap.size w w' := by
  have hi : (1048576 : Int) < (s.size : Int) := by omega
  have HA : Hid (Below w.heap.size w (w.alloc (.cells zero13 28))) := (Below.refl _ _).alloc (Nat.le_refl _) _
  have HR : Hid ((w.alloc (.cells zero13 28)).heap[w.heap.size]? = some (.cells zero13 28 (0, 0))) := heap_alloc_new _ _
  go_enter Try.func15, Try.ntmps15
  go_upto_region 1 with fail
  generalize hwA : w.alloc (.cells zero13 28) = wA at HA HR
  clear hwA
  obtain ⟨z0, z1, z2, z3, z4, z5, z6, z7, z8, z9, z10, z11, z12⟩ := cells13 HR.out
  have hfr := frozen0 HR.out
  go_wp2
  refine bodyPost_ret (v := ?v) ?c1 rfl ?c2
  case c1 =>
    rw [results_cell_tmp rfl]
    go_simp
    all_goals exact rfl
  case c2 =>
    refine ⟨rfl, ?_⟩
    simp only [bl_set]
    exact HA.out
/-- Both readers answer the same. -/
theorem both_of (s : ByteArray) (hs : s.size ≤ 140737488351232) : ∃ (m : Msg) (k : Int), (∀ W, Calls Try.prog 14 #[.string s] W fun e w' => ∃ sp, e = .returned (.tuple #[Msg.v m sp, .int .i64 k]) ∧ MIn w' m sp ∧ Below W.heap.size W w') ∧
    (∀ W, Calls Try.prog 15 #[.string s] W fun e w' => ∃ sp, e = .returned (.tuple #[Msg.v m sp, .int .i64 k]) ∧ MIn w' m sp ∧ Below W.heap.size W w') := by
  by_cases h : 1048576 < s.size
  · refine ⟨zeroM, 4, fun W => ?_, fun W => ?_⟩
    · exact (wof_long s W h).mono fun e w' ⟨he, hb⟩ => ⟨zeroS, he, MIn.zero _, hb⟩
    · exact (rwof_long s W h).mono fun e w' ⟨he, hb⟩ => ⟨zeroS, he, MIn.zero _, hb⟩
  · have hS : s.data.toList.length ≤ 1048576 := by rw [data_len]; omega
    have e := mk_data s
    cases hr : rdMsg s.data.toList with
    | none =>
      refine ⟨zeroM, 140, fun W => ?_, fun W => ?_⟩
      · rw [← e]
        refine (wof_ok s.data.toList W hS).mono ?_
        rintro e w' (⟨m', sp, h1, _⟩ | ⟨_, rfl, h4⟩)
        · rw [hr] at h1; cases h1
        · exact ⟨zeroS, rfl, MIn.zero _, h4⟩
      · rw [← e]
        refine (rwof_ok s.data.toList W hS).mono ?_
        rintro e w' (⟨m', sp, h1, _⟩ | ⟨_, rfl, h4⟩)
        · rw [hr] at h1; cases h1
        · exact ⟨zeroS, rfl, MIn.zero _, h4⟩
    | some m =>
      refine ⟨m, 0, fun W => ?_, fun W => ?_⟩
      · rw [← e]
        refine (wof_ok s.data.toList W hS).mono ?_
        rintro e w' (⟨m', sp, h1, rfl, h3, h4⟩ | ⟨h1, _⟩)
        · rw [hr] at h1; cases h1; exact ⟨sp, rfl, h3, h4⟩
        · rw [hr] at h1; cases h1
      · rw [← e]
        refine (rwof_ok s.data.toList W hS).mono ?_
        rintro e w' (⟨m', sp, h1, rfl, h3, h4⟩ | ⟨h1, _⟩)
        · rw [hr] at h1; cases h1; exact ⟨sp, rfl, h3, h4⟩
        · rw [hr] at h1; cases h1
set_option maxHeartbeats 4000000 in
theorem wreads_walk (t : ByteArray) (w : World) (hs : t.size ≤ 140737488351232) :
    Calls Try.prog 4 #[.string t] w fun e w' => e = .returned (.bool true) ∧ Below w.heap.size w w' := by
  obtain ⟨m, k, h1, h2⟩ := both_of t hs
  have HO1 : Hid (∀ W, Calls Try.prog 14 #[.string t] W fun e w' => ∃ sp, e = .returned (.tuple #[Msg.v m sp, .int .i64 k]) ∧ MIn w' m sp ∧ Below W.heap.size W w') := h1
  have HO2 : Hid (∀ W, Calls Try.prog 15 #[.string t] W fun e w' => ∃ sp, e = .returned (.tuple #[Msg.v m sp, .int .i64 k]) ∧ MIn w' m sp ∧ Below W.heap.size W w') := h2
  have HSM : Hid (∀ W s s', MIn W m s → MIn W m s' → Calls Try.prog 16 #[m.v s, m.v s'] W fun e w' => e = .returned (.bool true) ∧ Below W.heap.size W w') := fun W s s' h1 h2 => by
    have := same_walk m m s s' W h1 h2
    rw [eqB_true rfl] at this
    exact this
  clear h1 h2
  go_enter Try.func4, Try.ntmps4
  go_wp2_with fail
  refine (HO1.out _).mono ?_
  rintro e w1 ⟨s1, rfl, hin1, hb1⟩
  have hBa : Below w1.heap.size w1 (w1.alloc (.cells (m.cs s1) 28)) := (Below.refl _ _).alloc (Nat.le_refl _) _
  have HI1 : Hid (MIn (w1.alloc (.cells (m.cs s1) 28)) m s1) := hin1.below hBa (Nat.le_refl _)
  have HM1 : Hid (MB (w1.alloc (.cells (m.cs s1) 28)) w1.heap.size m s1) := heap_alloc_new _ _
  have HB1 : Hid (Below w.heap.size w (w1.alloc (.cells (m.cs s1) 28))) := hb1.trans (hBa.mono hb1.size)
  clear hBa hin1 hb1
  obtain ⟨x1, hx1⟩ : ∃ x1, w1.heap.size = x1 := ⟨_, rfl⟩
  rw [hx1] at HM1
  generalize hW1 : w1.alloc (.cells (m.cs s1) 28) = w1a at HI1 HM1 HB1
  go_upto_region 2 with fail
  clear hW1 hx1
  go_wp2_with fail
  refine (HO2.out _).mono ?_
  rintro e w2 ⟨s2, rfl, hin2, hb2⟩
  have hBa : Below w2.heap.size w2 (w2.alloc (.cells (m.cs s2) 28)) := (Below.refl _ _).alloc (Nat.le_refl _) _
  have HI2 : Hid (MIn (w2.alloc (.cells (m.cs s2) 28)) m s2) := hin2.below hBa (Nat.le_refl _)
  have HJ2 : Hid (MIn (w2.alloc (.cells (m.cs s2) 28)) m s1) := (HI1.out.below hb2 (Nat.le_refl _)).below hBa (Nat.le_refl _)
  have HM2 : Hid (MB (w2.alloc (.cells (m.cs s2) 28)) w2.heap.size m s2) := heap_alloc_new _ _
  have HN2 : Hid (MB (w2.alloc (.cells (m.cs s2) 28)) x1 m s1) := (HM1.out.below hb2).below hBa
  have HB2 : Hid (Below w.heap.size w (w2.alloc (.cells (m.cs s2) 28))) := (HB1.out.trans (hb2.mono HB1.out.size)).trans (hBa.mono (HB1.out.trans (hb2.mono HB1.out.size)).size)
  clear hBa hin2 hb2 HI1 HM1 HB1
  obtain ⟨x2, hx2⟩ : ∃ x2, w2.heap.size = x2 := ⟨_, rfl⟩
  rw [hx2] at HM2
  generalize hW2 : w2.alloc (.cells (m.cs s2) 28) = w2a at HI2 HJ2 HM2 HN2 HB2
  go_upto_region 3 with fail
  clear hW2 hx2
  obtain ⟨d0, d1, d2, d3, d4, d5, d6, d7, d8, d9, d10, d11, d12⟩ := HN2.out.cells
  obtain ⟨c0, c1, c2, c3, c4, c5, c6, c7, c8, c9, c10, c11, c12⟩ := HM2.out.cells
  go_wp2_with fail
  refine (HSM.out _ _ _ HJ2.out HI2.out).mono ?_
  rintro e w5 ⟨rfl, hb5⟩
  have HB5 : Hid (Below w.heap.size w w5) := HB2.out.trans (hb5.mono HB2.out.size)
  clear hb5 d0 d1 d2 d3 d4 d5 d6 d7 d8 d9 d10 d11 d12 c0 c1 c2 c3 c4 c5 c6 c7 c8 c9 c10 c11 c12
  go_wp2_with fail
  refine (wawake_ok _).mono ?_
  rintro e w9 ⟨rfl, hb9⟩
  have HB9 : Hid (Below w.heap.size w w9) := HB5.out.trans (hb9.mono HB5.out.size)
  clear hb9
  go_wp2
  go_ret
  exact ⟨rfl, HB9.out⟩
end Go.Proofs.Ytalpbnkmppdgdaa
