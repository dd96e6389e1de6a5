/- Layer 8: VdiskNobody, the walk. -/
import Derived.Test.YtlnlhecjehapiaaQo
namespace Go.Proofs.Ytlnlhecjehapiaa
open Go.RowKit Go.Maps Go.Sort
set_option linter.unusedVariables false
set_option maxRecDepth 20000

set_option maxHeartbeats 4000000 in
theorem nobody_walk (w : World) (n : Int) (s : ByteArray) : Calls Try.prog 4 #[.int .i64 n, .string s] w fun e w' => e = .returned (.bool true) ∧ Below w.heap.size w w' := by
  obtain ⟨w2, hw2⟩ : ∃ W, (w.alloc (.cells #[.pointer none, .int .i64 0, .map none] 39)).alloc (.cells #[.pointer none, .pointer (some ⟨w.heap.size, 0, none⟩)] 24) = W := ⟨_, rfl⟩
  have hb2 : Below w.heap.size w w2 := by
    rw [← hw2]
    exact ((Below.refl _ _).alloc (Nat.le_refl _) _).alloc (by simp) _
  have e1 : (w.alloc (.cells #[.pointer none, .int .i64 0, .map none] 39)).heap.size = w.heap.size + 1 := by simp
  have hd : w2.cell? ⟨w.heap.size, 0, none⟩ = some (.pointer none) := by
    have h1 := heap_alloc_new w (.cells #[.pointer none, .int .i64 0, .map none] 39)
    have h2 : w2.heap[w.heap.size]? = some (.cells #[.pointer none, .int .i64 0, .map none] 39 (0, 0)) := by
      rw [← hw2]
      have := ((Below.refl (w.heap.size + 1) (w.alloc (.cells #[.pointer none, .int .i64 0, .map none] 39))).alloc (by rw [e1]; exact Nat.le_refl _) (.cells #[.pointer none, .pointer (some ⟨w.heap.size, 0, none⟩)] 24)).block w.heap.size (by omega)
      rw [this]; exact h1
    simp [World.cell?, h2]
  have hr : w2.heap[w.heap.size + 1]? = some (.cells #[.pointer none, .pointer (some ⟨w.heap.size, 0, none⟩)] 24 (0, 0)) := by
    rw [← hw2, ← e1]; exact heap_alloc_new _ _
  have c0 : w2.cell? ⟨w.heap.size + 1, 0, none⟩ = some (.pointer none) := by simp [World.cell?, hr]
  have c1 : w2.cell? ⟨w.heap.size + 1, 1, none⟩ = some (.pointer (some ⟨w.heap.size, 0, none⟩)) := by simp [World.cell?, hr]
  have HN0 : Hid (Nob w2 (.pointer none)) := .inl rfl
  have HN1 : Hid (Nob w2 (.pointer (some ⟨w.heap.size, 0, none⟩))) := .inr ⟨_, rfl, hd⟩
  have HB : Hid (Below w.heap.size w w2 ∧ w.heap.size ≤ w2.heap.size) := ⟨hb2, hb2.size⟩
  clear hr hd hb2
  have HAw : Hid (∀ W, Calls Try.prog 8 #[] W fun e w' => e = .returned (.bool true) ∧ Below W.heap.size W w') := fun W => awake_ok W
  go_enter Try.func4, Try.ntmps4
  go_wp2_with fail
  try rw [hw2]
  clear hw2 e1
  obtain ⟨X, hX⟩ : ∃ X, w.heap.size = X := ⟨_, rfl⟩
  rw [hX] at c0 c1 HN1 HB
  try rw [hX]
  obtain ⟨Y, hY⟩ : ∃ Y, X + 1 = Y := ⟨_, rfl⟩
  rw [hY] at c0 c1
  try rw [hY]
  have HX : Hid (w.heap.size = X) := hX
  clear hX hY
  refine wp_loop_rounds 3 ?_
  rw [rounds_succ]
  go_wp2_with (first
      | (go_at_call 12; refine (no_read w2 (.pointer none) HN0.out s n).mono ?_; rintro e W ⟨rfl, hW⟩; obtain rfl := hW.symm; clear hW)
      | (go_at_call 9; refine (no_append w2 (.pointer none) HN0.out s s).mono ?_; rintro e W ⟨rfl, hW⟩; obtain rfl := hW.symm; clear hW)
      | (go_at_call 10; refine (no_sync w2 (.pointer none) HN0.out s).mono ?_; rintro e W ⟨rfl, hW⟩; obtain rfl := hW.symm; clear hW)
      | (go_at_call 15; refine (no_cut w2 (.pointer none) HN0.out s n).mono ?_; rintro e W ⟨rfl, hW⟩; obtain rfl := hW.symm; clear hW)
      | (go_at_call 16; refine (no_rename w2 (.pointer none) HN0.out s s).mono ?_; rintro e W ⟨rfl, hW⟩; obtain rfl := hW.symm; clear hW)
      | (go_at_call 17; refine (no_remove w2 (.pointer none) HN0.out s).mono ?_; rintro e W ⟨rfl, hW⟩; obtain rfl := hW.symm; clear hW)
      | (go_at_call 13; refine (no_size w2 (.pointer none) HN0.out s).mono ?_; rintro e W ⟨rfl, hW⟩; obtain rfl := hW.symm; clear hW)
      | (go_at_call 14; refine (no_synced w2 (.pointer none) HN0.out s).mono ?_; rintro e W ⟨rfl, hW⟩; obtain rfl := hW.symm; clear hW)
      | (go_at_call 18; refine (no_names w2 (.pointer none) HN0.out).mono ?_; rintro e W ⟨rfl, hW⟩; obtain rfl := hW.symm; clear hW)
      | (go_at_call 19; refine (no_used w2 (.pointer none) HN0.out).mono ?_; rintro e W ⟨rfl, hW⟩; obtain rfl := hW.symm; clear hW)
      | (go_at_call 11; refine (no_crash w2 (.pointer none) HN0.out).mono ?_; rintro e W ⟨rfl, hW⟩; obtain rfl := hW.symm; clear hW)
      | (go_at_call 20; refine (no_copy w2 (.pointer none) HN0.out).mono ?_; rintro e W ⟨rfl, hW⟩; obtain rfl := hW.symm; clear hW))
  rw [rounds_succ]
  go_wp2_with (first
      | (go_at_call 12; refine (no_read w2 (.pointer (some ⟨X, 0, none⟩)) HN1.out s n).mono ?_; rintro e W ⟨rfl, hW⟩; obtain rfl := hW.symm; clear hW)
      | (go_at_call 9; refine (no_append w2 (.pointer (some ⟨X, 0, none⟩)) HN1.out s s).mono ?_; rintro e W ⟨rfl, hW⟩; obtain rfl := hW.symm; clear hW)
      | (go_at_call 10; refine (no_sync w2 (.pointer (some ⟨X, 0, none⟩)) HN1.out s).mono ?_; rintro e W ⟨rfl, hW⟩; obtain rfl := hW.symm; clear hW)
      | (go_at_call 15; refine (no_cut w2 (.pointer (some ⟨X, 0, none⟩)) HN1.out s n).mono ?_; rintro e W ⟨rfl, hW⟩; obtain rfl := hW.symm; clear hW)
      | (go_at_call 16; refine (no_rename w2 (.pointer (some ⟨X, 0, none⟩)) HN1.out s s).mono ?_; rintro e W ⟨rfl, hW⟩; obtain rfl := hW.symm; clear hW)
      | (go_at_call 17; refine (no_remove w2 (.pointer (some ⟨X, 0, none⟩)) HN1.out s).mono ?_; rintro e W ⟨rfl, hW⟩; obtain rfl := hW.symm; clear hW)
      | (go_at_call 13; refine (no_size w2 (.pointer (some ⟨X, 0, none⟩)) HN1.out s).mono ?_; rintro e W ⟨rfl, hW⟩; obtain rfl := hW.symm; clear hW)
      | (go_at_call 14; refine (no_synced w2 (.pointer (some ⟨X, 0, none⟩)) HN1.out s).mono ?_; rintro e W ⟨rfl, hW⟩; obtain rfl := hW.symm; clear hW)
      | (go_at_call 18; refine (no_names w2 (.pointer (some ⟨X, 0, none⟩)) HN1.out).mono ?_; rintro e W ⟨rfl, hW⟩; obtain rfl := hW.symm; clear hW)
      | (go_at_call 19; refine (no_used w2 (.pointer (some ⟨X, 0, none⟩)) HN1.out).mono ?_; rintro e W ⟨rfl, hW⟩; obtain rfl := hW.symm; clear hW)
      | (go_at_call 11; refine (no_crash w2 (.pointer (some ⟨X, 0, none⟩)) HN1.out).mono ?_; rintro e W ⟨rfl, hW⟩; obtain rfl := hW.symm; clear hW)
      | (go_at_call 20; refine (no_copy w2 (.pointer (some ⟨X, 0, none⟩)) HN1.out).mono ?_; rintro e W ⟨rfl, hW⟩; obtain rfl := hW.symm; clear hW))
  rw [rounds_succ]
  go_wp2_with fail
  refine (HAw.out w2).mono ?_
  rintro e W ⟨rfl, hb⟩
  have H : Hid (Below X w W) := HB.out.1.trans ⟨hb.os, hb.tape, hb.output, hb.size, fun k hk => hb.block k (Nat.lt_of_lt_of_le hk HB.out.2)⟩
  clear hb
  go_wp2
  go_ret
  rw [HX.out]
  exact ⟨rfl, H.out⟩
theorem vdiskNobody_walk (n : Int) (s : ByteArray) (w : World) (hn : (Lit.int .i64 n).wf = true) (hs : s.size ≤ 140737488351232) : Calls Try.prog 4 #[.int .i64 n, .string s] w fun e w' => e = .returned (.bool true) ∧ Below w.heap.size w w' := nobody_walk w n s
end Go.Proofs.Ytlnlhecjehapiaa
