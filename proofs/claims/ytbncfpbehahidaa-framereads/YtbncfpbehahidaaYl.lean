/- Layer 6: what must come, whatever the arguments are. -/
import Derived.Test.YtbncfpbehahidaaYk
import Derived.Test.YtbncfpbehahidaaYh
import Derived.Maps.Own
import Derived.Deep.OwnRows
namespace Go.Proofs.Ytbncfpbehahidaa
open Go.RowKit
set_option linter.unusedVariables false
set_option maxRecDepth 20000

theorem info32 : (Try.prog.info? 21).map (fun i => (i.zero, i.size, i.bytes)) = some (some (.int .i32 0), 1, 4) := by kernel_rfl
set_option maxRecDepth 20000 in
set_option maxHeartbeats 4000000 in
theorem pack_nil (w : World) : Calls Try.prog 45 #[.string ⟨#[]⟩] w fun e w' => e = .returned (.tuple #[.string ⟨#[0]⟩, .int .i64 0]) ∧ Below w.heap.size w w' := by
  have hmm := @run_makeMap Try.prog
  have hmk : ∀ W : World, (Instr.makeSlice 68 (.int .i64 0) (.int .i64 0)).run Try.prog W = .ok (.slice (some ⟨W.heap.size, 0, none⟩) 0 0) (W.alloc (.cells (madeCells #[.int .i32 0] 0) 21)) := fun W => run_make_row' (P := Try.prog) 68 21 (.int .i32 0) 4 Try.underlying68 info32 rfl .i64 .i64 0 (by decide) (by decide) W
  go_enter Try.func45, Try.ntmps45
  go_wp2_with fail
  refine wp_loop_rounds 1 ?_
  rw [rounds_succ]
  go_wp2_with fail
  obtain ⟨W3, hW3⟩ : ∃ W3, (((w.alloc (.map #[] 0)).alloc (.cells (madeCells #[.int .i32 0] 0) 21)).alloc (.cells #[.string ⟨#[]⟩, .map (some w.heap.size), .slice (some ⟨w.heap.size + 1, 0, none⟩) 0 0] 70)) = W3 := ⟨_, rfl⟩
  have hsz : W3.heap.size = w.heap.size + 1 + 1 + 1 := by rw [← hW3]; simp
  have hbel : Below w.heap.size w W3 := by
    rw [← hW3]
    exact (((Below.refl w.heap.size w).alloc (Nat.le_refl _) _).alloc (by simp) _).alloc (by simp; omega) _
  have hBW : BW (W3.alloc (.cells #[.slice none 0 0] 72)) w.heap.size (w.heap.size + 1 + 1 + 1) [] (.slice none 0 0) := ⟨by rw [← hsz]; exact heap_alloc_new _ _, World.ownsRow_nil _ _ _ _, by omega⟩
  have HP : Hid (∀ _ : Unit, Calls Try.prog 57 #[.pointer (some ⟨w.heap.size + 1 + 1 + 1, 0, none⟩), .string ByteArray.empty, .int .i64 0] (W3.alloc (.cells #[.slice none 0 0] 72)) fun e w' => e = .returned (.tuple #[]) ∧ (∃ v', BW w' w.heap.size (w.heap.size + 1 + 1 + 1) [0] v') ∧ Below w.heap.size w w') := fun _ => (putPlain_ok _ _ _ [] _ hBW ByteArray.empty 0 (by decide) (by decide) (by simp)).mono fun e w' h => by
    refine ⟨h.1, h.2.1, (hbel.alloc hbel.size _).trans h.2.2⟩
  rw [hW3]
  clear hBW hbel hsz hW3 hmm hmk
  refine (HP.out ()).mono ?_
  rintro e w4 ⟨rfl, ⟨v4, hb4⟩, hf4⟩
  obtain ⟨c0, f0⟩ := hb4.cells
  have hconv : (convert 30 9 v4).run Try.prog w4 = .ok (.string ⟨#[0]⟩) w4 := conv_row w4 _ _ 5 w.heap.size v4 [0] Try.underlying30 Try.underlying5 Try.underlying9 hb4.own (by decide)
  obtain ⟨ao, cp, hv⟩ := hb4.form
  have HF : Hid (Below w.heap.size w w4) := hf4
  clear hb4 hf4 HP hv
  go_wp2
  go_ret2
  exact ⟨rfl, HF.out⟩
def txt6 : ByteArray := ⟨#[31, 120, 1, 0, 0, 0]⟩
set_option maxRecDepth 100000 in
theorem pure6 : unpack txt6 99 = (0, [120, 120, 120, 120, 120, 120, 120, 120, 120, 120, 120, 120, 120, 120, 120, 120, 120, 120, 120, 120]) := by decide +kernel
end Go.Proofs.Ytbncfpbehahidaa
