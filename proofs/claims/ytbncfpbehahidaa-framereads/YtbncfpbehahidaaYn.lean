/- Layer 6: the map by four bytes; a finder's state. -/
import Derived.Test.YtbncfpbehahidaaYl
import Derived.Maps.OwnSet
import Derived.Maps.OwnOps
import Derived.DeepKeys4
import Derived.ProofKit
namespace Go.Proofs.Ytbncfpbehahidaa
open Go.RowKit Go.Maps
set_option linter.unusedVariables false
set_option maxRecDepth 20000

theorem laidOut4 : laidOutB Try.prog = true := by kernel_rfl
theorem row4 : 88 < Try.prog.types.size := of_decide_eq_true (by kernel_rfl)
theorem wide4 : (match Try.prog.underlying 88 with | some (.array _ _) | some (.struct _) => true | _ => false) = true := by kernel_rfl
theorem law4 : Keyed Try.prog 88 := Keyed.of_law (deep_law_laid laidOut4 (m := 2) (by omega) row4 (by kernel_rfl) wide4)
theorem zero32 (w : World) : (zeroValue 21).run Try.prog w = .ok (.int .i32 0) w := by kernel_rfl
def v4 (a b c d : Nat) : Value := .agg #[.int .u8 (a : Nat), .int .u8 (b : Nat), .int .u8 (c : Nat), .int .u8 (d : Nat)]
theorem cells4 : Try.prog.cellsOf 88 = 4 := by kernel_rfl
theorem cells1 : Try.prog.cellsOf 5 = 1 := by kernel_rfl
theorem size4 : ∃ n, Try.prog.types.size + 1 = n + 2 := ⟨Try.prog.types.size - 1, by have := row4; omega⟩
theorem key4 (a b c d : Nat) (ha : a < 256) (hb : b < 256) (hc : c < 256) (hd : d < 256) : ∃ kl, keyOf Try.prog 88 (v4 a b c d) = some kl := by
  have hk : Try.prog.keyType 88 = true := by kernel_rfl
  have hw : ∀ x : Nat, x < 256 → (Lit.int .u8 (x : Int)).wf = true := fun x hx => by
    have h1 : IntKind.u8.min = 0 := rfl
    have h2 : IntKind.u8.max = 255 := rfl
    simp [Lit.wf, h1, h2]; omega
  obtain ⟨n, hn⟩ := size4
  unfold keyOf v4
  rw [Try.underlying88]
  simp only [hk, Bool.true_and]
  rw [hn]
  have hf : (Value.agg #[.int .u8 (a : Nat), .int .u8 (b : Nat), .int .u8 (c : Nat), .int .u8 (d : Nat)]).formed Try.prog 88 = true := by simp [Value.formed, Try.underlying88, cells4]
  rw [if_pos hf]
  simp [Program.keyLits, Try.underlying88, Try.underlying5, cells4, cells1, Value.cells, List.range_succ, hw a ha, hw b hb, hw c hc, hw d hd]
end Go.Proofs.Ytbncfpbehahidaa
