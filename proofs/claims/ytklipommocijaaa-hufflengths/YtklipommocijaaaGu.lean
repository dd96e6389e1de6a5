/- A slice of numbers that came in. -/
import Derived.Test.YtklipommocijaaaGh
import Derived.Test.YtklipommocijaaaGj
import Derived.ProofKit
import Derived.Deep.Slices
import Derived.ChangeSlices
namespace Go.Proofs.Ytklipommocijaaa
open Go.RowKit
set_option linter.unusedVariables false

theorem cellsInt : Try.prog.cellsOf 3 = 1 := by kernel_rfl
open Go.ChangeShapes in
theorem open_nums {H : Type} {enc : TypeId × Value → H} {W : World} {fuel : Nat} {a0 : Option Addr} {len cap : Nat} {x : DataW H × List MemPlace} (h : DataW.trod enc Try.prog W 0 (fun _ => true) true fuel 22 [.slice a0 len cap] = some x) :
    ∃ xs : List Int, xs.length = len ∧ IRow W a0 xs ∧ len ≤ 9223372036854775807 := by
  rcases open_ints Try.underlying22 Try.underlying3 cellsInt h with ⟨hcs, hx⟩ | ⟨a, len', cap', zs, hcs, _, hl, hm, hz, hx, hcell, hws⟩
  · cases hcs; exact ⟨[], rfl, .inl rfl, by omega⟩
  · cases hcs
    have hle : len ≤ zs.length := by rw [hz]; simp; exact hl
    have hlm : len ≤ 9223372036854775807 := by unfold maxLen at hm; omega
    refine ⟨zs.take len, by simp; omega, ?_, hlm⟩
    rcases Nat.eq_zero_or_pos len with h0 | hpos
    · subst h0; exact .inl (by simp)
    · obtain ⟨b, off, spot⟩ := a
      have h0 := hcell 0 (by omega)
      have hsp : spot = none := World.cell?_spot (w := W) (a := ⟨b, off, spot⟩) (v := .int .i64 (zs.getD 0 0)) (by simpa [Addr.add] using h0)
      subst hsp
      refine .inr ⟨b, off, rfl, ?_, ?_⟩
      · exact World.block_lt_of_cell? W ⟨b, off, none⟩ (u := .int .i64 (zs.getD 0 0)) (by simpa [Addr.add] using h0)
      · intro i hi
        have hi' : i < len := by simp at hi; omega
        have := hcell i (by omega)
        rw [add_addr] at this
        rw [this, getD_in (show i < zs.length by omega), getD_in (show i < (zs.take len).length by simp; omega)]
        simp
end Go.Proofs.Ytklipommocijaaa
