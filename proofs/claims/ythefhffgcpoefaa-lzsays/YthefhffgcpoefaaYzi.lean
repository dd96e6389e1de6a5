/- LzSays: the law's walk. -/
import Derived.Test.YthefhffgcpoefaaYzh
namespace Go.Proofs.Ythefhffgcpoefaa
open Go.RowKit
set_option linter.unusedVariables false

/-- Two rows of bytes of the call's own, apart. -/
structure Two (w0 w : World) (B : Nat) (vz : Value) (z : List Nat) (vw : Value) (want : List Nat) : Prop where
  oz : w.ownsRow B 5 1 vz z.length (bcells z)
  ow : w.ownsRow B 5 1 vw want.length (bcells want)
  ap : ∀ g, vz.ownBlock = some g → vw.ownBlock ≠ some g
  bel : Below B w0 w
  hB : B ≤ w.heap.size
theorem Two.swap {w0 w : World} {B : Nat} {vz vw : Value} {z want : List Nat} (h : Two w0 w B vz z vw want) : Two w0 w B vw want vz z :=
  ⟨h.ow, h.oz, fun g h1 h2 => h.ap g h2 h1, h.bel, h.hB⟩
/-- The first row grew, behind a new block. -/
theorem Two.left {w0 w w' : World} {B Q g cap : Nat} {vz vw : Value} {z want x : List Nat} {o : Obj} (h : Two w0 w B vz z vw want) (hQ : z.length = Q) (hown : w'.ownsRow B 5 1 (.slice (some ⟨g, 0, none⟩) (Q + x.length) cap) (Q + x.length) (bcells z ++ bcells x)) (hg : (w.alloc o).grownBy w' vz.ownBlock) (hat : vz.ownBlock = some g ∨ g = (w.alloc o).heap.size) :
    Two w0 w' B (.slice (some ⟨g, 0, none⟩) (Q + x.length) cap) (z ++ x) vw want := by
  have hal : B ≤ (w.alloc o).heap.size := Nat.le_trans h.hB (by simp)
  have hoz := h.oz.alloc o
  have how := h.ow.alloc o
  refine ⟨?_, how.kept hg ?_, ?_, h.bel.trans (((Below.refl B w).alloc h.hB o).trans (Below.grown hoz hg hal)), Nat.le_trans hal hg.size⟩
  · rw [List.length_append, bcells_append, hQ]; exact hown
  · cases hv : vw.ownBlock with
    | none => exact .inl rfl
    | some k =>
      right
      intro e
      exact h.ap k e.symm hv
  · intro k hk hvk
    have hk' : g = k := by simpa [Value.ownBlock] using hk
    subst hk'
    rcases hat with e | e
    · exact h.ap g e hvk
    · have := (how.lt g hvk).2
      omega
/-- A slice of threes that came in. -/
def A3 (w : World) (a0 : Option Addr) (len : Nat) (f : Nat → Nat → Int) : Prop :=
  len = 0 ∨ ∃ b off, a0 = some ⟨b, off, none⟩ ∧ b < w.heap.size ∧ ∀ i, i < len → ∀ j, j < 3 → w.cell? ⟨b, off + i * 3 + j, none⟩ = some (.int .i64 (f i j))
end Go.Proofs.Ythefhffgcpoefaa
