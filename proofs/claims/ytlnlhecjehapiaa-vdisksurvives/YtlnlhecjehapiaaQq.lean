/- Layer 8: slices of texts and of bools that came in. -/
import Derived.Test.YtlnlhecjehapiaaQn
import Derived.SliceStrings
import Derived.ProofKit
import Derived.Deep.Slices
import Derived.Deep.Grids
import Derived.Laws.Strings
namespace Go.Proofs.Ytlnlhecjehapiaa
open Go.RowKit
set_option linter.unusedVariables false
set_option maxRecDepth 20000

theorem text_at (b o i : Nat) : (⟨b, o, none⟩ : Addr).add i = ⟨b, o + i, none⟩ := by unfold Addr.add; split <;> simp_all
/-- The texts of a row that came in. -/
def StrsAt (W : World) (b off len : Nat) (f : Nat → ByteArray) : Prop := (∀ i, i < len → W.cell? ⟨b, off + i, none⟩ = some (.string (f i))) ∧ b < W.heap.size ∧ (∀ i, i < len → (f i).size ≤ 4611686018427387904)
theorem StrsAt.below {W w : World} {b off len : Nat} {f : Nat → ByteArray} (h : StrsAt W b off len f) (hb : Below W.heap.size W w) (i : Nat) (hi : i < len) : w.cell? ⟨b, off + i, none⟩ = some (.string (f i)) := by
  rw [hb.cell h.2.1]
  exact h.1 i hi
theorem weightsAll_mem {H : Type} {P : Program} {e : TypeId} {l : List (DataW H)} {d : DataW H} {n : Nat} (hd : d ∈ l) (hn : n ∈ d.weights P e) : n ∈ DataW.weightsAll P e l := by
  induction l with
  | nil => cases hd
  | cons x r ih =>
    simp only [DataW.weightsAll]
    rcases List.mem_cons.1 hd with h | h
    · subst h; exact List.mem_append_left _ hn
    · exact List.mem_append_right _ (ih h)
theorem cellsStr : Try.prog.cellsOf 9 = 1 := by kernel_rfl
open Go.ChangeShapes in
theorem open_texts {H : Type} {enc : TypeId × Value → H} {W : World} {fuel : Nat} {a0 : Option Addr} {len cap : Nat} {x : DataW H × List MemPlace} (h : DataW.trod enc Try.prog W 0 (fun _ => true) true fuel 22 [.slice a0 len cap] = some x) (hwt : ∀ n ∈ x.1.weights Try.prog 22, n ≤ 140737488351232) :
    ∃ b off f, len ≤ 9223372036854775807 ∧ (len = 0 ∨ (a0 = some ⟨b, off, none⟩ ∧ StrsAt W b off len f)) := by
  rcases open_strings Try.underlying22 Try.underlying9 cellsStr h with ⟨hcs, hx⟩ | ⟨a, len', cap', ss, hcs, _, hl, hm, hz, hx, hcell, hws⟩
  · cases hcs; exact ⟨0, 0, fun _ => ⟨#[]⟩, by omega, .inl rfl⟩
  · cases hcs
    have hle : len ≤ ss.length := by rw [hz]; simp; exact hl
    have hlm : len ≤ 9223372036854775807 := by unfold maxLen at hm; omega
    rcases Nat.eq_zero_or_pos len with h0 | hpos
    · exact ⟨0, 0, fun _ => ⟨#[]⟩, hlm, .inl h0⟩
    · obtain ⟨b, off, spot⟩ := a
      have h0 := hcell 0 (by omega)
      have hsp : spot = none := World.cell?_spot (w := W) (a := ⟨b, off, spot⟩) (v := .string (ss.getD 0 ByteArray.empty)) (by simpa [Addr.add] using h0)
      subst hsp
      refine ⟨b, off, fun i => ss.getD i ByteArray.empty, hlm, .inr ⟨rfl, ?_, ?_, ?_⟩⟩
      · intro i hi
        have := hcell i (by omega)
        rw [text_at] at this
        exact this
      · exact World.block_lt_of_cell? W ⟨b, off, none⟩ (u := .string (ss.getD 0 ByteArray.empty)) (by simpa [Addr.add] using h0)
      · intro i hi
        have hi' : i < ss.length := by omega
        have hmem : (ss[i].size : Nat) ∈ x.1.weights Try.prog 22 := by
          rw [hx]
          simp only [DataW.weights, Try.underlying22]
          refine List.mem_cons_of_mem _ (List.mem_append_left _ ?_)
          refine weightsAll_mem (d := .lit (.string ss[i].data.toList)) ?_ (by simp [DataW.weights])
          unfold strs
          exact List.mem_map_of_mem (List.mem_take_iff_getElem.2 ⟨i, by omega, rfl⟩)
        have := hwt _ hmem
        show (ss.getD i ByteArray.empty).size ≤ _
        rw [List.getD_eq_getElem?_getD, List.getElem?_eq_getElem hi']
        show ss[i].size ≤ _
        omega
/-- The bools of a row that came in. -/
def BoolsAt (W : World) (b off len : Nat) (f : Nat → Bool) : Prop := (∀ i, i < len → W.cell? ⟨b, off + i, none⟩ = some (.bool (f i))) ∧ b < W.heap.size
theorem BoolsAt.below {W w : World} {b off len : Nat} {f : Nat → Bool} (h : BoolsAt W b off len f) (hb : Below W.heap.size W w) (i : Nat) (hi : i < len) : w.cell? ⟨b, off + i, none⟩ = some (.bool (f i)) := by
  rw [hb.cell h.2]
  exact h.1 i hi
theorem cellsBool : Try.prog.cellsOf 4 = 1 := by kernel_rfl
theorem open_flags {H : Type} {enc : TypeId × Value → H} {W : World} {fuel : Nat} {a0 : Option Addr} {len cap : Nat} {x : DataW H × List MemPlace} (h : DataW.trod enc Try.prog W 0 (fun _ => true) true fuel 23 [.slice a0 len cap] = some x) :
    ∃ b off f, len ≤ 9223372036854775807 ∧ (len = 0 ∨ (a0 = some ⟨b, off, none⟩ ∧ BoolsAt W b off len f)) := by
  rcases Go.Deep.open_bools Try.underlying23 Try.underlying4 cellsBool h with ⟨hcs, hx⟩ | ⟨a, len', cap', f, hcs, _, hl, hm, hx, hcell⟩
  · cases hcs; exact ⟨0, 0, fun _ => false, by omega, .inl rfl⟩
  · cases hcs
    have hlm : len ≤ 9223372036854775807 := by unfold maxLen at hm; omega
    rcases Nat.eq_zero_or_pos len with h0 | hpos
    · exact ⟨0, 0, fun _ => false, hlm, .inl h0⟩
    · obtain ⟨b, off, spot⟩ := a
      have h0 := hcell 0 (by omega)
      have hsp : spot = none := World.cell?_spot (w := W) (a := ⟨b, off, spot⟩) (v := .bool (f 0)) (by simpa [Addr.add] using h0)
      subst hsp
      refine ⟨b, off, f, hlm, .inr ⟨rfl, ?_, ?_⟩⟩
      · intro i hi
        have := hcell i (by omega)
        rw [text_at] at this
        exact this
      · exact World.block_lt_of_cell? W ⟨b, off, none⟩ (u := .bool (f 0)) (by simpa [Addr.add] using h0)
end Go.Proofs.Ytlnlhecjehapiaa
