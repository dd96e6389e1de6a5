/- The closures that read records out of bytes: what they hold, number, text, ended. -/
import Derived.Test.YtpjjenhimnkdcaaV05
import Derived.Laws.EntriesVeiled
namespace Go.Proofs.Ytpjjenhimnkdcaa
open Go.RowKit
set_option linter.unusedVariables false

def pv (b : Nat) : Value := .pointer (some ⟨b, 0, none⟩)
/-- All but what is left and whether all went well is as it was. -/
structure NF (B : Nat) (w w' : World) : Prop where
  os : w'.os = w.os
  tape : w'.tape = w.tape
  output : w'.output = w.output
  size : w.heap.size ≤ w'.heap.size
  block : ∀ k, k < w.heap.size → k ≠ B + 1 → k ≠ B + 2 → w'.heap[k]? = w.heap[k]?
theorem NF.refl (B : Nat) (w : World) : NF B w w := ⟨rfl, rfl, rfl, Nat.le_refl _, fun _ _ _ _ => rfl⟩
theorem NF.trans {B : Nat} {u v w : World} (h : NF B u v) (k : NF B v w) : NF B u w :=
  ⟨k.os.trans h.os, k.tape.trans h.tape, k.output.trans h.output, Nat.le_trans h.size k.size, fun i hl h1 h2 => (k.block i (Nat.lt_of_lt_of_le hl h.size) h1 h2).trans (h.block i hl h1 h2)⟩
theorem NF.of_below {B : Nat} {w w' : World} (h : Below w.heap.size w w') : NF B w w' := ⟨h.os, h.tape, h.output, h.size, fun k hk _ _ => h.block k hk⟩
theorem NF.drew {B : Nat} {w w' : World} (h : NF B w w') : NF B w w'.drew := ⟨h.os, h.tape, h.output, h.size, h.block⟩
theorem NF.undrew {B : Nat} {w w' : World} (h : NF B w.drew w') : NF B w w' := ⟨h.os, h.tape, h.output, h.size, h.block⟩
theorem NF.set1 (B : Nat) (w : World) (u : Value) : NF B w (w.setCell ⟨B + 1, 0, none⟩ u) := ⟨rfl, rfl, rfl, by simp [World.setCell], fun k _ h _ => Below.heap_setCell _ _ _ _ h⟩
theorem NF.set2 (B : Nat) (w : World) (u : Value) : NF B w (w.setCell ⟨B + 2, 0, none⟩ u) := ⟨rfl, rfl, rfl, by simp [World.setCell], fun k _ _ h => Below.heap_setCell _ _ _ _ h⟩
theorem NF.below {B C : Nat} {w w' : World} (h : NF B w w') (hC : C ≤ B) (hs : C ≤ w.heap.size) : Below C w w' :=
  ⟨h.os, h.tape, h.output, h.size, fun k hk => h.block k (by omega) (by omega) (by omega)⟩
theorem push5 (h : Array Obj) (a b c d e : Obj) : let g := ((((h.push a).push b).push c).push d).push e
    g[h.size]? = some a ∧ g[h.size + 1]? = some b ∧ g[h.size + 2]? = some c ∧ g[h.size + 3]? = some d ∧ g[h.size + 4]? = some e := by
  refine ⟨?_, ?_, ?_, ?_, ?_⟩
  · simp only [Array.getElem?_push, Array.size_push]; rw [if_neg (by omega), if_neg (by omega), if_neg (by omega), if_neg (by omega), if_pos trivial]
  · simp only [Array.getElem?_push, Array.size_push]; rw [if_neg (by omega), if_neg (by omega), if_neg (by omega), if_pos trivial]
  · simp only [Array.getElem?_push, Array.size_push]; rw [if_neg (by omega), if_neg (by omega), if_pos trivial]
  · simp only [Array.getElem?_push, Array.size_push]; rw [if_neg (by omega), if_pos trivial]
  · simp only [Array.getElem?_push, Array.size_push]; rw [if_pos trivial]
/-- How a number is read: x and the bytes behind it, or none. -/
def NumE (s : ByteArray) (x : Int) (t : ByteArray) (g : Bool) : Prop :=
  (∃ X n, varD s = some (X, n) ∧ x = (X : Nat) ∧ t = s.extract n s.size ∧ g = true) ∨ (varD s = none ∧ x = 0 ∧ t.size ≤ s.size ∧ g = false)
/-- How so many bytes are taken. -/
def TextE (s : ByteArray) (n : Nat) (p t : ByteArray) (g : Bool) : Prop :=
  (n ≤ s.size ∧ p = s.extract 0 n ∧ t = s.extract n s.size ∧ g = true) ∨ (s.size < n ∧ p = ⟨#[]⟩ ∧ t = s ∧ g = false)
end Go.Proofs.Ytpjjenhimnkdcaa
