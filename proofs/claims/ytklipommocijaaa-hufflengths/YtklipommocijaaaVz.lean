/- Numbers as cells of a slice. -/
import Derived.Test.YtklipommocijaaaGj
import Derived.Deep.AppendLies
namespace Go.Proofs.Ytklipommocijaaa
open Go.RowKit
set_option linter.unusedVariables false

def icells (L : List Nat) : List Value := L.map fun x => Value.int .i64 (x : Nat)
theorem icells_snoc (L : List Nat) (x : Nat) : icells L ++ [Value.int .i64 (x : Nat)] = icells (L ++ [x]) := by simp [icells]
theorem icells_length (l : List Nat) : (icells l).length = l.length := by simp [icells]
theorem one_icells (l : List Nat) : ∀ u ∈ icells l, u.oneCell' = true := by
  intro u hu
  obtain ⟨x, _, rfl⟩ := List.mem_map.1 hu
  rfl
theorem news1 (W : World) (p : Value) (t : TypeId) : ∀ j u, [p][j]? = some u → (W.alloc (.cells #[p] t)).cell? ((⟨W.heap.size, 0, none⟩ : Addr).add j) = some u := by
  intro j u hj
  match j, hj with
  | 0, hj => simp at hj; subst hj; simp [Addr.add]
theorem one1 (x : Int) : ∀ u ∈ [Value.int .i64 x], u.oneCell' = true := by
  intro u hu; simp at hu; subst hu; rfl
end Go.Proofs.Ytklipommocijaaa
