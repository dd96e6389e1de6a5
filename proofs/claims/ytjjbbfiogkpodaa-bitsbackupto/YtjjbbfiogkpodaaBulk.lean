/- What the bulk of a list of operations bounds: the bits that they write. -/
import Derived.Test.YtjjbbfiogkpodaaRows
import Derived.Test.YtjjbbfiogkpodaaTb
namespace Go.Proofs.Ytjjbbfiogkpodaa
theorem bulk_append {H : Type} (l r : List (DataW H)) : Rows.uptoBulkAll (l ++ r) = Rows.uptoBulkAll l + Rows.uptoBulkAll r := by
  induction l with
  | nil => simp [Rows.uptoBulkAll]
  | cons x l ih => simp only [List.cons_append, Rows.uptoBulkAll, ih]; omega
theorem gain_all {H : Type} (fk fx fn : Nat → Int) (ft : Nat → ByteArray) (len : Nat) :
    gain ft len ≤ 12 * Rows.uptoBulkAll (H := H) ((List.range len).map fun i => .agg [.lit (.int .i64 (fk i)), .lit (.int .i64 (fx i)), .lit (.int .i64 (fn i)), .lit (.string (ft i).data.toList)]) := by
  induction len with
  | zero => simp [gain]
  | succ n ih =>
    rw [List.range_succ, List.map_append, bulk_append]
    have e : (ft n).data.toList.length = (ft n).size := by rw [Array.length_toList]; rfl
    simp only [List.map_cons, List.map_nil, Rows.uptoBulkAll, Rows.uptoBulk, gain, e]
    omega
theorem gain_bulk {H : Type} (fk fx fn : Nat → Int) (ft : Nat → ByteArray) (len : Nat) (sp : List (DataW H))
    (h : Rows.uptoBulk (H := H) (.slice ((List.range len).map fun i => .agg [.lit (.int .i64 (fk i)), .lit (.int .i64 (fx i)), .lit (.int .i64 (fn i)), .lit (.string (ft i).data.toList)]) sp) ≤ 1048576) : gain ft len ≤ 1073741824 := by
  have h1 := gain_all (H := H) fk fx fn ft len
  simp only [Rows.uptoBulk] at h
  omega
end Go.Proofs.Ytjjbbfiogkpodaa
