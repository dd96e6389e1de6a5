/- Layer 6: what sequences say, one behind the other. -/
import Derived.Test.YthefhffgcpoefaaYx
namespace Go.Proofs.Ythefhffgcpoefaa
open Go.RowKit
set_option linter.unusedVariables false

/-- The sequences z say the plain bytes want: whatever stands behind them. -/
def Says (z want : List Nat) : Prop :=
  ∀ R most K, Bytes (z ++ R) → want.length ≤ most → (z ++ R).length < K → ∃ K', R.length < K' ∧ unpF (toBA (z ++ R)) most K 0 [] = unpF (toBA (z ++ R)) most K' z.length want
theorem says_nil : Says [] [] := fun R most K _ _ hK => ⟨K, hK, rfl⟩
theorem Says.copy {z want p : List Nat} {d n : Nat} (h : Says z want) (hn : 4 ≤ n) (hd1 : 1 ≤ d) (hd2 : d ≤ want.length + p.length) (hd3 : d ≤ 65535) : Says (z ++ copyS p d n) (copyL d n (want ++ p)) := fun R most K hB hm hK => by
  rw [copyL_length, List.length_append] at hm
  have e : z ++ copyS p d n ++ R = z ++ (copyS p d n ++ R) := List.append_assoc _ _ _
  obtain ⟨K', h1, h2⟩ := h (copyS p d n ++ R) most K (by rw [← e]; exact hB) (by omega) (by rw [← e]; exact hK)
  rw [List.length_append] at h1
  have hcl : 1 ≤ (copyS p d n).length := by unfold copyS headL; simp
  obtain ⟨K', rfl⟩ : ∃ K'', K' = K'' + 1 := ⟨K' - 1, by omega⟩
  refine ⟨K', by omega, ?_⟩
  rw [e, h2, ← e]
  rw [unp_more (copy_read (z ++ copyS p d n ++ R) z R p want d n most hB rfl hn hd1 hd2 hd3 (by omega)), List.length_append]
theorem Says.last {z want p : List Nat} (h : Says z want) (hB : Bytes (z ++ headL p 0)) (most : Nat) (hm : want.length + p.length ≤ most) : unpack (toBA (z ++ headL p 0)) most = (0, want ++ p) := by
  obtain ⟨K', h1, h2⟩ := h (headL p 0) most ((toBA (z ++ headL p 0)).size + 1) hB (by omega) (by rw [toBA_size]; omega)
  obtain ⟨K', rfl⟩ : ∃ K'', K' = K'' + 1 := ⟨K' - 1, by omega⟩
  unfold unpack
  rw [h2, unp_last (last_read (z ++ headL p 0) z p want most hB rfl hm)]
/-- A number below 270 takes one byte more, or none. -/
theorem moreL_small (n : Nat) (h : n < 270) : moreL n = if n < 15 then [] else [n - 15] := by
  unfold moreL fullL
  split
  · rfl
  · rw [Nat.div_eq_of_lt (by omega), Nat.mod_eq_of_lt (by omega)]
    rfl
end Go.Proofs.Ythefhffgcpoefaa
