/- The document's least cost. -/
import Derived.Test.YtklipommocijaaaVa1
import Derived.Deep.QuietTactic
import Derived.Deep.RegionLaw
namespace Go.Proofs.Ytklipommocijaaa
open Go.RowKit
set_option linter.unusedVariables false

theorem twos_sum : ∀ l : List Nat, (twos l).sum ≤ l.sum
  | [] => by simp [twos]
  | [a] => by simp [twos]
  | a :: b :: l => by have := twos_sum l; simp only [twos, List.sum_cons]; omega
theorem isort_sum (l : List Nat) : (isort [] l).sum = l.sum := by have := (isort_perm l []).sum_nat; simpa using this
theorem LW_zero_sum (W : List Nat) : (LW W 0).sum = W.sum := by
  show (isort [] (W ++ [])).sum = _
  rw [isort_sum]; simp
theorem LW_sum (W : List Nat) : ∀ k, (LW W k).sum ≤ (k + 1) * W.sum
  | 0 => by rw [LW_zero_sum]; omega
  | k + 1 => by
    have h1 := LW_sum W k
    have h2 := twos_sum (LW W k)
    have h3 : (LW W (k + 1)).sum = W.sum + (twos (LW W k)).sum := by
      show (isort [] (W ++ twos (LW W k))).sum = _
      rw [isort_sum, List.sum_append]
    rw [h3, show (k + 1 + 1) * W.sum = (k + 1) * W.sum + W.sum by rw [Nat.add_mul (k + 1) 1, Nat.one_mul]]
    omega
theorem getD_le_sum (l : List Nat) (i : Nat) : l.getD i 0 ≤ l.sum := by
  rcases Nat.lt_or_ge i l.length with h | h
  · rw [getD_in h]
    have := PT.sum_ge (F := fun x => x) (List.getElem_mem h)
    simpa using this
  · rw [getD_out h]; omega
theorem take_sum_le (l : List Nat) (i : Nat) : (l.take i).sum ≤ l.sum := by
  conv => rhs; rw [← List.take_append_drop i l]
  rw [List.sum_append]; omega
theorem take_sum_succ (l : List Nat) (i : Nat) (h : i < l.length) : (l.take (i + 1)).sum = (l.take i).sum + l.getD i 0 := by
  rw [List.take_succ_eq_append_getElem h, List.sum_append, getD_in h]; simp
theorem twos_length (l : List Nat) : (twos l).length = l.length / 2 := by
  have key : ∀ n (l : List Nat), l.length ≤ n → (twos l).length = l.length / 2 := by
    intro n
    induction n with
    | zero => intro l hl; rw [List.eq_nil_of_length_eq_zero (l := l) (by omega)]; rfl
    | succ n ih =>
      intro l hl
      match l, hl with
      | [], _ => rfl
      | [t], _ => simp [twos]
      | a :: b :: l, hl =>
        simp only [twos, List.length_cons]
        rw [ih l (by simp at hl; omega)]; omega
  exact key l.length l (Nat.le_refl _)
theorem twos_get : ∀ (l : List Nat) (j : Nat), 2 * j + 1 < l.length → (twos l).getD j 0 = l.getD (2 * j) 0 + l.getD (2 * j + 1) 0
  | [], j, h => by simp at h
  | [a], j, h => by simp at h
  | a :: b :: l, 0, h => rfl
  | a :: b :: l, j + 1, h => by
    have := twos_get l j (by simp at h; omega)
    show (twos l).getD j 0 = _
    rw [this, show 2 * (j + 1) = 2 * j + 1 + 1 by omega, show 2 * j + 1 + 1 + 1 = (2 * j + 1) + 1 + 1 by omega]
    rfl
/-- What comes of frequencies, how often. -/
def coinsOf (fs : List Int) (j : Nat) : List Nat := (comes fs j).map (frq fs)
theorem coins_succ (fs : List Int) (j : Nat) : coinsOf fs (j + 1) = if 0 < fs.getD j 0 then coinsOf fs j ++ [frq fs j] else coinsOf fs j := by
  unfold coinsOf
  rw [comes_succ]
  split
  · simp
  · rfl
theorem coins_bound {fs : List Int} (hf : okF fs = true) : ∀ j, (coinsOf fs j).sum ≤ j * 1099511627776
  | 0 => by simp [coinsOf, comes]
  | j + 1 => by
    have h1 := coins_bound hf j
    have h2 : frq fs j ≤ 1099511627776 := by have := okF_get hf j; unfold frq; omega
    rw [coins_succ]
    split
    · rw [List.sum_append, List.sum_cons, List.sum_nil, Nat.add_mul, Nat.one_mul, Nat.add_zero]; exact Nat.add_le_add h1 h2
    · exact Nat.le_trans h1 (Nat.mul_le_mul_right _ (by omega))
theorem coins_len (fs : List Int) (j : Nat) : (coinsOf fs j).length ≤ j := by unfold coinsOf; rw [List.length_map]; exact comes_length_le fs j
/-- The least cost. -/
def leastV (fs : List Int) (N mo : Nat) : Nat := if (coinsOf fs N).length < 2 then (coinsOf fs N).sum else ((LW (isort [] (coinsOf fs N)) (mo - 1)).take (2 * (coinsOf fs N).length - 2)).sum
/-- An own row, as one to be read. -/
theorem owned_row {w : World} {B n : Nat} {v : Value} {xs : List Nat} (h : w.ownsRow B 3 1 v n (icells xs)) : ∃ ao cap, v = .slice ao n cap ∧ IRow w ao (xs.map fun x => ((x : Nat) : Int)) ∧ xs.length = n ∧ (0 < n → ∃ g, ao = some ⟨g, 0, none⟩) := by
  have hn : xs.length = n := by have := h.1; rw [icells_length] at this; omega
  rcases h.2 with ⟨e, h0⟩ | ⟨g, cap, cur, e, _, hg, _⟩
  · exact ⟨none, 0, by rw [e, h0], .inl (by rw [List.eq_nil_of_length_eq_zero (hn.trans h0)]; rfl), hn, fun h => by omega⟩
  · refine ⟨_, cap, e, .inr ⟨g, 0, rfl, lt_heap hg, fun i hi => ?_⟩, hn, fun _ => ⟨g, rfl⟩⟩
    rw [List.length_map] at hi
    have := h.cells (g := g) (by rw [e]; rfl) i (.int .i64 ((xs.getD i 0 : Nat) : Int)) (by
      unfold icells
      rw [List.getElem?_map, List.getElem?_eq_getElem hi, getD_in hi]; rfl)
    rw [add_zero_addr] at this
    rw [Nat.zero_add, this, getD_in (show i < (xs.map fun x => ((x : Nat) : Int)).length by rw [List.length_map]; exact hi), getD_in hi]; simp
theorem row_news {w : World} {g : Nat} {xs : List Nat} (h : IRow w (some ⟨g, 0, none⟩) (xs.map fun x => ((x : Nat) : Int))) : ∀ j u, (icells xs)[j]? = some u → w.cell? ((⟨g, 0, none⟩ : Addr).add j) = some u := fun j u hu => by
  have hj : j < xs.length := by
    rcases Nat.lt_or_ge j xs.length with h | h
    · exact h
    · rw [List.getElem?_eq_none (by rw [icells_length]; exact h)] at hu; simp at hu
  obtain ⟨b, off, e, c, _⟩ := h.at (show j < (xs.map fun x => ((x : Nat) : Int)).length by rw [List.length_map]; exact hj)
  cases e
  rw [add_zero_addr]
  rw [Nat.zero_add] at c
  unfold icells at hu
  rw [List.getElem?_map, List.getElem?_eq_getElem hj] at hu
  rw [c, getD_in (show j < (xs.map fun x => ((x : Nat) : Int)).length by rw [List.length_map]; exact hj), ← hu]
  simp
theorem row_cell {w : World} {g : Nat} {xs : List Nat} (h : IRow w (some ⟨g, 0, none⟩) (xs.map fun x => ((x : Nat) : Int))) {j : Nat} (hj : j < xs.length) : w.cell? ⟨g, j, none⟩ = some (.int .i64 ((xs.getD j 0 : Nat) : Int)) := by
  have := row_news h j (.int .i64 ((xs.getD j 0 : Nat) : Int)) (by unfold icells; rw [List.getElem?_map, List.getElem?_eq_getElem hj, getD_in hj]; rfl)
  rw [add_zero_addr] at this
  exact this
end Go.Proofs.Ytklipommocijaaa
