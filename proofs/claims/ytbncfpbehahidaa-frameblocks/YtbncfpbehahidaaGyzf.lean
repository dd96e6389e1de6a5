/- Layer 6: a text that is written again and again is packed into little. -/
import Derived.Test.YtbncfpbehahidaaYx
namespace Go.Proofs.Ytbncfpbehahidaa
open Go.RowKit
set_option linter.unusedVariables false
set_option maxRecDepth 20000

theorem lastP_ge (s : ByteArray) (x : Nat × Nat × Nat × Nat) (j : Nat) (hx : four s j = x) : ∀ q, j < q → ∃ q', lastP s q x = some q' ∧ j ≤ q' ∧ q' < q ∧ four s q' = x
  | 0, h => by omega
  | q + 1, h => by
    unfold lastP
    split
    · exact ⟨q, rfl, by omega, by omega, by assumption⟩
    · rename_i hne
      have hjq : j ≠ q := fun e => hne (e ▸ hx)
      obtain ⟨q', h1, h2, h3, h4⟩ := lastP_ge s x j hx q (by omega)
      exact ⟨q', h1, h2, by omega, h4⟩
section
variable {s : ByteArray} {p : Nat}
theorem alike_all {k fl : Nat} (hper : ∀ i, p ≤ i → i < s.size → bt s i = bt s (i - p)) (hk : p ≤ k) (hk2 : k + 12 ≤ s.size) (hf : fl < s.size - 5 - k) : alikeF s (k - p) k fl (s.size - 5 - k) = s.size - 5 - k := by
  have he : ∀ i, i < s.size - 5 - k → bt s (k - p + i) = bt s (k + i) := fun i hi => by
    rw [hper (k + i) (by omega) (by omega)]
    congr 1
    omega
  unfold alikeF
  rw [if_pos (he fl hf)]
  have h1 := (runL_le s (k - p) k (s.size - 5 - k) 0).2.1
  have h2 := runL_ge s (k - p) k (s.size - 5 - k) 0 (s.size - 5 - k) (fun i _ hi => he i (by omega)) (Nat.le_refl _)
  omega
theorem four_per {k : Nat} (hper : ∀ i, p ≤ i → i < s.size → bt s i = bt s (i - p)) (hk : p ≤ k) (hk2 : k + 12 ≤ s.size) : four s (k - p) = four s k := by
  unfold four
  rw [hper k hk (by omega), hper (k + 1) (by omega) (by omega), hper (k + 2) (by omega) (by omega), hper (k + 3) (by omega) (by omega)]
  rw [show k + 1 - p = k - p + 1 by omega, show k + 2 - p = k - p + 2 by omega, show k + 3 - p = k - p + 3 by omega]
theorem chain_full {k : Nat} (hper : ∀ i, p ≤ i → i < s.size → bt s i = bt s (i - p)) (hp : p ≤ 100) (hk : p ≤ k) (hk2 : k + 12 ≤ s.size) : ∀ (t q len dist : Nat), k - p ≤ q → q < k → four s q = four s k → q - (k - p) < t → len < s.size - 5 - k → (chain s k (s.size - 5 - k) t (some q) len dist).1 = s.size - 5 - k
  | 0, q, len, dist, _, _, _, h, _ => by omega
  | t + 1, q, len, dist, h1, h2, h3, h4, h5 => by
    unfold chain
    rw [if_neg (by omega)]
    by_cases hq : q = k - p
    · subst hq
      rw [alike_all hper hk hk2 h5, if_pos h5, if_pos rfl]
    · obtain ⟨q', g1, g2, g3, g4⟩ := lastP_ge s (four s q) (k - p) ((four_per hper hk hk2).trans h3.symm) q (by omega)
      rw [g1]
      have hle := alikeF_le s q k len (s.size - 5 - k)
      split
      · split
        · assumption
        · exact chain_full hper hp hk hk2 t q' _ _ g2 (by omega) (g4.trans h3) (by omega) (by omega)
      · exact chain_full hper hp hk hk2 t q' _ _ g2 (by omega) (g4.trans h3) (by omega) h5
theorem copyAt_full {k : Nat} (hper : ∀ i, p ≤ i → i < s.size → bt s i = bt s (i - p)) (hp1 : 1 ≤ p) (hp : p ≤ 100) (hk : p ≤ k) (hk2 : k + 12 ≤ s.size) : (copyAt s k).1 = s.size - 5 - k := by
  unfold copyAt
  obtain ⟨q', g1, g2, g3, g4⟩ := lastP_ge s (four s k) (k - p) (four_per hper hk hk2) k (by omega)
  rw [g1]
  exact chain_full hper hp hk hk2 100 q' 0 0 g2 g3 g4 (by omega) (by omega)
theorem copyS_len (q : List Nat) (d n : Nat) (hn : n ≤ 5000) : (copyS q d n).length ≤ q.length + q.length / 255 + 26 := by
  unfold copyS headL
  simp only [List.length_append, List.length_cons, List.length_nil, moreL_len]
  split
  · split <;> omega
  · split <;> omega
theorem pack_late (hper : ∀ i, p ≤ i → i < s.size → bt s i = bt s (i - p)) (hp1 : 1 ≤ p) (hp : p ≤ 100) (hs : s.size ≤ 5000) (F k told : Nat) (l : List Nat) (hk : p ≤ k) (hks : k ≤ s.size) (ht : told ≤ k) (htk : k ≤ told + 100) (hF : s.size - k ≤ F) : (packF s F k told l).length ≤ l.length + (k - told) + 60 := by
  by_cases hend : s.size < k + 12
  · rw [packF_end s F k told l hend, List.length_append]
    have h1 := headL_cost (sub s told s.size) 0
    rw [sub_length s told s.size (Nat.le_refl _)] at h1
    omega
  · obtain ⟨F, rfl⟩ : ∃ F', F = F' + 1 := ⟨F - 1, by omega⟩
    have hc := copyAt_full hper hp1 hp hk (by omega)
    unfold packF
    rw [if_neg hend, if_neg (by omega), packF_end s F _ _ _ (by omega), List.length_append, List.length_append]
    have h1 := headL_cost (sub s (k + (copyAt s k).1) s.size) 0
    rw [sub_length s _ s.size (Nat.le_refl _)] at h1
    have h2 := copyS_len (sub s told k) (copyAt s k).2 (copyAt s k).1 (by omega)
    rw [sub_length s told k hks] at h2
    omega
theorem pack_early (hper : ∀ i, p ≤ i → i < s.size → bt s i = bt s (i - p)) (hp1 : 1 ≤ p) (hp : p ≤ 100) (hs : s.size ≤ 5000) (hs2 : 200 ≤ s.size) : ∀ (F k told : Nat) (l : List Nat), k < p → told ≤ k → s.size - k ≤ F → l.length ≤ told + told / 255 → (packF s F k told l).length ≤ 310
  | 0, k, told, l, h1, h2, h3, h4 => by omega
  | F + 1, k, told, l, h1, h2, h3, h4 => by
    unfold packF
    rw [if_neg (by omega)]
    by_cases hn : (copyAt s k).1 = 0
    · rw [if_pos hn]
      by_cases hk1 : k + 1 < p
      · exact pack_early hper hp1 hp hs hs2 F (k + 1) told l hk1 (by omega) (by omega) h4
      · have := pack_late hper hp1 hp hs F (k + 1) told l (by omega) (by omega) (by omega) (by omega) (by omega)
        omega
    · rw [if_neg hn]
      obtain ⟨q1, q2, q3, q4, q5, q6⟩ := (copyAt_spec (s := s) (k := k) (by omega)).resolve_left hn
      by_cases hk1 : k + (copyAt s k).1 < p
      · have hc := copyS_cost (sub s told k) (copyAt s k).2 (copyAt s k).1 q1
        rw [sub_length s told k (by omega)] at hc
        exact pack_early hper hp1 hp hs hs2 F _ _ _ hk1 (Nat.le_refl _) (by omega) (by rw [List.length_append]; omega)
      · have hc := copyS_len (sub s told k) (copyAt s k).2 (copyAt s k).1 (by omega)
        rw [sub_length s told k (by omega)] at hc
        have := pack_late hper hp1 hp hs F (k + (copyAt s k).1) (k + (copyAt s k).1) (l ++ copyS (sub s told k) (copyAt s k).2 (copyAt s k).1) (by omega) (by omega) (Nat.le_refl _) (by omega) (by omega)
        rw [List.length_append] at this
        omega
theorem again_len (hper : ∀ i, p ≤ i → i < s.size → bt s i = bt s (i - p)) (hp1 : 1 ≤ p) (hp : p ≤ 100) (hs : s.size ≤ 5000) (hs2 : 200 ≤ s.size) : (packL s).length ≤ 310 :=
  pack_early hper hp1 hp hs hs2 s.size 0 0 [] (by omega) (Nat.le_refl _) (by omega) (by simp)
end
/-- A list, so many times. -/
def repL (S : List Nat) : Nat → List Nat
  | 0 => []
  | j + 1 => repL S j ++ S
theorem repL_length (S : List Nat) : ∀ j, (repL S j).length = j * S.length
  | 0 => by simp [repL]
  | j + 1 => by unfold repL; rw [List.length_append, repL_length S j, Nat.succ_mul]
theorem repL_bytes {S : List Nat} (h : Bytes S) : ∀ j, Bytes (repL S j)
  | 0 => by intro x hx; simp [repL] at hx
  | j + 1 => (repL_bytes h j).append h
theorem repL_get (S : List Nat) (hS : 0 < S.length) : ∀ (j i : Nat), i < j * S.length → (repL S j).getD i 0 = S.getD (i % S.length) 0
  | 0, i, h => by omega
  | j + 1, i, h => by
    unfold repL
    rw [List.getD_eq_getElem?_getD, List.getElem?_append]
    rw [Nat.succ_mul] at h
    split
    · rename_i hi
      rw [← List.getD_eq_getElem?_getD]
      rw [repL_length] at hi
      exact repL_get S hS j i hi
    · rename_i hi
      rw [repL_length] at hi ⊢
      rw [← List.getD_eq_getElem?_getD]
      congr 1
      have : i = (i - j * S.length) + S.length * j := by rw [Nat.mul_comm S.length j]; omega
      conv => rhs; rw [this, Nat.add_mul_mod_self_left]
      rw [Nat.mod_eq_of_lt (by omega)]
theorem rep_per (S : List Nat) (hS : 0 < S.length) (hB : Bytes S) (j : Nat) : ∀ i, S.length ≤ i → i < (toBA (repL S j)).size → bt (toBA (repL S j)) i = bt (toBA (repL S j)) (i - S.length) := fun i h1 h2 => by
  rw [toBA_size, repL_length] at h2
  rw [bt_toBA _ (repL_bytes hB j), bt_toBA _ (repL_bytes hB j), repL_get S hS j i h2, repL_get S hS j (i - S.length) (by omega)]
  congr 1
  rw [Nat.mod_eq_sub_mod h1]
end Go.Proofs.Ytbncfpbehahidaa
