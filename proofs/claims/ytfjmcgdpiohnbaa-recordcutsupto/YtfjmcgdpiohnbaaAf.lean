/- Numbers out of bytes: what Var reads, as a plain function. -/
import Derived.Test.YtfjmcgdpiohnbaaAe
namespace Go.Proofs.Ytfjmcgdpiohnbaa
open Go.RowKit
set_option linter.unusedVariables false

/-- A number of k + 1 bytes stands at a text's beginning. -/
def Good (s : ByteArray) (k : Nat) : Prop := k < 9 ∧ k < s.size ∧ (∀ j, j < k → 128 ≤ byteN s j) ∧ byteN s k < 128 ∧ (byteN s k = 0 → k = 0)
theorem Good.uniq {s : ByteArray} {k m : Nat} (h : Good s k) (g : Good s m) : k = m := by
  rcases Nat.lt_trichotomy k m with hl | hl | hl
  · have := g.2.2.1 k hl; have := h.2.2.2.1; omega
  · exact hl
  · have := h.2.2.1 m hl; have := g.2.2.2.1; omega
open Classical in
/-- The number that a text begins with, and how many bytes it has. -/
noncomputable def varD (s : ByteArray) : Option (Nat × Nat) := if h : ∃ k, Good s k then some (varN s (h.choose + 1), h.choose + 1) else none
theorem varD_good {s : ByteArray} {k : Nat} (h : Good s k) : varD s = some (varN s (k + 1), k + 1) := by
  unfold varD
  rw [dif_pos ⟨k, h⟩, (Exists.choose_spec (⟨k, h⟩ : ∃ k, Good s k)).uniq h]
theorem varD_none {s : ByteArray} (h : ∀ k, ¬ Good s k) : varD s = none := by
  unfold varD
  rw [dif_neg (fun ⟨k, hk⟩ => h k hk)]
theorem varD_some {s : ByteArray} {x n : Nat} (h : varD s = some (x, n)) : ∃ k, Good s k ∧ x = varN s (k + 1) ∧ n = k + 1 := by
  by_cases hg : ∃ k, Good s k
  · obtain ⟨k, hk⟩ := hg
    rw [varD_good hk] at h
    cases h
    exact ⟨k, hk, rfl, rfl⟩
  · rw [varD_none (fun k hk => hg ⟨k, hk⟩)] at h
    cases h
theorem varD_le {s : ByteArray} {x n : Nat} (h : varD s = some (x, n)) : x ≤ 9223372036854775807 ∧ 1 ≤ n ∧ n ≤ 9 ∧ n ≤ s.size := by
  obtain ⟨k, h1, rfl, rfl⟩ := varD_some h
  exact ⟨varN_63 s (k + 1) (by have := h1.1; omega), by omega, by have := h1.1; omega, h1.2.1⟩
/-- Both readers answer by it. -/
def VarEnd (s : ByteArray) (e : Ending) : Prop := (∃ x n, varD s = some (x, n) ∧ e = .returned (.tuple #[.int .i64 (x : Nat), .int .i64 (n : Nat), .int .i64 0])) ∨ (varD s = none ∧ (e = .returned (.tuple #[.int .i64 0, .int .i64 0, .int .i64 10]) ∨ e = .returned (.tuple #[.int .i64 0, .int .i64 0, .int .i64 5])))
theorem var_ways (s : ByteArray) (hsz : s.size ≤ 9223372036854775807) : ∃ (r : Value), VarEnd s (.returned r) ∧
    (∀ w, Calls Try.prog 31 #[.string s] w fun e w' => e = .returned r ∧ w' = w) ∧
    (∀ w, Calls Try.prog 25 #[.string s] w fun e w' => e = .returned r ∧ w' = w) := by
  by_cases h : ∃ i, i < min s.size 9 ∧ byteN s i < 128
  · obtain ⟨k, hk, hb, hl⟩ := least _ h
    have hall : ∀ j, j < k → 128 ≤ byteN s j := fun j hj => by have := hl j hj; omega
    by_cases h0 : byteN s k = 0 ∧ 0 < k
    · refine ⟨_, .inr ⟨varD_none fun m hm => ?_, .inl rfl⟩, fun w => var_zero s k w (by omega) (by omega) hall h0.1 h0.2 hsz, fun w => refVar_zero s k w (by omega) (by omega) hall h0.1 h0.2 hsz⟩
      have e : m = k := by
        rcases Nat.lt_trichotomy k m with hh | hh | hh
        · have := hm.2.2.1 k hh; omega
        · exact hh.symm
        · have := hall m hh; have := hm.2.2.2.1; omega
      subst e
      have := hm.2.2.2.2 h0.1
      omega
    · have hz : byteN s k = 0 → k = 0 := fun hh => by
        rcases Nat.eq_zero_or_pos k with e | e
        · exact e
        · exact absurd ⟨hh, e⟩ h0
      exact ⟨_, .inl ⟨_, _, varD_good ⟨by omega, by omega, hall, hb, hz⟩, rfl⟩, fun w => var_ok s k w (by omega) (by omega) hall hb hz hsz, fun w => refVar_ok s k w (by omega) (by omega) hall hb hz hsz⟩
  · have hall : ∀ j, j < min s.size 9 → 128 ≤ byteN s j := fun j hj => by
      rcases Nat.lt_or_ge (byteN s j) 128 with hh | hh
      · exact absurd ⟨j, hj, hh⟩ h
      · exact hh
    have hno : varD s = none := varD_none fun m hm => by have := hall m (by have := hm.1; have := hm.2.1; omega); have := hm.2.2.2.1; omega
    by_cases hs : s.size < 9
    · exact ⟨_, .inr ⟨hno, .inr rfl⟩, fun w => var_short s w hs (fun j hj => hall j (by omega)), fun w => refVar_short s w hs (fun j hj => hall j (by omega))⟩
    · exact ⟨_, .inr ⟨hno, .inl rfl⟩, fun w => var_long s w (by omega) (fun j hj => hall j (by omega)) hsz, fun w => refVar_long s w (by omega) (fun j hj => hall j (by omega)) hsz⟩
/-- What stands behind a number's bytes does not matter. -/
theorem byteN_mk (l : List UInt8) (i : Nat) : byteN (mk l) i = (l.getD i 0).toNat := by unfold byteN; rw [mk_toList]
theorem varN_congr (s t : ByteArray) (k : Nat) (h : ∀ i, i < k → byteN s i = byteN t i) : varN s k = varN t k := by
  induction k with
  | zero => rfl
  | succ k ih => simp only [varN]; rw [ih (fun i hi => h i (by omega)), h k (by omega)]
theorem varD_append {l : List UInt8} {x n : Nat} (h : varD (mk l) = some (x, n)) (m : List UInt8) : varD (mk (l ++ m)) = some (x, n) := by
  obtain ⟨k, h1, rfl, rfl⟩ := varD_some h
  have hk : k < l.length := by have := h1.2.1; rw [mk_size] at this; exact this
  have hb : ∀ i, i ≤ k → byteN (mk (l ++ m)) i = byteN (mk l) i := fun i hi => by
    rw [byteN_mk, byteN_mk, List.getD_eq_getElem?_getD, List.getD_eq_getElem?_getD, List.getElem?_append_left (by omega)]
  rw [varD_good (k := k) ⟨h1.1, by rw [mk_size, List.length_append]; omega, fun j hj => by rw [hb j (by omega)]; exact h1.2.2.1 j hj, by rw [hb k (by omega)]; exact h1.2.2.2.1, by rw [hb k (by omega)]; exact h1.2.2.2.2⟩]
  rw [varN_congr _ (mk l) (k + 1) (fun i hi => hb i (by omega))]
theorem vb_fit (n : Nat) (hn : n ≤ 9223372036854775807) : vb n = (varB 9 n).map UInt8.ofNat := by
  unfold vb; rw [varB_fuel 9 n (by omega) (by omega)]
/-- What PutVar wrote is read as the number. -/
theorem varD_vb (n : Nat) (m : List UInt8) (hn : n ≤ 9223372036854775807) : varD (mk (vb n ++ m)) = some (n, (vb n).length) := by
  obtain ⟨k, h1, h2, h3, h4, h5, h6⟩ := varB_shape 9 n (by omega) (by omega)
  have hlt := varB_lt 9 n
  have e : mk (vb n ++ m) = toBA (varB 9 n) ++ mk m := by
    rw [vb_fit n hn]
    apply ByteArray.ext
    rw [ByteArray.data_append]
    simp [mk, toBA]
  have hb : ∀ i, i < (varB 9 n).length → byteN (mk (vb n ++ m)) i = (varB 9 n).getD i 0 := fun i hi => by rw [e]; exact byteN_append _ _ _ hi hlt
  have hlen : (vb n).length = k + 1 := by rw [vb_fit n hn, List.length_map, h1]
  have hv : varN (mk (vb n ++ m)) (k + 1) = n := by
    rw [varN_gsum _ (varB 9 n) hb (k + 1) (by omega), ← h1, List.take_length, h6]
  rw [varD_good (k := k) ⟨by omega, by rw [mk_size, List.length_append, hlen]; omega, fun j hj => by rw [hb j (by omega)]; exact h3 j hj, by rw [hb k (by omega)]; exact h4, fun hz => by
    rw [hb k (by omega)] at hz
    rcases Nat.eq_zero_or_pos k with e | e
    · exact e
    · exact absurd hz (h5 e)⟩, hv, hlen]
theorem varD_nil : varD (mk []) = none := varD_none fun k hk => by have := hk.2.1; simp [mk_size] at this
end Go.Proofs.Ytfjmcgdpiohnbaa
