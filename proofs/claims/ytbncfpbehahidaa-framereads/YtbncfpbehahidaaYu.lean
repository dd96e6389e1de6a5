/- Layer 6: what a copy is that was found; Pack as a plain function. -/
import Derived.Test.YtbncfpbehahidaaYt
namespace Go.Proofs.Ytbncfpbehahidaa
open Go.RowKit
set_option linter.unusedVariables false
set_option maxRecDepth 20000

theorem runL_ge (s : ByteArray) (a b : Nat) : ∀ m n j, (∀ i, n ≤ i → i < n + j → bt s (a + i) = bt s (b + i)) → j ≤ m → n + j ≤ runL s a b m n
  | m, n, 0, _, _ => (runL_le s a b m n).1
  | 0, n, j + 1, _, h => by omega
  | m + 1, n, j + 1, h, hj => by
    unfold runL
    rw [if_pos (h n (Nat.le_refl _) (by omega))]
    have := runL_ge s a b m (n + 1) j (fun i h1 h2 => h i (by omega) (by omega)) (by omega)
    omega
/-- None, or a copy that tells what stands at the place k. -/
def CopyOK (s : ByteArray) (k n d : Nat) : Prop := n = 0 ∨ (4 ≤ n ∧ n ≤ s.size - 5 - k ∧ 1 ≤ d ∧ d ≤ k ∧ d ≤ 65535 ∧ ∀ i, i < n → bt s (k - d + i) = bt s (k + i))
theorem alikeF_ok {s : ByteArray} {k p len : Nat} (hp : p < k) (hf : four s p = four s k) (hd : ¬ 65535 < k - p) (hk : k + 12 ≤ s.size) (hl : len < alikeF s p k len (s.size - 5 - k)) : CopyOK s k (alikeF s p k len (s.size - 5 - k)) (k - p) := by
  have h1 := runL_le s p k (s.size - 5 - k) 0
  unfold four at hf
  simp only [Prod.mk.injEq] at hf
  have h4 := runL_ge s p k (s.size - 5 - k) 0 4 (fun i _ hi => by
    match i, hi with
    | 0, _ => exact hf.1
    | 1, _ => exact hf.2.1
    | 2, _ => exact hf.2.2.1
    | 3, _ => exact hf.2.2.2) (by omega)
  unfold alikeF at hl ⊢
  split at hl
  · rename_i he
    rw [if_pos he]
    refine .inr ⟨by omega, by omega, by omega, by omega, by omega, fun i hi => ?_⟩
    have := h1.2.2 i (Nat.zero_le _) hi
    rw [show k - (k - p) = p by omega]
    exact this
  · omega
theorem chain_ok {s : ByteArray} {k : Nat} (hk : k + 12 ≤ s.size) : ∀ (t : Nat) (o : Option Nat) (len dist : Nat), (∀ p, o = some p → p < k ∧ four s p = four s k) → CopyOK s k len dist → CopyOK s k (chain s k (s.size - 5 - k) t o len dist).1 (chain s k (s.size - 5 - k) t o len dist).2
  | 0, _, _, _, _, h => h
  | _ + 1, none, _, _, _, h => h
  | t + 1, some p, len, dist, ho, h => by
    obtain ⟨h1, h2⟩ := ho p rfl
    have hnext : ∀ q, lastP s p (four s p) = some q → q < k ∧ four s q = four s k := fun q hq => by
      have := lastP_some hq
      exact ⟨by omega, this.2.trans h2⟩
    unfold chain
    split
    · exact h
    · rename_i hd
      split
      · rename_i hl
        split
        · exact alikeF_ok h1 h2 hd hk hl
        · exact chain_ok hk t _ _ _ hnext (alikeF_ok h1 h2 hd hk hl)
      · exact chain_ok hk t _ _ _ hnext h
theorem copyAt_spec {s : ByteArray} {k : Nat} (hk : k + 12 ≤ s.size) : CopyOK s k (copyAt s k).1 (copyAt s k).2 :=
  chain_ok hk 100 _ 0 0 (fun p hp => lastP_some hp) (.inl rfl)
/-- Bytes of a text. -/
def sub (s : ByteArray) (a b : Nat) : List Nat := bytesOf (s.extract a b)
theorem sub_length (s : ByteArray) (a b : Nat) (hb : b ≤ s.size) : (sub s a b).length = b - a := by
  unfold sub; rw [bytesOf_length, ByteArray.size_extract]; omega
/-- What Pack writes, from a place on: so far told, so far written. -/
def packF (s : ByteArray) : Nat → Nat → Nat → List Nat → List Nat
  | 0, _, told, l => l ++ headL (sub s told s.size) 0
  | f + 1, k, told, l => if s.size < k + 12 then l ++ headL (sub s told s.size) 0
    else if (copyAt s k).1 = 0 then packF s f (k + 1) told l
    else packF s f (k + (copyAt s k).1) (k + (copyAt s k).1) (l ++ copyS (sub s told k) (copyAt s k).2 (copyAt s k).1)
theorem packF_end (s : ByteArray) (f k told : Nat) (l : List Nat) (h : s.size < k + 12) : packF s f k told l = l ++ headL (sub s told s.size) 0 := by
  cases f with
  | zero => rfl
  | succ f => unfold packF; rw [if_pos h]
theorem headL_cost (p : List Nat) (c : Nat) : (headL p c).length ≤ p.length + p.length / 255 + 2 := headL_length p c
theorem moreL_len (n : Nat) : (moreL n).length = if n < 15 then 0 else (n - 15) / 255 + 1 := by
  unfold moreL fullL
  split <;> simp
theorem copyS_cost (p : List Nat) (d n : Nat) (hn : 4 ≤ n) : (copyS p d n).length ≤ p.length + n + p.length / 255 := by
  unfold copyS headL
  simp only [List.length_append, List.length_cons, List.length_nil, moreL_len]
  split
  · split <;> omega
  · split <;> omega
end Go.Proofs.Ytbncfpbehahidaa
