/- Layer 5: the copies that a finder finds, and the tokens of a text: the mathematics. -/
import Derived.ProofKit
namespace Go.Proofs.YtlbadjfcffoakaaDoor.D5
set_option linter.unusedVariables false
set_option maxRecDepth 20000

def bt (s : ByteArray) (p : Nat) : Nat := (s.data.toList.getD p 0).toNat
theorem bt_lt (s : ByteArray) (p : Nat) : bt s p < 256 := UInt8.toNat_lt _
def three (s : ByteArray) (p : Nat) : Nat × Nat × Nat := (bt s p, bt s (p + 1), bt s (p + 2))
def lastP (s : ByteArray) : Nat → Nat × Nat × Nat → Option Nat
  | 0, _ => none
  | k + 1, x => if three s k = x then some k else lastP s k x
theorem lastP_some {s : ByteArray} {x : Nat × Nat × Nat} : ∀ {k p : Nat}, lastP s k x = some p → p < k ∧ three s p = x
  | 0, p, h => by simp [lastP] at h
  | k + 1, p, h => by
    unfold lastP at h
    split at h
    · cases h; exact ⟨Nat.lt_succ_self _, by assumption⟩
    · have := lastP_some h; exact ⟨by omega, this.2⟩
def enc32 : Option Nat → Int
  | none => -1
  | some p => (p : Nat)
theorem enc_b (o : Option Nat) {k : Nat} (h : ∀ p, o = some p → p < k) : -1 ≤ enc32 o ∧ enc32 o < (k : Int) ∨ enc32 o = -1 := by
  cases o with
  | none => right; rfl
  | some p => left; have := h p rfl; simp [enc32]; omega
def runL (s : ByteArray) (a b : Nat) : Nat → Nat → Nat
  | 0, n => n
  | m + 1, n => if bt s (a + n) = bt s (b + n) then runL s a b m (n + 1) else n
def alikeF (s : ByteArray) (a b fl most : Nat) : Nat := if bt s (a + fl) = bt s (b + fl) then runL s a b most 0 else 0
theorem runL_le (s : ByteArray) (a b : Nat) : ∀ m n, n ≤ runL s a b m n ∧ runL s a b m n ≤ n + m ∧ ∀ i, n ≤ i → i < runL s a b m n → bt s (a + i) = bt s (b + i)
  | 0, n => ⟨Nat.le_refl _, Nat.le_refl _, fun i h1 h2 => by simp [runL] at h2; omega⟩
  | m + 1, n => by
    unfold runL
    split
    · rename_i h
      have h1 := runL_le s a b m (n + 1)
      refine ⟨by omega, by omega, fun i hi h2 => ?_⟩
      by_cases e : i = n
      · subst e; exact h
      · exact h1.2.2 i (by omega) h2
    · exact ⟨Nat.le_refl _, by omega, fun i h1 h2 => by omega⟩
theorem alikeF_le (s : ByteArray) (a b fl most : Nat) : alikeF s a b fl most ≤ most := by
  unfold alikeF
  split
  · have := (runL_le s a b most 0).2.1; omega
  · omega
theorem alikeF_same {s : ByteArray} {a b fl most i : Nat} (h : i < alikeF s a b fl most) : bt s (a + i) = bt s (b + i) := by
  unfold alikeF at h
  split at h
  · exact (runL_le s a b most 0).2.2 i (Nat.zero_le _) h
  · omega
theorem runL_three {s : ByteArray} {a b most : Nat} (h : three s a = three s b) (hm : 3 ≤ most) : 3 ≤ runL s a b most 0 := by
  unfold three at h
  simp only [Prod.mk.injEq] at h
  obtain ⟨h0, h1, h2⟩ := h
  obtain ⟨m, rfl⟩ : ∃ m, most = m + 3 := ⟨most - 3, by omega⟩
  show 3 ≤ runL s a b (m + 2 + 1) 0
  rw [runL, if_pos (by simpa using h0), runL, if_pos (by simpa using h1), runL, if_pos (by simpa using h2)]
  exact (runL_le s a b m 3).1
theorem alikeF_three {s : ByteArray} {a b most : Nat} (h : three s a = three s b) (hm : 3 ≤ most) : 3 ≤ alikeF s a b 0 most := by
  unfold alikeF
  have h0 : bt s a = bt s b := by unfold three at h; simp only [Prod.mk.injEq] at h; exact h.1
  rw [if_pos (by simpa using h0)]
  exact runL_three h hm
def chain (s : ByteArray) (k most : Nat) : Nat → Option Nat → Nat → Nat → Nat × Nat
  | 0, _, len, dist => (len, dist)
  | _ + 1, none, len, dist => (len, dist)
  | t + 1, some p, len, dist =>
    if 32768 < k - p then (len, dist) else
    if len < alikeF s p k len most then
      if alikeF s p k len most = most then (alikeF s p k len most, k - p) else chain s k most t (lastP s p (three s p)) (alikeF s p k len most) (k - p)
    else chain s k most t (lastP s p (three s p)) len dist
theorem chain_none (s : ByteArray) (k most len dist : Nat) : ∀ t, chain s k most t none len dist = (len, dist)
  | 0 => rfl
  | _ + 1 => rfl
theorem chain_far (s : ByteArray) (k most p len dist : Nat) (h : 32768 < k - p) : ∀ t, chain s k most t (some p) len dist = (len, dist)
  | 0 => rfl
  | t + 1 => by unfold chain; rw [if_pos h]
def met (s : ByteArray) (k : Nat) : Nat := min k (s.size - 2)
theorem met_lt {s : ByteArray} {k : Nat} (h : k + 3 ≤ s.size) : met s k = k := by unfold met; omega
theorem met_succ {s : ByteArray} {k : Nat} (h : k + 3 ≤ s.size) : met s (k + 1) = k + 1 := by unfold met; omega
theorem met_end {s : ByteArray} {k : Nat} (h : s.size < k + 3) : met s (k + 1) = met s k := by unfold met; omega
theorem met_le (s : ByteArray) (k : Nat) : met s k ≤ k := by unfold met; omega
def rawAt (s : ByteArray) (k : Nat) : Nat × Nat := chain s k (min 258 (s.size - k)) 64 (lastP s (met s k) (three s k)) 0 0
def copyAt (s : ByteArray) (k : Nat) : Nat × Nat := if s.size < k + 3 then (0, 0) else if (rawAt s k).1 = 3 ∧ 4096 < (rawAt s k).2 then (0, 0) else rawAt s k
structure CopyOK (s : ByteArray) (k n d : Nat) : Prop where
  long : 3 ≤ n
  most : n ≤ 258
  room : k + n ≤ s.size
  back : 1 ≤ d
  far : d ≤ 32768
  lies : d ≤ k
  same : ∀ i, i < n → bt s (k - d + i) = bt s (k + i)
theorem chain_ok {s : ByteArray} {k most : Nat} (hm : 3 ≤ most) (hm2 : most ≤ 258) (hk : k + most ≤ s.size) : ∀ (t : Nat) (o : Option Nat) (len dist : Nat), (∀ p, o = some p → p < k ∧ three s p = three s k) → ((len = 0 ∧ dist = 0) ∨ CopyOK s k len dist) → (chain s k most t o len dist = (0, 0)) ∨ CopyOK s k (chain s k most t o len dist).1 (chain s k most t o len dist).2
  | 0, o, len, dist, ho, h => by
    show ((len, dist) = (0, 0)) ∨ CopyOK s k len dist
    rcases h with ⟨rfl, rfl⟩ | h
    · exact .inl rfl
    · exact .inr h
  | t + 1, none, len, dist, ho, h => by
    show ((len, dist) = (0, 0)) ∨ CopyOK s k len dist
    rcases h with ⟨rfl, rfl⟩ | h
    · exact .inl rfl
    · exact .inr h
  | t + 1, some p, len, dist, ho, h => by
    obtain ⟨hp, h3⟩ := ho p rfl
    have ho2 : ∀ q, lastP s p (three s p) = some q → q < k ∧ three s q = three s k := fun q hq => by
      have := lastP_some hq; exact ⟨by omega, this.2.trans h3⟩
    have hle := alikeF_le s p k len most
    have hnew : len < alikeF s p k len most → k - p ≤ 32768 → CopyOK s k (alikeF s p k len most) (k - p) := fun hlt hd => by
      have hlen : 3 ≤ alikeF s p k len most := by
        rcases h with ⟨rfl, _⟩ | h
        · exact alikeF_three h3 hm
        · have := h.long; omega
      refine ⟨hlen, by omega, by omega, by omega, hd, by omega, fun i hi => ?_⟩
      rw [show k - (k - p) = p by omega]
      exact alikeF_same hi
    unfold chain
    by_cases h1 : 32768 < k - p
    · rw [if_pos h1]
      rcases h with ⟨rfl, rfl⟩ | h
      · exact .inl rfl
      · exact .inr h
    · rw [if_neg h1]
      by_cases h2 : len < alikeF s p k len most
      · rw [if_pos h2]
        have hn := hnew h2 (by omega)
        by_cases h4 : alikeF s p k len most = most
        · rw [if_pos h4]; exact .inr hn
        · rw [if_neg h4]; exact chain_ok hm hm2 hk t _ _ _ ho2 (.inr hn)
      · rw [if_neg h2]; exact chain_ok hm hm2 hk t _ _ _ ho2 h
theorem rawAt_ok {s : ByteArray} {k : Nat} (h : k + 3 ≤ s.size) : rawAt s k = (0, 0) ∨ CopyOK s k (rawAt s k).1 (rawAt s k).2 :=
by
  unfold rawAt
  refine chain_ok (by omega) (by omega) (by omega) _ _ _ _ (fun p hp => ?_) (.inl ⟨rfl, rfl⟩)
  have h1 := lastP_some hp
  have h2 := met_le s k
  exact ⟨by omega, h1.2⟩
theorem copyAt_ok {s : ByteArray} {k : Nat} : (copyAt s k).1 = 0 ∨ (CopyOK s k (copyAt s k).1 (copyAt s k).2 ∧ ((copyAt s k).1 = 3 → (copyAt s k).2 ≤ 4096)) := by
  unfold copyAt
  by_cases h1 : s.size < k + 3
  · rw [if_pos h1]; exact .inl rfl
  · rw [if_neg h1]
    by_cases h2 : (rawAt s k).1 = 3 ∧ 4096 < (rawAt s k).2
    · rw [if_pos h2]; exact .inl rfl
    · rw [if_neg h2]
      rcases rawAt_ok (s := s) (k := k) (by omega) with h | h
      · rw [h]; exact .inl rfl
      · exact .inr ⟨h, fun h3 => by omega⟩
theorem copyAt_b (s : ByteArray) (k : Nat) : (copyAt s k).1 ≤ 258 ∧ (copyAt s k).2 ≤ 32768 ∧ ((copyAt s k).1 = 0 → copyAt s k = (0, 0)) := by
  unfold copyAt
  by_cases h1 : s.size < k + 3
  · rw [if_pos h1]; exact ⟨by simp, by simp, fun _ => rfl⟩
  · rw [if_neg h1]
    by_cases h2 : (rawAt s k).1 = 3 ∧ 4096 < (rawAt s k).2
    · rw [if_pos h2]; exact ⟨by simp, by simp, fun _ => rfl⟩
    · rw [if_neg h2]
      rcases rawAt_ok (s := s) (k := k) (by omega) with h | h
      · rw [h]; exact ⟨by simp, by simp, fun _ => rfl⟩
      · exact ⟨h.most, h.far, fun h0 => by have := h.long; omega⟩
def plainAt (s : ByteArray) (k : Nat) : Bool := decide ((copyAt s k).1 = 0) || (decide ((copyAt s k).1 < 64) && decide ((copyAt s k).1 < (copyAt s (k + 1)).1))
theorem plainAt_iff {s : ByteArray} {k : Nat} : plainAt s k = true ↔ ((copyAt s k).1 = 0 ∨ ((copyAt s k).1 < 64 ∧ (copyAt s k).1 < (copyAt s (k + 1)).1)) := by
  unfold plainAt; simp
def tokF (s : ByteArray) : Nat → Nat → List (Nat × Nat × Nat)
  | 0, _ => []
  | f + 1, k => if s.size ≤ k then [] else if plainAt s k then (bt s k, 0, 0) :: tokF s f (k + 1) else (0, (copyAt s k).1, (copyAt s k).2) :: tokF s f (k + (copyAt s k).1)
def tokensOf (s : ByteArray) : List (Nat × Nat × Nat) := tokF s (s.size + 1) 0
end Go.Proofs.YtlbadjfcffoakaaDoor.D5
