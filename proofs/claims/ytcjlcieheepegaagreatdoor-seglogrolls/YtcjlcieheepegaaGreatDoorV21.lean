/- Layer 12: thirteen digits (plain mathematics). -/
import Derived.Lib.Repeat
import Derived.Lib.ItoaMem
namespace Go.Proofs.YtcjlcieheepegaaGreatDoor
set_option linter.unusedVariables false
set_option maxRecDepth 20000

/-- The digits of a number, thirteen of them. -/
def padL (n : Nat) : List UInt8 := Go.Lib.repeatL [48] (13 - (Go.Lib.decDigits n).length) ++ Go.Lib.decDigits n
theorem dec_len (n : Nat) (h : n < 10000000000000) : 1 ≤ (Go.Lib.decDigits n).length ∧ (Go.Lib.decDigits n).length ≤ 13 := by
  rw [Go.Lib.decDigits_length]
  refine ⟨Go.Lib.nDigits_pos n, ?_⟩
  have key : ∀ k u : Nat, u < 10 ^ (k + 1) → Go.Lib.nDigits u ≤ k + 1 := by
    intro k
    induction k with
    | zero => intro u hu; rw [Go.Lib.nDigits_small (by simpa using hu)]; omega
    | succ k ih =>
      intro u hu
      by_cases h10 : u < 10
      · rw [Go.Lib.nDigits_small h10]; omega
      · rw [Go.Lib.nDigits_big h10]
        have := ih (u / 10) (by rw [Nat.pow_succ] at hu; omega)
        omega
  exact key 12 n (by simpa using h)
/-- What digits say. -/
def valL (l : List UInt8) : Nat := l.foldl (fun a c => a * 10 + (c.toNat - 48)) 0
theorem valL_snoc (l : List UInt8) (c : UInt8) : valL (l ++ [c]) = valL l * 10 + (c.toNat - 48) := by simp [valL]
theorem dig_nat (d : Nat) (h : d < 10) : (UInt8.ofNat (48 + d)).toNat = 48 + d := UInt8.toNat_ofNat_of_lt' (show 48 + d < 256 by omega)
theorem valL_zeros : ∀ c : Nat, valL (Go.Lib.repeatL [48] c) = 0 := by
  intro c
  have h : ∀ c, Go.Lib.repeatL [(48 : UInt8)] c = List.replicate c 48 := fun c => by
    have := Go.Lib.repeatL_replicate 48 1 c
    simpa using this
  rw [h]
  induction c with
  | zero => rfl
  | succ c ih => rw [List.replicate_succ', valL_snoc, ih]; rfl
theorem valL_pad (p : List UInt8) (hp : valL p = 0) : ∀ n : Nat, valL (p ++ Go.Lib.decDigits n) = n := by
  intro n
  induction n using Nat.strongRecOn with
  | ind n ih =>
    by_cases h : n < 10
    · rw [Go.Lib.decDigits, dif_pos h, valL_snoc, hp, dig_nat n h]; omega
    · rw [Go.Lib.decDigits, dif_neg h, ← List.append_assoc, valL_snoc, ih (n / 10) (by omega), dig_nat _ (by omega)]; omega
theorem padL_val (n : Nat) : valL (padL n) = n := valL_pad _ (valL_zeros _) n
theorem padL_inj {a b : Nat} (h : padL a = padL b) : a = b := by
  rw [← padL_val a, h, padL_val]
theorem padL_length (n : Nat) (h : n < 10000000000000) : (padL n).length = 13 := by
  have := dec_len n h
  rw [padL, List.length_append, Go.Lib.repeatL_length]
  simp
  omega
theorem dec_dig : ∀ (n : Nat) (c : UInt8), c ∈ Go.Lib.decDigits n → 48 ≤ c.toNat ∧ c.toNat ≤ 57 := by
  intro n
  induction n using Nat.strongRecOn with
  | ind n ih =>
    intro c hc
    by_cases h : n < 10
    · rw [Go.Lib.decDigits, dif_pos h, List.mem_singleton] at hc
      rw [hc, dig_nat n h]; omega
    · rw [Go.Lib.decDigits, dif_neg h, List.mem_append, List.mem_singleton] at hc
      rcases hc with hc | hc
      · exact ih (n / 10) (by omega) c hc
      · rw [hc, dig_nat _ (by omega)]; omega
theorem padL_dig (n : Nat) (c : UInt8) (hc : c ∈ padL n) : 48 ≤ c.toNat ∧ c.toNat ≤ 57 := by
  rw [padL, List.mem_append] at hc
  rcases hc with hc | hc
  · have h : ∀ c, Go.Lib.repeatL [(48 : UInt8)] c = List.replicate c 48 := fun c => by
      have := Go.Lib.repeatL_replicate 48 1 c
      simpa using this
    rw [h] at hc
    rw [(List.mem_replicate.1 hc).2]; decide
  · exact dec_dig n c hc
end Go.Proofs.YtcjlcieheepegaaGreatDoor
