/- LzSays: what its rounds say, and their numbers. -/
import Derived.Test.YthefhffgcpoefaaYzl
namespace Go.Proofs.Ythefhffgcpoefaa
open Go.RowKit
set_option linter.unusedVariables false

/-- The plain bytes of a round. -/
def pl (i : Nat) : Nat → List Nat
  | 0 => []
  | k + 1 => pl i k ++ [(7 * i + k) % 256]
theorem pl_length (i : Nat) : ∀ k, (pl i k).length = k
  | 0 => rfl
  | k + 1 => by unfold pl; rw [List.length_append, pl_length i k]; rfl
theorem pl_bytes (i : Nat) : ∀ k, Bytes (pl i k)
  | 0 => fun x hx => by simp [pl] at hx
  | k + 1 => (pl_bytes i k).append (fun x hx => by rw [List.mem_singleton.1 hx]; omega)
theorem byte_arith (i k : Nat) (hi : i ≤ 1100) (hk : k ≤ 31) : ∃ s7 t Y : Nat, (7 * i + k) % 256 = Y ∧ Y < 256 ∧ (i : Int) * 7 = (s7 : Int) ∧ wrap64 (s7 : Int) = (s7 : Int) ∧ (s7 : Int) + (k : Int) = (t : Int) ∧ wrap64 (t : Int) = (t : Int) ∧ (t : Int) % 256 = (Y : Int) ∧ IntKind.u8.wrap (t : Int) = (Y : Int) :=
  ⟨7 * i, 7 * i + k, (7 * i + k) % 256, rfl, by omega, by omega, wrapN64 _ (by omega), by omega, wrapN64 _ (by omega), by omega, by rw [IntKind.wrap_u8]; omega⟩
theorem and255n (d : Nat) (h : d ≤ 4096) : bits .and .i64 (d : Int) 255 = ((d % 256 : Nat) : Int) := by
  show IntKind.i64.wrap ((BitVec.ofInt 64 (d : Int) &&& BitVec.ofInt 64 255).toNat : Int) = _
  have e : (BitVec.ofInt 64 (d : Int) &&& BitVec.ofInt 64 255).toNat = d % 256 := by
    rw [BitVec.toNat_and]
    have e1 : BitVec.toNat (BitVec.ofInt 64 (d : Int)) = d := by rw [BitVec.toNat_ofInt]; omega
    have e2 : (BitVec.ofInt 64 255).toNat = 2 ^ 8 - 1 := by decide
    rw [e1, e2, Nat.and_two_pow_sub_one_eq_mod]
  rw [e, IntKind.wrap_i64]
  omega
theorem far_arith (r W : Nat) (hW : 1 ≤ W) (hr : r ≤ 4095) : ∃ e d d0 d1 : Nat, (r : Int).tmod (W : Int) = (e : Int) ∧ 1 ≤ d ∧ d ≤ W ∧ d ≤ 4096 ∧ (1 : Int) + (e : Int) = (d : Int) ∧ wrap64 (d : Int) = (d : Int) ∧ d % 256 = d0 ∧ d / 256 = d1 ∧ bits .and .i64 (d : Int) 255 = (d0 : Int) ∧ (d : Int) / 256 = (d1 : Int) ∧ (d0 : Int) % 256 = (d0 : Int) ∧ (d1 : Int) % 256 = (d1 : Int) ∧ d0 < 256 ∧ d1 < 256 := by
  have h1 : r % W < W := Nat.mod_lt _ (by omega)
  have h2 : r % W ≤ r := Nat.mod_le _ _
  refine ⟨r % W, 1 + r % W, (1 + r % W) % 256, (1 + r % W) / 256, ?_, by omega, by omega, by omega, by omega, wrapN64 _ (by omega), rfl, rfl, and255n _ (by omega), by omega, by omega, by omega, by omega, by omega⟩
  rw [Int.tmod_eq_emod_of_nonneg (by omega)]
  omega
theorem ix_arith (W k d : Nat) (h1 : 1 ≤ d) (h2 : d ≤ W) (hW : W ≤ 4200) (hk : k ≤ 300) : ∃ ix : Nat, ((W + k : Nat) : Int) - (d : Int) = (ix : Int) ∧ wrap64 (ix : Int) = (ix : Int) ∧ ix = W + k - d ∧ (ix : Int) < ((W + k : Nat) : Int) :=
  ⟨W + k - d, by omega, wrapN64 _ (by omega), rfl, by omega⟩
/-- A round's sequence is a copy behind plain bytes. -/
theorem says_round {z want : List Nat} (h : Says z want) (i A m n d : Nat) (hn : n = 4 + m) (hm : m ≤ 255) (hA : A ≤ 31) (hd1 : 1 ≤ d) (hd2 : d ≤ want.length + A) (hd3 : d ≤ 4096) (hB : Bytes z) (hW : Bytes want) :
    let hd := [16 * min A 15 + min m 15] ++ (if A < 15 then [] else [A - 15])
    let z' := z ++ hd ++ pl i A ++ [d % 256, d / 256] ++ (if m < 15 then [] else [m - 15])
    Says z' (copyL d n (want ++ pl i A)) ∧ Bytes z' ∧ Bytes (copyL d n (want ++ pl i A)) := by
  intro hd z'
  have e : z' = z ++ copyS (pl i A) d n := by
    show z ++ hd ++ pl i A ++ [d % 256, d / 256] ++ (if m < 15 then [] else [m - 15]) = _
    unfold copyS headL
    rw [pl_length, show n - 4 = m by omega, moreL_small A (by omega), moreL_small m (by omega)]
    simp only [hd, List.append_assoc]
  have hs : Says z' (copyL d n (want ++ pl i A)) := by
    rw [e]
    exact h.copy (by omega) hd1 (by rw [pl_length]; exact hd2) (by omega)
  refine ⟨hs, ?_, copyL_bytes _ (hW.append (pl_bytes i A))⟩
  have b1 : Bytes hd := by
    refine Bytes.append (fun x hx => ?_) ?_
    · rw [List.mem_singleton.1 hx]; omega
    · split
      · intro x hx; simp at hx
      · intro x hx; rw [List.mem_singleton.1 hx]; omega
  have b2 : Bytes [d % 256, d / 256] := by
    intro x hx
    rcases List.mem_cons.1 hx with h1 | h1
    · omega
    · rw [List.mem_singleton.1 h1]; omega
  have b3 : Bytes (if m < 15 then [] else [m - 15]) := by
    split
    · intro x hx; simp at hx
    · intro x hx; rw [List.mem_singleton.1 hx]; omega
  exact (((hB.append b1).append (pl_bytes i A)).append b2).append b3
theorem Two.cellW {w0 w : World} {B : Nat} {vz : Value} {z want : List Nat} {aw : Option Addr} {cw L : Nat} (h : Two w0 w B vz z (.slice aw L cw) want) (hL : want.length = L) (j : Nat) (hj : j < L) : ∃ g, aw = some ⟨g, 0, none⟩ ∧ w.cell? ⟨g, j, none⟩ = some (.int .u8 (want.getD j 0 : Nat)) := by
  have how := h.ow
  obtain ⟨g, cp, e, _, _⟩ := how.form (by omega)
  cases e
  refine ⟨g, rfl, ?_⟩
  have h1 := how.cells (g := g) rfl j (.int .u8 (want.getD j 0 : Nat)) (by simp [bcells, hj])
  rw [add_zero_addr] at h1
  exact h1
end Go.Proofs.Ythefhffgcpoefaa
