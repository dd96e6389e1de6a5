/- Layer 11: batches by recipes, and chains of batches: the plain mathematics. -/
import Derived.Test.YtmokjopffgmfjaaGreatDoorV23
namespace Go.Proofs.YtmokjopffgmfjaaGreatDoor
open Go.RowKit
set_option linter.unusedVariables false
set_option maxRecDepth 20000
set_option maxRecDepth 20000

theorem and_mask (x : Int) (k : Nat) (hk : k ≤ 62) (m : Int) (hm : m = ((2 ^ k - 1 : Nat) : Int)) (h16 : (BitVec.ofInt 64 m).toNat = 2 ^ k - 1) (hp : 2 ^ k ≤ 4611686018427387904) (hd : (18446744073709551616 : Int) % ((2 ^ k : Nat) : Int) = 0) : bits .and .i64 x m = x % ((2 ^ k : Nat) : Int) := by
  have key : (BitVec.ofInt 64 x &&& BitVec.ofInt 64 m).toNat = (x % ((2 ^ 64 : Nat) : Int)).toNat % 2 ^ k := by
    rw [BitVec.toNat_and, BitVec.toNat_ofInt, h16, Nat.and_two_pow_sub_one_eq_mod]
  show IntKind.i64.wrap ((BitVec.ofInt 64 x &&& BitVec.ofInt 64 m).toNat : Nat) = _
  rw [key, IntKind.wrap_i64]
  have h0 : 0 ≤ x % ((2 ^ 64 : Nat) : Int) := Int.emod_nonneg _ (by omega)
  have hdv : (x % ((2 ^ 64 : Nat) : Int)) % ((2 ^ k : Nat) : Int) = x % ((2 ^ k : Nat) : Int) := by
    apply Int.emod_emod_of_dvd
    exact Int.dvd_of_emod_eq_zero hd
  obtain ⟨y, hy⟩ := Int.eq_ofNat_of_zero_le h0
  rw [hy] at hdv ⊢
  rw [← hdv]
  have e : ((y : Int).toNat % 2 ^ k : Nat) = y % 2 ^ k := by simp
  have hpos : 0 < 2 ^ k := Nat.pos_of_ne_zero (by simp)
  have hlt : y % 2 ^ k < 2 ^ k := Nat.mod_lt _ hpos
  rw [e]
  have e2 : (y : Int) % ((2 ^ k : Nat) : Int) = ((y % 2 ^ k : Nat) : Int) := by simp
  rw [e2]
  omega
theorem and7n (x : Int) : bits .and .i64 x 7 = (((x % 8).toNat : Nat) : Int) ∧ (x % 8).toNat ≤ 7 := by
  rw [and_mask x 3 (by omega) 7 rfl (by decide) (by decide) (by decide)]; constructor <;> omega
theorem and255n (x : Int) : bits .and .i64 x 255 = (((x % 256).toNat : Nat) : Int) ∧ (x % 256).toNat ≤ 255 := by
  rw [and_mask x 8 (by omega) 255 rfl (by decide) (by decide) (by decide)]; constructor <;> omega
theorem and2047n (x : Int) : bits .and .i64 x 2047 = (((x % 2048).toNat : Nat) : Int) ∧ (x % 2048).toNat ≤ 2047 := by
  rw [and_mask x 11 (by omega) 2047 rfl (by decide) (by decide) (by decide)]; constructor <;> omega
theorem and65535n (x : Int) : bits .and .i64 x 65535 = (((x % 65536).toNat : Nat) : Int) ∧ (x % 65536).toNat ≤ 65535 := by
  rw [and_mask x 16 (by omega) 65535 rfl (by decide) (by decide) (by decide)]; constructor <;> omega
/-- A recipe. -/
structure RP where
  cnt : Int
  key : Int
  prod : Int
  seq : Int
  val : ByteArray
abbrev RP.v (x : RP) : Value := .agg #[.int .i64 x.cnt, .int .i64 x.key, .int .i64 x.prod, .int .i64 x.seq, .string x.val]
def RP.n (x : RP) : Nat := 1 + (x.cnt % 8).toNat
def RP.k (x : RP) : Nat := (x.key % 8).toNat
def RP.pr (x : RP) : Nat := (x.prod % 256).toNat
def RP.sq (x : RP) : Nat := (x.seq % 65536).toNat
theorem RP.n1 (x : RP) : 1 ≤ x.n ∧ x.n ≤ 8 := by unfold RP.n; omega
def keyB (k i : Nat) : UInt8 := UInt8.ofNat (97 + (k + i * 3) % 5)
/-- The record of a number of a recipe. -/
def recA (base k : Nat) (val : ByteArray) (i : Nat) : Rec := ⟨((base + i : Nat) : Int), mk [keyB k i], val, decide (k = 7)⟩
def recsA (base k : Nat) (val : ByteArray) (n : Nat) : List Rec := (List.range n).map (recA base k val)
theorem recsA_length (base k : Nat) (val : ByteArray) (n : Nat) : (recsA base k val n).length = n := by simp [recsA]
theorem recsA_succ (base k : Nat) (val : ByteArray) (n : Nat) : recsA base k val (n + 1) = recsA base k val n ++ [recA base k val n] := by simp [recsA, List.range_succ]
def RP.value (x : RP) : ByteArray := if x.k = 7 then ⟨#[]⟩ else x.val
def RP.L (x : RP) (base : Nat) : List Rec := recsA base x.k x.value x.n
def RP.h (x : RP) (base : Nat) : HN := ⟨base, x.n, 0, x.pr, x.sq, x.n⟩
theorem mayB_recA (base k : Nat) (val : ByteArray) (i : Nat) (hb : base + i < 1099511627776) (hv : val.size ≤ 4096) (h7 : k = 7 → val.size = 0) : mayB (recA base k val i) = true := by
  refine (mayB_iff _).2 ⟨?_, by show (mk [keyB k i]).size ≤ 64; rw [mk_size]; simp, hv, fun h => h7 (by simpa [recA] using h)⟩
  show offB ((base + i : Nat) : Int) = true
  unfold offB
  simp
  omega
theorem comes_recsA (base k : Nat) (val : ByteArray) (n : Nat) (hb : base + n ≤ 1099511627776) (hv : val.size ≤ 4096) (h7 : k = 7 → val.size = 0) : comes (recsA base k val n) base = true ∧ lowB (recsA base k val n) base = ((base + n : Nat) : Int) := by
  induction n with
  | zero => exact ⟨rfl, rfl⟩
  | succ n ih =>
    obtain ⟨i1, i2⟩ := ih (by omega)
    rw [recsA_succ]
    refine ⟨?_, ?_⟩
    · rw [comes_append, i1, i2, Bool.true_and]
      simp only [comes, Bool.and_true, Bool.and_eq_true, decide_eq_true_eq]
      exact ⟨mayB_recA base k val n (by omega) hv h7, by simp [recA]⟩
    · rw [lowB_snoc]; simp only [recA]; omega
theorem RP.value_ok (x : RP) (hv : x.val.size ≤ 4096) : x.value.size ≤ 4096 ∧ (x.k = 7 → x.value.size = 0) := by
  unfold RP.value
  by_cases h : x.k = 7
  · rw [if_pos h]; exact ⟨by decide, fun _ => rfl⟩
  · rw [if_neg h]; exact ⟨hv, fun e => absurd e h⟩
theorem RP.comes (x : RP) (base : Nat) (hb : base ≤ 1099511627520) (hv : x.val.size ≤ 4096) : comes (x.L base) base = true := by
  have hn := x.n1
  obtain ⟨h1, h2⟩ := x.value_ok hv
  exact (comes_recsA base x.k x.value x.n (by omega) h1 h2).1
/-- A batch, by its head and its records. -/
structure BT where
  h : HN
  L : List Rec
def BT.p (b : BT) : List UInt8 := recsL b.h.base b.L
def BT.z (b : BT) : List UInt8 := batL b.h b.p
abbrev BT.s (b : BT) : ByteArray := Go.Proofs.YtmokjopffgmfjaaGreatDoor.mk b.z
def BT.ok (b : BT) : Prop := Bat b.h b.p b.L
def BT.sz (b : BT) : Nat := 39 + b.p.length
theorem BT.z_length (b : BT) : b.z.length = b.sz := batL_length _ _
theorem BT.size (b : BT) : b.s.size = b.sz := by rw [mk_size]; exact b.z_length
theorem BT.sz_le {b : BT} (h : b.ok) : 39 ≤ b.sz ∧ b.sz ≤ 262154 := by have := h.hp; unfold BT.sz; omega
def RP.b (x : RP) (base : Nat) : BT := ⟨x.h base, x.L base⟩
theorem RP.b_len (x : RP) (base : Nat) (hb : base ≤ 1099511627520) (hv : x.val.size ≤ 4096) : (recsL base (x.L base)).length ≤ 33520 := by
  have h := recsL_len base (x.L base) (comes_mem _ _ (x.comes base hb hv))
  have hl : (x.L base).length = x.n := recsA_length _ _ _ _
  have := x.n1
  rw [hl] at h
  omega
theorem RP.h_ok (x : RP) (base : Nat) (hb : base ≤ 1099511627520) : (x.h base).OK := by
  have hn := x.n1
  refine ⟨hb, hn.1, by show x.n ≤ 256; omega, by show (0 : Nat) ≤ _; omega, ?_, ?_, by show x.n ≤ 256; omega⟩
  · show x.pr ≤ _; unfold RP.pr; omega
  · show x.sq ≤ _; unfold RP.sq; omega
theorem RP.within (x : RP) (base : Nat) : Within (x.h base) (x.L base) := by
  intro r hr
  simp only [RP.L, recsA, List.mem_map, List.mem_range] at hr
  obtain ⟨i, hi, rfl⟩ := hr
  constructor
  · show ((base : Nat) : Int) ≤ ((base + i : Nat) : Int); omega
  · show ((base + i : Nat) : Int) ≤ ((base : Nat) : Int) + ((x.n : Nat) : Int) - 1; omega
theorem RP.ok (x : RP) (base : Nat) (hb : base ≤ 1099511627520) (hv : x.val.size ≤ 4096) : (x.b base).ok := by
  have hl : (x.L base).length = x.n := recsA_length _ _ _ _
  have hn := x.n1
  refine ⟨x.h_ok base hb, ?_, ?_, ?_, x.within base⟩
  · have := x.b_len base hb hv
    show 29 + (recsL base (x.L base)).length ≤ _
    omega
  · show ofO (recsL base (x.L base)) base x.n = some (x.L base)
    unfold ofO
    rw [if_pos ⟨by unfold offB; simp; omega, by omega⟩]
    have e : ((x.n : Nat) : Int).toNat = (x.L base).length := by rw [hl]; simp
    rw [e]
    exact ofL_recsL base (x.L base) (x.comes base hb hv) (by omega)
  · show (x.L base).length ≤ 256
    omega
end Go.Proofs.YtmokjopffgmfjaaGreatDoor
