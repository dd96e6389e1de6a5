/- Layer 11: chains of batches: bases, bytes, places. -/
import Derived.Test.YtmokjopffgmfjaaGreatDoorEKta
namespace Go.Proofs.YtmokjopffgmfjaaGreatDoor
open Go.RowKit
set_option linter.unusedVariables false
set_option maxRecDepth 20000
set_option maxRecDepth 20000

/-- Batches that follow one another, from a base on. -/
def chain : Nat → List BT → Prop
  | _, [] => True
  | base, b :: l => b.h.base = base ∧ chain (base + b.h.cnt) l
def cnts (l : List BT) : Nat := (l.map fun b => b.h.cnt).sum
def endB (base : Nat) (l : List BT) : Nat := base + cnts l
def allB (l : List BT) : List UInt8 := l.flatMap BT.z
def szs (l : List BT) : Nat := (allB l).length
theorem cnts_append (l m : List BT) : cnts (l ++ m) = cnts l + cnts m := by simp [cnts]
theorem allB_append (l m : List BT) : allB (l ++ m) = allB l ++ allB m := by simp [allB]
theorem szs_append (l m : List BT) : szs (l ++ m) = szs l + szs m := by simp [szs, allB_append]
theorem szs_one (b : BT) : szs [b] = b.sz := by simp [szs, allB, b.z_length]
theorem cnts_one (b : BT) : cnts [b] = b.h.cnt := by simp [cnts]
theorem chain_append {base : Nat} {l m : List BT} : chain base (l ++ m) ↔ chain base l ∧ chain (endB base l) m := by
  induction l generalizing base with
  | nil => simp [chain, endB, cnts]
  | cons b l ih =>
    simp only [List.cons_append, chain, ih, and_assoc]
    have : endB (base + b.h.cnt) l = endB base (b :: l) := by simp [endB, cnts]; omega
    rw [this]
theorem endB_snoc (base : Nat) (l : List BT) (b : BT) : endB base (l ++ [b]) = endB base l + b.h.cnt := by
  unfold endB; rw [cnts_append, cnts_one]; omega
/-- The place ahead of the batch of a number. -/
def plAt (base : Nat) (l : List BT) (i : Nat) : Pl := ⟨endB base (l.take i), szs (l.take i), i⟩
theorem plAt_append (base : Nat) (l m : List BT) (i : Nat) (h : i ≤ l.length) : plAt base (l ++ m) i = plAt base l i := by
  unfold plAt; rw [List.take_append_of_le_length h]
theorem plAt_zero (base : Nat) (l : List BT) : plAt base l 0 = ⟨base, 0, 0⟩ := by simp [plAt, endB, cnts, szs, allB]
theorem plAt_succ {base : Nat} {l : List BT} {i : Nat} {b : BT} (h : l[i]? = some b) : plAt base l (i + 1) = ⟨(plAt base l i).off + b.h.cnt, (plAt base l i).byt + b.sz, i + 1⟩ := by
  obtain ⟨hi, rfl⟩ := List.getElem?_eq_some_iff.1 h
  unfold plAt
  rw [List.take_succ_eq_append_getElem hi, endB_snoc, szs_append, szs_one]
theorem plAt_full (base : Nat) (l : List BT) : plAt base l l.length = ⟨endB base l, szs l, l.length⟩ := by unfold plAt; rw [List.take_length]
theorem plAt_base {base : Nat} {l : List BT} (hc : chain base l) {i : Nat} {b : BT} (h : l[i]? = some b) : b.h.base = (plAt base l i).off := by
  obtain ⟨hi, rfl⟩ := List.getElem?_eq_some_iff.1 h
  have e : l = l.take i ++ l[i] :: l.drop (i + 1) := by simp
  rw [e] at hc
  exact (chain_append.1 hc).2.1
/-- All batches are such as may be. -/
def allOK (l : List BT) : Prop := ∀ b ∈ l, b.ok
theorem plAt_lt {base : Nat} {l : List BT} (ho : allOK l) {i j : Nat} (hij : i < j) (hj : j ≤ l.length) : (plAt base l i).off < (plAt base l j).off ∧ (plAt base l i).byt < (plAt base l j).byt := by
  induction j with
  | zero => omega
  | succ j ih =>
    have hj' : j < l.length := by omega
    have e := plAt_succ (base := base) (List.getElem?_eq_getElem hj')
    have hb := ho l[j] (List.getElem_mem hj')
    have h1 := hb.ok.cnt1
    have h2 := BT.sz_le hb
    rw [e]
    simp only
    by_cases hh : i = j
    · subst hh; omega
    · have := ih (by omega) (by omega); omega
theorem plAt_le {base : Nat} {l : List BT} (ho : allOK l) {i j : Nat} (hij : i ≤ j) (hj : j ≤ l.length) : (plAt base l i).off ≤ (plAt base l j).off ∧ (plAt base l i).byt ≤ (plAt base l j).byt := by
  rcases Nat.lt_or_eq_of_le hij with h | rfl
  · have := plAt_lt (base := base) ho h hj; omega
  · exact ⟨Nat.le_refl _, Nat.le_refl _⟩
theorem allB_take_drop (l : List BT) (i : Nat) : (allB l).drop (szs (l.take i)) = allB (l.drop i) := by
  have e : allB l = allB (l.take i) ++ allB (l.drop i) := by rw [← allB_append, List.take_append_drop]
  rw [e]
  unfold szs
  exact List.drop_left
/-- The bytes from one batch on, below another one. -/
theorem allB_part (l : List BT) (i j : Nat) (hij : i ≤ j) (hj : j ≤ l.length) : ((allB l).drop (szs (l.take i))).take (szs (l.take j) - szs (l.take i)) = allB ((l.take j).drop i) := by
  rw [allB_take_drop]
  have e : l.drop i = (l.take j).drop i ++ l.drop j := by
    conv => lhs; rw [← List.take_append_drop j l]
    rw [List.drop_append_of_le_length (by rw [List.length_take]; omega)]
  have e2 : l.take j = l.take i ++ (l.take j).drop i := by
    conv => lhs; rw [← List.take_append_drop i (l.take j)]
    rw [List.take_take, Nat.min_eq_left hij]
  have e3 : szs (l.take j) - szs (l.take i) = (allB ((l.take j).drop i)).length := by
    conv => lhs; rw [e2, szs_append]
    unfold szs; omega
  rw [e, allB_append, e3]
  exact List.take_left
/-- The batch that has an offset. -/
theorem having {base : Nat} {l : List BT} {o : Nat} (h1 : base ≤ o) (h2 : o < endB base l) : ∃ i b, l[i]? = some b ∧ (plAt base l i).off ≤ o ∧ o < (plAt base l (i + 1)).off := by
  suffices H : ∀ n, n ≤ l.length → o < (plAt base l n).off → ∃ i b, l[i]? = some b ∧ (plAt base l i).off ≤ o ∧ o < (plAt base l (i + 1)).off by
    exact H l.length (Nat.le_refl _) (by rw [plAt_full]; exact h2)
  intro n
  induction n with
  | zero => intro _ h; rw [plAt_zero] at h; simp only at h; omega
  | succ n ih =>
    intro hn h
    by_cases hh : o < (plAt base l n).off
    · exact ih (by omega) hh
    · exact ⟨n, l[n]'(by omega), List.getElem?_eq_getElem (by omega), by omega, h⟩
/-- Which places are listed. -/
structure Marks (n : Nat) (K : List Nat) : Prop where
  up : K.Pairwise (· < ·)
  lt : ∀ k ∈ K, k < n
  first : n ≠ 0 → K.head? = some 0
theorem Marks.add {n : Nat} {K : List Nat} (h : Marks n K) : Marks (n + 1) (K ++ [n]) := by
  refine ⟨List.pairwise_append.2 ⟨h.up, List.pairwise_singleton _ _, fun a ha b hb => by rw [List.mem_singleton] at hb; subst hb; exact h.lt a ha⟩, fun k hk => ?_, fun _ => ?_⟩
  · rcases List.mem_append.1 hk with hk | hk
    · have := h.lt k hk; omega
    · rw [List.mem_singleton] at hk; omega
  · by_cases hn : n = 0
    · subst hn
      cases K with
      | nil => rfl
      | cons k K => exact absurd (h.lt k List.mem_cons_self) (by omega)
    · rw [List.head?_append, h.first hn]; rfl
theorem Marks.same {n : Nat} {K : List Nat} (h : Marks n K) (hK : K ≠ []) : Marks (n + 1) K := by
  refine ⟨h.up, fun k hk => by have := h.lt k hk; omega, fun _ => ?_⟩
  by_cases hn : n = 0
  · subst hn
    cases K with
    | nil => exact absurd rfl hK
    | cons k K => exact absurd (h.lt k List.mem_cons_self) (by omega)
  · exact h.first hn
end Go.Proofs.YtmokjopffgmfjaaGreatDoor
