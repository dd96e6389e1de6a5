/- Layer 18: rows of acks of the call's own; the acks of AuditMoves. -/
import Derived.Test.YtbjlnbcnjknheaaUf
import Derived.ArgAppend
namespace Go.Proofs.Ytbjlnbcnjknheaa
open Go.RowKit Go.Maps
set_option linter.unusedVariables false
set_option maxRecDepth 20000

theorem fbad_snoc : ∀ (R P : List Ak) (x : Ak), fbad P R = none → fbad P (R ++ [x]) = if badA (P ++ R) x then some (P ++ R).length else none
  | [], P, x, _ => by simp [fbad]
  | a :: R, P, x, h => by
    by_cases hb : badA P a = true
    · simp [fbad, hb] at h
    · have hb' : badA P a = false := by simpa using hb
      rw [fbad_no hb'] at h
      rw [List.cons_append, fbad_no hb', fbad_snoc R (P ++ [a]) x h]
      simp only [List.append_assoc, List.singleton_append]
def mvA (i : Nat) : Ak := ⟨0, 0, i, 0, 3 * i, 3⟩
def mv (n : Nat) : List Ak := (List.range n).map mvA
theorem mv_succ (n : Nat) : mv (n + 1) = mv n ++ [mvA n] := by simp [mv, List.range_succ]
theorem mv_length (n : Nat) : (mv n).length = n := by simp [mv]
theorem mv_mem {n : Nat} {b : Ak} (h : b ∈ mv n) : ∃ i, i < n ∧ b = mvA i := by
  simp only [mv, List.mem_map, List.mem_range] at h
  obtain ⟨i, hi, rfl⟩ := h
  exact ⟨i, hi, rfl⟩
theorem mvA_good {i : Nat} (h : i ≤ 1000) : (mvA i).goodB = true := (good_iff _).2 ⟨rfl, show (0 : Int) ≤ 3 * (i : Nat) by omega, show (3 : Int) * (i : Nat) ≤ 1099511627776 by omega, show (1 : Int) ≤ 3 by omega, show (3 : Int) ≤ 256 by omega⟩
theorem clash_diff' (b a : Ak) (h : ¬ (b.prod = a.prod ∧ b.seq = a.seq)) : clash b a = meetB b a := by
  unfold clash
  rw [if_neg (fun e => h ((sameId_iff b a).1 e))]
theorem mv_ok : ∀ n, n ≤ 1000 → fbad [] (mv n) = none
  | 0, _ => rfl
  | n + 1, h => by
    rw [mv_succ, fbad_snoc _ _ _ (mv_ok n (by omega)), List.nil_append, if_neg]
    rw [Bool.not_eq_true]
    refine bad_no (mvA_good (by omega)) (fun b hb _ => ?_)
    obtain ⟨i, hi, rfl⟩ := mv_mem hb
    rw [clash_diff' _ _ (fun e => by have : ((i : Nat) : Int) = (n : Nat) := e.2; omega)]
    cases hm : meetB (mvA i) (mvA n) with
    | false => rfl
    | true =>
      have := (meet_iff _ _).1 hm
      have h1 : (3 : Int) * (n : Nat) < 3 * (i : Nat) + 3 := this.2
      omega
theorem mv_moved {n k d : Nat} (hn : n ≤ 1000) (hk : k < n) (hd : 1 ≤ d) (hd2 : d ≤ 2) : fbad [] (mv n ++ [⟨0, 0, (k : Nat), 0, 3 * (k : Nat) + (d : Nat), 3⟩]) = some n := by
  rw [fbad_snoc _ _ _ (mv_ok n hn), List.nil_append, mv_length, if_pos]
  refine bad_one (b := mvA k) ((good_iff _).2 ⟨rfl, show (0 : Int) ≤ 3 * (k : Nat) + (d : Nat) by omega, show (3 : Int) * (k : Nat) + (d : Nat) ≤ 1099511627776 by omega, show (1 : Int) ≤ 3 by omega, show (3 : Int) ≤ 256 by omega⟩) (List.mem_map.2 ⟨k, List.mem_range.2 hk, rfl⟩) (mvA_good (by omega)) ?_
  unfold clash
  rw [if_pos ((sameId_iff (mvA k) ⟨0, 0, (k : Nat), 0, 3 * (k : Nat) + (d : Nat), 3⟩).2 ⟨rfl, rfl⟩)]
  have : (mvA k).base ≠ 3 * (k : Nat) + (d : Nat) := by show (3 : Int) * (k : Nat) ≠ 3 * (k : Nat) + (d : Nat); omega
  simp [this]
theorem mv_again {n k : Nat} (hn : n ≤ 1000) (hk : k < n) : fbad [] (mv n ++ [⟨0, 0, (k : Nat), 0, 3 * (k : Nat), 3⟩]) = none := by
  rw [fbad_snoc _ _ _ (mv_ok n hn), List.nil_append, if_neg]
  rw [Bool.not_eq_true]
  have e : (⟨0, 0, (k : Nat), 0, 3 * (k : Nat), 3⟩ : Ak) = mvA k := rfl
  rw [e]
  refine bad_no (mvA_good (by omega)) (fun b hb _ => ?_)
  obtain ⟨i, hi, rfl⟩ := mv_mem hb
  by_cases hik : i = k
  · subst hik
    unfold clash
    rw [if_pos ((sameId_iff _ _).2 ⟨rfl, rfl⟩)]
    simp
  · rw [clash_diff' _ _ (fun e => by have : ((i : Nat) : Int) = (k : Nat) := e.2; omega)]
    cases hm : meetB (mvA i) (mvA k) with
    | false => rfl
    | true =>
      have := (meet_iff _ _).1 hm
      have h1 : (3 : Int) * (k : Nat) < 3 * (i : Nat) + 3 := this.2
      have h2 : (3 : Int) * (i : Nat) < 3 * (k : Nat) + 3 := this.1
      omega
theorem mv_other {n k d : Nat} (hn : n ≤ 1000) (hk : k < n) (hd2 : d ≤ 2) : fbad [] (mv n ++ [⟨0, 0, (n : Nat), 0, 3 * (k : Nat) + (d : Nat), 1⟩]) = some n := by
  rw [fbad_snoc _ _ _ (mv_ok n hn), List.nil_append, mv_length, if_pos]
  refine bad_one (b := mvA k) ((good_iff _).2 ⟨rfl, show (0 : Int) ≤ 3 * (k : Nat) + (d : Nat) by omega, show (3 : Int) * (k : Nat) + (d : Nat) ≤ 1099511627776 by omega, show (1 : Int) ≤ 1 by omega, show (1 : Int) ≤ 256 by omega⟩) (List.mem_map.2 ⟨k, List.mem_range.2 hk, rfl⟩) (mvA_good (by omega)) ?_
  rw [clash_diff' _ _ (fun e => by have : ((k : Nat) : Int) = (n : Nat) := e.2; omega)]
  exact (meet_iff _ _).2 ⟨show (3 : Int) * (k : Nat) < 3 * (k : Nat) + (d : Nat) + 1 by omega, show (3 : Int) * (k : Nat) + (d : Nat) < 3 * (k : Nat) + 3 by omega⟩

/-- The cells of acks. -/
def Ak.cs (a : Ak) : List Value := [.int .i64 a.step, .int .i64 a.prod, .int .i64 a.seq, .int .i64 a.err, .int .i64 a.base, .int .i64 a.cnt]
def acs (L : List Ak) : List Value := L.flatMap Ak.cs
theorem acs_snoc (L : List Ak) (x : Ak) : acs (L ++ [x]) = acs L ++ x.cs := by simp [acs]
theorem acs_length (L : List Ak) : (acs L).length = L.length * 6 := by
  induction L with
  | nil => rfl
  | cons x L ih => rw [acs, List.flatMap_cons, List.length_append, List.length_cons, ← acs, ih]; show 6 + _ = _; omega
theorem acs_get : ∀ (L : List Ak) (i : Nat) (x : Ak), L[i]? = some x → ∀ j, j < 6 → (acs L)[i * 6 + j]? = x.cs[j]?
  | [], i, x, h, j, hj => by simp at h
  | y :: L, 0, x, h, j, hj => by
    have e : y = x := by simpa using h
    subst e
    rw [acs, List.flatMap_cons, Nat.zero_mul, Nat.zero_add, List.getElem?_append_left (by show j < 6; exact hj)]
  | y :: L, i + 1, x, h, j, hj => by
    have e : L[i]? = some x := by simpa using h
    rw [acs, List.flatMap_cons, List.getElem?_append_right (by show 6 ≤ _; omega), show (i + 1) * 6 + j - y.cs.length = i * 6 + j by show (i + 1) * 6 + j - 6 = _; omega]
    exact acs_get L i x e j hj
theorem adz (g j : Nat) : (⟨g, 0, none⟩ : Addr).add j = ⟨g, j, none⟩ := by
  unfold Addr.add; split
  · subst_vars; rfl
  · simp
/-- Cells of a block that tell acks. -/
def AC (w : World) (g : Nat) (L : List Ak) : Prop := g < w.heap.size ∧ (∀ i x, L[i]? = some x → ∀ j v, j < 6 → x.cs[j]? = some v → w.cell? ⟨g, i * 6 + j, none⟩ = some v) ∧ ∀ i, w.frozen? ⟨g, i, none⟩ = false
theorem AC.ain {w : World} {g : Nat} {L : List Ak} (h : AC w g L) : AIn w (some ⟨g, 0, none⟩) L := fun i x hx => by
  have hc := h.2.1 i x hx
  refine ⟨g, 0, rfl, h.1, ?_, ?_, ?_, ?_, ?_, ?_⟩
  · have := hc 0 _ (by omega) rfl; simpa using this
  · have := hc 1 _ (by omega) rfl; simpa using this
  · have := hc 2 _ (by omega) rfl; simpa using this
  · have := hc 3 _ (by omega) rfl; simpa using this
  · have := hc 4 _ (by omega) rfl; simpa using this
  · have := hc 5 _ (by omega) rfl; simpa using this
theorem AC.below {w w' : World} {g : Nat} {L : List Ak} (h : AC w g L) (hb : Below w.heap.size w w') : AC w' g L := by
  have hk := hb.block g h.1
  refine ⟨Nat.lt_of_lt_of_le h.1 hb.size, fun i x hx j v hj hv => ?_, fun i => ?_⟩
  · rw [cell_below hb h.1]; exact h.2.1 i x hx j v hj hv
  · have := h.2.2 i
    simp only [World.frozen?, hk] at this ⊢
    exact this
theorem AC.of_owns {w : World} {B g n cap : Nat} {L : List Ak} (h : w.ownsRow B 38 6 (.slice (some ⟨g, 0, none⟩) n cap) n (acs L)) : AC w g L := by
  have hc := h.cells (g := g) rfl
  rcases h.2 with ⟨e, _⟩ | ⟨g', cap', cur, e, _, hb, _⟩
  · cases e
  · cases e
    refine ⟨lt_of_block hb, fun i x hx j v hj hv => ?_, fun i => by simp [World.frozen?, hb]⟩
    have := hc (i * 6 + j) v (by rw [acs_get L i x hx j hj]; exact hv)
    rw [adz] at this
    exact this
/-- Cells of a block that tell acks, and six cells behind. -/
structure AL (w : World) (g : Nat) (L : List Ak) (xs : List Value) : Prop where
  lt : g < w.heap.size
  acs : ∀ i x, L[i]? = some x → ∀ j v, j < 6 → x.cs[j]? = some v → w.cell? ⟨g, i * 6 + j, none⟩ = some v
  len : xs.length = 6
  last : ∀ j v, xs[j]? = some v → w.cell? ⟨g, L.length * 6 + j, none⟩ = some v
  fz : ∀ i, w.frozen? ⟨g, i, none⟩ = false
theorem AC.al {w : World} {g : Nat} {L : List Ak} {x : Ak} (h : AC w g (L ++ [x])) : AL w g L x.cs :=
  ⟨h.1, fun i y hy j v hj hv => h.2.1 i y (by rw [List.getElem?_append_left (List.getElem?_eq_some_iff.1 hy).1]; exact hy) j v hj hv, rfl, fun j v hv => h.2.1 L.length x (by simp) j v (by have := (List.getElem?_eq_some_iff.1 hv).1; exact this) hv, h.2.2⟩
theorem AL.ac {w : World} {g : Nat} {L : List Ak} {x : Ak} (h : AL w g L x.cs) : AC w g (L ++ [x]) := by
  refine ⟨h.lt, fun i y hy j v hj hv => ?_, h.fz⟩
  rcases Nat.lt_or_ge i L.length with hi | hi
  · exact h.acs i y (by rw [List.getElem?_append_left hi] at hy; exact hy) j v hj hv
  · have hi' : i = L.length := by have := (List.getElem?_eq_some_iff.1 hy).1; simp at this; omega
    subst hi'
    have e : x = y := by simpa using hy
    subst e
    exact h.last j v hv
theorem AL.set {w : World} {g : Nat} {L : List Ak} {xs : List Value} (h : AL w g L xs) (j : Nat) (hj : j < 6) (u : Value) : AL (w.setCell ⟨g, L.length * 6 + j, none⟩ u) g L (xs.set j u) := by
  refine ⟨by have := h.lt; simpa [World.setCell] using this, fun i y hy j' v hj' hv => ?_, by rw [List.length_set]; exact h.len, fun j' v hv => ?_, fun i => by rw [World.frozen?_setCell]; exact h.fz i⟩
  · have hi := (List.getElem?_eq_some_iff.1 hy).1
    rw [World.cell?_setCell_other _ _ _ _ (by intro e; simp only [Addr.mk.injEq] at e; omega)]
    exact h.acs i y hy j' v hj' hv
  · by_cases e : j' = j
    · subst e
      rw [List.getElem?_set_self (by rw [h.len]; exact hj)] at hv
      cases hv
      exact World.cell?_setCell_same _ _ _ (h.last j' (xs[j']'(by rw [h.len]; exact hj)) (List.getElem?_eq_getElem _))
    · rw [List.getElem?_set_ne (fun h => e h.symm)] at hv
      rw [World.cell?_setCell_other _ _ _ _ (by intro e'; simp only [Addr.mk.injEq] at e'; omega)]
      exact h.last j' v hv
end Go.Proofs.Ytbjlnbcnjknheaa
