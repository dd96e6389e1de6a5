/- Symbols up to a block's end. -/
import Derived.Test.YtchjnfckcfikkaaDoorZg
namespace Go.Proofs.YtchjnfckcfikkaaDoor
open Go.RowKit
set_option linter.unusedVariables false

theorem symW_le (ns : List Nat) (l x : Nat) (h : ns.length ≤ 288) : symW ns l x < 288 := by
  unfold symW
  by_cases hi : x - fstW ns l < (symsOf ns l ns.length).length
  · have hm : (symsOf ns l ns.length).getD (x - fstW ns l) 0 ∈ symsOf ns l ns.length := by
      rw [List.getD_eq_getElem?_getD, List.getElem?_eq_getElem hi]; exact List.getElem_mem hi
    obtain ⟨z, hz⟩ : ∃ z, (symsOf ns l ns.length).getD (x - fstW ns l) 0 = z := ⟨_, rfl⟩
    rw [hz] at hm ⊢
    unfold symsOf at hm
    have := (List.mem_range.1 (List.mem_filter.1 hm).1)
    omega
  · rw [List.getD_eq_getElem?_getD, List.getElem?_eq_none (by omega)]; simp
theorem rdS_ok (ns : List Nat) (s : ByteArray) (p : Nat) (hn : ns.length ≤ 288) : ∀ (k l x : Nat), (rdS ns s p k l x).2.2 = 0 → (rdS ns s p k l x).1 < 288 ∧ l ≤ (rdS ns s p k l x).2.1 ∧ 1 ≤ (rdS ns s p k l x).2.1 ∧ (p + l ≤ 8 * s.size → p + (rdS ns s p k l x).2.1 ≤ 8 * s.size)
  | 0, l, x, h => by simp [rdS] at h
  | k + 1, l, x, h => by
    unfold rdS at h ⊢
    by_cases h1 : x < ew ns l
    · rw [if_pos h1] at h ⊢
      refine ⟨symW_le ns l x hn, Nat.le_refl _, ?_, fun h => h⟩
      cases l with
      | zero => simp [ew] at h1
      | succ l => simp
    · rw [if_neg h1] at h ⊢
      by_cases h2 : ew ns 15 ≤ x * 2 ^ (15 - l)
      · rw [if_pos h2] at h; simp at h
      · rw [if_neg h2] at h ⊢
        by_cases h3 : 8 * s.size ≤ p + l
        · rw [if_pos h3] at h; simp at h
        · rw [if_neg h3] at h ⊢
          obtain ⟨a1, a2, a3, a4⟩ := rdS_ok ns s p hn k (l + 1) (2 * x + bitAt s (p + l)) h
          exact ⟨a1, by omega, a3, fun _ => a4 (by omega)⟩
theorem usym_ok' {ns : List Nat} {s : ByteArray} {p : Nat} (hn : ns.length ≤ 288) (h : (usym ns s p).1 = 0) : (usym ns s p).2.2 < 288 ∧ p < (usym ns s p).2.1 ∧ (p ≤ 8 * s.size → (usym ns s p).2.1 ≤ 8 * s.size) := by
  unfold usym at h ⊢
  by_cases h1 : (rd ns s p).2.2 = 30
  · rw [if_pos h1] at h; simp at h
  · rw [if_neg h1] at h ⊢
    by_cases h2 : (rd ns s p).2.2 = 0
    · rw [if_pos h2] at h ⊢
      obtain ⟨a1, a2, a3, a4⟩ := rdS_ok ns s p hn 16 0 0 h2
      refine ⟨a1, ?_, ?_⟩
      · show p < p + (rd ns s p).2.1
        unfold rd; omega
      · intro hp; exact a4 (by omega)
    · rw [if_neg h2] at h; exact (h2 h).elim
theorem ub_le {s : ByteArray} {p n : Nat} (h : (ub s p n).1 = 0) : p ≤ (ub s p n).2.1 ∧ (p ≤ 8 * s.size → (ub s p n).2.1 ≤ 8 * s.size) := by
  unfold ub at h ⊢
  split at h
  · simp at h
  · rename_i h1; rw [if_neg h1]; exact ⟨by show p ≤ p + n; omega, fun _ => by show p + n ≤ _; omega⟩
theorem ustep_mono {s : ByteArray} {p y st : Nat} (h : (ustep s p y st).1 = 0) : p ≤ (ustep s p y st).2.1 ∧ (p ≤ 8 * s.size → (ustep s p y st).2.1 ≤ 8 * s.size) := by
  unfold ustep at h ⊢
  by_cases h1 : y < st
  · rw [if_pos h1]; exact ⟨Nat.le_refl _, fun h => h⟩
  · rw [if_neg h1] at h ⊢; exact ub_le h
theorem ulen_mono {s : ByteArray} {p y : Nat} (h : (ulen s p y).1 = 0) : p ≤ (ulen s p y).2.1 ∧ (p ≤ 8 * s.size → (ulen s p y).2.1 ≤ 8 * s.size) := by
  unfold ulen at h ⊢
  by_cases h1 : 285 < y
  · rw [if_pos h1] at h; simp at h
  · rw [if_neg h1] at h ⊢
    by_cases h2 : y = 285
    · rw [if_pos h2]; exact ⟨Nat.le_refl p, fun h => h⟩
    · rw [if_neg h2] at h ⊢
      have hm := ustep_mono (s := s) (p := p) (y := y - 257) (st := 4)
      obtain ⟨⟨a, c, x⟩, hu⟩ : ∃ r, ustep s p (y - 257) 4 = r := ⟨_, rfl⟩
      rw [hu] at h hm ⊢
      exact hm h
theorem udist_mono {ns : List Nat} {s : ByteArray} {p : Nat} (hn : ns.length ≤ 288) (h : (udist ns s p).1 = 0) : p ≤ (udist ns s p).2.1 ∧ (p ≤ 8 * s.size → (udist ns s p).2.1 ≤ 8 * s.size) := by
  unfold udist at h ⊢
  by_cases h1 : (usym ns s p).1 ≠ 0
  · rw [if_pos h1] at h; exact (h1 h).elim
  · rw [if_neg h1] at h ⊢
    have h1' : (usym ns s p).1 = 0 := by omega
    obtain ⟨a1, a2, a3⟩ := usym_ok' hn h1'
    by_cases h2 : 29 < (usym ns s p).2.2
    · rw [if_pos h2] at h; simp at h
    · rw [if_neg h2] at h ⊢
      obtain ⟨b1, b2⟩ := ustep_mono h
      exact ⟨Nat.le_trans (Nat.le_of_lt a2) b1, fun hp => b2 (a3 hp)⟩
theorem udist_pos {ns : List Nat} {s : ByteArray} {p : Nat} (h : (udist ns s p).1 = 0) : 1 ≤ (udist ns s p).2.2 ∧ (udist ns s p).2.2 ≤ 400003 := by
  unfold udist at h ⊢
  by_cases h1 : (usym ns s p).1 ≠ 0
  · rw [if_pos h1] at h; exact (h1 h).elim
  · rw [if_neg h1] at h ⊢
    by_cases h2 : 29 < (usym ns s p).2.2
    · rw [if_pos h2] at h; simp at h
    · rw [if_neg h2]
      have := ustep_le s (usym ns s p).2.1 (usym ns s p).2.2 2 (by omega) (by omega) (by omega)
      show 1 ≤ 1 + (ustep s (usym ns s p).2.1 (usym ns s p).2.2 2).2.2 ∧ 1 + (ustep s (usym ns s p).2.1 (usym ns s p).2.2 2).2.2 ≤ 400003
      omega
theorem ulen_le {s : ByteArray} {p y : Nat} (hy : 256 < y) : (ulen s p y).2.2 ≤ 400003 := by
  unfold ulen
  by_cases h1 : 285 < y
  · rw [if_pos h1]; exact Nat.zero_le _
  · rw [if_neg h1]
    by_cases h2 : y = 285
    · rw [if_pos h2]; show 258 ≤ 400003; omega
    · rw [if_neg h2]
      have := ustep_le s p (y - 257) 4 (by omega) (by omega) (by omega)
      show 3 + (ustep s p (y - 257) 4).2.2 ≤ 400003
      omega
theorem repF_len {p : Nat} {l : List Nat} {most n d : Nat} (h : (repF p l most n d).1 = 0) : (repF p l most n d).2.2.length ≤ most ∧ (repF p l most n d).2.1 = p := by
  unfold repF at h ⊢
  by_cases h1 : l.length < d
  · rw [if_pos h1] at h; simp at h
  · rw [if_neg h1] at h ⊢
    by_cases h2 : most < l.length + n
    · rw [if_pos h2] at h; simp at h
    · rw [if_neg h2]; exact ⟨by show (copyL d n l).length ≤ most; rw [copyL_length]; omega, rfl⟩
/-- What comes of a block's symbols: k rounds at most. -/
def packF (c d : List Nat) (s : ByteArray) (most : Nat) : Nat → Nat → List Nat → Nat × Nat × List Nat
  | 0, p, l => (99, p, l)
  | k + 1, p, l =>
    if (usym c s p).1 ≠ 0 then ((usym c s p).1, p, l)
    else if (usym c s p).2.2 < 256 then (if most < l.length + 1 then (4, p, l) else packF c d s most k (usym c s p).2.1 (l ++ [(usym c s p).2.2]))
    else if (usym c s p).2.2 = 256 then (0, (usym c s p).2.1, l)
    else if (ulen s (usym c s p).2.1 (usym c s p).2.2).1 ≠ 0 then ((ulen s (usym c s p).2.1 (usym c s p).2.2).1, p, l)
    else if (udist d s (ulen s (usym c s p).2.1 (usym c s p).2.2).2.1).1 ≠ 0 then ((udist d s (ulen s (usym c s p).2.1 (usym c s p).2.2).2.1).1, p, l)
    else if (repF 0 l most (ulen s (usym c s p).2.1 (usym c s p).2.2).2.2 (udist d s (ulen s (usym c s p).2.1 (usym c s p).2.2).2.1).2.2).1 ≠ 0 then
      ((repF 0 l most (ulen s (usym c s p).2.1 (usym c s p).2.2).2.2 (udist d s (ulen s (usym c s p).2.1 (usym c s p).2.2).2.1).2.2).1, p, l)
    else packF c d s most k (udist d s (ulen s (usym c s p).2.1 (usym c s p).2.2).2.1).2.1 (repF 0 l most (ulen s (usym c s p).2.1 (usym c s p).2.2).2.2 (udist d s (ulen s (usym c s p).2.1 (usym c s p).2.2).2.1).2.2).2.2
/-- More rounds than there are bits change nothing. -/
theorem packF_fuel (c d : List Nat) (s : ByteArray) (most : Nat) (hc : c.length ≤ 288) (hd : d.length ≤ 288) : ∀ (k k' p : Nat) (l : List Nat), p ≤ 8 * s.size → 8 * s.size + 1 - p ≤ k → 8 * s.size + 1 - p ≤ k' → packF c d s most k p l = packF c d s most k' p l
  | 0, k', p, l, h, h1, h2 => by omega
  | k + 1, 0, p, l, h, h1, h2 => by omega
  | k + 1, k' + 1, p, l, h, h1, h2 => by
    unfold packF
    by_cases a1 : (usym c s p).1 ≠ 0
    · rw [if_pos a1, if_pos a1]
    · rw [if_neg a1, if_neg a1]
      obtain ⟨b1, b2, b3⟩ := usym_ok' hc (by omega : (usym c s p).1 = 0)
      have b3 := b3 h
      obtain ⟨⟨e1, p1, y⟩, hu⟩ : ∃ r, usym c s p = r := ⟨_, rfl⟩
      rw [hu] at b1 b2 b3 ⊢
      by_cases a2 : y < 256
      · rw [if_pos a2, if_pos a2]
        by_cases a3 : most < l.length + 1
        · rw [if_pos a3, if_pos a3]
        · rw [if_neg a3, if_neg a3]
          have b2 : p < p1 := b2
          exact packF_fuel c d s most hc hd k k' _ _ b3 (by show 8 * s.size + 1 - p1 ≤ k; omega) (by show 8 * s.size + 1 - p1 ≤ k'; omega)
      · rw [if_neg a2, if_neg a2]
        by_cases a4 : y = 256
        · rw [if_pos a4, if_pos a4]
        · rw [if_neg a4, if_neg a4]
          have b2 : p < p1 := b2
          have b3 : p1 ≤ 8 * s.size := b3
          show (if (ulen s p1 y).1 ≠ 0 then _ else _) = (if (ulen s p1 y).1 ≠ 0 then _ else _)
          by_cases a5 : (ulen s p1 y).1 ≠ 0
          · rw [if_pos a5, if_pos a5]
          · rw [if_neg a5, if_neg a5]
            obtain ⟨c1, c2⟩ := ulen_mono (s := s) (p := p1) (y := y) (by omega)
            have c2 := c2 b3
            by_cases a6 : (udist d s (ulen s p1 y).2.1).1 ≠ 0
            · rw [if_pos a6, if_pos a6]
            · rw [if_neg a6, if_neg a6]
              obtain ⟨d1, d2⟩ := udist_mono (s := s) (p := (ulen s p1 y).2.1) hd (by omega)
              have d2 := d2 c2
              split
              · rfl
              · exact packF_fuel c d s most hc hd k k' _ _ d2 (by show 8 * s.size + 1 - (udist d s (ulen s p1 y).2.1).2.1 ≤ k; omega) (by show 8 * s.size + 1 - (udist d s (ulen s p1 y).2.1).2.1 ≤ k'; omega)
def placeOf (w : World) (b : Nat) : Nat := match w.cell? ⟨b, 2, none⟩ with | some v => (intOf v).toNat | none => 0
theorem RS.placeOf {w : World} {b : Nat} {s : ByteArray} {p : Nat} (h : RS w b s p) : placeOf w b = p := by
  unfold Go.Proofs.YtchjnfckcfikkaaDoor.placeOf
  rw [h.cells.2.2.1]; simp [intOf]
end Go.Proofs.YtchjnfckcfikkaaDoor
