/- Blocks, one behind the other. -/
/- Inflate. -/
/- Told codes: whether lengths are whole; a run of lengths. -/
/- Told codes: a run of lengths, the walk. -/
/- Told codes: lengths, the mathematics. -/
/- Told codes: lengths, the walk. -/
/- Told codes: the first code. -/
/- Told codes: what they are. -/
/- The document's share of lengths. -/
import Derived.Test.YtbcflkdaeboflaaDoorV13
import Derived.Test.YtbcflkdaeboflaaDoorV08
import Derived.Test.YtbcflkdaeboflaaDoorV05
namespace Go.Proofs.YtbcflkdaeboflaaDoor
open Go.RowKit
set_option linter.unusedVariables false
set_option maxRecDepth 20000

theorem packF_mono (c d : List Nat) (s : ByteArray) (most : Nat) (hc : c.length ≤ 288) (hd : d.length ≤ 288) : ∀ (k p : Nat) (l : List Nat), p ≤ 8 * s.size → l.length ≤ most → (packF c d s most k p l).1 = 0 → p ≤ (packF c d s most k p l).2.1 ∧ (packF c d s most k p l).2.1 ≤ 8 * s.size ∧ (packF c d s most k p l).2.2.length ≤ most
  | 0, p, l, hp, hl, h => by simp [packF] at h
  | k + 1, p, l, hp, hl, h => by
    unfold packF at h ⊢
    by_cases a1 : (usym c s p).1 ≠ 0
    · rw [if_pos a1] at h; exact (a1 h).elim
    · rw [if_neg a1] at h ⊢
      obtain ⟨b1, b2, b3⟩ := usym_ok' hc (by omega : (usym c s p).1 = 0)
      have b3 := b3 hp
      obtain ⟨⟨e1, p1, y⟩, hu⟩ : ∃ r, usym c s p = r := ⟨_, rfl⟩
      rw [hu] at b1 b2 b3 h ⊢
      have b2 : p < p1 := b2
      have b3 : p1 ≤ 8 * s.size := b3
      by_cases a2 : y < 256
      · rw [if_pos a2] at h ⊢
        by_cases a3 : most < l.length + 1
        · rw [if_pos a3] at h; simp at h
        · rw [if_neg a3] at h ⊢
          obtain ⟨g1, g2, g3⟩ := packF_mono c d s most hc hd k p1 (l ++ [y]) b3 (by rw [List.length_append, List.length_singleton]; omega) h
          exact ⟨Nat.le_trans (Nat.le_of_lt b2) g1, g2, g3⟩
      · rw [if_neg a2] at h ⊢
        by_cases a4 : y = 256
        · rw [if_pos a4]; exact ⟨Nat.le_of_lt b2, b3, hl⟩
        · rw [if_neg a4] at h ⊢
          have hum := ulen_mono (s := s) (p := p1) (y := y)
          obtain ⟨⟨e2, p2, n⟩, hn⟩ : ∃ r, ulen s p1 y = r := ⟨_, rfl⟩
          have hn' : ulen s (e1, p1, y).2.1 (e1, p1, y).2.2 = (e2, p2, n) := hn
          rw [hn'] at h ⊢
          rw [hn] at hum
          by_cases a5 : e2 ≠ 0
          · rw [if_pos a5] at h; exact (a5 h).elim
          · rw [if_neg a5] at h ⊢
            obtain ⟨c1, c2⟩ := hum (by show e2 = 0; omega)
            have c1 : p1 ≤ p2 := c1
            have c2 : p2 ≤ 8 * s.size := c2 b3
            have hdm := udist_mono (s := s) (p := p2) hd
            obtain ⟨⟨e3, p3, x⟩, ht⟩ : ∃ r, udist d s p2 = r := ⟨_, rfl⟩
            have ht' : udist d s (e2, p2, n).2.1 = (e3, p3, x) := ht
            rw [ht'] at h ⊢
            rw [ht] at hdm
            by_cases a6 : e3 ≠ 0
            · rw [if_pos a6] at h; exact (a6 h).elim
            · rw [if_neg a6] at h ⊢
              obtain ⟨d1, d2⟩ := hdm (by show e3 = 0; omega)
              have d1 : p2 ≤ p3 := d1
              have d2 : p3 ≤ 8 * s.size := d2 c2
              have hrl := repF_len (p := 0) (l := l) (most := most) (n := n) (d := x)
              obtain ⟨⟨e4, p4, m⟩, hr⟩ : ∃ r, repF 0 l most n x = r := ⟨_, rfl⟩
              have hr' : repF 0 l most (e2, p2, n).2.2 (e3, p3, x).2.2 = (e4, p4, m) := hr
              rw [hr'] at h ⊢
              rw [hr] at hrl
              by_cases a7 : e4 ≠ 0
              · rw [if_pos a7] at h; exact (a7 h).elim
              · rw [if_neg a7] at h ⊢
                obtain ⟨g1, g2, g3⟩ := packF_mono c d s most hc hd k p3 m d2 (hrl (by show e4 = 0; omega)).1 h
                exact ⟨by show p ≤ _; exact Nat.le_trans (by omega) g1, g2, g3⟩
theorem storedF_mono {s : ByteArray} {p most : Nat} {l : List Nat} (h : (storedF s p l most).1 = 0) : p ≤ (storedF s p l most).2.1 ∧ (storedF s p l most).2.1 ≤ 8 * s.size ∧ (storedF s p l most).2.2.length ≤ most := by
  unfold storedF at h ⊢
  simp only at h ⊢
  obtain ⟨q, hq⟩ : ∃ q, (p + 7) / 8 * 8 = q := ⟨_, rfl⟩
  rw [hq] at h ⊢
  by_cases a1 : 8 * s.size < q + 16
  · rw [if_pos a1] at h; simp at h
  · rw [if_neg a1] at h ⊢
    by_cases a2 : 8 * s.size < q + 32
    · rw [if_pos a2] at h; simp at h
    · rw [if_neg a2] at h ⊢
      split at h
      · simp at h
      · rename_i a3
        rw [if_neg a3]
        split at h
        · simp at h
        · rename_i a4
          rw [if_neg a4]
          split at h
          · simp at h
          · rename_i a5
            rw [if_neg a5]
            refine ⟨by show p ≤ q + 32 + 8 * num s q 16; omega, by show q + 32 + 8 * num s q 16 ≤ 8 * s.size; omega, ?_⟩
            show (l ++ _).length ≤ most
            rw [List.length_append, List.length_map]
            have : (s.extract ((q + 32) / 8) ((q + 32) / 8 + num s q 16)).data.toList.length = num s q 16 := by
              show (s.extract ((q + 32) / 8) ((q + 32) / 8 + num s q 16)).size = _
              rw [ByteArray.size_extract]; omega
            rw [this]; omega
theorem fixS_len : fixS.length = 288 := by simp [fixS]
theorem fixD_len : fixD.length = 32 := by simp [fixD]
/-- What told codes keep to. -/
def ToldOK (told : Nat → Nat × Nat × List Nat × List Nat) (s : ByteArray) : Prop := ∀ p, p ≤ 8 * s.size → (told p).1 = 0 → p ≤ (told p).2.1 ∧ (told p).2.1 ≤ 8 * s.size ∧ (told p).2.2.1.length ≤ 288 ∧ (told p).2.2.2.length ≤ 288
theorem blockF_mono {told : Nat → Nat × Nat × List Nat × List Nat} {s : ByteArray} (ht : ToldOK told s) {most p : Nat} {l : List Nat} (hl : l.length ≤ most) (h : (blockF told s most p l).1 = 0) : p < (blockF told s most p l).2.1 ∧ (blockF told s most p l).2.1 ≤ 8 * s.size ∧ (blockF told s most p l).2.2.length ≤ most := by
  unfold blockF at h ⊢
  by_cases a1 : 8 * s.size < p + 1
  · rw [if_pos a1] at h; simp at h
  · rw [if_neg a1] at h ⊢
    by_cases a2 : 8 * s.size < p + 3
    · rw [if_pos a2] at h; simp at h
    · rw [if_neg a2] at h ⊢
      by_cases a3 : num s (p + 1) 2 = 0
      · rw [if_pos a3] at h ⊢
        obtain ⟨b1, b2, b3⟩ := storedF_mono h
        exact ⟨by omega, b2, b3⟩
      · rw [if_neg a3] at h ⊢
        by_cases a4 : num s (p + 1) 2 = 1
        · rw [if_pos a4] at h ⊢
          obtain ⟨b1, b2, b3⟩ := packF_mono fixS fixD s most (by rw [fixS_len]; omega) (by rw [fixD_len]; omega) _ (p + 3) l (by omega) hl h
          exact ⟨by omega, b2, b3⟩
        · rw [if_neg a4] at h ⊢
          by_cases a5 : num s (p + 1) 2 = 2
          · rw [if_pos a5] at h ⊢
            by_cases a6 : (told (p + 3)).1 ≠ 0
            · rw [if_pos a6] at h; exact (a6 h).elim
            · rw [if_neg a6] at h ⊢
              obtain ⟨c1, c2, c3, c4⟩ := ht (p + 3) (by omega) (by omega)
              obtain ⟨b1, b2, b3⟩ := packF_mono _ _ s most c3 c4 _ (told (p + 3)).2.1 l c2 hl h
              exact ⟨by omega, b2, b3⟩
          · rw [if_neg a5] at h; simp at h
def blocksF (told : Nat → Nat × Nat × List Nat × List Nat) (s : ByteArray) (most : Nat) : Nat → Nat → List Nat → Nat × Nat × List Nat
  | 0, p, l => (99, p, l)
  | k + 1, p, l => if (blockF told s most p l).1 ≠ 0 then ((blockF told s most p l).1, p, l) else if num s p 1 = 1 then (0, (blockF told s most p l).2.1, (blockF told s most p l).2.2) else blocksF told s most k (blockF told s most p l).2.1 (blockF told s most p l).2.2
theorem blocksF_fuel {told : Nat → Nat × Nat × List Nat × List Nat} {s : ByteArray} (ht : ToldOK told s) (most : Nat) : ∀ (k k' p : Nat) (l : List Nat), l.length ≤ most → p ≤ 8 * s.size → 8 * s.size + 1 - p ≤ k → 8 * s.size + 1 - p ≤ k' → blocksF told s most k p l = blocksF told s most k' p l
  | 0, k', p, l, hl, hp, h1, h2 => by omega
  | k + 1, 0, p, l, hl, hp, h1, h2 => by omega
  | k + 1, k' + 1, p, l, hl, hp, h1, h2 => by
    unfold blocksF
    by_cases a1 : (blockF told s most p l).1 ≠ 0
    · rw [if_pos a1, if_pos a1]
    · rw [if_neg a1, if_neg a1]
      by_cases a2 : num s p 1 = 1
      · rw [if_pos a2, if_pos a2]
      · rw [if_neg a2, if_neg a2]
        obtain ⟨b1, b2, b3⟩ := blockF_mono ht hl (by omega : (blockF told s most p l).1 = 0)
        exact blocksF_fuel ht most k k' _ _ b3 b2 (by omega) (by omega)
section
variable {told : Nat → Nat × Nat × List Nat × List Nat} {s : ByteArray} {most p : Nat} {l : List Nat}
theorem blocks_bad (hp : p ≤ 8 * s.size) (h : (blockF told s most p l).1 ≠ 0) : blocksF told s most (8 * s.size + 1 - p) p l = ((blockF told s most p l).1, p, l) := by
  obtain ⟨k, hk⟩ := pack_open hp
  rw [hk]; unfold blocksF; rw [if_pos h]
theorem blocks_end (hp : p ≤ 8 * s.size) (h : (blockF told s most p l).1 = 0) (h1 : num s p 1 = 1) : blocksF told s most (8 * s.size + 1 - p) p l = (0, (blockF told s most p l).2.1, (blockF told s most p l).2.2) := by
  obtain ⟨k, hk⟩ := pack_open hp
  rw [hk]; unfold blocksF; rw [if_neg (by omega), if_pos h1]
theorem blocks_more (ht : ToldOK told s) (hl : l.length ≤ most) (hp : p ≤ 8 * s.size) (h : (blockF told s most p l).1 = 0) (h1 : num s p 1 ≠ 1) : blocksF told s most (8 * s.size + 1 - p) p l = blocksF told s most (8 * s.size + 1 - (blockF told s most p l).2.1) (blockF told s most p l).2.1 (blockF told s most p l).2.2 := by
  obtain ⟨k, hk⟩ := pack_open hp
  obtain ⟨b1, b2, b3⟩ := blockF_mono ht hl h
  rw [hk]; conv => lhs; unfold blocksF
  rw [if_neg (by omega), if_neg h1]
  exact blocksF_fuel ht most k _ _ _ b3 b2 (by omega) (by omega)
end
end Go.Proofs.YtbcflkdaeboflaaDoor
namespace Go.Proofs.YtbcflkdaeboflaaDoor
open Go.RowKit
set_option linter.unusedVariables false
set_option maxRecDepth 20000

def Bytes (l : List Nat) : Prop := ∀ x ∈ l, x < 256
theorem copyL_bytes {d : Nat} : ∀ (n : Nat) {l : List Nat}, Bytes l → Bytes (copyL d n l)
  | 0, l, h => h
  | n + 1, l, h => copyL_bytes n (fun x hx => by
    rcases List.mem_append.1 hx with h1 | h1
    · exact h x h1
    · rw [List.mem_singleton.1 h1, List.getD_eq_getElem?_getD]
      by_cases hi : l.length - d < l.length
      · rw [List.getElem?_eq_getElem hi]; exact h _ (List.getElem_mem hi)
      · rw [List.getElem?_eq_none (by omega)]; simp)
theorem repF_bytes {p : Nat} {l : List Nat} {most n d : Nat} (h : Bytes l) : Bytes (repF p l most n d).2.2 := by
  unfold repF
  split
  · exact h
  · split
    · exact h
    · exact copyL_bytes n h
theorem packF_bytes (c d : List Nat) (s : ByteArray) (most : Nat) : ∀ (k p : Nat) (l : List Nat), Bytes l → Bytes (packF c d s most k p l).2.2
  | 0, p, l, h => h
  | k + 1, p, l, h => by
    unfold packF
    split
    · exact h
    · split
      · rename_i hy
        split
        · exact h
        · exact packF_bytes c d s most k _ _ (fun x hx => by
            rcases List.mem_append.1 hx with h1 | h1
            · exact h x h1
            · rw [List.mem_singleton.1 h1]; exact hy)
      · split
        · exact h
        · split
          · exact h
          · split
            · exact h
            · split
              · exact h
              · exact packF_bytes c d s most k _ _ (repF_bytes h)
theorem storedF_bytes {s : ByteArray} {p : Nat} {l : List Nat} {most : Nat} (h : Bytes l) : Bytes (storedF s p l most).2.2 := by
  unfold storedF
  simp only
  split
  · exact h
  · split
    · exact h
    · split
      · exact h
      · split
        · exact h
        · split
          · exact h
          · intro x hx
            rcases List.mem_append.1 hx with h1 | h1
            · exact h x h1
            · obtain ⟨y, _, rfl⟩ := List.mem_map.1 h1
              exact UInt8.toNat_lt y
theorem blockF_bytes {told : Nat → Nat × Nat × List Nat × List Nat} {s : ByteArray} {most p : Nat} {l : List Nat} (h : Bytes l) : Bytes (blockF told s most p l).2.2 := by
  unfold blockF
  split
  · exact h
  · split
    · exact h
    · split
      · exact storedF_bytes h
      · split
        · exact packF_bytes _ _ _ _ _ _ _ h
        · split
          · split
            · exact h
            · exact packF_bytes _ _ _ _ _ _ _ h
          · exact h
theorem blocksF_bytes {told : Nat → Nat × Nat × List Nat × List Nat} {s : ByteArray} {most : Nat} : ∀ (k p : Nat) (l : List Nat), Bytes l → Bytes (blocksF told s most k p l).2.2
  | 0, p, l, h => h
  | k + 1, p, l, h => by
    unfold blocksF
    split
    · exact h
    · split
      · exact blockF_bytes h
      · exact blocksF_bytes k _ _ (blockF_bytes h)
/-- What Inflate answers: the plain bytes, how many bytes it took, the error. -/
def infR (r : Nat × Nat × List Nat) : Value := if r.1 = 0 then .tuple #[.string (toBA r.2.2), .int .i64 (((r.2.1 + 7) / 8 : Nat) : Int), .int .i64 0] else .tuple #[.string ⟨#[]⟩, .int .i64 0, .int .i64 ((r.1 : Nat) : Int)]
end Go.Proofs.YtbcflkdaeboflaaDoor
namespace Go.Proofs.YtbcflkdaeboflaaDoor
open Go.RowKit
set_option linter.unusedVariables false
set_option maxRecDepth 20000

def wholeB (xs : List Int) : Bool := may xs && decide (ew (nsOf xs) 15 = 32768)
/-- The sum of numbers. -/
def sumTo (c : Nat → Nat) : Nat → Nat
  | 0 => 0
  | k + 1 => sumTo c k + c k
theorem sumTo_le (c : Nat → Nat) (hc : ∀ i, c i ≤ 15) : ∀ k, sumTo c k ≤ 15 * k
  | 0 => Nat.le_refl _
  | k + 1 => by have := sumTo_le c hc k; have := hc k; simp only [sumTo]; omega
/-- What comes of a run: an error, or the place behind it, a length, how often. -/
def runF (ns : List Nat) (s : ByteArray) (p : Nat) (L : List Nat) : Nat × Nat × Nat × Nat :=
  if (usym ns s p).1 ≠ 0 then ((usym ns s p).1, p, 0, 0)
  else if (usym ns s p).2.2 = 16 then (if L = [] then (40, p, 0, 0) else ((ub s (usym ns s p).2.1 2).1, (ub s (usym ns s p).2.1 2).2.1, L.getLastD 0, 3 + (ub s (usym ns s p).2.1 2).2.2))
  else if (usym ns s p).2.2 = 17 then ((ub s (usym ns s p).2.1 3).1, (ub s (usym ns s p).2.1 3).2.1, 0, 3 + (ub s (usym ns s p).2.1 3).2.2)
  else if (usym ns s p).2.2 = 18 then ((ub s (usym ns s p).2.1 7).1, (ub s (usym ns s p).2.1 7).2.1, 0, 11 + (ub s (usym ns s p).2.1 7).2.2)
  else (0, (usym ns s p).2.1, (usym ns s p).2.2, 1)
theorem ub_lt (s : ByteArray) (p n : Nat) (hn : n ≤ 16) : (ub s p n).2.2 < 65536 := by
  unfold ub
  split
  · show 0 < 65536; omega
  · exact Nat.lt_of_lt_of_le (num_lt s p n) (Nat.pow_le_pow_right (by decide) hn)
end Go.Proofs.YtbcflkdaeboflaaDoor
namespace Go.Proofs.YtbcflkdaeboflaaDoor
open Go.RowKit
set_option linter.unusedVariables false
set_option maxRecDepth 20000

end Go.Proofs.YtbcflkdaeboflaaDoor
namespace Go.Proofs.YtbcflkdaeboflaaDoor
open Go.RowKit
set_option linter.unusedVariables false
set_option maxRecDepth 20000

theorem runF_ok {ns : List Nat} {s : ByteArray} {p : Nat} {L : List Nat} (hn : ns.length ≤ 288) (h : (runF ns s p L).1 = 0) : p ≤ (runF ns s p L).2.1 ∧ (p ≤ 8 * s.size → (runF ns s p L).2.1 ≤ 8 * s.size) ∧ 1 ≤ (runF ns s p L).2.2.2 ∧ (runF ns s p L).2.2.2 ≤ 70000 := by
  unfold runF at h ⊢
  by_cases h1 : (usym ns s p).1 ≠ 0
  · rw [if_pos h1] at h; exact (h1 h).elim
  · rw [if_neg h1] at h ⊢
    obtain ⟨_, b2, b3⟩ := usym_ok' hn (by omega : (usym ns s p).1 = 0)
    obtain ⟨⟨er, p1, y⟩, hu⟩ : ∃ r, usym ns s p = r := ⟨_, rfl⟩
    rw [hu] at h b2 b3 ⊢
    have b2 : p < p1 := b2
    have key : ∀ m c, m ≤ 16 → 1 ≤ c → c ≤ 11 → (ub s p1 m).1 = 0 → p ≤ (ub s p1 m).2.1 ∧ (p ≤ 8 * s.size → (ub s p1 m).2.1 ≤ 8 * s.size) ∧ 1 ≤ c + (ub s p1 m).2.2 ∧ c + (ub s p1 m).2.2 ≤ 70000 := fun m c hm hc1 hc2 h0 => by
      obtain ⟨c1, c2⟩ := ub_le h0
      have := ub_lt s p1 m hm
      exact ⟨by omega, fun hp => c2 (b3 hp), by omega, by omega⟩
    by_cases y16 : y = 16
    · rw [if_pos y16] at h ⊢
      by_cases hL : L = []
      · rw [if_pos hL] at h; simp at h
      · rw [if_neg hL] at h ⊢
        exact key 2 3 (by omega) (by omega) (by omega) h
    · rw [if_neg y16] at h ⊢
      by_cases y17 : y = 17
      · rw [if_pos y17] at h ⊢
        exact key 3 3 (by omega) (by omega) (by omega) h
      · rw [if_neg y17] at h ⊢
        by_cases y18 : y = 18
        · rw [if_pos y18] at h ⊢
          exact key 7 11 (by omega) (by omega) (by omega) h
        · rw [if_neg y18]
          exact ⟨Nat.le_of_lt b2, fun hp => b3 hp, by show 1 ≤ 1; omega, by show 1 ≤ 70000; omega⟩
def lensF (ns : List Nat) (s : ByteArray) (n : Nat) : Nat → Nat → List Nat → Nat × Nat × List Nat
  | 0, p, L => (99, p, L)
  | k + 1, p, L => if n ≤ L.length then (0, p, L) else if (runF ns s p L).1 ≠ 0 then ((runF ns s p L).1, p, L) else if n - L.length < (runF ns s p L).2.2.2 then (40, p, L) else lensF ns s n k (runF ns s p L).2.1 (L ++ List.replicate (runF ns s p L).2.2.2 (runF ns s p L).2.2.1)
theorem lensF_fuel (ns : List Nat) (s : ByteArray) (n : Nat) (hn : ns.length ≤ 288) : ∀ (k k' p : Nat) (L : List Nat), n + 1 - L.length ≤ k → n + 1 - L.length ≤ k' → L.length ≤ n → lensF ns s n k p L = lensF ns s n k' p L
  | 0, k', p, L, h1, h2, h3 => by omega
  | k + 1, 0, p, L, h1, h2, h3 => by omega
  | k + 1, k' + 1, p, L, h1, h2, h3 => by
    unfold lensF
    by_cases a1 : n ≤ L.length
    · rw [if_pos a1, if_pos a1]
    · rw [if_neg a1, if_neg a1]
      by_cases a2 : (runF ns s p L).1 ≠ 0
      · rw [if_pos a2, if_pos a2]
      · rw [if_neg a2, if_neg a2]
        obtain ⟨_, _, b3, _⟩ := runF_ok (s := s) (p := p) (L := L) hn (by omega)
        by_cases a3 : n - L.length < (runF ns s p L).2.2.2
        · rw [if_pos a3, if_pos a3]
        · rw [if_neg a3, if_neg a3]
          exact lensF_fuel ns s n hn k k' _ _ (by rw [List.length_append, List.length_replicate]; omega) (by rw [List.length_append, List.length_replicate]; omega) (by rw [List.length_append, List.length_replicate]; omega)
section
variable {ns : List Nat} {s : ByteArray} {n p : Nat} {L : List Nat} {er p1 x y : Nat}
theorem lens_end (h : L.length = n) : lensF ns s n (n + 1 - L.length) p L = (0, p, L) := by
  rw [show n + 1 - L.length = 0 + 1 by omega]; unfold lensF; rw [if_pos (by omega)]
theorem lens_bad (h : L.length < n) (hr : runF ns s p L = (er, p1, x, y)) (he : er ≠ 0) : lensF ns s n (n + 1 - L.length) p L = (er, p, L) := by
  rw [show n + 1 - L.length = (n - L.length) + 1 by omega]; unfold lensF; rw [if_neg (by omega), hr, if_pos he]
theorem lens_full (h : L.length < n) (hr : runF ns s p L = (0, p1, x, y)) (he : n - L.length < y) : lensF ns s n (n + 1 - L.length) p L = (40, p, L) := by
  rw [show n + 1 - L.length = (n - L.length) + 1 by omega]; unfold lensF; rw [if_neg (by omega), hr, if_neg (by simp), if_pos he]
theorem lens_more (hn : ns.length ≤ 288) (h : L.length < n) (hr : runF ns s p L = (0, p1, x, y)) (he : ¬ n - L.length < y) : lensF ns s n (n + 1 - L.length) p L = lensF ns s n (n + 1 - (L ++ List.replicate y x).length) p1 (L ++ List.replicate y x) := by
  have b := runF_ok (s := s) (p := p) (L := L) hn (by rw [hr])
  rw [hr] at b
  have b3 : 1 ≤ y := b.2.2.1
  have hl : (L ++ List.replicate y x).length = L.length + y := by rw [List.length_append, List.length_replicate]
  rw [show n + 1 - L.length = (n - L.length) + 1 by omega]; conv => lhs; unfold lensF
  rw [if_neg (by omega), hr, if_neg (by simp), if_neg he]
  show lensF ns s n (n - L.length) p1 (L ++ List.replicate y x) = _
  exact lensF_fuel ns s n hn _ _ _ _ (by omega) (by omega) (by omega)
end
end Go.Proofs.YtbcflkdaeboflaaDoor
namespace Go.Proofs.YtbcflkdaeboflaaDoor
open Go.RowKit
set_option linter.unusedVariables false
set_option maxRecDepth 20000

def sliceLen : Value → Nat
  | .slice _ n _ => n
  | _ => 0
theorem owned_form {w : World} {B : Nat} {E : TypeId} {V : Value} {n : Nat} {xs : List Value} (h : w.ownsRow B E 1 V n xs) : ∃ ao cp, V = .slice ao n cp := by
  rcases h.2 with ⟨e, h0⟩ | ⟨g, cp, cur, e, _⟩
  · exact ⟨none, 0, by rw [e, h0]⟩
  · exact ⟨_, _, e⟩
end Go.Proofs.YtbcflkdaeboflaaDoor
namespace Go.Proofs.YtbcflkdaeboflaaDoor
open Go.RowKit
set_option linter.unusedVariables false
set_option maxRecDepth 20000

def ordL : List Nat := [16, 17, 18, 0, 8, 7, 9, 6, 10, 5, 11, 4, 12, 3, 13, 2, 14, 1, 15]
theorem ordL_lt (k : Nat) : ordL.getD k 0 < 19 := by
  rcases Nat.lt_or_ge k 19 with h | h
  · exact (show ∀ k : Fin 19, ordL.getD k.val 0 < 19 by decide) ⟨k, h⟩
  · rw [List.getD_eq_getElem?_getD, List.getElem?_eq_none (by show 19 ≤ k; exact h)]; simp
/-- The order's cells. -/
def OrdAt (w : World) : Prop := ∀ i, i < 19 → w.cell? ⟨0, i, none⟩ = some (.int .i64 (ordL.getD i 0 : Nat))
theorem OrdAt.keep {w w' : World} {K : Nat → Prop} (h : OrdAt w) (hK : K 0) (hf : UF K w w') : OrdAt w' := fun i hi => by
  rw [World.cell?_of_block (w := w) (hf.block 0 hK)]; exact h i hi
def fcOf (s : ByteArray) (p : Nat) : Nat → Nat → Nat
  | 0 => fun _ => 0
  | k + 1 => fun i => if i = ordL.getD k 0 then num s (p + 3 * k) 3 else fcOf s p k i
theorem fcOf_lt (s : ByteArray) (p : Nat) : ∀ k i, fcOf s p k i < 8
  | 0, i => by simp [fcOf]
  | k + 1, i => by
    unfold fcOf
    split
    · exact num_lt s _ 3
    · exact fcOf_lt s p k i
end Go.Proofs.YtbcflkdaeboflaaDoor
namespace Go.Proofs.YtbcflkdaeboflaaDoor
open Go.RowKit
set_option linter.unusedVariables false
set_option maxRecDepth 20000

theorem symW_in (ns : List Nat) (l x : Nat) : symW ns l x < ns.length ∨ symW ns l x = 0 := by
  unfold symW
  by_cases hi : x - fstW ns l < (symsOf ns l ns.length).length
  · left
    have hm : (symsOf ns l ns.length).getD (x - fstW ns l) 0 ∈ symsOf ns l ns.length := by
      rw [List.getD_eq_getElem?_getD, List.getElem?_eq_getElem hi]; exact List.getElem_mem hi
    obtain ⟨z, hz⟩ : ∃ z, (symsOf ns l ns.length).getD (x - fstW ns l) 0 = z := ⟨_, rfl⟩
    rw [hz] at hm ⊢
    unfold symsOf at hm
    exact (List.mem_range.1 (List.mem_filter.1 hm).1)
  · right
    rw [List.getD_eq_getElem?_getD, List.getElem?_eq_none (by omega)]; rfl
theorem rdS_in (ns : List Nat) (s : ByteArray) (p : Nat) : ∀ (k l x : Nat), (rdS ns s p k l x).1 < ns.length ∨ (rdS ns s p k l x).1 = 0
  | 0, l, x => .inr rfl
  | k + 1, l, x => by
    unfold rdS
    split
    · exact symW_in ns l x
    · split
      · exact .inr rfl
      · split
        · exact .inr rfl
        · exact rdS_in ns s p k _ _
theorem usym_in (ns : List Nat) (s : ByteArray) (p : Nat) : (usym ns s p).2.2 < ns.length ∨ (usym ns s p).2.2 = 0 := by
  unfold usym
  split
  · exact .inr rfl
  · split
    · exact rdS_in ns s p 16 0 0
    · exact .inr rfl
/-- Lengths that a run adds are at most 15. -/
theorem runF_len {ns : List Nat} {s : ByteArray} {p : Nat} {L : List Nat} (hn : ns.length = 19) (hL : ∀ x ∈ L, x ≤ 15) : (runF ns s p L).2.2.1 ≤ 15 := by
  have hy := usym_in ns s p
  unfold runF
  split
  · exact Nat.zero_le _
  · split
    · split
      · exact Nat.zero_le _
      · rename_i h
        show L.getLastD 0 ≤ 15
        rw [List.getLastD_eq_getLast?]
        cases he : L.getLast? with
        | none => simp
        | some z => exact hL z (List.mem_of_getLast? he)
    · split
      · exact Nat.zero_le _
      · split
        · exact Nat.zero_le _
        · show (usym ns s p).2.2 ≤ 15
          rename_i h1 h2 h3
          omega
theorem lensF_len {ns : List Nat} {s : ByteArray} {n : Nat} (hn : ns.length = 19) : ∀ (k p : Nat) (L : List Nat), (∀ x ∈ L, x ≤ 15) → ∀ x ∈ (lensF ns s n k p L).2.2, x ≤ 15
  | 0, p, L, h => h
  | k + 1, p, L, h => by
    unfold lensF
    split
    · exact h
    · split
      · exact h
      · split
        · exact h
        · refine lensF_len hn k _ _ (fun x hx => ?_)
          rcases List.mem_append.1 hx with a | a
          · exact h x a
          · rw [(List.mem_replicate.1 a).2]; exact runF_len hn h
theorem lensF_size {ns : List Nat} {s : ByteArray} {n : Nat} (hn : ns.length ≤ 288) : ∀ (k p : Nat) (L : List Nat), L.length ≤ n → (lensF ns s n k p L).1 = 0 → (lensF ns s n k p L).2.2.length = n ∧ p ≤ (lensF ns s n k p L).2.1 ∧ (p ≤ 8 * s.size → (lensF ns s n k p L).2.1 ≤ 8 * s.size)
  | 0, p, L, hl, h => by simp [lensF] at h
  | k + 1, p, L, hl, h => by
    unfold lensF at h ⊢
    by_cases a1 : n ≤ L.length
    · rw [if_pos a1]; exact ⟨by show L.length = n; omega, Nat.le_refl p, fun h => h⟩
    · rw [if_neg a1] at h ⊢
      by_cases a2 : (runF ns s p L).1 ≠ 0
      · rw [if_pos a2] at h; exact (a2 h).elim
      · rw [if_neg a2] at h ⊢
        obtain ⟨b1, b2, _, _⟩ := runF_ok (s := s) (p := p) (L := L) hn (by omega)
        by_cases a3 : n - L.length < (runF ns s p L).2.2.2
        · rw [if_pos a3] at h; simp at h
        · rw [if_neg a3] at h ⊢
          obtain ⟨c1, c2, c3⟩ := lensF_size hn k _ _ (by rw [List.length_append, List.length_replicate]; omega) h
          exact ⟨c1, Nat.le_trans b1 c2, fun hp => c3 (b2 hp)⟩
end Go.Proofs.YtbcflkdaeboflaaDoor
namespace Go.Proofs.YtbcflkdaeboflaaDoor
open Go.RowKit
set_option linter.unusedVariables false
set_option maxRecDepth 20000

/-- The share of the first j lengths, in parts of 2^15. -/
def shr (ns : List Nat) : Nat → Nat
  | 0 => 0
  | j + 1 => shr ns j + (if ns.getD j 0 = 0 then 0 else 2 ^ (15 - ns.getD j 0))
/-- .. by lengths. -/
def shT (ns : List Nat) (j : Nat) : Nat → Nat
  | 0 => 0
  | l + 1 => shT ns j l + lcnt ns (l + 1) j * 2 ^ (15 - (l + 1))
theorem shT_succ (ns : List Nat) (j L : Nat) : shT ns (j + 1) L = shT ns j L + (if 1 ≤ ns.getD j 0 ∧ ns.getD j 0 ≤ L then 2 ^ (15 - ns.getD j 0) else 0) := by
  induction L with
  | zero => simp only [shT]; rw [if_neg (by omega)]
  | succ L ih =>
    simp only [shT, ih, lcnt]
    by_cases e : ns.getD j 0 = L + 1
    · rw [if_neg (by omega), if_pos e, if_pos (by omega), e, Nat.add_mul, Nat.one_mul]; omega
    · rw [if_neg e, Nat.add_zero]
      by_cases e2 : 1 ≤ ns.getD j 0 ∧ ns.getD j 0 ≤ L
      · rw [if_pos e2, if_pos (by omega)]; omega
      · rw [if_neg e2, if_neg (by omega)]; omega
theorem shT_zero (ns : List Nat) (L : Nat) : shT ns 0 L = 0 := by
  induction L with
  | zero => rfl
  | succ L ih => simp [shT, ih, lcnt]
theorem shr_eq (ns : List Nat) (h : ∀ i, ns.getD i 0 ≤ 15) : ∀ j, shr ns j = shT ns j 15
  | 0 => (shT_zero ns 15).symm
  | j + 1 => by
    rw [shT_succ, ← shr_eq ns h j]
    simp only [shr]
    have := h j
    by_cases e : ns.getD j 0 = 0
    · rw [if_pos e, if_neg (by omega)]
    · rw [if_neg e, if_pos (by omega)]
theorem shT_share (ns : List Nat) : ∀ l, shT ns ns.length l = shareTo ns l
  | 0 => rfl
  | l + 1 => by simp only [shT, shareTo, shT_share ns l]
theorem shr_ew (ns : List Nat) (h : ∀ i, ns.getD i 0 ≤ 15) : shr ns ns.length = ew ns 15 := by
  rw [shr_eq ns h, shT_share, ← endW_share ns 14 (by omega)]
  simp [ew]
theorem pow15 (d : Nat) : 2 ^ (15 - d) ≤ 32768 := Nat.le_trans (Nat.pow_le_pow_right (by omega) (Nat.sub_le 15 d)) (by decide)
theorem shr_bound (ns : List Nat) : ∀ j, shr ns j ≤ j * 32768
  | 0 => by simp [shr]
  | j + 1 => by
    have h1 := shr_bound ns j
    have h2 := pow15 (ns.getD j 0)
    have h3 : (if ns.getD j 0 = 0 then 0 else 2 ^ (15 - ns.getD j 0)) ≤ 32768 := by
      split
      · exact Nat.zero_le _
      · exact h2
    rw [show shr ns (j + 1) = shr ns j + (if ns.getD j 0 = 0 then 0 else 2 ^ (15 - ns.getD j 0)) from rfl, Nat.add_mul, Nat.one_mul]
    exact Nat.add_le_add h1 h3
theorem shr_small (ns : List Nat) (j : Nat) (hj : j ≤ 288) : shr ns j ≤ 9437184 := Nat.le_trans (shr_bound ns j) (by omega)
/-- The share, -1 of what may not be. -/
def shareV (xs : List Int) : Int := if may xs = true then ((ew (nsOf xs) 15 : Nat) : Int) else -1
theorem shareV_no {xs : List Int} (h : may xs = false) : shareV xs = -1 := by unfold shareV; rw [h]; rfl
set_option maxRecDepth 20000 in
set_option maxHeartbeats 1000000 in
theorem share_ok (xs : List Int) (a : Option Addr) (c N : Nat) (w : World) (hN : xs.length = N) (hrow : IRow w a xs) (hlen : N ≤ 9223372036854775807) :
    Calls Tryd.prog 60 #[.slice a N c] w fun e w' => e = .returned (.int .i64 (shareV xs)) ∧ w' = w := by
  have HR : Hid (IRow w a xs) := hrow
  have HN : Hid (xs.length = N) := hN
  clear hrow hN
  go_enter Tryd.func60, Tryd.ntmps60
  by_cases h1 : 288 < N
  · have h1i : (288 : Int) < (N : Int) := by omega
    have hm : Hid (may xs = false) := by
      show _ = _
      cases e : may xs with
      | false => rfl
      | true => have := may_len e; rw [HN.out] at this; omega
    go_wp2
    go_ret
    exact ⟨by rw [shareV_no hm.out]; rfl, rfl⟩
  · have h1i : ¬ (288 : Int) < (N : Int) := by omega
    go_wp2
    go_loop [3, 4] (fun v3 v4 => ∃ (j : Nat) (S : Nat), v4 = .int .i64 j ∧ j ≤ N ∧ v3 = .int .i64 (S : Int) ∧ Hid (S = shr (nsOf xs) j ∧ ∀ i, i < j → 0 ≤ xs.getD i 0 ∧ xs.getD i 0 ≤ 15)) (fun _ v4 => N - (intOf v4).toNat)
    case atStart => exact ⟨0, 0, rfl, by omega, rfl, rfl, fun i hi => by omega⟩
    case round =>
      obtain ⟨j, S, rfl, hj, rfl, HS⟩ := hrel
      have hSb : S ≤ 9437184 := by rw [HS.out.1]; exact shr_small _ _ (by omega)
      by_cases hlt : j < N
      · have hlti : (j : Int) < (N : Int) := by omega
        obtain ⟨b, off, rfl, hcell, _⟩ := HR.out.at (show j < xs.length by rw [HN.out]; exact hlt)
        obtain ⟨F, hF⟩ : ∃ F, xs.getD j 0 = F := ⟨_, rfl⟩
        rw [hF] at hcell
        have HF : Hid (xs.getD j 0 = F) := hF
        clear hF
        by_cases h0 : F < 0
        · have hm : Hid (may xs = false) := may_no (by rw [HN.out]; exact hlt) (.inl (by rw [HF.out]; exact h0))
          go_wp2
          go_ret
          exact ⟨by rw [shareV_no hm.out]; rfl, rfl⟩
        · by_cases h15 : 15 < F
          · have hm : Hid (may xs = false) := may_no (by rw [HN.out]; exact hlt) (.inr (by rw [HF.out]; exact h15))
            go_wp2
            go_ret
            exact ⟨by rw [shareV_no hm.out]; rfl, rfl⟩
          · obtain ⟨f, rfl⟩ : ∃ f : Nat, F = (f : Int) := ⟨F.toNat, by omega⟩
            have hfn : (nsOf xs).getD j 0 = f := by rw [nsOf_get, HF.out]; simp
            have HS2 : Hid (∀ i, i < j + 1 → 0 ≤ xs.getD i 0 ∧ xs.getD i 0 ≤ 15) := fun i hi => by
              by_cases e : i = j
              · subst e; rw [HF.out]; omega
              · exact HS.out.2 i (by omega)
            by_cases hp : 0 < f
            · have hpi : (0 : Int) < (f : Int) := by omega
              obtain ⟨d, hd⟩ : ∃ d : Nat, 15 - f = d := ⟨_, rfl⟩
              have hdi : (15 : Int) - (f : Int) = (d : Int) := by omega
              obtain ⟨T, hT⟩ : ∃ T, 2 ^ d = T := ⟨_, rfl⟩
              have hTb : T ≤ 32768 := by rw [← hT, ← hd]; exact pow15 f
              have hsh : wrap64 ((2 : Int) ^ d) = (T : Int) := by
                have e : ((2 : Int) ^ d) = ((2 ^ d : Nat) : Int) := by simp
                rw [e, hT]
                unfold wrap64
                omega
              have HX : Hid (S + T = shr (nsOf xs) (j + 1)) := by
                show _ = _
                simp only [shr]
                rw [hfn, if_neg (by omega), hd, hT, ← HS.out.1]
              clear hd hT hfn
              go_wp2
              exact ⟨⟨j + 1, S + T, by go_num, by omega, by go_num, HX.out, HS2.out⟩, by simp [intOf]; omega⟩
            · have hpi : ¬ (0 : Int) < (f : Int) := by omega
              have HX : Hid (S = shr (nsOf xs) (j + 1)) := by
                show _ = _
                simp only [shr]
                rw [hfn, if_pos (by omega), ← HS.out.1]; rfl
              clear hfn
              go_wp2
              exact ⟨⟨j + 1, S, by go_num, by omega, rfl, HX.out, HS2.out⟩, by simp [intOf]; omega⟩
      · obtain rfl : j = N := by omega
        have hmay : may xs = true := may_yes (by rw [HN.out]; omega) (fun i hi => HS.out.2 i (by rw [← HN.out]; exact hi))
        have HE : Hid (shareV xs = (S : Int)) := by
          show _ = _
          unfold shareV
          rw [if_pos hmay, HS.out.1, ← shr_ew, nsOf_length, HN.out]
          intro i
          rw [nsOf_get]
          have := may_get hmay i
          omega
        clear hmay
        go_wp2
        go_ret
        exact ⟨by rw [HE.out]; rfl, rfl⟩
/-- Are lengths those of a code? -/
def isCode (xs : List Int) : Bool := may xs && decide (ew (nsOf xs) 15 ≤ 32768)
theorem isCode_iff (xs : List Int) : isCode xs = true ↔ (may xs = true ∧ ew (nsOf xs) 15 ≤ 32768) := by simp [isCode]
set_option maxRecDepth 20000 in
theorem may_ok (xs : List Int) (a : Option Addr) (c N : Nat) (w : World) (hN : xs.length = N) (hrow : IRow w a xs) (hlen : N ≤ 9223372036854775807) :
    Calls Tryd.prog 73 #[.slice a N c] w fun e w' => e = .returned (.bool (isCode xs)) ∧ w' = w := by
  have hs := share_ok xs a c N w hN hrow hlen
  obtain ⟨V, hV⟩ : ∃ V, shareV xs = V := ⟨_, rfl⟩
  rw [hV] at hs
  have HS : Hid (∀ _ : Unit, Calls Tryd.prog 60 #[.slice a N c] w fun e w' => e = .returned (.int .i64 V) ∧ w' = w) := fun _ => hs
  have HC : Hid (isCode xs = (decide (0 ≤ V) && decide (V ≤ 32768))) := by
    show _ = _
    rw [← hV]
    unfold isCode shareV
    cases may xs with
    | true =>
      simp only [if_true, Bool.true_and]
      by_cases e : ew (nsOf xs) 15 ≤ 32768
      · rw [decide_eq_true e, decide_eq_true (by omega), decide_eq_true (by omega)]; rfl
      · rw [decide_eq_false e, decide_eq_false (p := ((ew (nsOf xs) 15 : Nat) : Int) ≤ 32768) (by omega)]; simp
    | false => rfl
  clear hs hV hN hrow
  go_enter Tryd.func73, Tryd.ntmps73
  by_cases h0 : 0 ≤ V
  · go_wp2_with (go_at_call 60; refine (HS.out ()).mono ?_; rintro e w1 ⟨rfl, hw⟩; obtain rfl := hw.symm)
    go_ret
    exact ⟨by rw [HC.out, decide_eq_true h0]; simp, rfl⟩
  · go_wp2_with (go_at_call 60; refine (HS.out ()).mono ?_; rintro e w1 ⟨rfl, hw⟩; obtain rfl := hw.symm)
    go_ret
    exact ⟨by rw [HC.out, decide_eq_false (p := 0 ≤ V) (by omega)]; rfl, rfl⟩
end Go.Proofs.YtbcflkdaeboflaaDoor
