/- Layer 15: Cut's loop: the last batches are forgotten. -/
import Derived.Test.YtpjjenhimnkdcaaV10
namespace Go.Proofs.Ytpjjenhimnkdcaa
open Go.RowKit Go.Maps
set_option linter.unusedVariables false
set_option maxRecDepth 20000

theorem rowTake {w : World} {B : Nat} {E : TypeId} {size n n' c g : Nat} {xs : List Value} (h : w.ownsRow B E size (.slice (some ⟨g, 0, none⟩) n c) n xs) (hn : n' ≤ n) : w.ownsRow B E size (.slice (some ⟨g, 0, none⟩) n' c) n' (xs.take (n' * size)) := by
  have hm : n' * size ≤ n * size := Nat.mul_le_mul_right _ hn
  rcases h.2 with ⟨e, _⟩ | ⟨g', cap, cur, e, h1, h2, h3, h4, h5, h6⟩
  · cases e
  · cases e
    refine ⟨by rw [List.length_take, h.1]; omega, .inr ⟨g, c, cur, rfl, h1, h2, by omega, h4, h5, ?_⟩⟩
    rw [← h6, List.take_take, Nat.min_eq_left hm]
theorem ics_take (M S : List Bt) : (ics (M ++ S)).take (M.length * 2) = ics M := by
  rw [ics_append, ← ics_length, List.take_left]
theorem wcs_take (M S : List Wt) : (wcs (M ++ S)).take (M.length * 3) = wcs M := by
  rw [wcs_append, ← wcs_length, List.take_left]
/-- The last batch goes. -/
theorem TS.pop {w w1 : World} {t mb q g N oc : Nat} {M : List Bt} {b : Bt} {V : List Wt} (h : TS w t mb q (M ++ [b]) V) (hm : MO w1 mb M) (hg : w.grownBy w1 (some mb)) (hc : w.cell? ⟨t, 3, none⟩ = some (.slice (some ⟨g, 0, none⟩) N oc)) :
    TS (w1.setCell ⟨t, 3, none⟩ (.slice (some ⟨g, 0, none⟩) M.length oc)) t mb q M V ∧ TFr t mb w (w1.setCell ⟨t, 3, none⟩ (.slice (some ⟨g, 0, none⟩) M.length oc)) := by
  obtain ⟨ov, wv, h1, h2, h3⟩ := h.blk
  obtain ⟨es, cc, hmb⟩ := h.map.blk
  obtain rfl : ov = .slice (some ⟨g, 0, none⟩) N oc := by simpa [World.cell?, h1] using hc
  obtain ⟨a, c, e⟩ := rowForm h2
  have hN : N = (M ++ [b]).length := by cases e; rfl
  subst hN
  have htm := h.apart
  have hb1 : w1.heap[t]? = some (.cells #[.pointer (some ⟨t, 0, none⟩), .int .i64 (q : Nat), .map (some mb), .slice (some ⟨g, 0, none⟩) (M ++ [b]).length oc, wv] 55 (0, 0)) := (hg.block t h.lt (by simpa using htm)).trans h1
  have hF := TFr.grow (t := t) (mb := mb) hg (fun k hk e => hk.2.2.1 (by simpa using e.symm)) (fun e => htm (by simpa using e.symm)) h.lt
  have hset : ∀ k v, k ≠ t → (w1.setCell ⟨t, 3, none⟩ v).heap[k]? = w1.heap[k]? := fun k v hk => Below.heap_setCell _ _ _ _ (by exact hk)
  have hown : ∀ {E : TypeId} {size n : Nat} {v : Value} {xs : List Value}, w.ownsRow 0 E size v n xs → E ≠ 55 → ∀ u, (w1.setCell ⟨t, 3, none⟩ u).ownsRow 0 E size v n xs := fun hr hE u => rowBlock hr fun k hk => by
    have hkt : k ≠ t := by rintro rfl; exact rowNe hr h1 (fun e => hE e.symm) hk
    rw [hset k _ hkt]
    exact hg.block k (rowLt hr hk).1 (fun e => rowNeM hr hmb (by rw [hk, ← e]))
  have hrow := hown h2 (by decide) (.slice (some ⟨g, 0, none⟩) M.length oc)
  have hrow' := rowTake (n' := M.length) hrow (by simp)
  rw [ics_take] at hrow'
  refine ⟨⟨⟨_, wv, block_set hb1, hrow', hown h3 (by decide) _⟩, hm.block (hset mb _ htm.symm), fun x hx => h.ok x (by simp [hx]), (List.pairwise_append.1 h.rise).1, (List.pairwise_append.1 h.uniq).1, by have := h.lenL; simp at this; omega, h.lenV, h.hq⟩, ?_⟩
  refine hF.store3 hb1 _ fun k hk e => ?_
  have := (hk.2.2.2 _ _ _ h1).1
  exact this (by simpa [Value.ownBlock] using e)
def ordN (w : World) (t : Nat) : Nat := match w.cell? ⟨t, 3, none⟩ with | some (.slice _ n _) => n | _ => 0
theorem TS.ordN {w : World} {t mb q : Nat} {L : List Bt} {V : List Wt} (h : TS w t mb q L V) : ordN w t = L.length := by
  obtain ⟨oa, oc, wa, wc, hb, _⟩ := h.rows
  have : w.cell? ⟨t, 3, none⟩ = some (.slice oa L.length oc) := by simp [World.cell?, hb]
  unfold Ytpjjenhimnkdcaa.ordN
  rw [this]
end Go.Proofs.Ytpjjenhimnkdcaa
