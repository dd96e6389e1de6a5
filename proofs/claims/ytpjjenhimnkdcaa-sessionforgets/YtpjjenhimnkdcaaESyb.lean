/- Layer 15: who waits for what was forgotten waits no more: the memory's side, the closure, the first of them. -/
import Derived.Test.YtpjjenhimnkdcaaESya
import Derived.Laws.IdiomCopy
namespace Go.Proofs.Ytpjjenhimnkdcaa
open Go.RowKit Go.Maps
set_option linter.unusedVariables false
set_option maxRecDepth 20000

theorem setCells_blk {E : TypeId} (g : Nat) : ∀ (vs : List Value) (o : Nat) (w : World) (cur : Array Value), w.heap[g]? = some (.cells cur E (0, 0)) → ∃ cur', (w.setCells g o vs).heap[g]? = some (.cells cur' E (0, 0)) ∧ cur'.size = cur.size ∧ ∀ m, m ≤ o → cur'.toList.take m = cur.toList.take m
  | [], o, w, cur, h => ⟨cur, h, rfl, fun _ _ => rfl⟩
  | v :: r, o, w, cur, h => by
    obtain ⟨cur', h1, h2, h3⟩ := setCells_blk g r (o + 1) _ _ (block_set (i := o) (u := v) h)
    refine ⟨cur', h1, by rw [h2]; simp, fun m hm => ?_⟩
    rw [h3 m (by omega)]
    simp only [Array.toList_setIfInBounds]
    rw [List.take_set_of_le hm]
theorem setCells_grown (g : Nat) : ∀ (vs : List Value) (o : Nat) (w : World), w.grownBy (w.setCells g o vs) (some g)
  | [], o, w => ⟨rfl, rfl, rfl, Nat.le_refl _, fun _ _ _ => rfl⟩
  | v :: r, o, w => by
    have ih := setCells_grown g r (o + 1) (w.setCell ⟨g, o, none⟩ v)
    have hs : (w.setCell ⟨g, o, none⟩ v).heap.size = w.heap.size := by simp
    refine ⟨ih.os, ih.tape, ih.output, by rw [← hs]; exact ih.size, fun k hk hne => ?_⟩
    rw [World.setCells, ih.block k (by rw [hs]; exact hk) hne]
    exact Below.heap_setCell _ _ _ _ (by simpa using hne)
theorem clear_ok {w : World} {g n wc : Nat} {A B : List Wt} (h : w.ownsRow 0 63 3 (.slice (some ⟨g, 0, none⟩) n wc) n (wcs (A ++ B))) (hn : n = A.length + B.length) (hB : 0 < B.length) (ty : TypeId) (c : Nat) :
    ∃ w', (Builtin.clear_ #[53] ty #[.slice (some ⟨g, A.length * 3, none⟩) B.length c]).run Try.prog w = .ok (.tuple #[]) w' ∧ w.grownBy w' (some g) ∧ w'.ownsRow 0 63 3 (.slice (some ⟨g, 0, none⟩) A.length wc) A.length (wcs A) := by
  have hA := rowTake (n' := A.length) h (by omega)
  rw [wcs_take] at hA
  rcases h.2 with ⟨e, _⟩ | ⟨g', cap, cur, e, h1, h2, h3, h4, h5, h6⟩
  · cases e
  cases e
  rcases hA.2 with ⟨e, _⟩ | ⟨g', cap, cur', e, k1, k2, k3, k4, k5, k6⟩
  · cases e
  cases e
  obtain rfl : cur = cur' := by rw [h2] at k2; cases k2; rfl
  have hlen : (Builtin.zeroCells #[.int .i64 0, .int .i64 0, .int .i64 0] B.length).toList.length = B.length * 3 := by simp [Builtin.zeroCells]
  have hst := run_storeCells_cells (P := Try.prog) g (A.length * 3) (Builtin.zeroCells #[.int .i64 0, .int .i64 0, .int .i64 0] B.length).toList 0 w
    (fun j hj => by
      rw [hlen] at hj
      have : A.length * 3 + 0 + j < cur.size := by omega
      simp [World.cell?, h2]
      omega)
    (fun j hj => by simp [World.frozen?, h2])
    (fun v hv => by
      simp only [Builtin.zeroCells, Array.toList_map, List.mem_map] at hv
      obtain ⟨i, _, rfl⟩ := hv
      have : i % 3 < 3 := Nat.mod_lt _ (by decide)
      show ((#[Value.int .i64 0, .int .i64 0, .int .i64 0] : Array Value)[i % 3]!).oneCell' = true
      generalize i % 3 = k at this
      match k, this with
      | 0, _ => rfl
      | 1, _ => rfl
      | 2, _ => rfl)
  simp only [Nat.add_zero] at hst
  refine ⟨w.setCells g (A.length * 3) (Builtin.zeroCells #[.int .i64 0, .int .i64 0, .int .i64 0] B.length).toList, ?_, setCells_grown g _ (A.length * 3) w, ?_⟩
  rotate_left
  · obtain ⟨cur2, e1, e2, e3⟩ := setCells_blk g (Builtin.zeroCells #[.int .i64 0, .int .i64 0, .int .i64 0] B.length).toList (A.length * 3) w cur h2
    exact ⟨hA.1, .inr ⟨g, wc, cur2, rfl, k1, e1, k3, k4, by rw [e2]; exact k5, by rw [e3 _ (Nat.le_refl _)]; exact k6⟩⟩
  · obtain ⟨m, hm⟩ : ∃ m, B.length = m + 1 := ⟨B.length - 1, by omega⟩
    rw [hm] at hst ⊢
    simp [Builtin.clear_, run_underlying Try.underlying53, Value.cells, hst]
/-- Who waits is fewer. -/
theorem TS.drop {w w1 : World} {t mb q : Nat} {L : List Bt} {V A : List Wt} {wv v' : Value} (h : TS w t mb q L V) (hc : w.cell? ⟨t, 4, none⟩ = some wv) (hg : w.grownBy w1 wv.ownBlock) (hrow : w1.ownsRow 0 63 3 v' A.length (wcs A)) (hv : v'.ownBlock = wv.ownBlock) (hl : A.length ≤ V.length) :
    TS (w1.setCell ⟨t, 4, none⟩ v') t mb q L A ∧ TFr t mb w (w1.setCell ⟨t, 4, none⟩ v') := by
  obtain ⟨ov, wv', h1, h2, h3⟩ := h.blk
  obtain ⟨es, cc, hmb⟩ := h.map.blk
  obtain rfl : wv' = wv := by simpa [World.cell?, h1] using hc
  have ht : some t ≠ wv'.ownBlock := fun e => rowNe h3 h1 (by decide) e.symm
  have hm : some mb ≠ wv'.ownBlock := fun e => rowNeM h3 hmb e.symm
  have hb1 := (hg.block t h.lt ht).trans h1
  have hF := TFr.grow (t := t) (mb := mb) hg (fun k hk e => (hk.2.2.2 _ _ _ h1).2 (by simpa using e)) (fun e => ht e.symm) h.lt
  have hset : ∀ k, k ≠ t → (w1.setCell ⟨t, 4, none⟩ v').heap[k]? = w1.heap[k]? := fun k hk => Below.heap_setCell _ _ _ _ (by exact hk)
  refine ⟨⟨⟨ov, v', block_set hb1, rowBlock h2 fun k hk => ?_, rowBlock hrow fun k hk => ?_⟩, h.map.block ((hset mb h.apart.symm).trans (hg.block mb h.map.lt hm)), h.ok, h.rise, h.uniq, h.lenL, Nat.le_trans hl h.lenV, h.hq⟩, ?_⟩
  · obtain ⟨l1, cs, l2⟩ := rowLt h2 hk
    rw [hset k (by rintro rfl; exact rowNe h2 h1 (by decide) hk)]
    exact hg.block k l1 (fun e => rowNe h3 l2 (by decide) e.symm)
  · exact hset k (by rintro rfl; exact rowNe hrow hb1 (by decide) hk)
  · exact hF.store4 hb1 _ fun k hk e => (hk.2.2.2 _ _ _ h1).2 (by rw [hv] at e; simpa using e)
end Go.Proofs.Ytpjjenhimnkdcaa
