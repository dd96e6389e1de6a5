/- Packs of one symbol each, the rarest first. -/
import Derived.Test.YtklipommocijaaaGg
namespace Go.Proofs.Ytklipommocijaaa
open Go.RowKit PT Go.Sort
set_option linter.unusedVariables false

/-- Numbers in a row: a nil slice has none. -/
def IRow (w : World) (a : Option Addr) (xs : List Int) : Prop := xs = [] ∨ ∃ b off, a = some ⟨b, off, none⟩ ∧ b < w.heap.size ∧ ∀ i, i < xs.length → w.cell? ⟨b, off + i, none⟩ = some (.int .i64 (xs.getD i 0))
theorem IRow.at {w : World} {a : Option Addr} {xs : List Int} (h : IRow w a xs) {i : Nat} (hi : i < xs.length) : ∃ b off, a = some ⟨b, off, none⟩ ∧ w.cell? ⟨b, off + i, none⟩ = some (.int .i64 (xs.getD i 0)) ∧ b < w.heap.size := by
  rcases h with rfl | ⟨b, off, rfl, hb, h⟩
  · simp at hi
  · exact ⟨b, off, rfl, h i hi, hb⟩
theorem IRow.below {w w' : World} {a : Option Addr} {xs : List Int} (h : IRow w a xs) (hb : Below w.heap.size w w') : IRow w' a xs := by
  rcases h with rfl | ⟨b, off, rfl, hlt, h⟩
  · exact .inl rfl
  · exact .inr ⟨b, off, rfl, Nat.lt_of_lt_of_le hlt hb.size, fun i hi => by rw [hb.cell hlt]; exact h i hi⟩

/-- The symbols below n that come, in their order, with how often. -/
def comes (fs : List Int) (n : Nat) : List Nat := (List.range n).filter fun s => 0 < fs.getD s 0
theorem comes_succ (fs : List Int) (n : Nat) : comes fs (n + 1) = if 0 < fs.getD n 0 then comes fs n ++ [n] else comes fs n := by
  unfold comes
  rw [List.range_succ, List.filter_append]
  by_cases h : 0 < fs.getD n 0
  · rw [if_pos h, List.filter_cons_of_pos (by simpa using h)]; rfl
  · rw [if_neg h, List.filter_cons_of_neg (by simpa using h)]; simp
theorem comes_lt {fs : List Int} {n s : Nat} (h : s ∈ comes fs n) : s < n ∧ 0 < fs.getD s 0 := by
  unfold comes at h
  simp only [List.mem_filter, List.mem_range, decide_eq_true_eq] at h
  exact h
theorem comes_length_le (fs : List Int) (n : Nat) : (comes fs n).length ≤ n := by
  have := List.length_filter_le (fun s => decide (0 < fs.getD s 0)) (List.range n)
  simpa [comes] using this

/-- Each pack is a symbol's, in order. -/
def Leaves (fs : List Int) (ss : List Nat) (l : List PT) : Prop := l.map (fun t => (t.syms, t.wt, t.lf)) = ss.map fun s => ([s], (fs.getD s 0).toNat, true)
theorem Leaves.snoc {fs : List Int} {ss : List Nat} {l : List PT} (h : Leaves fs ss l) (s x y : Nat) : Leaves fs (ss ++ [s]) (l ++ [PT.leaf s (fs.getD s 0).toNat x y]) := by
  unfold Leaves at *
  rw [List.map_append, List.map_append, h]
  rfl
theorem Leaves.length {fs : List Int} {ss : List Nat} {l : List PT} (h : Leaves fs ss l) : l.length = ss.length := by
  have := congrArg List.length h
  simpa using this

structure SingSt (w wr : World) (L n X : Nat) (fs : List Int) (j : Nat) (l : List PT) (v : Value) : Prop where
  leaves : Leaves fs (comes fs j) l
  own : wr.ownsRow w.heap.size 57 2 v l.length (pcs l)
  xlens : wr.cell? ⟨X, 0, none⟩ = some (.slice (some ⟨L, 0, none⟩) n n) ∧ v.ownBlock ≠ some X
  laid : ∀ t ∈ l, ∃ s f y, t = PT.leaf s f X y ∧ s < n ∧ y ≠ L ∧ wr.cell? ⟨y, 0, none⟩ = some (.int .i64 (s : Nat)) ∧ v.ownBlock ≠ some y
  bel : Below w.heap.size w wr

theorem SingSt.skip {w wr wr' : World} {L n X j : Nat} {fs : List Int} {l : List PT} {v : Value} (h : SingSt w wr L n X fs j l v) (hb : Below wr.heap.size wr wr') (hf : ¬ 0 < fs.getD j 0) : SingSt w wr' L n X fs (j + 1) l v := by
  refine ⟨by rw [comes_succ, if_neg hf]; exact h.leaves, owns_below h.own hb, ⟨by rw [hb.cell (lt_cell h.xlens.1)]; exact h.xlens.1, h.xlens.2⟩, fun t ht => ?_, h.bel.trans (hb.mono h.bel.size)⟩
  obtain ⟨s, f, y, e, h1, h2, h3, h4⟩ := h.laid t ht
  exact ⟨s, f, y, e, h1, h2, by rw [hb.cell (lt_cell h3)]; exact h3, h4⟩
theorem SingSt.more {w wr w1 : World} {L n X j g cap : Nat} {fs : List Int} {l : List PT} {v : Value} {o1 o2 : Obj} (h : SingSt w wr L n X fs j l v) (hf : 0 < fs.getD j 0) (hj : j < n) (hL : L < w.heap.size)
    (hy : (wr.alloc o1).cell? ⟨wr.heap.size, 0, none⟩ = some (.int .i64 (j : Nat)))
    (hown : w1.ownsRow w.heap.size 57 2 (.slice (some ⟨g, 0, none⟩) (l.length + 1) cap) (l.length + 1) (pcs l ++ [.int .i64 ((PT.leaf j (fs.getD j 0).toNat X wr.heap.size).wt : Nat), (PT.leaf j (fs.getD j 0).toNat X wr.heap.size).fv]))
    (hgrow : ((wr.alloc o1).alloc o2).grownBy w1 v.ownBlock) (hat : v.ownBlock = some g ∨ g = ((wr.alloc o1).alloc o2).heap.size) :
    SingSt w w1 L n X fs (j + 1) (l ++ [PT.leaf j (fs.getD j 0).toNat X wr.heap.size]) (.slice (some ⟨g, 0, none⟩) (l.length + 1) cap) := by
  have hal : Below wr.heap.size wr ((wr.alloc o1).alloc o2) := ((Below.refl _ _).alloc (Nat.le_refl _) _).alloc (by simp) _
  have hbA : Below w.heap.size w ((wr.alloc o1).alloc o2) := h.bel.trans (hal.mono h.bel.size)
  have hoA := owns_below h.own hal
  have keep : ∀ {k i : Nat} {u : Value}, wr.cell? ⟨k, i, none⟩ = some u → v.ownBlock ≠ some k → w1.cell? ⟨k, i, none⟩ = some u := fun {k i u} hc hk =>
    grown_cell hgrow (by rw [hal.cell (lt_cell hc)]; exact hc) hk
  have notnew : ∀ {k : Nat}, k < ((wr.alloc o1).alloc o2).heap.size → v.ownBlock ≠ some k → (Value.slice (some ⟨g, 0, none⟩) (l.length + 1) cap).ownBlock ≠ some k := fun {k} hc hk e => by
    have e' : g = k := by simpa [Value.ownBlock] using e
    subst e'
    rcases hat with h' | h'
    · exact hk h'
    · omega
  have oy := own_lt h.own (Nat.le_refl _)
  have hsz : wr.heap.size < ((wr.alloc o1).alloc o2).heap.size := by simp; omega
  refine ⟨by rw [comes_succ, if_pos hf]; exact h.leaves.snoc _ _ _, ?_, ⟨keep h.xlens.1 h.xlens.2, notnew (Nat.lt_trans (lt_cell h.xlens.1) hsz) h.xlens.2⟩, ?_, hbA.trans (below_grown hoA hgrow hbA.size)⟩
  · rw [pcs_append, List.length_append]; exact hown
  · intro t ht
    rcases List.mem_append.1 ht with ht | ht
    · obtain ⟨s, f, y, e, h1, h2, h3, h4⟩ := h.laid t ht
      exact ⟨s, f, y, e, h1, h2, keep h3 h4, notnew (Nat.lt_trans (lt_cell h3) hsz) h4⟩
    · simp only [List.mem_cons, List.not_mem_nil, or_false] at ht
      subst ht
      refine ⟨j, _, _, rfl, hj, by have := h.bel.size; omega, ?_, notnew hsz oy⟩
      refine grown_cell hgrow ?_ oy
      have hal2 : Below (wr.alloc o1).heap.size (wr.alloc o1) ((wr.alloc o1).alloc o2) := (Below.refl _ _).alloc (Nat.le_refl _) _
      rw [hal2.cell (lt_cell hy)]; exact hy
theorem SingSt.all_laid {w wr : World} {L n X j : Nat} {fs : List Int} {l : List PT} {v : Value} (h : SingSt w wr L n X fs j l v) (hX : X ≠ L) : ∀ t ∈ l, Laid wr L n t := fun t ht => by
  obtain ⟨s, f, y, rfl, h1, h2, h3, h4⟩ := h.laid t ht
  exact .leaf h1 hX h2 h.xlens.1 h3

/-! ### A world of the sort's -/
theorem swk_other {w0 w : World} {blk off : Nat} {d : Array PT} (h : SWK PT.enc 2 w0 blk off d w) (hblk : blk < w0.heap.size) {B : Nat} (hB : B ≤ blk) : Below B w0 w := by
  obtain ⟨m, os, rfl⟩ := h
  refine ⟨rfl, rfl, rfl, size_sortWorldK_c _ _ _ _ _ _ _ _, fun k hk => ?_⟩
  unfold sortWorldK
  rw [heap_grow_old _ _ (by rw [size_putRowK]; show k < w0.heap.size; omega)]
  show (w0.heap.modify blk _)[k]? = _
  rw [Array.getElem?_modify, if_neg (by omega)]
theorem swk_cell {w0 w : World} {blk off : Nat} {d : Array PT} (h : SWK PT.enc 2 w0 blk off d w) {k i : Nat} {v : Value} (hk : k ≠ blk) (hc : w0.cell? ⟨k, i, none⟩ = some v) : w.cell? ⟨k, i, none⟩ = some v := by
  obtain ⟨m, os, rfl⟩ := h
  unfold sortWorldK
  rw [cell?_grow _ _ _ (by rw [size_putRowK]; exact lt_cell hc), cell?_putRowK_other _ _ _ _ _ _ _ hk]
  exact hc
theorem pcs_flat : ∀ (l : List PT) (j : Nat), j < l.length * 2 → (pcs l)[j]? = some ((PT.enc l.toArray[j / 2]!)[j % 2]!)
  | [], j, h => by simp at h
  | t :: l, 0, h => rfl
  | t :: l, 1, h => rfl
  | t :: l, j + 2, h => by
    have e1 : (j + 2) / 2 = j / 2 + 1 := by omega
    have e2 : (j + 2) % 2 = j % 2 := by omega
    have := pcs_flat l j (by simp at h; omega)
    rw [e1, e2]
    have e3 : (t :: l).toArray[j / 2 + 1]! = l.toArray[j / 2]! := by simp [List.getElem!_eq_getElem?_getD]
    rw [e3]
    exact this
theorem row_holds {w : World} {B g cap : Nat} {l : List PT} (h : w.ownsRow B 57 2 (.slice (some ⟨g, 0, none⟩) l.length cap) l.length (pcs l)) : HoldsK PT.enc 2 w g 0 l.toArray := by
  intro j hj
  rw [size_flatK] at hj
  rw [get_flatK _ _ _ _ hj]
  have hj' : j < l.length * 2 := by simpa using hj
  have hf := pcs_flat l j hj'
  have hc := h.cells (g := g) rfl j _ hf
  rw [add_zero_addr] at hc
  rw [Nat.zero_add]
  refine ⟨hc, ?_⟩
  rcases h.2 with ⟨e, _⟩ | ⟨g', cap', cur, e, _, hh, _⟩
  · cases e
  · cases e
    simp [World.frozen?, hh]
theorem holds_row {w : World} {blk off : Nat} {d : Array PT} (h : HoldsK PT.enc 2 w blk off d) : PRow w blk off d.toList := fun i t ht => by
  have hi : i < d.size := by
    rcases Nat.lt_or_ge i d.size with h' | h'
    · exact h'
    · rw [List.getElem?_eq_none (by simpa using h')] at ht; cases ht
  have ht' : d[i]! = t := by
    rw [getElem!_pos d i hi]
    rw [Array.getElem?_toList, Array.getElem?_eq_getElem hi] at ht
    exact Option.some.inj ht
  have h0 := (HoldsK.cell h hi (c := 0) (by omega)).1
  have h1 := (HoldsK.cell h hi (c := 1) (by omega)).1
  rw [ht'] at h0 h1
  exact ⟨h0, h1⟩
end Go.Proofs.Ytklipommocijaaa
