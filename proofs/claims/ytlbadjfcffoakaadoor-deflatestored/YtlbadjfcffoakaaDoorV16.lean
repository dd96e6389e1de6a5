/- A table: what it holds, and how it is made. -/
/- A table is made. -/
/- The document's share of lengths. -/
import Derived.Test.YtlbadjfcffoakaaDoorV14
import Derived.Test.YtlbadjfcffoakaaDoorV15
import Derived.Deep.RegionHeldLaw
import Derived.Deep.AppendLies
import Derived.Deep.RegionLaw
namespace Go.Proofs.YtlbadjfcffoakaaDoor
open Go.RowKit
set_option linter.unusedVariables false
set_option maxRecDepth 20000

def ics (l : List Nat) : List Value := l.map fun x => Value.int .i64 (x : Nat)
theorem ics_length (l : List Nat) : (ics l).length = l.length := by simp [ics]
theorem ics_snoc (l : List Nat) (x : Nat) : ics (l ++ [x]) = ics l ++ [.int .i64 (x : Nat)] := by simp [ics]
def tcs (t share : Nat) (R : Nat → Value) : Array Value := ((List.range 20).map fun i => if i = 0 then Value.pointer (some ⟨t, 0, none⟩) else if i = 19 then .int .i64 (share : Nat) else R (i - 1)).toArray
theorem tcs_size (t share : Nat) (R : Nat → Value) : (tcs t share R).size = 20 := by simp [tcs]
theorem tcs_get (t share : Nat) (R : Nat → Value) (i : Nat) (hi : i < 20) : (tcs t share R)[i]? = some (if i = 0 then Value.pointer (some ⟨t, 0, none⟩) else if i = 19 then .int .i64 (share : Nat) else R (i - 1)) := by simp [tcs, hi]
def upd {α : Type} (f : Nat → α) (k : Nat) (x : α) : Nat → α := fun i => if i = k then x else f i
theorem upd_at {α : Type} (f : Nat → α) (k : Nat) (x : α) : upd f k x k = x := by simp [upd]
theorem upd_ne {α : Type} (f : Nat → α) (k : Nat) (x : α) {i : Nat} (h : i ≠ k) : upd f k x i = f i := by simp [upd, h]
theorem tcs_set (t share : Nat) (R : Nat → Value) (k : Nat) (hk : k < 18) (v : Value) : (tcs t share R).setIfInBounds (k + 1) v = tcs t share (upd R k v) := by
  apply Array.ext_getElem?
  intro i
  rw [Array.getElem?_setIfInBounds]
  by_cases hi : i < 20
  · rw [tcs_get _ _ _ _ hi, tcs_get _ _ _ _ hi, tcs_size]
    by_cases e : k + 1 = i
    · subst e
      rw [if_pos rfl, if_pos (by omega), if_neg (by omega), if_neg (by omega), Nat.add_sub_cancel, upd_at]
    · rw [if_neg e]
      by_cases e0 : i = 0
      · rw [if_pos e0, if_pos e0]
      · rw [if_neg e0, if_neg e0]
        by_cases e9 : i = 19
        · rw [if_pos e9, if_pos e9]
        · rw [if_neg e9, if_neg e9, upd_ne _ _ _ (by omega)]
  · rw [Array.getElem?_eq_none (by rw [tcs_size]; omega), Array.getElem?_eq_none (by rw [tcs_size]; omega)]
    rw [if_neg (by omega)]
theorem tcs_zero (t share : Nat) : (#[.pointer (some ⟨t, 0, none⟩), .slice none 0 0, .slice none 0 0, .slice none 0 0, .slice none 0 0, .slice none 0 0, .slice none 0 0, .slice none 0 0, .slice none 0 0, .slice none 0 0, .slice none 0 0, .slice none 0 0, .slice none 0 0, .slice none 0 0, .slice none 0 0, .slice none 0 0, .slice none 0 0, .slice none 0 0, .slice none 0 0, .int .i64 (share : Nat)] : Array Value) = tcs t share (fun _ => .slice none 0 0) := by
  unfold tcs
  rw [show List.range 20 = [0, 1, 2, 3, 4, 5, 6, 7, 8, 9, 10, 11, 12, 13, 14, 15, 16, 17, 18, 19] from by decide]
  rfl

structure TabSt (w wr : World) (B t L N share : Nat) (cws : Nat → Nat) (R : Nat → Value) (X : Nat → List Nat) : Prop where
  blk : wr.heap[t]? = some (.cells (tcs t share R) 131 (0, 0))
  own : ∀ k, k < 18 → wr.ownsRow B 3 1 (R k) (X k).length (ics (X k))
  apart : ∀ j k, j < 18 → k < 18 → j ≠ k → ∀ g, (R j).ownBlock = some g → (R k).ownBlock ≠ some g
  notL : ∀ k, k < 18 → (R k).ownBlock ≠ some L
  words : LB wr L N cws
  bel : Below B w wr
  tge : B ≤ t
  bsz : B ≤ wr.heap.size
theorem TabSt.cell {w wr : World} {B t L N share : Nat} {cws : Nat → Nat} {R : Nat → Value} {X : Nat → List Nat} (h : TabSt w wr B t L N share cws R X) {k : Nat} (hk : k < 18) : wr.cell? ⟨t, k + 1, none⟩ = some (R k) ∧ wr.frozen? ⟨t, k + 1, none⟩ = false := by
  have h1 := h.blk
  have h2 := tcs_get t share R (k + 1) (by omega)
  rw [if_neg (by omega), if_neg (by omega), Nat.add_sub_cancel] at h2
  exact ⟨by simp [World.cell?, h1, h2], by simp [World.frozen?, h1]⟩
theorem TabSt.notT {w wr : World} {B t L N share : Nat} {cws : Nat → Nat} {R : Nat → Value} {X : Nat → List Nat} (h : TabSt w wr B t L N share cws R X) {k : Nat} (hk : k < 18) : (R k).ownBlock ≠ some t := by
  intro e
  rcases (h.own k hk).2 with ⟨e1, _⟩ | ⟨g, cap, cur, e1, _, e2, _⟩
  · rw [e1] at e; simp [Value.ownBlock] at e
  · rw [e1] at e
    simp [Value.ownBlock] at e
    subst e
    rw [h.blk] at e2
    simp at e2
theorem TabSt.put {w wr w1 : World} {B t L N share : Nat} {cws : Nat → Nat} {R : Nat → Value} {X : Nat → List Nat} (h : TabSt w wr B t L N share cws R X) {k : Nat} (hk : k < 18) {x g cap : Nat} {o : Obj} {d : Nat} {n : Nat} (hn : n = (X k).length)
    (hown : w1.ownsRow B 3 1 (.slice (some ⟨g, 0, none⟩) (n + 1) cap) (n + 1) (ics (X k) ++ [.int .i64 (x : Nat)])) (hg : ((wr.drewN d).alloc o).grownBy w1 (R k).ownBlock) (hat : (R k).ownBlock = some g ∨ g = ((wr.drewN d).alloc o).heap.size) :
    TabSt w (w1.setCell ⟨t, k + 1, none⟩ (.slice (some ⟨g, 0, none⟩) (n + 1) cap)) B t L N share cws (upd R k (.slice (some ⟨g, 0, none⟩) (n + 1) cap)) (upd X k (X k ++ [x])) := by
  subst hn
  have hsz : ((wr.drewN d).alloc o).heap.size = wr.heap.size + 1 := by simp
  have htlt := lt_heap h.blk
  have hLlt := lt_heap h.words
  have hold : ∀ i, i < wr.heap.size → (R k).ownBlock ≠ some i → w1.heap[i]? = wr.heap[i]? := fun i hi hne => by
    rw [hg.block i (by omega) (fun e => hne e.symm)]
    exact heap_alloc_old (wr.drewN d) o hi
  have hblk1 : w1.heap[t]? = some (.cells (tcs t share R) 131 (0, 0)) := by rw [hold t htlt (h.notT hk)]; exact h.blk
  have hgt : g ≠ t := by
    rcases hat with e | e
    · intro e2; rw [e2] at e; exact h.notT hk e
    · omega
  have hgL : g ≠ L := by
    rcases hat with e | e
    · intro e2; rw [e2] at e; exact h.notL k hk e
    · omega
  have hset : ∀ i, i ≠ t → (w1.setCell ⟨t, k + 1, none⟩ (.slice (some ⟨g, 0, none⟩) ((X k).length + 1) cap)).heap[i]? = w1.heap[i]? := fun i hi => Below.heap_setCell _ _ _ _ hi
  have hsize : w1.heap.size = (w1.setCell ⟨t, k + 1, none⟩ (.slice (some ⟨g, 0, none⟩) ((X k).length + 1) cap)).heap.size := by simp [World.setCell]
  have hgs := hg.size
  refine ⟨?_, ?_, ?_, ?_, ?_, ?_, h.tge, by have := h.bsz; omega⟩
  · rw [← tcs_set t share R k hk]
    exact setCell_block hblk1
  · intro j hj
    by_cases e : j = k
    · subst e
      rw [upd_at, upd_at, ics_snoc, List.length_append]
      refine ⟨hown.1, ?_⟩
      rcases hown.2 with ⟨e1, _⟩ | ⟨g', cap', cur, e1, e2, e3, e4⟩
      · cases e1
      · refine .inr ⟨g', cap', cur, e1, e2, ?_, e4⟩
        have : g' = g := by simp at e1; exact e1.1.symm
        rw [hset g' (by omega)]; exact e3
    · rw [upd_ne _ _ _ e, upd_ne _ _ _ e]
      have ho := h.own j hj
      refine ⟨ho.1, ?_⟩
      rcases ho.2 with e1 | ⟨g', cap', cur, e1, e2, e3, e4⟩
      · exact .inl e1
      · refine .inr ⟨g', cap', cur, e1, e2, ?_, e4⟩
        have hb : (R j).ownBlock = some g' := by rw [e1]; rfl
        have hne := h.apart j k hj hk e g' hb
        have hnt : g' ≠ t := fun e' => h.notT hj (by rw [hb, e'])
        rw [hset g' hnt, hold g' (lt_heap e3) hne]; exact e3
  · intro i j hi hj hij g' hg'
    by_cases e : i = k
    · subst e
      rw [upd_at] at hg'
      simp [Value.ownBlock] at hg'
      subst hg'
      rw [upd_ne _ _ _ (Ne.symm hij)]
      rcases hat with e | e
      · exact h.apart i j hi hj hij _ e
      · intro e2
        have := ((h.own j hj).lt _ e2).2
        omega
    · rw [upd_ne _ _ _ e] at hg'
      by_cases e2 : j = k
      · subst e2
        rw [upd_at]
        simp only [Value.ownBlock, ne_eq, Option.some.injEq]
        rcases hat with e3 | e3
        · intro e4; subst e4; exact h.apart i j hi hj hij _ hg' e3
        · have := ((h.own i hi).lt _ hg').2
          omega
      · rw [upd_ne _ _ _ e2]
        exact h.apart i j hi hj hij g' hg'
  · intro j hj
    by_cases e : j = k
    · subst e
      rw [upd_at]
      simp only [Value.ownBlock, ne_eq, Option.some.injEq]
      exact hgL
    · rw [upd_ne _ _ _ e]; exact h.notL j hj
  · have htL : L ≠ t := by
      intro e
      have := h.words
      unfold LB at this
      rw [e, h.blk] at this
      simp at this
    unfold LB
    rw [hset L htL, hold L hLlt (h.notL k hk)]
    exact h.words
  · have hb := h.bel
    refine ⟨?_, ?_, ?_, ?_, ?_⟩
    · exact hg.os.trans hb.os
    · exact hg.tape.trans hb.tape
    · exact hg.output.trans hb.output
    · rw [← hsize]; have := hb.size; omega
    · intro i hi
      have h1 := h.tge
      rw [hset i (by omega), hold i (Nat.lt_of_lt_of_le hi h.bsz) (fun e => by have := ((h.own k hk).lt i e).1; omega)]
      exact hb.block i hi
theorem TabSt.drewN {w wr : World} {B t L N share : Nat} {cws : Nat → Nat} {R : Nat → Value} {X : Nat → List Nat} (h : TabSt w wr B t L N share cws R X) (k : Nat) : TabSt w (wr.drewN k) B t L N share cws R X :=
  ⟨h.blk, h.own, h.apart, h.notL, h.words, ⟨h.bel.os, h.bel.tape, h.bel.output, h.bel.size, h.bel.block⟩, h.tge, h.bsz⟩
def symsOf (ns : List Nat) (l i : Nat) : List Nat := (List.range i).filter fun s => decide (ns.getD s 0 = l ∧ 0 < l)
def tX (ns : List Nat) (i k : Nat) : List Nat := if k = 0 then (List.range i).map (fun s => ns.getD s 0) else if k = 1 then (List.range i).map (fun s => rv (cw ns s) (ns.getD s 0)) else symsOf ns (k - 2) i
end Go.Proofs.YtlbadjfcffoakaaDoor
namespace Go.Proofs.YtlbadjfcffoakaaDoor
open Go.RowKit
set_option linter.unusedVariables false
set_option maxRecDepth 20000

theorem cw_fits {xs : List Int} (h : may xs = true) (hf : ew (nsOf xs) 15 ≤ 32768) (i : Nat) (hi : i < xs.length) : cw (nsOf xs) i < 2 ^ (nsOf xs).getD i 0 := by
  unfold cw
  split
  · exact Nat.pos_of_ne_zero (by simp)
  · have h15 : (nsOf xs).getD i 0 ≤ 15 := by rw [nsOf_get]; have := may_get h i; omega
    refine codeW_fits (nsOf xs) i (by rw [nsOf_length]; exact hi) (by omega) h15 ?_
    have e := endW_share (nsOf xs) 14 (by omega)
    have : ew (nsOf xs) 15 = endW (nsOf xs) 15 := rfl
    simp at e
    omega
theorem tX_zero (ns : List Nat) (k : Nat) : tX ns 0 k = [] := by unfold tX symsOf; simp
theorem TabSt.start {w w3 : World} {L N sh : Nat} {ns : List Nat} (hb : Below w.heap.size w w3) (hl : LB w3 L N (cw ns)) : TabSt w (w3.alloc (.cells (tcs w3.heap.size sh (fun _ => .slice none 0 0)) 131)) w.heap.size w3.heap.size L N sh (cw ns) (fun _ => .slice none 0 0) (tX ns 0) := by
  refine ⟨heap_alloc_last _ _, fun k _ => ?_, fun j k _ _ _ g hg => by simp [Value.ownBlock] at hg, fun k _ => by simp [Value.ownBlock], ?_, hb.alloc hb.size _, hb.size, by have := hb.size; simp; omega⟩
  · rw [tX_zero]; exact World.ownsRow_nil _ _ _ _
  · unfold LB; rw [heap_alloc_old _ _ (lt_heap hl)]; exact hl
theorem TabSt.seen {w wr w1 : World} {B t L N share : Nat} {cws : Nat → Nat} {R : Nat → Value} {X : Nat → List Nat} (h : TabSt w wr B t L N share cws R X) {k : Nat} (hk : k < 18) {o : Obj} {d : Nat} (hg : ((wr.drewN d).alloc o).grownBy w1 (R k).ownBlock) :
    (∀ j, j < 18 → w1.cell? ⟨t, j + 1, none⟩ = some (R j) ∧ w1.frozen? ⟨t, j + 1, none⟩ = false) ∧ LB w1 L N cws := by
  have hsz : ((wr.drewN d).alloc o).heap.size = wr.heap.size + 1 := by simp
  have hold : ∀ i, i < wr.heap.size → (R k).ownBlock ≠ some i → w1.heap[i]? = wr.heap[i]? := fun i hi hne => by
    rw [hg.block i (by omega) (fun e => hne e.symm)]
    exact heap_alloc_old (wr.drewN d) o hi
  have hblk1 := hold t (lt_heap h.blk) (h.notT hk)
  refine ⟨fun j hj => ?_, ?_⟩
  · have := h.cell hj
    exact ⟨by rw [World.cell?_of_block (w := wr) (w' := w1) hblk1]; exact this.1, by rw [World.frozen?_of_block (w := wr) (w' := w1) hblk1]; exact this.2⟩
  · unfold LB
    rw [hold L (lt_heap h.words) (h.notL k hk)]
    exact h.words
theorem TabSt.neL {w wr : World} {B t L N share : Nat} {cws : Nat → Nat} {R : Nat → Value} {X : Nat → List Nat} (h : TabSt w wr B t L N share cws R X) : L ≠ t := by
  intro e
  have h1 := h.words
  unfold LB at h1
  rw [e, h.blk] at h1
  simp at h1
theorem TabSt.frozen_alloc {w wr : World} {B t L N share : Nat} {cws : Nat → Nat} {R : Nat → Value} {X : Nat → List Nat} (h : TabSt w wr B t L N share cws R X) (o : Obj) {i : Nat} : (wr.alloc o).frozen? ⟨t, i, none⟩ = false := by
  have h1 : (wr.alloc o).heap[t]? = some (.cells (tcs t share R) 131 (0, 0)) := by rw [heap_alloc_old _ _ (lt_heap h.blk)]; exact h.blk
  simp [World.frozen?, h1]
theorem news1 (W : World) (p : Value) (t : TypeId) : ∀ j u, [p][j]? = some u → (W.alloc (.cells #[p] t)).cell? ((⟨W.heap.size, 0, none⟩ : Addr).add j) = some u := by
  intro j u hj
  match j, hj with
  | 0, hj => simp at hj; subst hj; simp [Addr.add]
theorem one1 (x : Int) : ∀ u ∈ [Value.int .i64 x], u.oneCell' = true := by
  intro u hu; simp at hu; subst hu; rfl
theorem cell_set_far {w : World} {L t i j : Nat} {v : Value} (h : L ≠ t) : (w.setCell ⟨t, j, none⟩ v).cell? ⟨L, i, none⟩ = w.cell? ⟨L, i, none⟩ := World.cell?_of_block (w := w) (Below.heap_setCell _ _ _ _ h)
theorem symsOf_succ (ns : List Nat) (l i : Nat) : symsOf ns l (i + 1) = if ns.getD i 0 = l ∧ 0 < l then symsOf ns l i ++ [i] else symsOf ns l i := by
  unfold symsOf
  rw [List.range_succ, List.filter_append]
  by_cases h : ns.getD i 0 = l ∧ 0 < l
  · rw [if_pos h, List.filter_cons_of_pos (by simpa using h)]; rfl
  · rw [if_neg h, List.filter_cons_of_neg (by simpa using h)]; simp
theorem tX_take (ns : List Nat) (i f y : Nat) (hp : 0 < f) (hf : ns.getD i 0 = f) (hy : rv (cw ns i) (ns.getD i 0) = y) : upd (upd (upd (tX ns i) 0 (tX ns i 0 ++ [f])) 1 (upd (tX ns i) 0 (tX ns i 0 ++ [f]) 1 ++ [y])) (f + 2) (upd (upd (tX ns i) 0 (tX ns i 0 ++ [f])) 1 (upd (tX ns i) 0 (tX ns i 0 ++ [f]) 1 ++ [y]) (f + 2) ++ [i]) = tX ns (i + 1) := by
  funext k
  rw [upd_ne (tX ns i) 0 _ (show 1 ≠ 0 by omega), upd_ne _ 1 _ (show f + 2 ≠ 1 by omega), upd_ne _ 0 _ (show f + 2 ≠ 0 by omega)]
  by_cases e : k = f + 2
  · subst e
    rw [upd_at]
    unfold tX
    rw [if_neg (by omega), if_neg (by omega), if_neg (by omega), if_neg (by omega), Nat.add_sub_cancel, symsOf_succ, if_pos ⟨hf, hp⟩]
  · rw [upd_ne _ _ _ e]
    by_cases e1 : k = 1
    · subst e1
      rw [upd_at]
      simp only [tX, List.range_succ, List.map_append, List.map_cons, List.map_nil, hy]
      rfl
    · rw [upd_ne _ _ _ e1]
      by_cases e0 : k = 0
      · subst e0
        rw [upd_at]
        simp only [tX, List.range_succ, List.map_append, List.map_cons, List.map_nil, hf]
        rfl
      · rw [upd_ne _ _ _ e0]
        unfold tX
        rw [if_neg e0, if_neg e1, if_neg e0, if_neg e1, symsOf_succ, if_neg (by omega)]
theorem tX_skip (ns : List Nat) (i f y : Nat) (hp : f = 0) (hf : ns.getD i 0 = f) (hy : rv (cw ns i) (ns.getD i 0) = y) : upd (upd (tX ns i) 0 (tX ns i 0 ++ [f])) 1 (upd (tX ns i) 0 (tX ns i 0 ++ [f]) 1 ++ [y]) = tX ns (i + 1) := by
  funext k
  rw [upd_ne (tX ns i) 0 _ (show 1 ≠ 0 by omega)]
  by_cases e1 : k = 1
  · subst e1
    rw [upd_at]
    simp only [tX, List.range_succ, List.map_append, List.map_cons, List.map_nil, hy]
    rfl
  · rw [upd_ne _ _ _ e1]
    by_cases e0 : k = 0
    · subst e0
      rw [upd_at]
      simp only [tX, List.range_succ, List.map_append, List.map_cons, List.map_nil, hf]
      rfl
    · rw [upd_ne _ _ _ e0]
      unfold tX
      rw [if_neg e0, if_neg e1, if_neg e0, if_neg e1, symsOf_succ, if_neg (by omega)]
def RowIn2 (w : World) (lo hi : Nat) (v : Value) (l : List Nat) : Prop := ∃ ao cap, v = .slice ao l.length cap ∧ (l.length = 0 ∨ ∃ g, ao = some ⟨g, 0, none⟩ ∧ lo ≤ g ∧ g < hi ∧ ∀ j, j < l.length → w.cell? ⟨g, j, none⟩ = some (.int .i64 ((l.getD j 0 : Nat) : Int)))
structure Tab (w : World) (lo hi t : Nat) (ns : List Nat) (R : Nat → Value) : Prop where
  blk : w.heap[t]? = some (.cells (tcs t (ew ns 15) R) 131 (0, 0))
  rows : ∀ k, k < 18 → RowIn2 w lo hi (R k) (tX ns ns.length k)
  lo : lo ≤ t
  hi : t < hi
theorem RowIn2.keep {w w' : World} {lo hi : Nat} {v : Value} {l : List Nat} (h : RowIn2 w lo hi v l) (hk : ∀ b, lo ≤ b → b < hi → w'.heap[b]? = w.heap[b]?) : RowIn2 w' lo hi v l := by
  obtain ⟨ao, cap, e, h⟩ := h
  refine ⟨ao, cap, e, ?_⟩
  rcases h with h | ⟨g, e1, e2, e3, e4⟩
  · exact .inl h
  · exact .inr ⟨g, e1, e2, e3, fun j hj => by rw [World.cell?_of_block (w := w) (w' := w') (hk g e2 e3)]; exact e4 j hj⟩
theorem Tab.keep {w w' : World} {lo hi t : Nat} {ns : List Nat} {R : Nat → Value} (h : Tab w lo hi t ns R) (hk : ∀ b, lo ≤ b → b < hi → w'.heap[b]? = w.heap[b]?) : Tab w' lo hi t ns R :=
  ⟨by rw [hk t h.lo h.hi]; exact h.blk, fun k hk2 => (h.rows k hk2).keep hk, h.lo, h.hi⟩
theorem TabSt.tab {w wr : World} {B t L N : Nat} {cws : Nat → Nat} {ns : List Nat} {R : Nat → Value} (h : TabSt w wr B t L N (ew ns 15) cws R (tX ns N)) (hN : ns.length = N) : Tab wr B wr.heap.size t ns R := by
  subst hN
  refine ⟨h.blk, fun k hk => ?_, h.tge, lt_heap h.blk⟩
  have ho := h.own k hk
  rcases ho.2 with ⟨e1, e2⟩ | ⟨g, cap, cur, e1, e2, e3, e4⟩
  · exact ⟨none, 0, by rw [e1, e2], .inl e2⟩
  · refine ⟨some ⟨g, 0, none⟩, cap, e1, .inr ⟨g, rfl, e2, lt_heap e3, fun j hj => ?_⟩⟩
    have := ho.cells (g := g) (by rw [e1]; rfl) j (.int .i64 (((tX ns ns.length k).getD j 0 : Nat) : Int)) (by
      unfold ics
      rw [List.getElem?_map, List.getElem?_eq_getElem hj, getD_in hj]; rfl)
    rw [add_zero_addr] at this
    exact this
def isCode0 (xs : List Int) : Prop := may xs = true ∧ ew (nsOf xs) 15 ≤ 32768
def TabEnd (w : World) (xs : List Int) (e : Ending) (w' : World) : Prop :=
  ((isCode0 xs ∧ ∃ t R, e = .returned (.tuple #[.pointer (some ⟨t, 0, none⟩), .int .i64 0]) ∧ Tab w' w.heap.size w'.heap.size t (nsOf xs) R) ∨ (¬ isCode0 xs ∧ e = .returned (.tuple #[.pointer none, .int .i64 30]))) ∧ Below w.heap.size w w'
theorem tblZero : (Tryd.prog.info? 131).map (·.size) = some 20 := by kernel_rfl
set_option maxRecDepth 20000 in
set_option maxHeartbeats 4000000 in
theorem newTable_ok (xs : List Int) (a : Option Addr) (c N : Nat) (w : World) (hN : xs.length = N) (hrow : IRow w a xs) (hlen : N ≤ 9223372036854775807) :
    Calls Tryd.prog 56 #[.slice a N c] w fun e w' => TabEnd w xs e w' := by
  have HE : Hid (Calls Tryd.prog 68 #[.slice a N c] w fun e w' => EndsEnd w xs e w') := wordEnds_ok xs a c N w hN hrow hlen
  have HC : Hid (∀ W, Below w.heap.size w W → Calls Tryd.prog 69 #[.slice a N c] W fun e w' => CodesEnd W xs e w') := fun W hW => codes_ok xs a c N W hN (hrow.below hW) hlen
  have HR : Hid (IRow w a xs) := hrow
  have HN : Hid (xs.length = N) := hN
  clear hN hrow
  go_enter Tryd.func56, Tryd.ntmps56
  go_wp2_with fail
  refine Calls.mono HE.out ?_
  rintro e w1 ⟨hcase, hb1⟩
  have HB : Hid (Below w.heap.size w w1) := hb1
  have hgen : ∃ (g : Nat → Nat) (q : Int), e = .returned (.tuple #[.agg (lcells 16 g), .int .i64 q]) ∧ Hid ((may xs = true ∧ ew (nsOf xs) 15 ≤ 32768 ∧ g = ew (nsOf xs) ∧ q = 0) ∨ (¬ (may xs = true ∧ ew (nsOf xs) 15 ≤ 32768) ∧ q = 30)) := by
    rcases hcase with ⟨h1, h2, rfl⟩ | ⟨h1, rfl⟩
    · exact ⟨_, _, rfl, .inl ⟨h1, h2, rfl, rfl⟩⟩
    · exact ⟨_, _, rfl, .inr ⟨h1, rfl⟩⟩
  obtain ⟨g, q, rfl, HG⟩ := hgen
  have hAg : (lcells 16 g)[15]? = some (.int .i64 (g 15 : Nat)) := lcells_get 16 g 15 (by omega)
  have hsv := run_storeCells_blk (P := Tryd.prog) (w1.alloc (.cells #[.int .i64 0, .int .i64 0, .int .i64 0, .int .i64 0, .int .i64 0, .int .i64 0, .int .i64 0, .int .i64 0, .int .i64 0, .int .i64 0, .int .i64 0, .int .i64 0, .int .i64 0, .int .i64 0, .int .i64 0, .int .i64 0] 126)) w1.heap.size 126 126 _ (lcells 16 g) (heap_alloc_last _ _) (by rw [lcells_size]; exact perSize) (by rw [lcells_size]; rfl) (lcells_one _ _)
  rw [setRow_last] at hsv
  have hAs := lcells_size 16 g
  obtain ⟨A, hA⟩ : ∃ A, lcells 16 g = A := ⟨_, rfl⟩
  rw [hA] at hAg hsv hAs
  rw [hA]
  have HSV : Hid _ := hsv
  clear hcase hb1 hsv hA
  go_wp2
  simp only [HSV.out, Result.andThen]
  rw [Oper.upon_skip]
  clear hAs HSV
  rcases HG.out with ⟨hmay, hfit, hge, rfl⟩ | ⟨hno, rfl⟩
  · have HM : Hid (may xs = true ∧ ew (nsOf xs) 15 ≤ 32768) := ⟨hmay, hfit⟩
    have hN288 : N ≤ 288 := by rw [← HN.out]; exact may_len hmay
    obtain ⟨sh, hsh⟩ : ∃ sh, g 15 = sh := ⟨_, rfl⟩
    rw [hsh] at hAg
    have HSH : Hid (ew (nsOf xs) 15 = sh) := by show _ = _; rw [← hsh, hge]
    have hw2 : Below w.heap.size w (w1.alloc (.cells A 126)) := HB.out.alloc HB.out.size _
    have hAl : (w1.alloc (.cells A 126)).heap[w1.heap.size]? = some (.cells A 126 (0, 0)) := heap_alloc_last _ _
    have hc15 : (w1.alloc (.cells A 126)).cell? ⟨w1.heap.size, 15, none⟩ = some (.int .i64 (sh : Nat)) := by unfold World.cell?; rw [hAl]; exact hAg
    have hpl : w1.heap.size < (w1.alloc (.cells A 126)).heap.size := by simp
    obtain ⟨W, hW⟩ : ∃ W, w1.alloc (.cells A 126) = W := ⟨_, rfl⟩
    obtain ⟨p, hp⟩ : ∃ p, w1.heap.size = p := ⟨_, rfl⟩
    rw [hW] at hw2 hc15 hpl ⊢
    rw [hp] at hc15 hpl ⊢
    have HBW : Hid (Below w.heap.size w W) := hw2
    clear hw2 hge hsh hW hp hAl hAg hmay hfit HG HE HB
    go_wp2_with fail
    refine (HC.out W HBW.out).mono ?_
    rintro e w3 ⟨hcase, hb3⟩
    rcases hcase with ⟨_, _, L, rfl, hlb, hnew⟩ | ⟨hno, rfl⟩
    · rw [HN.out] at hlb ⊢
      have hc16 : w3.cell? ⟨p, 15, none⟩ = some (.int .i64 (sh : Nat)) := by rw [hb3.cell hpl]; exact hc15
      have HB3 : Hid (Below w.heap.size w w3) := HBW.out.trans (hb3.mono HBW.out.size)
      have HLB : Hid (LB w3 L N (cw (nsOf xs))) := hlb
      clear hb3 hlb hnew hc15 hpl
      go_wp2
      obtain ⟨i0, hi, hz0, hz1, hz2⟩ := info_split intInfo
      have HI : Hid (Tryd.prog.info? 3 = some i0 ∧ i0.zero = some (.int .i64 0) ∧ i0.size = 1 ∧ i0.bytes = 8) := ⟨hi, hz0, hz1, hz2⟩
      clear hi hz0 hz1 hz2
      go_loopw [9, 10, 34] (fun _ _ v34 wr => ∃ (i : Nat) (R : Nat → Value), v34 = .int .i64 i ∧ i ≤ N ∧ Hid (TabSt w wr w.heap.size w3.heap.size L N sh (cw (nsOf xs)) R (tX (nsOf xs) i))) (fun _ _ v34 _ => N - (intOf v34).toNat)
      case atStart =>
        refine ⟨0, fun _ => .slice none 0 0, rfl, by omega, ?_⟩
        rw [tcs_zero]
        exact TabSt.start HB3.out HLB.out
      case round =>
        obtain ⟨i, R, rfl, hi, HS⟩ := hrel
        by_cases hlt : i < N
        · have hlti : (i : Int) < (N : Int) := by omega
          obtain ⟨b, off, rfl, hcell, hb⟩ := (HR.out.below HS.out.bel).at (show i < xs.length by rw [HN.out]; exact hlt)
          obtain ⟨f, hf⟩ : ∃ f : Nat, xs.getD i 0 = (f : Int) := ⟨(xs.getD i 0).toNat, by have := (may_get HM.out.1 i).1; omega⟩
          have hf15 : f ≤ 15 := by have := (may_get HM.out.1 i).2; omega
          have hfn : (nsOf xs).getD i 0 = f := by rw [nsOf_get, hf]; simp
          rw [hf] at hcell
          have HFN : Hid ((nsOf xs).getD i 0 = f) := hfn
          clear hf hfn hb
          obtain ⟨t, ht⟩ : ∃ t, w3.heap.size = t := ⟨_, rfl⟩
          rw [ht] at HS ⊢
          obtain ⟨V0, hV0⟩ : ∃ V, R 0 = V := ⟨_, rfl⟩
          have c0 := (HS.out.cell (k := 0) (by omega)).1
          rw [hV0] at c0
          have o0 := HS.out.own 0 (by omega)
          have hl0 : (tX (nsOf xs) i 0).length = i := by simp [tX]
          rw [hV0, hl0] at o0
          have HO : Hid (∀ o, (wr.alloc o).ownsRow w.heap.size 3 1 V0 i (ics (tX (nsOf xs) i 0)) ∧ w.heap.size ≤ (wr.alloc o).heap.size) := fun o => ⟨o0.alloc o, by have := HS.out.bsz; simp; omega⟩
          have HV0 : Hid (R 0 = V0 ∧ (tX (nsOf xs) i 0).length = i) := ⟨hV0, hl0⟩
          clear hV0 o0 hl0
          go_wp2_with (at_builtin; refine wpList_append_lies _ rfl _ _ 41 rfl w.heap.size 3 i0 (.int .i64 0) 1 8 Tryd.underlying41 HI.out.1 HI.out.2.1 HI.out.2.2.1 HI.out.2.2.2 rfl (by decide) V0 i (ics (tX (nsOf xs) i 0)) rfl (HO.out _).1 ⟨wr.heap.size, 0, none⟩ 1 1 [.int .i64 (f : Int)] rfl rfl ?c1 ?c2 (by decide) ?c3 ?c4 (HO.out _).2 _ rfl ?_)
          case c1 =>
            intro j u hj
            match j, hj with
            | 0, hj => simp at hj; subst hj; simp [Addr.add]
          case c2 => intro u hu; simp at hu; subst hu; rfl
          case c3 => unfold maxLen; omega
          case c4 => omega
          intro g1 cap1 wa hown hgrow hat hgl
          have hgrow' : ((wr.drewN 0).alloc (.cells #[.int .i64 (f : Int)] 3)).grownBy wa (R 0).ownBlock := by rw [HV0.out.1]; exact hgrow
          obtain ⟨s1, s2⟩ := HS.out.seen (k := 0) (by omega) hgrow'
          have H1 := HS.out.put (k := 0) (by omega) (x := f) HV0.out.2.symm hown hgrow' (by rw [HV0.out.1]; simpa using hat)
          obtain ⟨R1, hR1⟩ : ∃ R1, upd R 0 (.slice (some ⟨g1, 0, none⟩) (i + 1) cap1) = R1 := ⟨_, rfl⟩
          obtain ⟨X1, hX1⟩ : ∃ X1, upd (tX (nsOf xs) i) 0 (tX (nsOf xs) i 0 ++ [f]) = X1 := ⟨_, rfl⟩
          have HX1 : Hid (upd (tX (nsOf xs) i) 0 (tX (nsOf xs) i 0 ++ [f]) = X1) := hX1
          have e1 : R1 1 = R 1 := by rw [← hR1]; exact upd_ne _ _ _ (by omega)
          have e2 : X1 1 = tX (nsOf xs) i 1 := by rw [← hX1]; exact upd_ne _ _ _ (by omega)
          rw [hR1, hX1] at H1
          have H1 : Hid (TabSt w (wa.setCell ⟨t, 1, none⟩ (.slice (some ⟨g1, 0, none⟩) (i + 1) cap1)) w.heap.size t L N sh (cw (nsOf xs)) R1 X1) := H1
          obtain ⟨V1, hV1⟩ : ∃ V, R 1 = V := ⟨_, rfl⟩
          obtain ⟨k1, k2⟩ := s1 0 (by omega)
          have k1 : wa.cell? ⟨t, 1, none⟩ = some V0 := by rw [← HV0.out.1]; exact k1
          have k2 : wa.frozen? ⟨t, 1, none⟩ = false := k2
          obtain ⟨k3, k4⟩ := s1 1 (by omega)
          rw [hV1] at k3
          have k3 : wa.cell? ⟨t, 2, none⟩ = some V1 := k3
          have k4 : wa.frozen? ⟨t, 2, none⟩ = false := k4
          have k5 := (s2.cell hlt).1
          obtain ⟨cwi, hcwi⟩ : ∃ v, cw (nsOf xs) i = v := ⟨_, rfl⟩
          rw [hcwi] at k5
          have hLt := HS.out.neL
          have HTU : Hid (∀ W, Calls Tryd.prog 70 #[.int .i64 cwi, .int .i64 f] W fun e w' => e = .returned (.int .i64 (rv cwi f : Nat)) ∧ ∃ k, w' = W.drewN k) := fun W => by
            refine turn_ok cwi f hf15 ?_ W
            have := cw_fits HM.out.1 HM.out.2 i (by rw [HN.out]; exact hlt)
            rw [HFN.out, hcwi] at this
            exact this
          have HCW : Hid (cw (nsOf xs) i = cwi) := hcwi
          obtain ⟨y, hy⟩ : ∃ y, rv cwi f = y := ⟨_, rfl⟩
          rw [hy] at HTU
          have HY : Hid (rv (cw (nsOf xs) i) ((nsOf xs).getD i 0) = y ∧ R1 1 = V1 ∧ (X1 1).length = i) := ⟨by rw [HFN.out, hcwi]; exact hy, by rw [e1]; exact hV1, by rw [e2]; simp [tX]⟩
          clear hown hgrow hgrow' hat hgl s1 s2 hy hcwi e1 e2 hR1 hX1 hV1 HO c0
          go_wp2
          have q1 := H1.out.cell (k := 1) (by omega)
          rw [HY.out.2.1] at q1
          obtain ⟨q1, q2⟩ := q1
          have q1 : (wa.setCell ⟨t, 1, none⟩ (.slice (some ⟨g1, 0, none⟩) (i + 1) cap1)).cell? ⟨t, 2, none⟩ = some V1 := q1
          have q2 : (wa.setCell ⟨t, 1, none⟩ (.slice (some ⟨g1, 0, none⟩) (i + 1) cap1)).frozen? ⟨t, 2, none⟩ = false := q2
          have q3 := (H1.out.words.cell hlt).1
          rw [HCW.out] at q3
          obtain ⟨W1, hW1⟩ : ∃ W, wa.setCell ⟨t, 1, none⟩ (.slice (some ⟨g1, 0, none⟩) (i + 1) cap1) = W := ⟨_, rfl⟩
          rw [hW1] at H1 q1 q2 q3 ⊢
          clear hW1 k1 k2 k3 k4 k5
          go_region_law
            (first
              | (refine step_append_lies _ rfl _ _ 41 rfl w.heap.size 3 i0 (.int .i64 0) 1 8 Tryd.underlying41 HI.out.1 HI.out.2.1 HI.out.2.2.1 HI.out.2.2.2 rfl (by decide) V1 i (ics (X1 1)) rfl (HO2.out _).1 ⟨_, 0, none⟩ 1 1 [.int .i64 (y : Nat)] rfl rfl (news1 _ _ _) (one1 _) (by decide) (by unfold maxLen; omega) (by omega) (HO2.out _).2 _ rfl ?_; intro g2 cap2 wb hown hgrow hat hgl; have hgrow' : ((V2.drewN 0).alloc (.cells #[.int .i64 (y : Nat)] 3)).grownBy wb (R1 1).ownBlock := (by rw [HY.out.2.1]; exact hgrow); have hseen := HT2.out.seen (k := 1) (by omega) hgrow'; have KS1 := (⟨by rw [← HY.out.2.1]; exact (hseen.1 1 (by omega)).1, (hseen.1 1 (by omega)).2, by rw [← HCW.out]; exact (hseen.2.cell hlt).1⟩ : wb.cell? ⟨t, 2, none⟩ = some V1 ∧ wb.frozen? ⟨t, 2, none⟩ = false ∧ wb.cell? ⟨L, i, none⟩ = some (.int .i64 (cwi : Nat))); obtain ⟨KS1, KS1f, KS1c⟩ := KS1)
              | (go_simp; go_at_call 70; refine (HTU.out _).mono ?_; rintro e V2 ⟨rfl, qd, hV2⟩; have KS := (by rw [hV2]; exact ⟨q1, q2, q3⟩ : V2.cell? ⟨t, 2, none⟩ = some V1 ∧ V2.frozen? ⟨t, 2, none⟩ = false ∧ V2.cell? ⟨L, i, none⟩ = some (.int .i64 (cwi : Nat))); have HT2 : Hid (TabSt w V2 w.heap.size t L N sh (cw (nsOf xs)) R1 X1) := (by show TabSt _ _ _ _ _ _ _ _ _ _; rw [hV2]; exact ⟨H1.out.blk, H1.out.own, H1.out.apart, H1.out.notL, H1.out.words, ⟨H1.out.bel.os, H1.out.bel.tape, H1.out.bel.output, H1.out.bel.size, H1.out.bel.block⟩, H1.out.tge, H1.out.bsz⟩); have HO2 : Hid (∀ o, (V2.alloc o).ownsRow w.heap.size 3 1 V1 i (ics (X1 1)) ∧ w.heap.size ≤ (V2.alloc o).heap.size) := (fun o => ⟨by have h := HT2.out.own 1 (by omega); rw [HY.out.2.1, HY.out.2.2] at h; exact h.alloc o, by have := HT2.out.bsz; simp; omega⟩); have KS0 := (⟨by rw [World.cell?_alloc_past _ _ _ (lt_cell KS.1)]; exact KS.1, HT2.out.frozen_alloc _, by rw [World.cell?_alloc_past _ _ _ (lt_cell KS.2.2)]; exact KS.2.2⟩ : (V2.alloc (.cells #[.int .i64 (y : Nat)] 3)).cell? ⟨t, 2, none⟩ = some V1 ∧ (V2.alloc (.cells #[.int .i64 (y : Nat)] 3)).frozen? ⟨t, 2, none⟩ = false ∧ (V2.alloc (.cells #[.int .i64 (y : Nat)] 3)).cell? ⟨L, i, none⟩ = some (.int .i64 (cwi : Nat))); obtain ⟨KS, KSf, KSc⟩ := KS; obtain ⟨KS0, KS0f, KS0c⟩ := KS0; clear hV2))
          all_goals
            have H2 := HT2.out.put (k := 1) (by omega) (x := y) HY.out.2.2.symm hown hgrow' (by rw [HY.out.2.1]; simpa using hat)
            obtain ⟨R2, hR2⟩ : ∃ R2, upd R1 1 (.slice (some ⟨g2, 0, none⟩) (i + 1) cap2) = R2 := ⟨_, rfl⟩
            obtain ⟨X2, hX2⟩ : ∃ X2, upd X1 1 (X1 1 ++ [y]) = X2 := ⟨_, rfl⟩
            have HX2 : Hid (upd X1 1 (X1 1 ++ [y]) = X2) := hX2
            rw [hR2, hX2] at H2
            have H2 : Hid (TabSt w (wb.setCell ⟨t, 2, none⟩ (.slice (some ⟨g2, 0, none⟩) (i + 1) cap2)) w.heap.size t L N sh (cw (nsOf xs)) R2 X2) := H2
            obtain ⟨W2, hW2⟩ : ∃ W, wb.setCell ⟨t, 2, none⟩ (.slice (some ⟨g2, 0, none⟩) (i + 1) cap2) = W := ⟨_, rfl⟩
            rw [hW2] at H2 ⊢
            clear hown hgrow hgrow' hat hgl hseen KS KSf KSc KS0 KS0f KS0c KS1 KS1f KS1c HO2 HT2 hX2 hR2 hW2 q1 q2 q3
            by_cases hp : 0 < f
            · have hpi : (0 : Int) < (f : Int) := by omega
              obtain ⟨V2', hV2'⟩ : ∃ V, R2 (f + 2) = V := ⟨_, rfl⟩
              have r := H2.out.cell (k := f + 2) (by omega)
              rw [hV2'] at r
              obtain ⟨r1, r2⟩ := r
              obtain ⟨n2, hn2⟩ : ∃ n, (X2 (f + 2)).length = n := ⟨_, rfl⟩
              have o2 := H2.out.own (f + 2) (by omega)
              rw [hV2', hn2] at o2
              have HO3 : Hid (∀ o, (W2.drew.alloc o).ownsRow w.heap.size 3 1 V2' n2 (ics (X2 (f + 2))) ∧ w.heap.size ≤ (W2.drew.alloc o).heap.size) := fun o => ⟨World.ownsRow.alloc (w := W2.drew) o2 o, by have := H2.out.bsz; simp; omega⟩
              have HV2 : Hid (R2 (f + 2) = V2' ∧ (X2 (f + 2)).length = n2) := ⟨hV2', hn2⟩
              have hn288 : n2 ≤ 288 := by
                rw [← hn2, ← HX2.out, upd_ne _ _ _ (by omega), ← HX1.out, upd_ne _ _ _ (by omega)]
                unfold tX
                rw [if_neg (by omega), if_neg (by omega)]
                exact Nat.le_trans (Nat.le_trans (List.length_filter_le _ _) (by simp)) (show i ≤ 288 by omega)
              have f16 : (f : Int) < 16 := by omega
              rw [show f + 2 + 1 = 3 + f by omega] at r1 r2
              have r3 : (W2.alloc (.cells #[.int .i64 (i : Nat)] 3)).cell? ⟨t, 3 + f, none⟩ = some V2' := by rw [World.cell?_alloc_past _ _ _ (lt_cell r1)]; exact r1
              have HO4 : Hid (∀ o, (W2.alloc o).drew.ownsRow w.heap.size 3 1 V2' n2 (ics (X2 (f + 2))) ∧ w.heap.size ≤ (W2.alloc o).drew.heap.size) := fun o => ⟨World.ownsRow.alloc (w := W2) o2 o, by have := H2.out.bsz; simp; omega⟩
              clear o2 hV2' hn2
              go_wp2
              go_region_law
                (first
                  | (refine step_append_lies _ rfl _ _ 41 rfl w.heap.size 3 i0 (.int .i64 0) 1 8 Tryd.underlying41 HI.out.1 HI.out.2.1 HI.out.2.2.1 HI.out.2.2.2 rfl (by decide) V2' n2 (ics (X2 (f + 2))) rfl (by first | exact (HO3.out _).1 | exact (HO4.out _).1) ⟨W2.heap.size, 0, none⟩ 1 1 [.int .i64 (i : Nat)] rfl rfl (by first | exact news1 W2 _ _ | exact news1 W2.drew _ _) (one1 _) (by decide) (by unfold maxLen; omega) (by omega) (by first | exact (HO3.out _).2 | exact (HO4.out _).2) _ rfl ?_; intro g3 cap3 wc hown hgrow hat hgl; have hgrow' : ((W2.drewN 1).alloc (.cells #[.int .i64 (i : Nat)] 3)).grownBy wc (R2 (f + 2)).ownBlock := (by rw [HV2.out.1]; exact hgrow); have hseen := H2.out.seen (k := f + 2) (by omega) hgrow'; have KS1 := (⟨by rw [← HV2.out.1, show 3 + f = f + 2 + 1 by omega]; exact (hseen.1 (f + 2) (by omega)).1, by rw [show 3 + f = f + 2 + 1 by omega]; exact (hseen.1 (f + 2) (by omega)).2⟩ : wc.cell? ⟨t, 3 + f, none⟩ = some V2' ∧ wc.frozen? ⟨t, 3 + f, none⟩ = false); obtain ⟨KS1, KS1f⟩ := KS1))
              all_goals
                have H3 := H2.out.put (k := f + 2) (by omega) (x := i) HV2.out.2.symm hown hgrow' (by rw [HV2.out.1]; simpa using hat)
                rw [← HX2.out, ← HX1.out, tX_take (nsOf xs) i f y hp HFN.out HY.out.1, show f + 2 + 1 = 3 + f by omega] at H3
                have H3 : Hid _ := H3
                clear hown hgrow hgrow' hat hgl hseen KS1 KS1f r1 r2 r3
                go_wp2
                exact ⟨⟨i + 1, _, by go_num, by omega, H3⟩, by simp [intOf]; omega⟩
            · have hpi : ¬ (0 : Int) < (f : Int) := by omega
              have H3 := H2.out
              rw [← HX2.out, ← HX1.out, tX_skip (nsOf xs) i f y (by omega) HFN.out HY.out.1] at H3
              have H3 : Hid _ := H3
              go_wp2
              exact ⟨⟨i + 1, R2, by go_num, by omega, H3⟩, by simp [intOf]; omega⟩
        · have hlti : ¬ (i : Int) < (N : Int) := by omega
          obtain rfl : i = N := by omega
          have HT : Hid (Tab wr w.heap.size wr.heap.size w3.heap.size (nsOf xs) R ∧ Below w.heap.size w wr) := by
            have h := HS.out
            rw [← HSH.out] at h
            exact ⟨h.tab (by rw [nsOf_length, HN.out]), h.bel⟩
          go_wp2
          go_ret2
          exact ⟨.inl ⟨HM.out, w3.heap.size, R, rfl, HT.out.1⟩, HT.out.2⟩
    · exact absurd HM.out hno
  · have HB2 : Hid (∀ o, Below w.heap.size w (w1.alloc o)) := fun o => HB.out.alloc HB.out.size _
    go_wp2
    go_ret2
    exact ⟨.inr ⟨hno, rfl⟩, HB2.out _⟩
end Go.Proofs.YtlbadjfcffoakaaDoor
namespace Go.Proofs.YtlbadjfcffoakaaDoor
open Go.RowKit
set_option linter.unusedVariables false
set_option maxRecDepth 20000

def shr (ns : List Nat) : Nat → Nat
  | 0 => 0
  | j + 1 => shr ns j + (if ns.getD j 0 = 0 then 0 else 2 ^ (15 - ns.getD j 0))
def shT (ns : List Nat) (j : Nat) : Nat → Nat
  | 0 => 0
  | l + 1 => shT ns j l + lcnt ns (l + 1) j * 2 ^ (15 - (l + 1))
theorem shT_succ (ns : List Nat) (j L : Nat) : shT ns (j + 1) L = shT ns j L + (if 1 ≤ ns.getD j 0 ∧ ns.getD j 0 ≤ L then 2 ^ (15 - ns.getD j 0) else 0) := by
  induction L with
  | zero => simp only [shT]; rw [if_neg (by omega)]
  | succ L ih =>
    simp only [shT, ih, lcnt]
    by_cases e : ns.getD j 0 = L + 1
    · rw [if_neg (by omega), if_pos e, if_pos (by omega), e, Nat.add_mul, Nat.one_mul]; omega
    · rw [if_neg e, Nat.add_zero]
      by_cases e2 : 1 ≤ ns.getD j 0 ∧ ns.getD j 0 ≤ L
      · rw [if_pos e2, if_pos (by omega)]; omega
      · rw [if_neg e2, if_neg (by omega)]; omega
theorem shT_zero (ns : List Nat) (L : Nat) : shT ns 0 L = 0 := by
  induction L with
  | zero => rfl
  | succ L ih => simp [shT, ih, lcnt]
theorem shr_eq (ns : List Nat) (h : ∀ i, ns.getD i 0 ≤ 15) : ∀ j, shr ns j = shT ns j 15
  | 0 => (shT_zero ns 15).symm
  | j + 1 => by
    rw [shT_succ, ← shr_eq ns h j]
    simp only [shr]
    have := h j
    by_cases e : ns.getD j 0 = 0
    · rw [if_pos e, if_neg (by omega)]
    · rw [if_neg e, if_pos (by omega)]
theorem shT_share (ns : List Nat) : ∀ l, shT ns ns.length l = shareTo ns l
  | 0 => rfl
  | l + 1 => by simp only [shT, shareTo, shT_share ns l]
theorem shr_ew (ns : List Nat) (h : ∀ i, ns.getD i 0 ≤ 15) : shr ns ns.length = ew ns 15 := by
  rw [shr_eq ns h, shT_share, ← endW_share ns 14 (by omega)]
  simp [ew]
theorem pow15 (d : Nat) : 2 ^ (15 - d) ≤ 32768 := Nat.le_trans (Nat.pow_le_pow_right (by omega) (Nat.sub_le 15 d)) (by decide)
theorem shr_bound (ns : List Nat) : ∀ j, shr ns j ≤ j * 32768
  | 0 => by simp [shr]
  | j + 1 => by
    have h1 := shr_bound ns j
    have h2 := pow15 (ns.getD j 0)
    have h3 : (if ns.getD j 0 = 0 then 0 else 2 ^ (15 - ns.getD j 0)) ≤ 32768 := by
      split
      · exact Nat.zero_le _
      · exact h2
    rw [show shr ns (j + 1) = shr ns j + (if ns.getD j 0 = 0 then 0 else 2 ^ (15 - ns.getD j 0)) from rfl, Nat.add_mul, Nat.one_mul]
    exact Nat.add_le_add h1 h3
theorem shr_small (ns : List Nat) (j : Nat) (hj : j ≤ 288) : shr ns j ≤ 9437184 := Nat.le_trans (shr_bound ns j) (by omega)
def shareV (xs : List Int) : Int := if may xs = true then ((ew (nsOf xs) 15 : Nat) : Int) else -1
theorem shareV_no {xs : List Int} (h : may xs = false) : shareV xs = -1 := by unfold shareV; rw [h]; rfl
set_option maxRecDepth 20000 in
set_option maxHeartbeats 1000000 in
theorem share_ok (xs : List Int) (a : Option Addr) (c N : Nat) (w : World) (hN : xs.length = N) (hrow : IRow w a xs) (hlen : N ≤ 9223372036854775807) :
    Calls Tryd.prog 54 #[.slice a N c] w fun e w' => e = .returned (.int .i64 (shareV xs)) ∧ w' = w := by
  have HR : Hid (IRow w a xs) := hrow
  have HN : Hid (xs.length = N) := hN
  clear hrow hN
  go_enter Tryd.func54, Tryd.ntmps54
  by_cases h1 : 288 < N
  · have h1i : (288 : Int) < (N : Int) := by omega
    have hm : Hid (may xs = false) := by
      show _ = _
      cases e : may xs with
      | false => rfl
      | true => have := may_len e; rw [HN.out] at this; omega
    go_wp2
    go_ret
    exact ⟨by rw [shareV_no hm.out]; rfl, rfl⟩
  · have h1i : ¬ (288 : Int) < (N : Int) := by omega
    go_wp2
    go_loop [3, 4] (fun v3 v4 => ∃ (j : Nat) (S : Nat), v4 = .int .i64 j ∧ j ≤ N ∧ v3 = .int .i64 (S : Int) ∧ Hid (S = shr (nsOf xs) j ∧ ∀ i, i < j → 0 ≤ xs.getD i 0 ∧ xs.getD i 0 ≤ 15)) (fun _ v4 => N - (intOf v4).toNat)
    case atStart => exact ⟨0, 0, rfl, by omega, rfl, rfl, fun i hi => by omega⟩
    case round =>
      obtain ⟨j, S, rfl, hj, rfl, HS⟩ := hrel
      have hSb : S ≤ 9437184 := by rw [HS.out.1]; exact shr_small _ _ (by omega)
      by_cases hlt : j < N
      · have hlti : (j : Int) < (N : Int) := by omega
        obtain ⟨b, off, rfl, hcell, _⟩ := HR.out.at (show j < xs.length by rw [HN.out]; exact hlt)
        obtain ⟨F, hF⟩ : ∃ F, xs.getD j 0 = F := ⟨_, rfl⟩
        rw [hF] at hcell
        have HF : Hid (xs.getD j 0 = F) := hF
        clear hF
        by_cases h0 : F < 0
        · have hm : Hid (may xs = false) := may_no (by rw [HN.out]; exact hlt) (.inl (by rw [HF.out]; exact h0))
          go_wp2
          go_ret
          exact ⟨by rw [shareV_no hm.out]; rfl, rfl⟩
        · by_cases h15 : 15 < F
          · have hm : Hid (may xs = false) := may_no (by rw [HN.out]; exact hlt) (.inr (by rw [HF.out]; exact h15))
            go_wp2
            go_ret
            exact ⟨by rw [shareV_no hm.out]; rfl, rfl⟩
          · obtain ⟨f, rfl⟩ : ∃ f : Nat, F = (f : Int) := ⟨F.toNat, by omega⟩
            have hfn : (nsOf xs).getD j 0 = f := by rw [nsOf_get, HF.out]; simp
            have HS2 : Hid (∀ i, i < j + 1 → 0 ≤ xs.getD i 0 ∧ xs.getD i 0 ≤ 15) := fun i hi => by
              by_cases e : i = j
              · subst e; rw [HF.out]; omega
              · exact HS.out.2 i (by omega)
            by_cases hp : 0 < f
            · have hpi : (0 : Int) < (f : Int) := by omega
              obtain ⟨d, hd⟩ : ∃ d : Nat, 15 - f = d := ⟨_, rfl⟩
              have hdi : (15 : Int) - (f : Int) = (d : Int) := by omega
              obtain ⟨T, hT⟩ : ∃ T, 2 ^ d = T := ⟨_, rfl⟩
              have hTb : T ≤ 32768 := by rw [← hT, ← hd]; exact pow15 f
              have hsh : wrap64 ((2 : Int) ^ d) = (T : Int) := by
                have e : ((2 : Int) ^ d) = ((2 ^ d : Nat) : Int) := by simp
                rw [e, hT]
                unfold wrap64
                omega
              have HX : Hid (S + T = shr (nsOf xs) (j + 1)) := by
                show _ = _
                simp only [shr]
                rw [hfn, if_neg (by omega), hd, hT, ← HS.out.1]
              clear hd hT hfn
              go_wp2
              exact ⟨⟨j + 1, S + T, by go_num, by omega, by go_num, HX.out, HS2.out⟩, by simp [intOf]; omega⟩
            · have hpi : ¬ (0 : Int) < (f : Int) := by omega
              have HX : Hid (S = shr (nsOf xs) (j + 1)) := by
                show _ = _
                simp only [shr]
                rw [hfn, if_pos (by omega), ← HS.out.1]; rfl
              clear hfn
              go_wp2
              exact ⟨⟨j + 1, S, by go_num, by omega, rfl, HX.out, HS2.out⟩, by simp [intOf]; omega⟩
      · obtain rfl : j = N := by omega
        have hmay : may xs = true := may_yes (by rw [HN.out]; omega) (fun i hi => HS.out.2 i (by rw [← HN.out]; exact hi))
        have HE : Hid (shareV xs = (S : Int)) := by
          show _ = _
          unfold shareV
          rw [if_pos hmay, HS.out.1, ← shr_ew, nsOf_length, HN.out]
          intro i
          rw [nsOf_get]
          have := may_get hmay i
          omega
        clear hmay
        go_wp2
        go_ret
        exact ⟨by rw [HE.out]; rfl, rfl⟩
def isCode (xs : List Int) : Bool := may xs && decide (ew (nsOf xs) 15 ≤ 32768)
theorem isCode_iff (xs : List Int) : isCode xs = true ↔ (may xs = true ∧ ew (nsOf xs) 15 ≤ 32768) := by simp [isCode]
set_option maxRecDepth 20000 in
theorem may_ok (xs : List Int) (a : Option Addr) (c N : Nat) (w : World) (hN : xs.length = N) (hrow : IRow w a xs) (hlen : N ≤ 9223372036854775807) :
    Calls Tryd.prog 67 #[.slice a N c] w fun e w' => e = .returned (.bool (isCode xs)) ∧ w' = w := by
  have hs := share_ok xs a c N w hN hrow hlen
  obtain ⟨V, hV⟩ : ∃ V, shareV xs = V := ⟨_, rfl⟩
  rw [hV] at hs
  have HS : Hid (∀ _ : Unit, Calls Tryd.prog 54 #[.slice a N c] w fun e w' => e = .returned (.int .i64 V) ∧ w' = w) := fun _ => hs
  have HC : Hid (isCode xs = (decide (0 ≤ V) && decide (V ≤ 32768))) := by
    show _ = _
    rw [← hV]
    unfold isCode shareV
    cases may xs with
    | true =>
      simp only [if_true, Bool.true_and]
      by_cases e : ew (nsOf xs) 15 ≤ 32768
      · rw [decide_eq_true e, decide_eq_true (by omega), decide_eq_true (by omega)]; rfl
      · rw [decide_eq_false e, decide_eq_false (p := ((ew (nsOf xs) 15 : Nat) : Int) ≤ 32768) (by omega)]; simp
    | false => rfl
  clear hs hV hN hrow
  go_enter Tryd.func67, Tryd.ntmps67
  by_cases h0 : 0 ≤ V
  · go_wp2_with (go_at_call 54; refine (HS.out ()).mono ?_; rintro e w1 ⟨rfl, hw⟩; obtain rfl := hw.symm)
    go_ret
    exact ⟨by rw [HC.out, decide_eq_true h0]; simp, rfl⟩
  · go_wp2_with (go_at_call 54; refine (HS.out ()).mono ?_; rintro e w1 ⟨rfl, hw⟩; obtain rfl := hw.symm)
    go_ret
    exact ⟨by rw [HC.out, decide_eq_false (p := 0 ≤ V) (by omega)]; rfl, rfl⟩
end Go.Proofs.YtlbadjfcffoakaaDoor
