/- A table: what it holds, and how it is made. -/
import Derived.Test.YtchjnfckcfikkaaDoorGj
import Derived.Test.YtchjnfckcfikkaaDoorGo1
import Derived.Test.YtchjnfckcfikkaaDoorUa
import Derived.Deep.RegionHeldLaw
import Derived.Deep.AppendLies
namespace Go.Proofs.YtchjnfckcfikkaaDoor
open Go.RowKit
set_option linter.unusedVariables false

def ics (l : List Nat) : List Value := l.map fun x => Value.int .i64 (x : Nat)
theorem ics_length (l : List Nat) : (ics l).length = l.length := by simp [ics]
theorem ics_snoc (l : List Nat) (x : Nat) : ics (l ++ [x]) = ics l ++ [.int .i64 (x : Nat)] := by simp [ics]
/-- A table's cells: itself, eighteen rows (lengths, words, the symbols of each length), the share. -/
def tcs (t share : Nat) (R : Nat → Value) : Array Value := ((List.range 20).map fun i => if i = 0 then Value.pointer (some ⟨t, 0, none⟩) else if i = 19 then .int .i64 (share : Nat) else R (i - 1)).toArray
theorem tcs_size (t share : Nat) (R : Nat → Value) : (tcs t share R).size = 20 := by simp [tcs]
theorem tcs_get (t share : Nat) (R : Nat → Value) (i : Nat) (hi : i < 20) : (tcs t share R)[i]? = some (if i = 0 then Value.pointer (some ⟨t, 0, none⟩) else if i = 19 then .int .i64 (share : Nat) else R (i - 1)) := by simp [tcs, hi]
def upd {α : Type} (f : Nat → α) (k : Nat) (x : α) : Nat → α := fun i => if i = k then x else f i
theorem upd_at {α : Type} (f : Nat → α) (k : Nat) (x : α) : upd f k x k = x := by simp [upd]
theorem upd_ne {α : Type} (f : Nat → α) (k : Nat) (x : α) {i : Nat} (h : i ≠ k) : upd f k x i = f i := by simp [upd, h]
theorem tcs_set (t share : Nat) (R : Nat → Value) (k : Nat) (hk : k < 18) (v : Value) : (tcs t share R).setIfInBounds (k + 1) v = tcs t share (upd R k v) := by
  apply Array.ext_getElem?
  intro i
  rw [Array.getElem?_setIfInBounds]
  by_cases hi : i < 20
  · rw [tcs_get _ _ _ _ hi, tcs_get _ _ _ _ hi, tcs_size]
    by_cases e : k + 1 = i
    · subst e
      rw [if_pos rfl, if_pos (by omega), if_neg (by omega), if_neg (by omega), Nat.add_sub_cancel, upd_at]
    · rw [if_neg e]
      by_cases e0 : i = 0
      · rw [if_pos e0, if_pos e0]
      · rw [if_neg e0, if_neg e0]
        by_cases e9 : i = 19
        · rw [if_pos e9, if_pos e9]
        · rw [if_neg e9, if_neg e9, upd_ne _ _ _ (by omega)]
  · rw [Array.getElem?_eq_none (by rw [tcs_size]; omega), Array.getElem?_eq_none (by rw [tcs_size]; omega)]
    rw [if_neg (by omega)]
theorem tcs_zero (t share : Nat) : (#[.pointer (some ⟨t, 0, none⟩), .slice none 0 0, .slice none 0 0, .slice none 0 0, .slice none 0 0, .slice none 0 0, .slice none 0 0, .slice none 0 0, .slice none 0 0, .slice none 0 0, .slice none 0 0, .slice none 0 0, .slice none 0 0, .slice none 0 0, .slice none 0 0, .slice none 0 0, .slice none 0 0, .slice none 0 0, .slice none 0 0, .int .i64 (share : Nat)] : Array Value) = tcs t share (fun _ => .slice none 0 0) := by
  unfold tcs
  rw [show List.range 20 = [0, 1, 2, 3, 4, 5, 6, 7, 8, 9, 10, 11, 12, 13, 14, 15, 16, 17, 18, 19] from by decide]
  rfl

/-- A table in the making, or made: its block, its rows, none of them another one's; the words beside it. -/
structure TabSt (w wr : World) (B t L N share : Nat) (cws : Nat → Nat) (R : Nat → Value) (X : Nat → List Nat) : Prop where
  blk : wr.heap[t]? = some (.cells (tcs t share R) 106 (0, 0))
  own : ∀ k, k < 18 → wr.ownsRow B 3 1 (R k) (X k).length (ics (X k))
  apart : ∀ j k, j < 18 → k < 18 → j ≠ k → ∀ g, (R j).ownBlock = some g → (R k).ownBlock ≠ some g
  notL : ∀ k, k < 18 → (R k).ownBlock ≠ some L
  words : LB wr L N cws
  bel : Below B w wr
  tge : B ≤ t
  bsz : B ≤ wr.heap.size
theorem TabSt.cell {w wr : World} {B t L N share : Nat} {cws : Nat → Nat} {R : Nat → Value} {X : Nat → List Nat} (h : TabSt w wr B t L N share cws R X) {k : Nat} (hk : k < 18) : wr.cell? ⟨t, k + 1, none⟩ = some (R k) ∧ wr.frozen? ⟨t, k + 1, none⟩ = false := by
  have h1 := h.blk
  have h2 := tcs_get t share R (k + 1) (by omega)
  rw [if_neg (by omega), if_neg (by omega), Nat.add_sub_cancel] at h2
  exact ⟨by simp [World.cell?, h1, h2], by simp [World.frozen?, h1]⟩
theorem TabSt.notT {w wr : World} {B t L N share : Nat} {cws : Nat → Nat} {R : Nat → Value} {X : Nat → List Nat} (h : TabSt w wr B t L N share cws R X) {k : Nat} (hk : k < 18) : (R k).ownBlock ≠ some t := by
  intro e
  rcases (h.own k hk).2 with ⟨e1, _⟩ | ⟨g, cap, cur, e1, _, e2, _⟩
  · rw [e1] at e; simp [Value.ownBlock] at e
  · rw [e1] at e
    simp [Value.ownBlock] at e
    subst e
    rw [h.blk] at e2
    simp at e2
theorem TabSt.put {w wr w1 : World} {B t L N share : Nat} {cws : Nat → Nat} {R : Nat → Value} {X : Nat → List Nat} (h : TabSt w wr B t L N share cws R X) {k : Nat} (hk : k < 18) {x g cap : Nat} {o : Obj} {d : Nat} {n : Nat} (hn : n = (X k).length)
    (hown : w1.ownsRow B 3 1 (.slice (some ⟨g, 0, none⟩) (n + 1) cap) (n + 1) (ics (X k) ++ [.int .i64 (x : Nat)])) (hg : ((wr.drewN d).alloc o).grownBy w1 (R k).ownBlock) (hat : (R k).ownBlock = some g ∨ g = ((wr.drewN d).alloc o).heap.size) :
    TabSt w (w1.setCell ⟨t, k + 1, none⟩ (.slice (some ⟨g, 0, none⟩) (n + 1) cap)) B t L N share cws (upd R k (.slice (some ⟨g, 0, none⟩) (n + 1) cap)) (upd X k (X k ++ [x])) := by
  subst hn
  have hsz : ((wr.drewN d).alloc o).heap.size = wr.heap.size + 1 := by simp
  have htlt := lt_heap h.blk
  have hLlt := lt_heap h.words
  have hold : ∀ i, i < wr.heap.size → (R k).ownBlock ≠ some i → w1.heap[i]? = wr.heap[i]? := fun i hi hne => by
    rw [hg.block i (by omega) (fun e => hne e.symm)]
    exact heap_alloc_old (wr.drewN d) o hi
  have hblk1 : w1.heap[t]? = some (.cells (tcs t share R) 106 (0, 0)) := by rw [hold t htlt (h.notT hk)]; exact h.blk
  have hgt : g ≠ t := by
    rcases hat with e | e
    · intro e2; rw [e2] at e; exact h.notT hk e
    · omega
  have hgL : g ≠ L := by
    rcases hat with e | e
    · intro e2; rw [e2] at e; exact h.notL k hk e
    · omega
  have hset : ∀ i, i ≠ t → (w1.setCell ⟨t, k + 1, none⟩ (.slice (some ⟨g, 0, none⟩) ((X k).length + 1) cap)).heap[i]? = w1.heap[i]? := fun i hi => Below.heap_setCell _ _ _ _ hi
  have hsize : w1.heap.size = (w1.setCell ⟨t, k + 1, none⟩ (.slice (some ⟨g, 0, none⟩) ((X k).length + 1) cap)).heap.size := by simp [World.setCell]
  have hgs := hg.size
  refine ⟨?_, ?_, ?_, ?_, ?_, ?_, h.tge, by have := h.bsz; omega⟩
  · rw [← tcs_set t share R k hk]
    exact setCell_block hblk1
  · intro j hj
    by_cases e : j = k
    · subst e
      rw [upd_at, upd_at, ics_snoc, List.length_append]
      refine ⟨hown.1, ?_⟩
      rcases hown.2 with ⟨e1, _⟩ | ⟨g', cap', cur, e1, e2, e3, e4⟩
      · cases e1
      · refine .inr ⟨g', cap', cur, e1, e2, ?_, e4⟩
        have : g' = g := by simp at e1; exact e1.1.symm
        rw [hset g' (by omega)]; exact e3
    · rw [upd_ne _ _ _ e, upd_ne _ _ _ e]
      have ho := h.own j hj
      refine ⟨ho.1, ?_⟩
      rcases ho.2 with e1 | ⟨g', cap', cur, e1, e2, e3, e4⟩
      · exact .inl e1
      · refine .inr ⟨g', cap', cur, e1, e2, ?_, e4⟩
        have hb : (R j).ownBlock = some g' := by rw [e1]; rfl
        have hne := h.apart j k hj hk e g' hb
        have hnt : g' ≠ t := fun e' => h.notT hj (by rw [hb, e'])
        rw [hset g' hnt, hold g' (lt_heap e3) hne]; exact e3
  · intro i j hi hj hij g' hg'
    by_cases e : i = k
    · subst e
      rw [upd_at] at hg'
      simp [Value.ownBlock] at hg'
      subst hg'
      rw [upd_ne _ _ _ (Ne.symm hij)]
      rcases hat with e | e
      · exact h.apart i j hi hj hij _ e
      · intro e2
        have := ((h.own j hj).lt _ e2).2
        omega
    · rw [upd_ne _ _ _ e] at hg'
      by_cases e2 : j = k
      · subst e2
        rw [upd_at]
        simp only [Value.ownBlock, ne_eq, Option.some.injEq]
        rcases hat with e3 | e3
        · intro e4; subst e4; exact h.apart i j hi hj hij _ hg' e3
        · have := ((h.own i hi).lt _ hg').2
          omega
      · rw [upd_ne _ _ _ e2]
        exact h.apart i j hi hj hij g' hg'
  · intro j hj
    by_cases e : j = k
    · subst e
      rw [upd_at]
      simp only [Value.ownBlock, ne_eq, Option.some.injEq]
      exact hgL
    · rw [upd_ne _ _ _ e]; exact h.notL j hj
  · have htL : L ≠ t := by
      intro e
      have := h.words
      unfold LB at this
      rw [e, h.blk] at this
      simp at this
    unfold LB
    rw [hset L htL, hold L hLlt (h.notL k hk)]
    exact h.words
  · have hb := h.bel
    refine ⟨?_, ?_, ?_, ?_, ?_⟩
    · exact hg.os.trans hb.os
    · exact hg.tape.trans hb.tape
    · exact hg.output.trans hb.output
    · rw [← hsize]; have := hb.size; omega
    · intro i hi
      have h1 := h.tge
      rw [hset i (by omega), hold i (Nat.lt_of_lt_of_le hi h.bsz) (fun e => by have := ((h.own k hk).lt i e).1; omega)]
      exact hb.block i hi
theorem TabSt.drewN {w wr : World} {B t L N share : Nat} {cws : Nat → Nat} {R : Nat → Value} {X : Nat → List Nat} (h : TabSt w wr B t L N share cws R X) (k : Nat) : TabSt w (wr.drewN k) B t L N share cws R X :=
  ⟨h.blk, h.own, h.apart, h.notL, h.words, ⟨h.bel.os, h.bel.tape, h.bel.output, h.bel.size, h.bel.block⟩, h.tge, h.bsz⟩
/-- The symbols of a length among the first i. -/
def symsOf (ns : List Nat) (l i : Nat) : List Nat := (List.range i).filter fun s => decide (ns.getD s 0 = l ∧ 0 < l)
/-- What a table's rows hold, i symbols on. -/
def tX (ns : List Nat) (i k : Nat) : List Nat := if k = 0 then (List.range i).map (fun s => ns.getD s 0) else if k = 1 then (List.range i).map (fun s => rv (cw ns s) (ns.getD s 0)) else symsOf ns (k - 2) i
end Go.Proofs.YtchjnfckcfikkaaDoor
