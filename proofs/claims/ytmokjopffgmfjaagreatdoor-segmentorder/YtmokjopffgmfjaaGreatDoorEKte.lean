/- Layer 11: what take turns (TK), and take of any segment. -/
import Derived.Test.YtmokjopffgmfjaaGreatDoorEKtb
import Derived.Test.YtmokjopffgmfjaaGreatDoorEQjb
namespace Go.Proofs.YtmokjopffgmfjaaGreatDoor
open Go.RowKit
set_option linter.unusedVariables false
set_option maxRecDepth 20000
set_option maxRecDepth 20000

/-- The block of a segment's listed places. -/
def rowOf (w : World) (s : Nat) : Option Nat := (w.cell? ⟨s, 4, none⟩).bind Value.ownBlock
/-- What take turns: the segment's own block, and its places' own row. -/
structure TK (B s : Nat) (w w' : World) : Prop where
  below : Below B w w'
  kept : ∀ i, i < w.heap.size → i ≠ s → rowOf w s ≠ some i → w'.heap[i]? = w.heap[i]?
  row : rowOf w' s = rowOf w s ∨ ∀ j, rowOf w' s = some j → w.heap.size ≤ j
theorem TK.trans {B s : Nat} {a b c : World} (h : TK B s a b) (k : TK B s b c) : TK B s a c := by
  refine ⟨h.below.trans k.below, fun i hi h1 h2 => ?_, ?_⟩
  · have e := h.kept i hi h1 h2
    refine (k.kept i (Nat.lt_of_lt_of_le hi h.below.size) h1 ?_).trans e
    rcases h.row with r | r
    · rw [r]; exact h2
    · intro e'
      have := r i e'
      omega
  · rcases k.row with r | r
    · rw [r]; exact h.row
    · exact .inr fun j hj => Nat.le_trans h.below.size (r j hj)
theorem rowOf_same {w w' : World} {s : Nat} (h : w'.heap[s]? = w.heap[s]?) : rowOf w' s = rowOf w s := by
  unfold rowOf World.cell?
  simp only [h]
theorem TK.of {B s : Nat} {w w' : World} (h : Below w.heap.size w w') (hB : B ≤ w.heap.size) (hs : s < w.heap.size) : TK B s w w' :=
  ⟨⟨h.os, h.tape, h.output, h.size, fun k hk => h.block k (by omega)⟩, fun i hi _ _ => h.block i hi, .inl (rowOf_same (h.block s hs))⟩
theorem TK.set {B s i : Nat} {w : World} {cs : Array Value} {t : TypeId} (u : Value) (hB : B ≤ s) (hs : w.heap[s]? = some (.cells cs t (0, 0))) (hi : i ≠ 4) : TK B s w (w.setCell ⟨s, i, none⟩ u) := by
  refine ⟨below_set w u hB, fun k _ h1 _ => Below.heap_setCell _ _ _ _ (by simpa using h1), .inl ?_⟩
  have e := block_set (i := i) (u := u) hs
  unfold rowOf World.cell?
  simp only [e, hs]
  rw [Array.getElem?_setIfInBounds_ne hi]
theorem TK.push {B s : Nat} {w w' : World} {pv v' : Value} {cs : Array Value} {t : TypeId} (hs : w.heap[s]? = some (.cells cs t (0, 0))) (hc : cs[4]? = some pv) (hg : w.grownBy w' pv.ownBlock) (hne : pv.ownBlock ≠ some s) (hlo : ∀ k, pv.ownBlock = some k → B ≤ k) (hBw : B ≤ w.heap.size) (hB : B ≤ s)
    (hnew : v'.ownBlock = pv.ownBlock ∨ v'.ownBlock = some w.heap.size) : TK B s w (w'.setCell ⟨s, 4, none⟩ v') := by
  have hsl := lt_of_block hs
  have hs' : w'.heap[s]? = some (.cells cs t (0, 0)) := (hg.block s hsl (fun e => hne e.symm)).trans hs
  have e := block_set (i := 4) (u := v') hs'
  have r0 : rowOf w s = pv.ownBlock := by
    unfold rowOf World.cell?
    simp [hs, hc]
  have h4 : 4 < cs.size := by
    rcases Nat.lt_or_ge 4 cs.size with h | h
    · exact h
    · rw [Array.getElem?_eq_none h] at hc; cases hc
  have r1 : rowOf (w'.setCell ⟨s, 4, none⟩ v') s = v'.ownBlock := by
    unfold rowOf World.cell?
    simp [e, h4]
  refine ⟨⟨hg.os, hg.tape, hg.output, by simpa [World.setCell] using hg.size, fun k hk => ?_⟩, fun i hi h1 h2 => ?_, ?_⟩
  · rw [Below.heap_setCell _ _ _ _ (by show k ≠ s; omega)]
    exact hg.block k (by omega) (fun e => by have := hlo k e.symm; omega)
  · rw [Below.heap_setCell _ _ _ _ (by simpa using h1)]
    rw [r0] at h2
    exact hg.block i hi (fun e => h2 e.symm)
  · rw [r0, r1]
    rcases hnew with h | h
    · exact .inl h
    · exact .inr fun j hj => by rw [h] at hj; cases hj; exact Nat.le_refl _
theorem SG.rowT {w : World} {B s d base : Nat} {nm : ByteArray} {P : List Pl} {bh : Pl} (h : SG w B s d nm base P bh) {i : Nat} (hi : rowOf w s = some i) : B ≤ i ∧ ∃ cs, w.heap[i]? = some (.cells cs 31 (0, 0)) := by
  obtain ⟨pv, h1, h2⟩ := h.blk
  have : rowOf w s = pv.ownBlock := by unfold rowOf World.cell?; simp [h1]
  rw [this] at hi
  exact rowBlk h2 hi
theorem TK.vd {B s d base : Nat} {nm : ByteArray} {P : List Pl} {bh : Pl} {w w' : World} {Bd d' room cnt us : Nat} {F : List UInt8 → Option (List Nat × Nat)} (h : TK B s w w') (hS : SG w B s d nm base P bh) (hd : V8.VD w Bd d' room F cnt us) : V8.VD w' Bd d' room F cnt us := by
  obtain ⟨pv, h1, h2⟩ := hS.blk
  refine hd.typed (fun i cs' t mk hi ht => h.kept i (lt_of_block hi) ?_ (fun hr => ?_)) (fun i es c hi => h.kept i ?_ ?_ (fun hr => ?_))
  · rintro rfl
    rw [h1] at hi
    cases hi
    rcases ht with h | h | h <;> revert h <;> decide
  · obtain ⟨_, cs, e⟩ := hS.rowT hr
    rw [hi] at e
    cases e
    rcases ht with h | h | h <;> revert h <;> decide
  · rcases Nat.lt_or_ge i w.heap.size with h | h
    · exact h
    · rw [Array.getElem?_eq_none h] at hi; cases hi
  · rintro rfl
    rw [h1] at hi
    cases hi
  · obtain ⟨_, cs, e⟩ := hS.rowT hr
    rw [hi] at e
    cases e
end Go.Proofs.YtmokjopffgmfjaaGreatDoor
