/- Layer 18: dues with a tree of their steps in memory. -/
import Derived.Test.YtebfpffilepfaaaKd
import Derived.Deep.OwnRows
namespace Go.Proofs.Ytebfpffilepfaaa
open Go.RowKit Go.Maps Go.Shelf
set_option linter.unusedVariables false
set_option maxRecDepth 20000

def icells (n : Nat) (T : Nat → Int) : Array Value := ((List.range n).map fun i => Value.int .i64 (T i)).toArray
/-- Block g holds the first n numbers of T. -/
def TB (w : World) (g n : Nat) (T : Nat → Int) : Prop := w.heap[g]? = some (.cells (icells n T) 3 (0, 0))
theorem TB.cell {w : World} {g n : Nat} {T : Nat → Int} (h : TB w g n T) {i : Nat} (hi : i < n) : w.cell? ⟨g, i, none⟩ = some (.int .i64 (T i)) := by
  unfold TB at h
  simp [World.cell?, h, icells, hi]
theorem TB.frozen {w : World} {g n : Nat} {T : Nat → Int} (h : TB w g n T) (i : Nat) : w.frozen? ⟨g, i, none⟩ = false := by
  unfold TB at h
  simp [World.frozen?, h]
def upd (T : Nat → Int) (i : Nat) (x : Int) : Nat → Int := fun j => if j = i then x else T j
theorem TB.set {w : World} {g n : Nat} {T : Nat → Int} (h : TB w g n T) (i : Nat) (x : Int) : TB (w.setCell ⟨g, i, none⟩ (.int .i64 x)) g n (upd T i x) := by
  have hlt := lt_of_block h
  have h' : w.heap[g] = .cells (icells n T) 3 (0, 0) := by
    unfold TB at h
    simpa [Array.getElem?_eq_getElem hlt] using h
  have key : (w.setCell ⟨g, i, none⟩ (.int .i64 x)).heap[g]? = some (.cells ((icells n T).setIfInBounds i (.int .i64 x)) 3 (0, 0)) := by
    show (w.heap.modify g _)[g]? = _
    rw [Array.getElem?_eq_getElem (by simpa using hlt), Array.getElem_modify_self, h']
    rfl
  have e : (icells n T).setIfInBounds i (.int .i64 x) = icells n (upd T i x) := by
    apply Array.ext'
    simp only [icells, Array.toList_setIfInBounds]
    apply List.ext_getElem
    · simp
    · intro j h1 h2
      rw [List.getElem_set]
      simp only [List.getElem_map, List.getElem_range, upd]
      split
      · next e => simp [e]
      · next e => rw [if_neg (fun h => e h.symm)]
  unfold TB
  rw [key, e]
theorem TB.below {w w' : World} {g n : Nat} {T : Nat → Int} (h : TB w g n T) (hb : Below w.heap.size w w') : TB w' g n T := (hb.block g (lt_of_block h)).trans h
theorem intInfo : (Try.prog.info? 3).map (fun i => (i.zero, i.size, i.bytes)) = some (some (.int .i64 0), 1, 8) := by kernel_rfl
theorem make_icells (N : Nat) : madeCells #[.int .i64 0] N = icells N (fun _ => 0) := by
  apply Array.ext'
  rw [toList_madeCells_one]
  unfold icells
  apply List.ext_getElem
  · simp
  · intro i h1 h2; simp
theorem make_ok (N : Nat) (h : N ≤ 1000000000000) (W : World) : (Instr.makeSlice 77 (.int .i64 (N : Nat)) (.int .i64 (N : Nat))).run Try.prog W = .ok (.slice (some ⟨W.heap.size, 0, none⟩) N N) (W.alloc (.cells (icells N (fun _ => 0)) 3)) := by
  rw [← make_icells]
  exact run_make_row' (P := Try.prog) 77 3 (.int .i64 0) 8 Try.underlying77 intInfo rfl .i64 .i64 N (by omega) (by omega) W
/-- Dues lie in memory, with the lowest steps of a tree. -/
structure DS (w : World) (D : Nat) (a : Option Addr) (cap : Nat) (L : List Due) (lv g : Nat) (T : Nat → Int) : Prop where
  blk : w.heap[D]? = some (.cells #[.slice a L.length cap, .int .i64 (lv : Nat), .slice (some ⟨g, 0, none⟩) (2 * lv) (2 * lv)] 79 (0, 0))
  list : DIn w a L
  tb : TB w g (2 * lv) T
  one : 1 ≤ lv
  le : L.length ≤ lv
  big : lv ≤ 1000000000
theorem DS.below {w w' : World} {D : Nat} {a : Option Addr} {cap : Nat} {L : List Due} {lv g : Nat} {T : Nat → Int} (h : DS w D a cap L lv g T) (hb : Below w.heap.size w w') : DS w' D a cap L lv g T :=
  ⟨(hb.block D (lt_of_block h.blk)).trans h.blk, h.list.bel hb, h.tb.below hb, h.one, h.le, h.big⟩
/-- The tree: the steps are its leaves, and each inner number is the lower one of two. -/
structure Tree (L : List Due) (lv : Nat) (T : Nat → Int) : Prop where
  leaf : ∀ i d, L[i]? = some d → T (lv + i) = d.step
  rest : ∀ i, L.length ≤ i → i < lv → T (lv + i) = 9223372036854775807
  min : ∀ i, 1 ≤ i → i < lv → T i = min (T (2 * i)) (T (2 * i + 1))
theorem Tree.all {L : List Due} {lv : Nat} {T : Nat → Int} (h : Tree L lv T) {s : Int} (hs : s ≤ 9223372036854775807) (hl : ∀ d ∈ L, s ≤ d.step) : ∀ k i, 1 ≤ i → i < 2 * lv → 2 * lv - i ≤ k → s ≤ T i
  | 0, i, h1, h2, h3 => by omega
  | k + 1, i, h1, h2, h3 => by
    rcases Nat.lt_or_ge i lv with hi | hi
    · have a1 := Tree.all h hs hl k (2 * i) (by omega) (by omega) (by omega)
      have a2 := Tree.all h hs hl k (2 * i + 1) (by omega) (by omega) (by omega)
      rw [h.min i h1 hi]
      omega
    · obtain ⟨j, rfl⟩ : ∃ j, i = lv + j := ⟨i - lv, by omega⟩
      rcases Nat.lt_or_ge j L.length with hj | hj
      · rw [h.leaf j _ (List.getElem?_eq_getElem hj)]
        exact hl _ (List.getElem_mem _)
      · rw [h.rest j hj (by omega)]; exact hs
end Go.Proofs.Ytebfpffilepfaaa
