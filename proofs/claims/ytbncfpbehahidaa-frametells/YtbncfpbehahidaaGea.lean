/- Rows of bytes made of a text; SumsTell: one byte that is another one is told. -/
import Derived.Test.YtbncfpbehahidaaGs3
import Derived.Laws.IdiomStrings
namespace Go.Proofs.Ytbncfpbehahidaa.S2
open Go.RowKit
set_option linter.unusedVariables false
set_option maxRecDepth 20000

def toBA (l : List Nat) : ByteArray := ⟨(l.map UInt8.ofNat).toArray⟩
theorem toBA_size (l : List Nat) : (toBA l).size = l.length := by
  show (l.map UInt8.ofNat).toArray.size = _
  simp
theorem BL_toBA (l : List Nat) (h : ∀ x ∈ l, x < 256) : BL (toBA l) = l := by
  unfold BL toBA
  simp only [List.map_map]
  conv => rhs; rw [← List.map_id l]
  apply List.map_congr_left
  intro x hx
  simp [UInt8.toNat_ofNat', h x hx]
/-- The cells of block g begin with the bytes l, and none of these is frozen. -/
def TB (w : World) (g : Nat) (l : List Nat) : Prop := ∀ j, j < l.length → w.cell? ⟨g, j, none⟩ = some (.int .u8 (l.getD j 0 : Nat)) ∧ w.frozen? ⟨g, j, none⟩ = false
theorem TB.drewN {w : World} {g : Nat} {l : List Nat} (h : TB w g l) (k : Nat) : TB (w.drewN k) g l := h
theorem getD_set (l : List Nat) (k x j : Nat) (hk : k < l.length) : (l.set k x).getD j 0 = if k = j then x else l.getD j 0 := by
  rw [List.getD_eq_getElem?_getD, List.getD_eq_getElem?_getD, List.getElem?_set]
  by_cases e : k = j
  · subst e; simp [hk]
  · simp [e]
theorem TB.set {w : World} {g : Nat} {l : List Nat} (h : TB w g l) (k x : Nat) (hk : k < l.length) : TB (w.setCell ⟨g, k, none⟩ (.int .u8 (x : Nat))) g (l.set k x) := by
  intro j hj
  rw [List.length_set] at hj
  rw [getD_set l k x j hk]
  obtain ⟨h1, h2⟩ := h j hj
  refine ⟨?_, by rw [World.frozen?_setCell]; exact h2⟩
  by_cases e : k = j
  · subst e
    rw [if_pos rfl]
    exact World.cell?_setCell_same _ _ _ h1
  · rw [if_neg e, World.cell?_setCell_other _ _ _ _ (by simp)]
    exact h1
theorem bytes_of (s : ByteArray) (w : World) : ∃ cap w1, (convert 9 30 (.string s)).run Try.prog w = .ok (.slice (some ⟨w.heap.size, 0, none⟩) s.size cap) w1 ∧ TB w1 w.heap.size (BL s) ∧ Below w.heap.size w w1 ∧ w.heap.size < w1.heap.size := by
  refine ⟨_, _, run_bytes_of_string w 9 30 5 s Try.underlying9 Try.underlying30 Try.underlying5, ?_, ?_, ?_⟩
  · intro j hj
    rw [BL_length] at hj
    have hg : (w.drew.alloc (.cells (bytesRow s (grownCap w s.size 0 5)) 5 ((bytesRow s (grownCap w s.size 0 5)).size, (bytesRow s (grownCap w s.size 0 5)).size + 1))).heap[w.heap.size]? = some (.cells (bytesRow s (grownCap w s.size 0 5)) 5 ((bytesRow s (grownCap w s.size 0 5)).size, (bytesRow s (grownCap w s.size 0 5)).size + 1)) := by
      show (w.heap.push _)[w.heap.size]? = _
      simp
    have hsz : s.size ≤ (bytesRow s (grownCap w s.size 0 5)).size := by
      unfold bytesRow
      simp
    constructor
    · rw [cell_of_row _ _ j _ _ _ hg]
      have h' : j < s.data.size := hj
      unfold bytesRow
      rw [Array.getElem?_append_left (by simpa using h'), Array.getElem?_map, Array.getElem?_eq_getElem h', ← BL_getD s j hj]
      rfl
    · simp only [World.frozen?, hg]
      simp
      omega
  · exact ⟨rfl, rfl, rfl, (by show w.heap.size ≤ (w.heap.push _).size; simp), fun k hk => by
      show (w.heap.push _)[k]? = _
      rw [Array.getElem?_push, if_neg (by omega)]⟩
  · show w.heap.size < (w.heap.push _).size
    simp
theorem bytes_back (l : List Nat) (g cap : Nat) (w : World) (h : TB w g l) (hl : ∀ x ∈ l, x < 256) : (convert 30 9 (.slice (some ⟨g, 0, none⟩) l.length cap)).run Try.prog w = .ok (.string (toBA l)) w := by
  have hlen : (l.map UInt8.ofNat).length = l.length := by simp
  have := run_convert_bytes_back (P := Try.prog) w 30 9 5 ⟨g, 0, none⟩ cap (l.map UInt8.ofNat) Try.underlying30 Try.underlying5 Try.underlying9 (fun j hj => by
    have hj' : j < l.length := by simpa using hj
    have hx := hl l[j] (List.getElem_mem hj')
    rw [addr_add, Nat.zero_add, (h j hj').1, List.getD_eq_getElem?_getD, List.getElem?_eq_getElem hj']
    simp
    omega)
  rw [hlen] at this
  exact this
theorem i64_and255 (n : Int) : bits .and .i64 n 255 = n % 256 := by
  have h127 : (BitVec.ofInt 64 255).toNat = 2 ^ 8 - 1 := by decide
  have key : (BitVec.ofInt 64 n &&& BitVec.ofInt 64 255).toNat = (n % ((2 ^ 64 : Nat) : Int)).toNat % 2 ^ 8 := by
    rw [BitVec.toNat_and, BitVec.toNat_ofInt, h127, Nat.and_two_pow_sub_one_eq_mod]
  show IntKind.i64.wrap ((BitVec.ofInt 64 n &&& BitVec.ofInt 64 255).toNat : Nat) = n % 256
  rw [key, IntKind.wrap_i64]
  omega
theorem unlike_set (l : List Nat) (k y : Nat) (hl : ∀ x ∈ l, x < 256) (hk : k < l.length) (hy : y < 256) (hy0 : y ≠ 0) : Unlike l (l.set k (l.getD k 0 ^^^ y)) k := by
  have hx : l.getD k 0 ^^^ y < 256 := Nat.xor_lt_two_pow (n := 8) (getD_lt hl k) hy
  refine ⟨by simp, hk, fun i hi => by rw [getD_set l k _ i hk, if_neg (fun e => hi e.symm)], ?_, hl, ?_⟩
  · rw [getD_set l k _ k hk, if_pos rfl]
    intro e
    have := congrArg (l.getD k 0 ^^^ ·) e
    simp only [xor_back, Nat.xor_self] at this
    exact hy0 this.symm
  · intro x hx'
    rcases List.mem_or_eq_of_mem_set hx' with h | h
    · exact hl x h
    · rw [h]; exact hx
end Go.Proofs.Ytbncfpbehahidaa.S2
