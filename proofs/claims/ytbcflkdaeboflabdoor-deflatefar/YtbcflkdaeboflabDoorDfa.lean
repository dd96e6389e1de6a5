/- Layer 5: a row of bytes made of a text, that is appended to. -/
import Derived.Test.YtbcflkdaeboflabDoorV46
import Derived.Laws.IdiomStrings
import Derived.Deep.AppendSrc
import Derived.Lib.LazyBuf
namespace Go.Proofs.YtbcflkdaeboflabDoor
open Go.RowKit
set_option linter.unusedVariables false
set_option maxRecDepth 20000

theorem bcells_lenF (a : List Nat) : (bcells a).length = a.length := by simp [bcells]
theorem bcells_oneF (a : List Nat) : ∀ u ∈ bcells a, u.oneCell' = true := fun u hu => by
  obtain ⟨x, _, rfl⟩ := List.mem_map.1 hu
  rfl
theorem bcells_getF {a : List Nat} {j : Nat} (h : j < a.length) : (bcells a)[j]? = some (.int .u8 (a.getD j 0 : Nat)) := by
  unfold bcells
  rw [List.getElem?_map, List.getD_eq_getElem?_getD, List.getElem?_eq_getElem h]
  rfl
theorem infoU8F : (Tryd.prog.info? 5).map (fun i => (i.zero, i.size, i.bytes)) = some (some (.int .u8 0), 1, 1) := by kernel_rfl
/-- A row of bytes, told by its cells, from block B on. -/
def BR (w0 : World) (B : Nat) (v : Value) (l : List Nat) (w : World) : Prop :=
  ∃ g cap, v = .slice (some ⟨g, 0, none⟩) l.length cap ∧ B ≤ g ∧ g < w.heap.size ∧ l.length ≤ cap ∧ (∀ j, j < l.length → w.cell? ⟨g, j, none⟩ = some (.int .u8 (l.getD j 0 : Nat))) ∧ (∀ j, j < cap → (w.cell? ⟨g, j, none⟩).isSome = true ∧ w.frozen? ⟨g, j, none⟩ = false) ∧ (∀ x ∈ l, x < 256) ∧ Below B w0 w ∧ B ≤ w.heap.size
theorem BR.quiet {w0 w w' : World} {B : Nat} {v : Value} {l : List Nat} (h : BR w0 B v l w) (hb : Below w.heap.size w w') : BR w0 B v l w' := by
  obtain ⟨g, cap, h1, h2, h3, h4, h5, h6, h7, h8, h9⟩ := h
  have e := hb.block g h3
  refine ⟨g, cap, h1, h2, Nat.lt_of_lt_of_le h3 hb.size, h4, fun j hj => ?_, fun j hj => ?_, h7, h8.trans (hb.mono h9), Nat.le_trans h9 hb.size⟩
  · rw [World.cell?_of_block (w := w) e]; exact h5 j hj
  · rw [World.cell?_of_block (w := w) e, World.frozen?_of_block (w := w) e]; exact h6 j hj
theorem getD_app2 {A B : List Nat} {i : Nat} : (A ++ B).getD i 0 = if i < A.length then A.getD i 0 else B.getD (i - A.length) 0 := by
  by_cases h : i < A.length
  · rw [if_pos h, List.getD_eq_getElem?_getD, List.getElem?_append_left h, ← List.getD_eq_getElem?_getD]
  · rw [if_neg h, List.getD_eq_getElem?_getD, List.getElem?_append_right (by omega), ← List.getD_eq_getElem?_getD]
/-- Bytes more. -/
theorem BR.app {w0 w : World} {B : Nat} {v : Value} {l k : List Nat} (h : BR w0 B v l w) (tx ty : TypeId) (x : Value) (hs : Src Tryd.prog 1 tx x k.length (bcells k) w) (hk : ∀ y ∈ k, y < 256) (hlen : l.length + k.length ≤ 1000000) :
    ∃ v' w', (Builtin.append_ #[23, tx] ty #[v, x]).run Tryd.prog w = .ok v' w' ∧ BR w0 B v' (l ++ k) w' := by
  obtain ⟨i, hi, hz, hsz, hby⟩ := info_parts infoU8F
  obtain ⟨g, cap, rfl, h2, h3, h4, h5, h6, h7, h8, h9⟩ := h
  have h256 : ∀ y ∈ l ++ k, y < 256 := fun y hy => (List.mem_append.1 hy).elim (h7 y) (hk y)
  by_cases hroom : l.length + k.length ≤ cap
  · have hr := run_append_room_src (P := Tryd.prog) w 23 tx ty 5 i Tryd.underlying23 hi g 0 l.length cap x k.length (bcells k) (by rw [hsz]; exact hs) hroom
      (fun j hj => by rw [hsz]; rw [bcells_lenF] at hj; exact (h6 _ (by omega)).1) (fun j hj => by rw [hsz]; rw [bcells_lenF] at hj; exact (h6 _ (by omega)).2)
    rw [hsz, Nat.mul_one, Nat.zero_add] at hr
    have hin : ∀ j, j < (bcells k).length → (w.cell? ⟨g, l.length + j, none⟩).isSome = true := fun j hj => by
      rw [bcells_lenF] at hj; exact (h6 _ (by omega)).1
    refine ⟨_, _, hr, g, cap, by rw [List.length_append], h2, ?_, by rw [List.length_append]; omega, fun j hj => ?_, fun j hj => ?_, h256, below_setCells h2 _ _ _ h8, ?_⟩
    · have := (below_setCells (a := w) (B := g) (Nat.le_refl g) (bcells k) l.length w (Below.refl _ _)).size
      omega
    · rw [List.length_append] at hj
      rw [getD_app2]
      by_cases hjl : j < l.length
      · rw [if_pos hjl, World.cell?_setCells_out _ _ _ _ _ (fun _ _ => .inl hjl)]
        exact h5 j hjl
      · rw [if_neg hjl]
        have h10 := World.cell?_setCells_in g (bcells k) l.length w hin (j - l.length) (by rw [bcells_lenF]; omega)
        rw [show l.length + (j - l.length) = j by omega] at h10
        rw [h10]
        have h11 := bcells_getF (a := k) (j := j - l.length) (by omega)
        rw [List.getElem?_eq_getElem (by rw [bcells_lenF]; omega)] at h11
        exact h11
    · rw [World.frozen?_setCells]
      refine ⟨?_, (h6 j hj).2⟩
      by_cases hjl : j < l.length ∨ l.length + (bcells k).length ≤ j
      · rw [World.cell?_setCells_out _ _ _ _ _ (fun _ _ => hjl)]; exact (h6 j hj).1
      · have h10 := World.cell?_setCells_in g (bcells k) l.length w hin (j - l.length) (by omega)
        rw [show l.length + (j - l.length) = j by omega] at h10
        rw [h10]; rfl
    · have := (below_setCells (a := w) (B := g) (Nat.le_refl g) (bcells k) l.length w (Below.refl _ _)).size
      omega
  · have hold : (Builtin.firstCells i.size l.length (.slice (some ⟨g, 0, none⟩) l.length cap)).run Tryd.prog w.drew = .ok (bcells l).toArray w.drew := by
      rw [hsz]
      refine run_firstCells_some w.drew 1 l.length ⟨g, 0, none⟩ l.length cap (bcells l) (by rw [bcells_lenF]; omega) (fun j u hu => ?_)
      have hj : j < l.length := by
        have := (List.getElem?_eq_some_iff.1 hu).1
        rw [bcells_lenF] at this; exact this
      rw [bcells_getF hj] at hu
      rw [D5.add_zero_addr, ← hu]
      exact h5 j hj
    have hr := run_append_grow_src (P := Tryd.prog) w 23 tx ty 5 i (.int .u8 0) Tryd.underlying23 hi hz (some ⟨g, 0, none⟩) l.length cap (bcells l) hold x k.length (bcells k) (by rw [hsz]; exact hs) (by omega) (by omega) (growslice_fits (by omega) (by rw [hby]; omega))
    obtain ⟨C, hC⟩ : ∃ C, grownCap w (l.length + k.length) cap 5 = C := ⟨_, rfl⟩
    have hCge : l.length + k.length ≤ C := by rw [← hC]; exact grownCap_ge _ _ _ _
    rw [hC] at hr
    obtain ⟨R, hR⟩ : ∃ R, (bcells l ++ bcells k).toArray ++ Builtin.zeroCells (Value.int .u8 0).cells (C - (l.length + k.length)) = R := ⟨_, rfl⟩
    rw [hR] at hr
    have hzs : (Builtin.zeroCells (Value.int .u8 0).cells (C - (l.length + k.length))).size = C - (l.length + k.length) := by
      unfold Builtin.zeroCells
      simp [Value.cells]
    have hRs : R.size = C := by
      rw [← hR, Array.size_append, hzs]
      simp only [List.size_toArray, List.length_append, bcells_lenF]
      omega
    have hblk : (w.drew.alloc (.cells R 5)).heap[w.heap.size]? = some (.cells R 5 (0, 0)) := heap_alloc_new w.drew (.cells R 5)
    have hb : Below w.heap.size w (w.drew.alloc (.cells R 5)) := (Below.refl _ w).drew.alloc (Nat.le_refl _) _
    obtain ⟨W, hWq⟩ : ∃ W, w.drew.alloc (.cells R 5) = W := ⟨_, rfl⟩
    rw [hWq] at hr hblk hb
    refine ⟨_, _, hr, w.heap.size, C, by rw [List.length_append], h9, lt_of_block hblk, by rw [List.length_append]; exact hCge, fun j hj => ?_, fun j hj => ?_, h256, h8.trans (hb.mono h9), Nat.le_trans h9 hb.size⟩
    · rw [List.length_append] at hj
      have e : R[j]? = some (.int .u8 ((l ++ k).getD j 0 : Nat)) := by
        rw [← hR, Array.getElem?_append_left (by simp only [List.size_toArray, List.length_append, bcells_lenF]; omega)]
        simp only [List.getElem?_toArray]
        have e2 : bcells l ++ bcells k = bcells (l ++ k) := by simp [bcells]
        rw [e2]
        exact bcells_getF (by rw [List.length_append]; omega)
      unfold World.cell?
      rw [hblk]
      exact e
    · have e : j < R.size := by omega
      refine ⟨?_, by simp [World.frozen?, hblk]⟩
      unfold World.cell?
      rw [hblk]
      show (R[j]?).isSome = true
      rw [Array.getElem?_eq_getElem e]
      rfl
/-- The bytes of a text. -/
theorem BR.of (s : ByteArray) (w : World) : ∃ v w1, (convert 9 23 (.string s)).run Tryd.prog w = .ok v w1 ∧ BR w w.heap.size v (bytesL s) w1 := by
  refine ⟨_, _, run_bytes_of_string w 9 23 5 s Tryd.underlying9 Tryd.underlying23 Tryd.underlying5, ?_⟩
  obtain ⟨C, hC⟩ : ∃ C, grownCap w s.size 0 5 = C := ⟨_, rfl⟩
  have hCge : s.size ≤ C := by rw [← hC]; exact grownCap_ge _ _ _ _
  rw [hC]
  obtain ⟨R, hR⟩ : ∃ R, bytesRow s C = R := ⟨_, rfl⟩
  have hblk : (w.drew.alloc (.cells (bytesRow s C) 5 ((bytesRow s C).size, (bytesRow s C).size + 1))).heap[w.heap.size]? = some (.cells (bytesRow s C) 5 ((bytesRow s C).size, (bytesRow s C).size + 1)) := by
    show (w.heap.push _)[w.heap.size]? = _
    simp
  have hb : Below w.heap.size w (w.drew.alloc (.cells (bytesRow s C) 5 ((bytesRow s C).size, (bytesRow s C).size + 1))) := ⟨rfl, rfl, rfl, (by show w.heap.size ≤ (w.heap.push _).size; simp), fun k hk => by
      show (w.heap.push _)[k]? = _
      rw [Array.getElem?_push, if_neg (by omega)]⟩
  have hsz : C ≤ (bytesRow s C).size := by
    unfold bytesRow
    simp
    omega
  refine ⟨w.heap.size, C, by rw [bytesL_length], Nat.le_refl _, lt_of_block hblk, by rw [bytesL_length]; exact hCge, fun j hj => ?_, fun j hj => ?_, fun x hx => ?_, hb, hb.size⟩
  · rw [bytesL_length] at hj
    have e := bytesRow_at s C j hj
    have e2 : (bytesL s).getD j 0 = s.data[j].toNat := by
      unfold bytesL
      rw [List.getD_eq_getElem?_getD, List.getElem?_map, Array.getElem?_toList, Array.getElem?_eq_getElem (by exact hj)]
      rfl
    rw [e2]
    unfold World.cell?
    rw [hblk]
    exact e
  · have e : j < (bytesRow s C).size := by omega
    refine ⟨?_, ?_⟩
    · unfold World.cell?
      rw [hblk]
      show ((bytesRow s C)[j]?).isSome = true
      rw [Array.getElem?_eq_getElem e]
      rfl
    · unfold World.frozen?
      rw [hblk]
      simp
      omega
  · obtain ⟨y, _, rfl⟩ := List.mem_map.1 hx
    exact UInt8.toNat_lt y
end Go.Proofs.YtbcflkdaeboflabDoor
