/- WireLong: how many bytes so many texts of so many bytes are. -/
import Derived.Test.YtalpbnkmppdgdaaEWrz
import Derived.Laws.OwnMore
namespace Go.Proofs.Ytalpbnkmppdgdaa
open Go.RowKit
set_option linter.unusedVariables false

theorem vb_len1 (n : Nat) (h : n < 128) : (vb n).length = 1 := by
  unfold vb
  rw [List.length_map]
  show (varB (9 + 1) n).length = 1
  unfold varB
  rw [if_pos h]
  rfl
theorem vb_len3 (n : Nat) (h : n < 2097152) : (vb n).length ≤ 3 := by
  unfold vb
  rw [List.length_map]
  show (varB (9 + 1) n).length ≤ 3
  unfold varB
  by_cases h1 : n < 128
  · rw [if_pos h1]; simp
  · rw [if_neg h1]
    show (varB (8 + 1) (n / 128)).length + 1 ≤ 3
    unfold varB
    by_cases h2 : n / 128 < 128
    · rw [if_pos h2]; simp
    · rw [if_neg h2]
      show (varB (7 + 1) (n / 128 / 128)).length + 1 + 1 ≤ 3
      unfold varB
      rw [if_pos (by omega)]
      simp
abbrev longM (n : Nat) (t : ByteArray) : Msg := ⟨8, 0, 0, 0, 0, 0, 0, 0, 0, 0, 0, List.replicate n t, []⟩
theorem logL_rep (n : Nat) (t : ByteArray) : (logL (List.replicate n t)).length = n * ((vb t.size).length + t.size) := by
  induction n with
  | zero => simp [logL]
  | succ n ih =>
    have := data_len t
    rw [List.replicate_succ]
    simp only [logL, List.length_append, ih, this]
    rw [Nat.succ_mul]
    omega
theorem longM_len (n k : Nat) (t : ByteArray) (hn : n ≤ 15) (hk : t.size = k) (hk2 : k ≤ 262143) : n * k ≤ (msgL (longM n t)).length ∧ (msgL (longM n t)).length ≤ n * (k + 3) + 13 := by
  have h1 := vb_len3 k (by omega)
  have h2 := vb_len1 n (by omega)
  have h3 := logL_rep n t
  rw [hk] at h3
  have h4 : (numsL (longM n t).ns).length = 11 := by show (numsL [8, 0, 0, 0, 0, 0, 0, 0, 0, 0, 0]).length = 11; decide +kernel
  have h5 : (vb 0).length = 1 := vb_len1 0 (by omega)
  have h6 : (msgL (longM n t)).length = 11 + (1 + (n * ((vb k).length + k) + 1)) := by
    unfold msgL
    simp only [List.length_append, h4, h3, List.length_replicate, h2, List.length_nil, h5, recsL]
  have h7 : n * ((vb k).length + k) ≤ n * (k + 3) := Nat.mul_le_mul_left n (by omega)
  have h8 : n * k ≤ n * ((vb k).length + k) := Nat.mul_le_mul_left n (by omega)
  omega
theorem longM_may (n : Nat) (t : ByteArray) (hn : n ≤ 15) (hk2 : t.size ≤ 262143) : mayM (longM n t) = true := by
  refine (mayM_iff _).2 ⟨by show (offsB [0, 0, 0, 0, 0, 0, 0] && (inB 8 1 10 && (inB 0 0 255 && (inB 0 0 255 && inB 0 0 999)))) = true; decide +kernel, (logB_iff _).2 ⟨by rw [List.length_replicate]; omega, fun y hy => ?_⟩, by show bodyB [] = true; decide +kernel⟩
  rw [List.eq_of_mem_replicate hy]
  omega
theorem and15 (x : Int) : ∃ k : Nat, k ≤ 15 ∧ bits .and .i64 x 15 = (k : Int) := by
  have h16 : (BitVec.ofInt 64 15).toNat = 2 ^ 4 - 1 := by decide
  have key : (BitVec.ofInt 64 x &&& BitVec.ofInt 64 15).toNat = (x % ((2 ^ 64 : Nat) : Int)).toNat % 2 ^ 4 := by
    rw [BitVec.toNat_and, BitVec.toNat_ofInt, h16, Nat.and_two_pow_sub_one_eq_mod]
  have h : bits .and .i64 x 15 = x % 16 := by
    show IntKind.i64.wrap ((BitVec.ofInt 64 x &&& BitVec.ofInt 64 15).toNat : Nat) = x % 16
    rw [key, IntKind.wrap_i64]
    omega
  exact ⟨(x % 16).toNat, by omega, by rw [h]; omega⟩
theorem and3ffff (x : Int) : ∃ k : Nat, k ≤ 262143 ∧ bits .and .i64 x 262143 = (k : Int) := by
  have h16 : (BitVec.ofInt 64 262143).toNat = 2 ^ 18 - 1 := by decide
  have key : (BitVec.ofInt 64 x &&& BitVec.ofInt 64 262143).toNat = (x % ((2 ^ 64 : Nat) : Int)).toNat % 2 ^ 18 := by
    rw [BitVec.toNat_and, BitVec.toNat_ofInt, h16, Nat.and_two_pow_sub_one_eq_mod]
  have h : bits .and .i64 x 262143 = x % 262144 := by
    show IntKind.i64.wrap ((BitVec.ofInt 64 x &&& BitVec.ofInt 64 262143).toNat : Nat) = x % 262144
    rw [key, IntKind.wrap_i64]
    omega
  exact ⟨(x % 262144).toNat, by omega, by rw [h]; omega⟩
theorem u8Info : (Try.prog.info? 5).map (fun i => (i.zero, i.size, i.bytes)) = some (some (.int .u8 0), 1, 1) := by kernel_rfl
theorem zeros_made (n : Nat) (w : World) (hn : n ≤ 2000000) : ∃ w1, (Instr.makeSlice 38 (.int .i64 (n : Int)) (.int .i64 (n : Int))).run Try.prog w = .ok (.slice (some ⟨w.heap.size, 0, none⟩) n n) w1 ∧ OB w1 w.heap.size (.slice (some ⟨w.heap.size, 0, none⟩) n n) (List.replicate n 0) ∧ Below w.heap.size w w1 := by
  obtain ⟨i, hq, h1, h2, h3⟩ := info_split u8Info
  obtain ⟨w1, hrun, hown, hgr⟩ := run_make_full (P := Try.prog) w w.heap.size 38 5 i (.int .u8 0) 1 Try.underlying38 hq h1 h2 .i64 .i64 n (by rw [h3]; omega) (by unfold maxLen; omega) (Nat.le_refl _)
  refine ⟨w1, hrun, ?_, (Below.refl _ _).grown hgr (Nat.le_refl _) (fun k hk => by cases hk)⟩
  have e : (madeCells (Value.int .u8 0).cells (n * 1)).toList = List.replicate (n * 1) (Value.int .u8 0) := toList_madeCells_one (.int .u8 0) (n * 1)
  have e2 : Lib.byteCells (List.replicate n 0) = List.replicate (n * 1) (Value.int .u8 0) := by simp [Lib.byteCells]
  show w1.ownsRow _ _ _ _ (List.replicate n (0 : UInt8)).length _
  rw [e2, ← e, List.length_replicate]
  exact hown
/-- What the loop keeps. -/
structure LG (w wr : World) (mb C : Nat) (V : Value) (T : List ByteArray) : Prop where
  hm : wr.heap[mb]? = some (.cells #[.int .i64 8, .int .i64 0, .int .i64 0, .int .i64 0, .int .i64 0, .int .i64 0, .int .i64 0, .int .i64 0, .int .i64 0, .int .i64 0, .int .i64 0, V, .slice none 0 0] 28 (0, 0))
  own : OT wr C V T
  bel : Below w.heap.size w wr
  big : C ≤ wr.heap.size
  mlt : mb < C
  low : w.heap.size ≤ mb
theorem LG.at11 {w wr : World} {mb C : Nat} {V : Value} {T : List ByteArray} (h : LG w wr mb C V T) : wr.cell? ⟨mb, 11, none⟩ = some V := (cells13 h.hm).2.2.2.2.2.2.2.2.2.2.2.1
theorem LG.next {w wr w5 : World} {mb C : Nat} {V : Value} {T : List ByteArray} {t : ByteArray} {o : Obj} {g cap : Nat} (h : LG w wr mb C V T)
    (hown : w5.ownsRow C 9 1 (.slice (some ⟨g, 0, none⟩) (T.length + 1) cap) (T.length + 1) (T.map Value.string ++ [.string t])) (hg : (wr.alloc o).grownBy w5 V.ownBlock) :
    w5.cell? ⟨mb, 11, none⟩ = some V ∧ w5.frozen? ⟨mb, 11, none⟩ = false ∧ LG w (w5.setCell ⟨mb, 11, none⟩ (.slice (some ⟨g, 0, none⟩) (T.length + 1) cap)) mb C (.slice (some ⟨g, 0, none⟩) (T.length + 1) cap) (T ++ [t]) := by
  have hbig := h.big
  have hmlt := h.mlt
  have hlow := h.low
  have hs5 := hg.size
  have hsa : (wr.alloc o).heap.size = wr.heap.size + 1 := by simp
  have kb : ∀ k, k < C → w5.heap[k]? = wr.heap[k]? := fun k hk => by
    rw [hg.block k (by omega) (h.own.far hk), ((Below.refl wr.heap.size wr).alloc (Nat.le_refl _) o).block k (by omega)]
  have hm5 := (kb mb hmlt).trans h.hm
  refine ⟨(cells13 hm5).2.2.2.2.2.2.2.2.2.2.2.1, frozen0 hm5 11, (block_setCell hm5).trans (by simp), ?_, ?_, ?_, hmlt, hlow⟩
  · have ho : OT w5 C (.slice (some ⟨g, 0, none⟩) (T.length + 1) cap) (T ++ [t]) := by
      show w5.ownsRow _ _ _ _ (T ++ [t]).length _
      rw [List.length_append, List.map_append]
      exact hown
    exact ho.keep (fun k hk _ => Below.heap_setCell _ _ _ _ (by show k ≠ mb; omega))
  · have hb5 : Below w.heap.size w w5 := by
      refine ⟨hg.os.trans h.bel.os, hg.tape.trans h.bel.tape, hg.output.trans h.bel.output, by have := h.bel.size; omega, fun k hk => ?_⟩
      rw [kb k (by omega)]
      exact h.bel.block k hk
    exact hb5.setCell hlow _
  · simp [World.setCell]; omega
end Go.Proofs.Ytalpbnkmppdgdaa
