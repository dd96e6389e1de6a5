/- The document's Of of messages: what it holds. -/
import Derived.Test.YtalpbnkmppdgdaaEWrv
import Derived.Test.YtalpbnkmppdgdaaV15
import Derived.Test.YtalpbnkmppdgdaaEBc
import Derived.Deep.DeepCutAuto
namespace Go.Proofs.Ytalpbnkmppdgdaa
open Go.RowKit
set_option linter.unusedVariables false

theorem intInfo : (Try.prog.info? 3).map (fun i => (i.zero, i.size, i.bytes)) = some (some (.int .i64 0), 1, 8) := by kernel_rfl
def nvs (l : List Nat) : List Value := l.map fun x => .int .i64 (x : Nat)
/-- A row of numbers of the call's own. -/
def OI (w : World) (B : Nat) (v : Value) (l : List Nat) : Prop := w.ownsRow B 3 1 v l.length (nvs l)
theorem OI.nil (w : World) (B : Nat) : OI w B (.slice none 0 0) [] := World.ownsRow_nil _ _ _ _
theorem OI.keep {w w' : World} {B : Nat} {v : Value} {l : List Nat} (h : OI w B v l) (hb : ∀ k, B ≤ k → k < w.heap.size → w'.heap[k]? = w.heap[k]?) : OI w' B v l := by
  obtain ⟨h1, h2⟩ := h
  refine ⟨h1, ?_⟩
  rcases h2 with h2 | ⟨g, cap, cur, h3, h4, h5, r⟩
  · exact .inl h2
  · exact .inr ⟨g, cap, cur, h3, h4, (hb g h4 (lt_of_block h5)).trans h5, r⟩
theorem OI.far {w : World} {B : Nat} {v : Value} {l : List Nat} (h : OI w B v l) {k : Nat} (hk : k < B) : some k ≠ v.ownBlock := by
  rcases h.2 with ⟨rfl, _⟩ | ⟨g, cap, cur, rfl, hg, _⟩
  · simp [Value.ownBlock]
  · intro e
    have e' : k = g := by simpa [Value.ownBlock] using e
    omega
theorem OI.alloc {w : World} {B : Nat} {v : Value} {l : List Nat} (h : OI w B v l) (o : Obj) : OI (w.alloc o) B v l := h.keep (fun k _ hk => ((Below.refl w.heap.size w).alloc (Nat.le_refl _) o).block k hk)
theorem oneI (x : Nat) : ∀ u ∈ [Value.int .i64 (x : Nat)], u.oneCell' = true := by
  intro u hu
  simp only [List.mem_cons, List.not_mem_nil, or_false] at hu
  subst hu
  rfl
/-- What a round of the numbers keeps. -/
structure N1 (w wr : World) (S : List UInt8) (V : Value) (l : List Nat) (a : Nat) : Prop where
  rd : rdNums l.length S = some (l, S.drop a)
  h0 : wr.heap[w.heap.size]? = some (.cells zero13 28 (0, 0))
  own : OI wr (w.heap.size + 1) V l
  bel : Below w.heap.size w wr
  len : a ≤ S.length
  big : w.heap.size + 1 ≤ wr.heap.size
  le : ∀ x ∈ l, x ≤ 9223372036854775807
theorem n1_more {w wr w5 : World} {S : List UInt8} {V : Value} {l : List Nat} {a x n : Nat} {o : Obj} {g cap : Nat} (h : N1 w wr S V l a) (hv : varD (mk (S.drop a)) = some (x, n))
    (hown : w5.ownsRow (w.heap.size + 1) 3 1 (.slice (some ⟨g, 0, none⟩) (l.length + 1) cap) (l.length + 1) (nvs l ++ [.int .i64 (x : Nat)])) (hg : (wr.alloc o).grownBy w5 V.ownBlock) :
    N1 w w5 S (.slice (some ⟨g, 0, none⟩) (l.length + 1) cap) (l ++ [x]) (a + n) := by
  have hbig := h.big
  have hs5 := hg.size
  have hsa : (wr.alloc o).heap.size = wr.heap.size + 1 := by simp
  have hvl := varD_le hv
  rw [mk_size, List.length_drop] at hvl
  have kb : ∀ k, k < w.heap.size + 1 → w5.heap[k]? = wr.heap[k]? := fun k hk => by
    rw [hg.block k (by omega) (h.own.far hk), ((Below.refl wr.heap.size wr).alloc (Nat.le_refl _) o).block k (by omega)]
  refine ⟨?_, (kb _ (by omega)).trans h.h0, ?_, ?_, by have := h.len; omega, by omega, ?_⟩
  · rw [List.length_append, ← List.drop_drop]
    exact rdNums_snoc h.rd hv
  · show w5.ownsRow _ _ _ _ (l ++ [x]).length (nvs (l ++ [x]))
    unfold nvs
    rw [List.length_append, List.map_append]
    exact hown
  · refine ⟨hg.os.trans h.bel.os, hg.tape.trans h.bel.tape, hg.output.trans h.bel.output, by have := h.bel.size; omega, fun k hk => ?_⟩
    rw [kb k (by omega)]
    exact h.bel.block k hk
  · intro y hy
    rcases List.mem_append.1 hy with hy | hy
    · exact h.le y hy
    · simp at hy; subst hy; exact hvl.1
theorem list12 {l : List Nat} (h : l.length = 12) : ∃ a0 a1 a2 a3 a4 a5 a6 a7 a8 a9 a10 a11, l = [a0, a1, a2, a3, a4, a5, a6, a7, a8, a9, a10, a11] := by
  match l, h with
  | [a0, a1, a2, a3, a4, a5, a6, a7, a8, a9, a10, a11], _ => exact ⟨a0, a1, a2, a3, a4, a5, a6, a7, a8, a9, a10, a11, rfl⟩
theorem msg_stop {S : List UInt8} {l : List Nat} {a : Nat} (h : rdNums l.length S = some (l, S.drop a)) (hl : l.length < 12) (hv : varD (mk (S.drop a)) = none) : rdMsg S = none := by
  refine msg_none (raw_nums ?_)
  have := rdNums_stop (k := 11 - l.length) h hv
  rw [show l.length + (11 - l.length + 1) = 12 by omega] at this
  exact this
theorem msg_err {S R1 : List UInt8} {l : List Nat} (h : rdNums 12 S = some (l, R1)) (h7 : 999 < l.getD 7 0) : rdMsg S = none := by
  cases hr : rdMsg S with
  | none => rfl
  | some q =>
    obtain ⟨h1, h2⟩ := rdMsg_may hr
    unfold rdRaw at h1
    rw [h] at h1
    simp only at h1
    by_cases hb : l.getD 11 0 ≤ 4096
    · rw [if_pos hb] at h1
      cases hg : rdLog (l.getD 11 0) R1 with
      | none => rw [hg] at h1; cases h1
      | some p =>
        obtain ⟨T, R2⟩ := p
        rw [hg] at h1
        simp only at h1
        cases hb2 : rdBody R2 with
        | none => rw [hb2] at h1; cases h1
        | some B =>
          rw [hb2] at h1
          cases h1
          have := ((mayM_iff _).1 h2).1
          unfold numsB at this
          simp only [Bool.and_eq_true, inB_iff] at this
          have h9 := this.2.2.2.2.2
          have h10 : (msgOf l T B).err = (l.getD 7 0 : Nat) := rfl
          rw [h10] at h9
          omega
    · rw [if_neg hb] at h1; cases h1
theorem msg_many {S R1 : List UInt8} {l : List Nat} (h : rdNums 12 S = some (l, R1)) (h7 : ¬ l.getD 11 0 ≤ 4096) : rdMsg S = none := by
  refine msg_none ?_
  unfold rdRaw
  rw [h]
  simp only
  rw [if_neg h7]
theorem extract_mid (S : List UInt8) (a b : Nat) : (mk S).extract a b = mk ((S.drop a).take (b - a)) := by
  apply ByteArray.ext
  rw [ByteArray.data_extract]
  show S.toArray.extract a b = ((S.drop a).take (b - a)).toArray
  simp
theorem zero13_keep {w w' : World} {b : Nat} (h : w.heap[b]? = some (.cells zero13 28 (0, 0))) (hb : Below w.heap.size w w') : w'.heap[b]? = some (.cells zero13 28 (0, 0)) := (hb.block b (lt_of_block h)).trans h
end Go.Proofs.Ytalpbnkmppdgdaa
