/- The document's Of of messages: what it holds while it takes the texts. -/
import Derived.Test.YtalpbnkmppdgdaaEWsc
namespace Go.Proofs.Ytalpbnkmppdgdaa
open Go.RowKit
set_option linter.unusedVariables false

/-- What a round of the texts keeps. -/
structure N2 (w w2 wr : World) (S R1 : List UInt8) (l : List Nat) (mb C : Nat) (V : Value) (T : List ByteArray) (a : Nat) : Prop where
  rd : rdLog T.length R1 = some (T, S.drop a)
  hm : wr.heap[mb]? = some (.cells (mc l (.int .i64 (l.getD 7 0 : Nat)) V) 28 (0, 0))
  own : OT wr C V T
  kp : ∀ k, k < C → k ≠ mb → wr.heap[k]? = w2.heap[k]?
  bel : Below w.heap.size w wr
  big : C ≤ wr.heap.size
  len : a ≤ S.length
  tsz : ∀ y ∈ T, y.size ≤ S.length
  mlt : mb < C
  low : w.heap.size ≤ mb
theorem N2.at11 {w w2 wr w' : World} {S R1 : List UInt8} {l : List Nat} {mb C : Nat} {V : Value} {T : List ByteArray} {a : Nat} (h : N2 w w2 wr S R1 l mb C V T a) (hk : w'.heap[mb]? = wr.heap[mb]?) : w'.cell? ⟨mb, 11, none⟩ = some V ∧ w'.frozen? ⟨mb, 11, none⟩ = false := by
  have hm := hk.trans h.hm
  exact ⟨by simp [World.cell?, hm, mc], by simp [World.frozen?, hm]⟩
theorem N2.al {w w2 wr : World} {S R1 : List UInt8} {l : List Nat} {mb C : Nat} {V : Value} {T : List ByteArray} {a : Nat} (h : N2 w w2 wr S R1 l mb C V T a) (o : Obj) : (wr.alloc o).heap[mb]? = wr.heap[mb]? :=
  ((Below.refl wr.heap.size wr).alloc (Nat.le_refl _) o).block _ (lt_of_block h.hm)
theorem N2.gr {w w2 wr w5 : World} {S R1 : List UInt8} {l : List Nat} {mb C : Nat} {V : Value} {T : List ByteArray} {a : Nat} (h : N2 w w2 wr S R1 l mb C V T a) (o : Obj) (hg : (wr.alloc o).grownBy w5 V.ownBlock) : w5.heap[mb]? = wr.heap[mb]? := by
  rw [hg.block _ (by have := lt_of_block h.hm; simp; omega) (h.own.far h.mlt)]
  exact h.al o
theorem N2.ownA {w w2 wr : World} {S R1 : List UInt8} {l : List Nat} {mb C : Nat} {V : Value} {T : List ByteArray} {a : Nat} (h : N2 w w2 wr S R1 l mb C V T a) (o : Obj) : (wr.alloc o).ownsRow C 9 1 V T.length (T.map Value.string) ∧ C ≤ (wr.alloc o).heap.size := by
  have hb := h.big
  refine ⟨?_, by simp; omega⟩
  have : OT (wr.alloc o) C V T := h.own.keep (fun k hk hk2 => ((Below.refl wr.heap.size wr).alloc (Nat.le_refl _) o).block k hk2)
  exact this
theorem N2.other {w w2 wr : World} {S R1 : List UInt8} {l : List Nat} {mb C : Nat} {V : Value} {T : List ByteArray} {a k i : Nat} {u : Value} (h : N2 w w2 wr S R1 l mb C V T a) (hk : k < C) (hne : k ≠ mb) (hc : w2.cell? ⟨k, i, none⟩ = some u) : wr.cell? ⟨k, i, none⟩ = some u := by
  have := h.kp k hk hne
  simp only [World.cell?, this] at hc ⊢
  exact hc
theorem txt_some {S : List UInt8} {a x n : Nat} (hv : varD (mk (S.drop a)) = some (x, n)) (hx : x ≤ S.length - a - n) : rdTxt (S.drop a) = some (((S.drop a).drop n).take x, S.drop (a + n + x)) := by
  unfold rdTxt
  rw [hv]
  simp only
  rw [if_pos (by rw [List.length_drop, List.length_drop]; exact hx), List.drop_drop, List.drop_drop]
theorem txt_none {S : List UInt8} {a x n : Nat} (hv : varD (mk (S.drop a)) = some (x, n)) (hx : ¬ x ≤ S.length - a - n) : rdTxt (S.drop a) = none := by
  unfold rdTxt
  rw [hv]
  simp only
  rw [if_neg (by rw [List.length_drop, List.length_drop]; exact hx)]
theorem txt_bad {S : List UInt8} {a : Nat} (hv : varD (mk (S.drop a)) = none) : rdTxt (S.drop a) = none := by
  unfold rdTxt
  rw [hv]
theorem N2.stop {w w2 wr : World} {S R1 : List UInt8} {l : List Nat} {mb C : Nat} {V : Value} {T : List ByteArray} {a : Nat} (h : N2 w w2 wr S R1 l mb C V T a) (hn : rdNums 12 S = some (l, R1)) (hlt : T.length < l.getD 11 0) (ht : rdTxt (S.drop a) = none) : rdMsg S = none := by
  refine msg_none (raw_log hn ?_)
  have := rdLog_stop (k := l.getD 11 0 - T.length - 1) h.rd ht
  rw [show T.length + (l.getD 11 0 - T.length - 1 + 1) = l.getD 11 0 by omega] at this
  exact this
theorem n2_more {w w2 wr w5 : World} {S R1 : List UInt8} {l : List Nat} {mb C : Nat} {V : Value} {T : List ByteArray} {a x n : Nat} {o : Obj} {g cap : Nat} (h : N2 w w2 wr S R1 l mb C V T a)
    (hv : varD (mk (S.drop a)) = some (x, n)) (hx : x ≤ S.length - a - n)
    (hown : w5.ownsRow C 9 1 (.slice (some ⟨g, 0, none⟩) (T.length + 1) cap) (T.length + 1) (T.map Value.string ++ [.string (mk (((S.drop a).drop n).take x))])) (hg : (wr.alloc o).grownBy w5 V.ownBlock) :
    N2 w w2 (w5.setCell ⟨mb, 11, none⟩ (.slice (some ⟨g, 0, none⟩) (T.length + 1) cap)) S R1 l mb C (.slice (some ⟨g, 0, none⟩) (T.length + 1) cap) (T ++ [mk (((S.drop a).drop n).take x)]) (a + n + x) := by
  have hbig := h.big
  have hmlt := h.mlt
  have hlow := h.low
  have hs5 := hg.size
  have hsa : (wr.alloc o).heap.size = wr.heap.size + 1 := by simp
  have hvl := varD_le hv
  rw [mk_size, List.length_drop] at hvl
  have hal := h.len
  have kb : ∀ k, k < C → w5.heap[k]? = wr.heap[k]? := fun k hk => by
    rw [hg.block k (by omega) (h.own.far hk), ((Below.refl wr.heap.size wr).alloc (Nat.le_refl _) o).block k (by omega)]
  refine ⟨?_, ?_, ?_, ?_, ?_, ?_, by omega, ?_, hmlt, hlow⟩
  · rw [List.length_append]
    exact rdLog_snoc h.rd (txt_some hv hx)
  · exact (block_setCell ((kb mb hmlt).trans h.hm)).trans (by simp [mc])
  · have ho : OT w5 C (.slice (some ⟨g, 0, none⟩) (T.length + 1) cap) (T ++ [mk (((S.drop a).drop n).take x)]) := by
      show w5.ownsRow _ _ _ _ (T ++ [mk (((S.drop a).drop n).take x)]).length _
      rw [List.length_append, List.map_append]
      exact hown
    exact ho.keep (fun k hk _ => Below.heap_setCell _ _ _ _ (by show k ≠ mb; omega))
  · intro k hk hne
    exact (Below.heap_setCell _ _ _ _ (by show k ≠ mb; exact hne)).trans ((kb k hk).trans (h.kp k hk hne))
  · have hb5 : Below w.heap.size w w5 := by
      refine ⟨hg.os.trans h.bel.os, hg.tape.trans h.bel.tape, hg.output.trans h.bel.output, by have := h.bel.size; omega, fun k hk => ?_⟩
      rw [kb k (by omega)]
      exact h.bel.block k hk
    exact hb5.setCell hlow _
  · simp [World.setCell]; omega
  · intro y hy
    rcases List.mem_append.1 hy with hy | hy
    · exact h.tsz y hy
    · simp at hy; subst hy; rw [mk_size, List.length_take, List.length_drop]; omega
theorem N2.drew {w w2 wr : World} {S R1 : List UInt8} {l : List Nat} {mb C : Nat} {V : Value} {T : List ByteArray} {a : Nat} (h : N2 w w2 wr S R1 l mb C V T a) : N2 w w2 wr.drew S R1 l mb C V T a :=
  ⟨h.rd, h.hm, h.own, h.kp, h.bel.drew, h.big, h.len, h.tsz, h.mlt, h.low⟩
end Go.Proofs.Ytalpbnkmppdgdaa
