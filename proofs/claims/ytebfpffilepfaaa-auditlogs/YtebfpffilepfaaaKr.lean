/- Layer 18: two rows of records of the call's own. -/
import Derived.Test.YtebfpffilepfaaaKq
import Derived.Test.YtebfpffilepfaaaUq
namespace Go.Proofs.Ytebfpffilepfaaa
open Go.RowKit Go.Maps Go.Shelf
set_option linter.unusedVariables false
set_option maxRecDepth 20000

abbrev zRec : Value := .agg #[.int .i64 0, .string ⟨#[]⟩, .string ⟨#[]⟩, .bool false]
theorem recInfo : (Try.prog.info? 36).map (fun i => (i.zero, i.size, i.bytes)) = some (some zRec, 4, 48) := by kernel_rfl
abbrev rc4 (r : Rec) : List Value := [.int .i64 r.off, .string r.key, .string r.val, .bool r.gone]
def rcs (X : List Rec) : List Value := X.flatMap rc4
theorem rcs_snoc (X : List Rec) (d : Rec) : rcs (X ++ [d]) = rcs X ++ rc4 d := by simp [rcs]
theorem rcs_get : ∀ (X : List Rec) (i : Nat) (x : Rec), X[i]? = some x → ∀ j, j < 4 → (rcs X)[i * 4 + j]? = (rc4 x)[j]?
  | [], i, x, h, j, hj => by simp at h
  | y :: X, 0, x, h, j, hj => by
    have e : y = x := by simpa using h
    subst e
    unfold rcs
    rw [List.flatMap_cons, Nat.zero_mul, Nat.zero_add, List.getElem?_append_left (by simpa using hj)]
  | y :: X, i + 1, x, h, j, hj => by
    have e : X[i]? = some x := by simpa using h
    have := rcs_get X i x e j hj
    unfold rcs at this ⊢
    rw [List.flatMap_cons, List.getElem?_append_right (by simp; omega)]
    rw [← this]
    congr 1
    simp
    omega
theorem one4 (d : Rec) : ∀ u ∈ rc4 d, u.oneCell' = true := by
  intro u hu
  simp only [rc4, List.mem_cons, List.not_mem_nil, or_false] at hu
  rcases hu with rfl | rfl | rfl | rfl <;> rfl
/-- An own row of records tells them. -/
theorem row_rin {w : World} {B c : Nat} {a : Option Addr} {P : List Rec} (h : w.ownsRow B 36 4 (.slice a P.length c) P.length (rcs P)) : RIn w a P := by
  intro i x hx
  rcases h.2 with ⟨e, h0⟩ | ⟨g, cap, cur, e, _, hb, _⟩
  · have : P = [] := List.eq_nil_of_length_eq_zero h0
    subst this
    simp at hx
  · simp only [Value.slice.injEq] at e
    obtain ⟨rfl, _, rfl⟩ := e
    have hc := h.cells (g := g) rfl
    refine ⟨g, 0, rfl, lt_of_block hb, ?_, ?_, ?_, ?_⟩
    · have := hc (i * 4 + 0) _ (rcs_get P i x hx 0 (by omega)); rw [adz] at this; simpa using this
    · have := hc (i * 4 + 1) _ (rcs_get P i x hx 1 (by omega)); rw [adz] at this; simpa using this
    · have := hc (i * 4 + 2) _ (rcs_get P i x hx 2 (by omega)); rw [adz] at this; simpa using this
    · have := hc (i * 4 + 3) _ (rcs_get P i x hx 3 (by omega)); rw [adz] at this; simpa using this
theorem own_same {w w' : World} {B : Nat} {E : TypeId} {size n : Nat} {v : Value} {xs : List Value} (h : w.ownsRow B E size v n xs) (hk : ∀ k, v.ownBlock = some k → w'.heap[k]? = w.heap[k]?) : w'.ownsRow B E size v n xs := by
  refine ⟨h.1, ?_⟩
  rcases h.2 with hn | ⟨g, cap, cur, hv, hg, hh, r⟩
  · exact .inl hn
  · exact .inr ⟨g, cap, cur, hv, hg, (hk g (by rw [hv]; rfl)).trans hh, r⟩
/-- Two rows that grow beside one another. -/
structure R2 (w wr : World) (v1 v2 : Value) (P1 P2 : List Rec) : Prop where
  one : wr.ownsRow w.heap.size 36 4 v1 P1.length (rcs P1)
  two : wr.ownsRow w.heap.size 36 4 v2 P2.length (rcs P2)
  apart : ∀ k, v1.ownBlock = some k → v2.ownBlock ≠ some k
  bel : Below w.heap.size w wr
theorem R2.below {w wr w' : World} {v1 v2 : Value} {P1 P2 : List Rec} (h : R2 w wr v1 v2 P1 P2) (hb : Below wr.heap.size wr w') : R2 w w' v1 v2 P1 P2 :=
  ⟨own_keep h.one fun k _ hk => hb.block k hk, own_keep h.two fun k _ hk => hb.block k hk, h.apart, h.bel.trans (hb.mono h.bel.size)⟩
theorem R2.swap {w wr : World} {v1 v2 : Value} {P1 P2 : List Rec} (h : R2 w wr v1 v2 P1 P2) : R2 w wr v2 v1 P2 P1 :=
  ⟨h.two, h.one, fun k h1 h2 => h.apart k h2 h1, h.bel⟩
theorem R2.grow {w wr W w' : World} {v1 v2 : Value} {P1 P2 : List Rec} {d : Rec} {g cap : Nat} (h : R2 w wr v1 v2 P1 P2) (hb : Below wr.heap.size wr W) (hg : W.grownBy w' v1.ownBlock)
    (ho : w'.ownsRow w.heap.size 36 4 (.slice (some ⟨g, 0, none⟩) (P1.length + 1) cap) (P1.length + 1) (rcs P1 ++ rc4 d)) (hat : v1.ownBlock = some g ∨ g = W.heap.size) :
    R2 w w' (.slice (some ⟨g, 0, none⟩) (P1.length + 1) cap) v2 (P1 ++ [d]) P2 := by
  have hW := h.below hb
  refine ⟨by rw [rcs_snoc, List.length_append]; exact ho, own_same hW.two fun k hk => hg.block k (own_block hW.two hk).2 (fun e => h.apart k e.symm hk), fun k hk h2 => ?_, ⟨hg.os.trans hW.bel.os, hg.tape.trans hW.bel.tape, hg.output.trans hW.bel.output, Nat.le_trans hW.bel.size hg.size, fun k hk => (hg.block k (Nat.lt_of_lt_of_le hk hW.bel.size) ?_).trans (hW.bel.block k hk)⟩⟩
  · have e : g = k := by simpa [Value.ownBlock] using hk
    subst e
    rcases hat with h' | h'
    · exact h.apart g h' h2
    · have := (own_block hW.two h2).2
      omega
  · intro e
    have := own_block hW.one e.symm
    omega
end Go.Proofs.Ytebfpffilepfaaa
