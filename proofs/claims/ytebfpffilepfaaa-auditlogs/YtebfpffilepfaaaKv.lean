/- Layer 18: the rows of AuditLogs: the log, its acks, what was said. -/
import Derived.Test.YtebfpffilepfaaaKu
namespace Go.Proofs.Ytebfpffilepfaaa
open Go.RowKit Go.Maps Go.Shelf
set_option linter.unusedVariables false
set_option maxRecDepth 20000

theorem akInfo : (Try.prog.info? 33).map (fun i => (i.zero, i.size, i.bytes)) = some (some (.agg #[.int .i64 0, .int .i64 0, .int .i64 0, .int .i64 0, .int .i64 0, .int .i64 0]), 6, 48) := by kernel_rfl
theorem sdInfo : (Try.prog.info? 34).map (fun i => (i.zero, i.size, i.bytes)) = some (some (.agg #[.int .i64 0, .int .i64 0, .slice none 0 0]), 3, 40) := by kernel_rfl
theorem feInfo : (Try.prog.info? 40).map (fun i => (i.zero, i.size, i.bytes)) = some (some (.agg #[.int .i64 0, .int .i64 0, .int .i64 0, .int .i64 0, .slice none 0 0]), 5, 56) := by kernel_rfl
/-- Rows of values of k cells. -/
theorem row_get {α : Type} (f : α → List Value) (k : Nat) (hf : ∀ x, (f x).length = k) : ∀ (L : List α) (i : Nat) (x : α), L[i]? = some x → ∀ j, j < k → (L.flatMap f)[i * k + j]? = (f x)[j]?
  | [], i, x, h, j, hj => by simp at h
  | y :: L, 0, x, h, j, hj => by
    have e : y = x := by simpa using h
    subst e
    rw [List.flatMap_cons, Nat.zero_mul, Nat.zero_add, List.getElem?_append_left (by rw [hf]; exact hj)]
  | y :: L, i + 1, x, h, j, hj => by
    have e : L[i]? = some x := by simpa using h
    have := row_get f k hf L i x e j hj
    rw [List.flatMap_cons, List.getElem?_append_right (by rw [hf, Nat.add_mul]; omega), ← this, hf]
    congr 1
    rw [Nat.add_mul]
    omega
abbrev ak6 (a : Ak) : List Value := [.int .i64 a.step, .int .i64 a.prod, .int .i64 a.seq, .int .i64 a.err, .int .i64 a.base, .int .i64 a.cnt]
abbrev SV := Sd × Option Addr × Nat
abbrev sd3 (x : SV) : List Value := [.int .i64 x.1.prod, .int .i64 x.1.seq, .slice x.2.1 x.1.rec'.length x.2.2]
abbrev FV := Fe × Option Addr × Nat
abbrev fe5 (x : FV) : List Value := [.int .i64 x.1.step, .int .i64 x.1.node, .int .i64 x.1.from', .int .i64 x.1.err, .slice x.2.1 x.1.rec'.length x.2.2]
theorem own_apart {w : World} {B B' : Nat} {E E' : TypeId} {s s' n n' : Nat} {v v' : Value} {xs xs' : List Value} (h : w.ownsRow B E s v n xs) (h' : w.ownsRow B' E' s' v' n' xs') (hE : E ≠ E') {k : Nat} (hk : v.ownBlock = some k) : v'.ownBlock ≠ some k := by
  intro hk'
  rcases h.2 with ⟨rfl, _⟩ | ⟨g, cap, cur, rfl, _, h2, _⟩
  · simp [Value.ownBlock] at hk
  · rcases h'.2 with ⟨rfl, _⟩ | ⟨g', cap', cur', rfl, _, h2', _⟩
    · simp [Value.ownBlock] at hk'
    · have e1 : g = k := by simpa [Value.ownBlock] using hk
      have e2 : g' = k := by simpa [Value.ownBlock] using hk'
      subst e1
      subst e2
      rw [h2] at h2'
      simp at h2'
      exact hE h2'.2
theorem row_ain {w : World} {B c : Nat} {a : Option Addr} {P : List Ak} (h : w.ownsRow B 33 6 (.slice a P.length c) P.length (P.flatMap ak6)) : AIn w a P := by
  intro i x hx
  rcases h.2 with ⟨e, h0⟩ | ⟨g, cap, cur, e, _, hb, _⟩
  · have : P = [] := List.eq_nil_of_length_eq_zero h0
    subst this
    simp at hx
  · simp only [Value.slice.injEq] at e
    obtain ⟨rfl, _, rfl⟩ := e
    have hc := h.cells (g := g) rfl
    have hg := row_get ak6 6 (fun _ => rfl) P i x hx
    refine ⟨g, 0, rfl, lt_of_block hb, ?_, ?_, ?_, ?_, ?_, ?_⟩
    · have := hc (i * 6 + 0) _ (hg 0 (by omega)); rw [adz] at this; simpa using this
    · have := hc (i * 6 + 1) _ (hg 1 (by omega)); rw [adz] at this; simpa using this
    · have := hc (i * 6 + 2) _ (hg 2 (by omega)); rw [adz] at this; simpa using this
    · have := hc (i * 6 + 3) _ (hg 3 (by omega)); rw [adz] at this; simpa using this
    · have := hc (i * 6 + 4) _ (hg 4 (by omega)); rw [adz] at this; simpa using this
    · have := hc (i * 6 + 5) _ (hg 5 (by omega)); rw [adz] at this; simpa using this
/-- Values of what was said, each with room, their records as they lay at the start. -/
def SX (w : World) (X : List SV) (S : List Sd) : Prop := X.map Prod.fst = S ∧ ∀ x ∈ X, x.1.rec'.length ≤ x.2.2 ∧ RIn w x.2.1 x.1.rec'
theorem row_sin {w wr : World} {B c : Nat} {a : Option Addr} {X : List SV} {S : List Sd} (h : wr.ownsRow B 34 3 (.slice a S.length c) S.length (X.flatMap sd3)) (hX : SX w X S) (hb : Below w.heap.size w wr) : SInC wr a S := by
  intro i s hs
  obtain ⟨x, hx, rfl⟩ : ∃ x, X[i]? = some x ∧ x.1 = s := by
    rw [← hX.1, List.getElem?_map, Option.map_eq_some_iff] at hs
    exact hs
  obtain ⟨hc1, hri⟩ := hX.2 x (List.mem_of_getElem? hx)
  rcases h.2 with ⟨e, h0⟩ | ⟨g, cap, cur, e, _, hh, _⟩
  · have e1 : S = [] := List.eq_nil_of_length_eq_zero h0
    subst e1
    simp at hs
  · simp only [Value.slice.injEq] at e
    obtain ⟨rfl, _, rfl⟩ := e
    have hc := h.cells (g := g) rfl
    have hg := row_get sd3 3 (fun _ => rfl) X i x hx
    refine ⟨g, 0, x.2.1, x.2.2, rfl, lt_of_block hh, ?_, ?_, ?_, hc1, hri.below hb (Nat.le_refl _)⟩
    · have := hc (i * 3 + 0) _ (hg 0 (by omega)); rw [adz] at this; simpa using this
    · have := hc (i * 3 + 1) _ (hg 1 (by omega)); rw [adz] at this; simpa using this
    · have := hc (i * 3 + 2) _ (hg 2 (by omega)); rw [adz] at this; simpa using this
/-- The three rows. -/
structure R3 (w wr : World) (va vk vm : Value) (A : List Rec) (L : List Ak) (X : List SV) : Prop where
  all : wr.ownsRow w.heap.size 36 4 va A.length (rcs A)
  aks : wr.ownsRow w.heap.size 33 6 vk L.length (L.flatMap ak6)
  said : wr.ownsRow w.heap.size 34 3 vm X.length (X.flatMap sd3)
  bel : Below w.heap.size w wr
theorem R3.below {w wr w' : World} {va vk vm : Value} {A : List Rec} {L : List Ak} {X : List SV} (h : R3 w wr va vk vm A L X) (hb : Below wr.heap.size wr w') : R3 w w' va vk vm A L X :=
  ⟨own_keep h.all fun k _ hk => hb.block k hk, own_keep h.aks fun k _ hk => hb.block k hk, own_keep h.said fun k _ hk => hb.block k hk, h.bel.trans (hb.mono h.bel.size)⟩
theorem bel_own {w W w' : World} {E : TypeId} {s n : Nat} {v : Value} {xs : List Value} (ho : W.ownsRow w.heap.size E s v n xs) (hb : Below w.heap.size w W) (hg : W.grownBy w' v.ownBlock) : Below w.heap.size w w' :=
  ⟨hg.os.trans hb.os, hg.tape.trans hb.tape, hg.output.trans hb.output, Nat.le_trans hb.size hg.size, fun k hk => (hg.block k (Nat.lt_of_lt_of_le hk hb.size) (fun e => by have := (own_block ho e.symm).1; omega)).trans (hb.block k hk)⟩
theorem R3.rec' {w wr W w' : World} {va vk vm : Value} {A : List Rec} {L : List Ak} {X : List SV} {d : Rec} {g cap : Nat} (h : R3 w wr va vk vm A L X) (hb : Below wr.heap.size wr W) (hg : W.grownBy w' va.ownBlock)
    (ho : w'.ownsRow w.heap.size 36 4 (.slice (some ⟨g, 0, none⟩) (A.length + 1) cap) (A.length + 1) (rcs A ++ rc4 d)) : R3 w w' (.slice (some ⟨g, 0, none⟩) (A.length + 1) cap) vk vm (A ++ [d]) L X := by
  have hW := h.below hb
  exact ⟨by rw [rcs_snoc, List.length_append]; exact ho, own_same hW.aks fun k hk => hg.block k (own_block hW.aks hk).2 (fun e => own_apart hW.aks hW.all (by decide) hk e.symm), own_same hW.said fun k hk => hg.block k (own_block hW.said hk).2 (fun e => own_apart hW.said hW.all (by decide) hk e.symm), bel_own hW.all hW.bel hg⟩
theorem R3.ack {w wr W w' : World} {va vk vm : Value} {A : List Rec} {L : List Ak} {X : List SV} {d : Ak} {g cap : Nat} (h : R3 w wr va vk vm A L X) (hb : Below wr.heap.size wr W) (hg : W.grownBy w' vk.ownBlock)
    (ho : w'.ownsRow w.heap.size 33 6 (.slice (some ⟨g, 0, none⟩) (L.length + 1) cap) (L.length + 1) (L.flatMap ak6 ++ ak6 d)) : R3 w w' va (.slice (some ⟨g, 0, none⟩) (L.length + 1) cap) vm A (L ++ [d]) X := by
  have hW := h.below hb
  exact ⟨own_same hW.all fun k hk => hg.block k (own_block hW.all hk).2 (fun e => own_apart hW.all hW.aks (by decide) hk e.symm), by rw [List.length_append, List.flatMap_append, List.flatMap_singleton]; exact ho, own_same hW.said fun k hk => hg.block k (own_block hW.said hk).2 (fun e => own_apart hW.said hW.aks (by decide) hk e.symm), bel_own hW.aks hW.bel hg⟩
theorem R3.sd {w wr W w' : World} {va vk vm : Value} {A : List Rec} {L : List Ak} {X : List SV} {d : SV} {g cap : Nat} (h : R3 w wr va vk vm A L X) (hb : Below wr.heap.size wr W) (hg : W.grownBy w' vm.ownBlock)
    (ho : w'.ownsRow w.heap.size 34 3 (.slice (some ⟨g, 0, none⟩) (X.length + 1) cap) (X.length + 1) (X.flatMap sd3 ++ sd3 d)) : R3 w w' va vk (.slice (some ⟨g, 0, none⟩) (X.length + 1) cap) A L (X ++ [d]) := by
  have hW := h.below hb
  exact ⟨own_same hW.all fun k hk => hg.block k (own_block hW.all hk).2 (fun e => own_apart hW.all hW.said (by decide) hk e.symm), own_same hW.aks fun k hk => hg.block k (own_block hW.aks hk).2 (fun e => own_apart hW.aks hW.said (by decide) hk e.symm), by rw [List.length_append, List.flatMap_append, List.flatMap_singleton]; exact ho, bel_own hW.said hW.bel hg⟩
end Go.Proofs.Ytebfpffilepfaaa
