/- Layer 18: acked walked, of acks that go with what was said. -/
import Derived.Test.YtebfpffilepfaaaKk
import Derived.OwnWalk
namespace Go.Proofs.Ytebfpffilepfaaa
open Go.RowKit Go.Maps Go.Shelf
set_option linter.unusedVariables false
set_option maxRecDepth 20000

theorem info_of {t : TypeId} {z : Option Value} {n m : Nat} (h : (Try.prog.info? t).map (fun i => (i.zero, i.size, i.bytes)) = some (z, n, m)) : ∃ i, Try.prog.info? t = some i ∧ i.zero = z ∧ i.size = n ∧ i.bytes = m := by
  cases e : Try.prog.info? t with
  | none => rw [e] at h; simp at h
  | some i => rw [e] at h; simp at h; exact ⟨i, rfl, h.1, h.2.1, h.2.2⟩
abbrev zDue : Value := .agg #[.int .i64 0, .string ⟨#[]⟩, .string ⟨#[]⟩, .bool false, .int .i64 0]
theorem dueInfo : (Try.prog.info? 74).map (fun i => (i.zero, i.size, i.bytes)) = some (some zDue, 5, 56) := by kernel_rfl
abbrev dc (d : Due) : List Value := [.int .i64 d.rec'.off, .string d.rec'.key, .string d.rec'.val, .bool d.rec'.gone, .int .i64 d.step]
def dcs (X : List Due) : List Value := X.flatMap dc
theorem dcs_snoc (X : List Due) (d : Due) : dcs (X ++ [d]) = dcs X ++ dc d := by simp [dcs]
theorem dcs_get : ∀ (X : List Due) (i : Nat) (x : Due), X[i]? = some x → ∀ j, j < 5 → (dcs X)[i * 5 + j]? = (dc x)[j]?
  | [], i, x, h, j, hj => by simp at h
  | y :: X, 0, x, h, j, hj => by
    have e : y = x := by simpa using h
    subst e
    unfold dcs
    rw [List.flatMap_cons, Nat.zero_mul, Nat.zero_add, List.getElem?_append_left (by simpa using hj)]
  | y :: X, i + 1, x, h, j, hj => by
    have e : X[i]? = some x := by simpa using h
    have := dcs_get X i x e j hj
    unfold dcs at this ⊢
    rw [List.flatMap_cons, List.getElem?_append_right (by simp; omega)]
    rw [← this]
    congr 1
    simp
    omega
theorem adz (g j : Nat) : (⟨g, 0, none⟩ : Addr).add j = ⟨g, j, none⟩ := by
  unfold Addr.add; split
  · subst_vars; rfl
  · simp
/-- The call's own row of dues, above block B. -/
structure DW (w : World) (B : Nat) (wr : World) (v : Value) (P : List Due) : Prop where
  row : wr.ownsRow (B + 1) 74 5 v P.length (dcs P)
  bel : Below w.heap.size w wr
theorem own_block {w : World} {B : Nat} {E : TypeId} {size n : Nat} {v : Value} {xs : List Value} (h : w.ownsRow B E size v n xs) {k : Nat} (hk : v.ownBlock = some k) : B ≤ k ∧ k < w.heap.size := by
  rcases h.2 with ⟨rfl, _⟩ | ⟨g, cap, cur, rfl, h1, h2, _⟩
  · simp [Value.ownBlock] at hk
  · have : g = k := by simpa [Value.ownBlock] using hk
    subst this
    exact ⟨h1, lt_of_block h2⟩
theorem own_keep {w w' : World} {B : Nat} {E : TypeId} {size n : Nat} {v : Value} {xs : List Value} (h : w.ownsRow B E size v n xs) (hk : ∀ k, B ≤ k → k < w.heap.size → w'.heap[k]? = w.heap[k]?) : w'.ownsRow B E size v n xs := by
  refine ⟨h.1, ?_⟩
  rcases h.2 with hn | ⟨g, cap, cur, hv, hg, hh, r⟩
  · exact .inl hn
  · exact .inr ⟨g, cap, cur, hv, hg, (hk g hg (lt_of_block hh)).trans hh, r⟩
theorem DW.form {w wr : World} {B : Nat} {v : Value} {P : List Due} (h : DW w B wr v P) : ∃ a c, v = .slice a P.length c := by
  rcases h.row.2 with ⟨e, h0⟩ | ⟨g, cap, cur, e, _⟩
  · exact ⟨none, 0, by rw [e, h0]⟩
  · exact ⟨_, _, e⟩
theorem DW.below {w wr w' : World} {B : Nat} {v : Value} {P : List Due} (h : DW w B wr v P) (hb : Below wr.heap.size wr w') : DW w B w' v P :=
  ⟨own_keep h.row fun k _ hk => hb.block k hk, h.bel.trans (hb.mono h.bel.size)⟩
theorem DW.grown {w wr w' : World} {B : Nat} {v : Value} {P : List Due} (h : DW w B wr v P) (hB : w.heap.size ≤ B) (hg : wr.grownBy w' (some B)) : DW w B w' v P :=
  ⟨own_keep h.row fun k hk hl => hg.block k hl (fun e => by have := Option.some.inj e; omega), bl_grown (Nat.le_refl _) h.bel hg hB⟩
theorem DW.din {w wr : World} {B : Nat} {a : Option Addr} {c : Nat} {P : List Due} (h : DW w B wr (.slice a P.length c) P) : DIn wr a P := by
  intro i x hx
  rcases h.row.2 with ⟨e, h0⟩ | ⟨g, cap, cur, e, _, hb, _⟩
  · have : P = [] := List.eq_nil_of_length_eq_zero h0
    subst this
    simp at hx
  · simp only [Value.slice.injEq] at e
    obtain ⟨rfl, _, rfl⟩ := e
    have hc := h.row.cells (g := g) rfl
    refine ⟨g, 0, rfl, lt_of_block hb, ?_, ?_, ?_, ?_, ?_⟩
    · have := hc (i * 5 + 0) _ (dcs_get P i x hx 0 (by omega)); rw [adz] at this; simpa using this
    · have := hc (i * 5 + 1) _ (dcs_get P i x hx 1 (by omega)); rw [adz] at this; simpa using this
    · have := hc (i * 5 + 2) _ (dcs_get P i x hx 2 (by omega)); rw [adz] at this; simpa using this
    · have := hc (i * 5 + 3) _ (dcs_get P i x hx 3 (by omega)); rw [adz] at this; simpa using this
    · have := hc (i * 5 + 4) _ (dcs_get P i x hx 4 (by omega)); rw [adz] at this; simpa using this
theorem DW.snoc {w wr W w' : World} {B g cap : Nat} {v : Value} {P : List Due} {d : Due} (h : DW w B wr v P) (hB : w.heap.size ≤ B) (hb : Below wr.heap.size wr W) (hg : W.grownBy w' v.ownBlock) (ho : w'.ownsRow (B + 1) 74 5 (.slice (some ⟨g, 0, none⟩) (P.length + 1) cap) (P.length + 1) (dcs P ++ dc d)) : DW w B w' (.slice (some ⟨g, 0, none⟩) (P.length + 1) cap) (P ++ [d]) := by
  have hW := h.below hb
  refine ⟨by rw [dcs_snoc, List.length_append]; exact ho, ⟨hg.os.trans hW.bel.os, hg.tape.trans hW.bel.tape, hg.output.trans hW.bel.output, Nat.le_trans hW.bel.size hg.size, fun k hk => (hg.block k (Nat.lt_of_lt_of_le hk hW.bel.size) ?_).trans (hW.bel.block k hk)⟩⟩
  intro e
  have := own_block hW.row e.symm
  omega
theorem newsP (W : World) (cs : Array Value) (t : TypeId) : ∀ j u, cs.toList[j]? = some u → (W.alloc (.cells cs t)).cell? ((⟨W.heap.size, 0, none⟩ : Addr).add j) = some u :=
  World.news_of_block (heap_alloc_new W _)
theorem one5 (d : Due) : ∀ u ∈ dc d, u.oneCell' = true := by
  intro u hu
  simp only [dc, List.mem_cons, List.not_mem_nil, or_false] at hu
  rcases hu with rfl | rfl | rfl | rfl | rfl <;> rfl
/-- A slice tells what was said, each of it with room for itself. -/
def SInC (w : World) (a : Option Addr) (L : List Sd) : Prop :=
  ∀ i x, L[i]? = some x → ∃ b off ra rc, a = some ⟨b, off, none⟩ ∧ b < w.heap.size ∧ w.cell? ⟨b, off + i * 3, none⟩ = some (.int .i64 x.prod) ∧ w.cell? ⟨b, off + i * 3 + 1, none⟩ = some (.int .i64 x.seq) ∧ w.cell? ⟨b, off + i * 3 + 2, none⟩ = some (.slice ra x.rec'.length rc) ∧ x.rec'.length ≤ rc ∧ RIn w ra x.rec'
theorem SInC.bel {w w' : World} {a : Option Addr} {L : List Sd} (h : SInC w a L) (hb : Below w.heap.size w w') : SInC w' a L := fun i x hx => by
  obtain ⟨b, off, ra, rc, e, hlt, h1, h2, h3, h4, h5⟩ := h i x hx
  exact ⟨b, off, ra, rc, e, Nat.lt_of_lt_of_le hlt hb.size, cellB hb h1, cellB hb h2, cellB hb h3, h4, h5.bel hb⟩
/-- The dues of one ack. -/
def oneD (a : Ak) (M : List Rec) : List Due := M.mapIdx fun j r => ⟨⟨a.base + (j : Nat), r.key, r.val, r.gone⟩, a.step⟩
theorem oneD_snoc (a : Ak) (M : List Rec) (r : Rec) : oneD a (M ++ [r]) = oneD a M ++ [⟨⟨a.base + (M.length : Nat), r.key, r.val, r.gone⟩, a.step⟩] := by simp [oneD]
theorem oneD_length (a : Ak) (M : List Rec) : (oneD a M).length = M.length := by simp [oneD]
def duesOf : List Ak → List Sd → List Due
  | a :: L, s :: S => oneD a s.rec' ++ duesOf L S
  | _, _ => []
/-- Acks go with what was said, one by one. -/
def Goes2 : List Ak → List Sd → Prop
  | [], [] => True
  | a :: L, s :: S => (a.prod = s.prod ∧ a.seq = s.seq ∧ a.cnt = (s.rec'.length : Nat)) ∧ Goes2 L S
  | _, _ => False
theorem ofId_cons (a : Ak) (R : List Ak) (x : Int × Int) : ofId (a :: R) x = if a.prod = x.1 ∧ a.seq = x.2 then some a else ofId R x := by
  unfold ofId
  rw [List.find?_cons]
  by_cases h : a.prod = x.1 ∧ a.seq = x.2
  · rw [if_pos h]; simp [h.1, h.2]
  · rw [if_neg h]
    have : (decide (a.prod = x.1) && decide (a.seq = x.2)) = false := by
      rw [Bool.and_eq_false_iff]
      by_cases h1 : a.prod = x.1
      · exact .inr (decide_eq_false fun h2 => h ⟨h1, h2⟩)
      · exact .inl (decide_eq_false h1)
    rw [this]
theorem ofId_rest {a : Ak} {R : List Ak} (h : Apart (a :: R)) : ofId R (a.prod, a.seq) = none := by
  unfold ofId
  rw [List.find?_eq_none]
  intro b hb
  have := (List.pairwise_cons.1 h).1 b hb
  simp only [Bool.and_eq_true, decide_eq_true_eq]
  exact fun e => this ⟨e.1.symm, e.2.symm⟩
end Go.Proofs.Ytebfpffilepfaaa
