/- Rows of numbers, blocks that turned: what the texts on tables lean on. -/
import Derived.Test.YtchjnfckcfikkaaDoorProg
import Derived.WalkKit
import Derived.OwnWalk
import Derived.RowKit3
import Derived.Laws.EntriesVeiled
import Derived.Deep.AppendLies
import Derived.Deep.RegionHeldLaw
import Derived.Laws.NewBlocks
import Derived.BigQuiet
import Derived.Deep.QuietTactic
import Derived.LoopN
import Derived.Deep.OwnRows
namespace Go.Proofs.YtchjnfckcfikkaaDoor
open Go.RowKit
set_option linter.unusedVariables false

/-- w' is w but for block b. -/
structure Kp (b : Nat) (w w' : World) : Prop where
  os : w'.os = w.os
  tape : w'.tape = w.tape
  output : w'.output = w.output
  size : w'.heap.size = w.heap.size
  block : ∀ k, k ≠ b → w'.heap[k]? = w.heap[k]?
theorem Kp.refl (b : Nat) (w : World) : Kp b w w := ⟨rfl, rfl, rfl, rfl, fun _ _ => rfl⟩
theorem Kp.trans {b : Nat} {u v w : World} (h : Kp b u v) (k : Kp b v w) : Kp b u w :=
  ⟨k.os.trans h.os, k.tape.trans h.tape, k.output.trans h.output, k.size.trans h.size, fun i hi => (k.block i hi).trans (h.block i hi)⟩
theorem Kp.setCell (b i : Nat) (w : World) (u : Value) : Kp b w (w.setCell ⟨b, i, none⟩ u) :=
  ⟨rfl, rfl, rfl, by simp [World.setCell], fun k hk => Below.heap_setCell _ _ _ _ hk⟩
theorem Kp.cell {b : Nat} {w w' : World} (h : Kp b w w') {k i : Nat} (hk : k ≠ b) : w'.cell? ⟨k, i, none⟩ = w.cell? ⟨k, i, none⟩ := by
  simp only [World.cell?, h.block k hk]
theorem Kp.below {b B : Nat} {w w' : World} (h : Kp b w w') (hb : B ≤ b) : Below B w w' :=
  ⟨h.os, h.tape, h.output, Nat.le_of_eq h.size.symm, fun k hk => h.block k (by omega)⟩
theorem lt_heap {w : World} {b : Nat} {o : Obj} (h : w.heap[b]? = some o) : b < w.heap.size := by
  rcases Nat.lt_or_ge b w.heap.size with h' | h'
  · exact h'
  · rw [Array.getElem?_eq_none h'] at h; cases h
theorem lt_cell {w : World} {b i : Nat} {v : Value} (h : w.cell? ⟨b, i, none⟩ = some v) : b < w.heap.size := by
  rcases Nat.lt_or_ge b w.heap.size with h' | h'
  · exact h'
  · simp [World.cell?, Array.getElem?_eq_none h'] at h
/-- The row of the lengths. -/
def lcells (n : Nat) (c : Nat → Nat) : Array Value := ((List.range n).map fun i => Value.int .i64 (c i : Nat)).toArray
def LB (w : World) (L n : Nat) (c : Nat → Nat) : Prop := w.heap[L]? = some (.cells (lcells n c) 3 (0, 0))
theorem LB.cell {w : World} {L n : Nat} {c : Nat → Nat} (h : LB w L n c) {i : Nat} (hi : i < n) : w.cell? ⟨L, i, none⟩ = some (.int .i64 (c i : Nat)) ∧ w.frozen? ⟨L, i, none⟩ = false := by
  unfold LB at h
  exact ⟨by simp [World.cell?, h, lcells, hi], by simp [World.frozen?, h]⟩
theorem lcells_set (n : Nat) (c : Nat → Nat) (s x : Nat) : (lcells n c).setIfInBounds s (.int .i64 (x : Nat)) = lcells n (fun i => if i = s then x else c i) := by
  unfold lcells
  rw [List.setIfInBounds_toArray]
  congr 1
  apply List.ext_getElem
  · simp
  · intro i h1 h2
    rw [List.getElem_set]
    simp only [List.getElem_map, List.getElem_range]
    by_cases e : s = i
    · subst e; simp
    · rw [if_neg e, if_neg (Ne.symm e)]
theorem LB.set {w : World} {L n : Nat} {c : Nat → Nat} (h : LB w L n c) (s x : Nat) : LB (w.setCell ⟨L, s, none⟩ (.int .i64 (x : Nat))) L n (fun i => if i = s then x else c i) := by
  have hlt := lt_heap h
  unfold LB at h ⊢
  have h' : w.heap[L] = .cells (lcells n c) 3 (0, 0) := by simpa [Array.getElem?_eq_getElem hlt] using h
  show (w.heap.modify L _)[L]? = _
  rw [Array.getElem?_eq_getElem (by simpa using hlt), Array.getElem_modify_self, h']
  show some (Obj.cells ((lcells n c).setIfInBounds s _) _ _) = _
  rw [lcells_set]
theorem lcells_congr {n : Nat} {c d : Nat → Nat} (h : ∀ i, i < n → c i = d i) : lcells n c = lcells n d := by
  apply Array.ext
  · simp [lcells]
  · intro i h1 h2
    have hi : i < n := by simpa [lcells] using h1
    simp only [lcells, List.getElem_toArray, List.getElem_map, List.getElem_range, h i hi]
theorem LB.congr {w : World} {L n : Nat} {c d : Nat → Nat} (h : LB w L n c) (e : ∀ i, i < n → c i = d i) : LB w L n d := by
  unfold LB at h ⊢; rw [h, lcells_congr e]
theorem results_cell {fn : Func} {p : Tmp} {ty : TypeId} (h : fn.results = #[.cell p ty]) (tmps : Array Value) (P : Program) (w : World) :
    (results fn tmps).run P w = ((asAddr (tmps.getD p undef)).run P w).andThen fun a w₁ => (loadVar ty a).run P w₁ := by
  simp only [results, h]
  simp [Sem.run_bind, Result.andThen]
theorem add_zero_addr (g j : Nat) : (⟨g, 0, none⟩ : Addr).add j = ⟨g, j, none⟩ := by
  unfold Addr.add; split
  · subst_vars; rfl
  · simp
theorem info_split {t : TypeId} {z : Option Value} {n m : Nat} (h : (Tryd.prog.info? t).map (fun i => (i.zero, i.size, i.bytes)) = some (z, n, m)) : ∃ i, Tryd.prog.info? t = some i ∧ i.zero = z ∧ i.size = n ∧ i.bytes = m := by
  cases e : Tryd.prog.info? t with
  | none => rw [e] at h; simp at h
  | some i => rw [e] at h; simp at h; exact ⟨i, rfl, h.1, h.2.1, h.2.2⟩
theorem news2 (W : World) (p q : Value) (t : TypeId) : ∀ j u, [p, q][j]? = some u → (W.alloc (.cells #[p, q] t)).cell? ((⟨W.heap.size, 0, none⟩ : Addr).add j) = some u := by
  intro j u h
  match j, h with
  | 0, h => simp at h; subst h; simp [Addr.add]
  | 1, h => simp at h; subst h; simp [Addr.add]
theorem owns_below {w w' : World} {B : Nat} {E : TypeId} {size n : Nat} {v : Value} {xs : List Value} (h : w.ownsRow B E size v n xs) (hb : Below w.heap.size w w') : w'.ownsRow B E size v n xs := by
  refine ⟨h.1, ?_⟩
  rcases h.2 with hn | ⟨g, cap, cur, hv, hg, hh, r⟩
  · exact .inl hn
  · exact .inr ⟨g, cap, cur, hv, hg, (hb.block g (lt_heap hh)).trans hh, r⟩
theorem grown_cell {w w' : World} {r : Option Nat} (hg : w.grownBy w' r) {k i : Nat} {v : Value} (h : w.cell? ⟨k, i, none⟩ = some v) (hk : r ≠ some k) : w'.cell? ⟨k, i, none⟩ = some v := by
  have := hg.block k (lt_cell h) (fun e => hk e.symm)
  simp only [World.cell?, this] at h ⊢
  exact h
theorem own_lt {w : World} {B : Nat} {E : TypeId} {size n : Nat} {v : Value} {xs : List Value} (h : w.ownsRow B E size v n xs) {k : Nat} (hk : w.heap.size ≤ k) : v.ownBlock ≠ some k := by
  rcases h.2 with ⟨rfl, _⟩ | ⟨g, cap, cur, rfl, hgB, hh, _⟩
  · simp [Value.ownBlock]
  · intro e
    have e' : g = k := by simpa [Value.ownBlock] using e
    have := lt_heap hh
    omega
theorem below_grown {B : Nat} {w w' : World} {v : Value} {E : TypeId} {n size : Nat} {xs : List Value} (ho : w.ownsRow B E size v n xs) (hg : w.grownBy w' v.ownBlock) (hB : B ≤ w.heap.size) : Below B w w' :=
  ⟨hg.os, hg.tape, hg.output, hg.size, fun k hk => hg.block k (by omega) (fun e => by
    rcases ho.2 with ⟨rfl, _⟩ | ⟨g, cap, cur, rfl, hgB, _⟩
    · simp [Value.ownBlock] at e
    · have e' : k = g := by simpa [Value.ownBlock] using e
      omega)⟩
theorem add_addr (g o j : Nat) : (⟨g, o, none⟩ : Addr).add j = ⟨g, o + j, none⟩ := by
  unfold Addr.add; split
  · subst_vars; rfl
  · rfl
theorem mul_step {q j bs : Nat} (h : q < j) : q * (2 * bs) + 2 * bs ≤ j * (2 * bs) := by
  have := Nat.mul_le_mul_right (2 * bs) (show q + 1 ≤ j from h)
  rwa [Nat.add_mul, Nat.one_mul] at this
theorem mul_far {q j bs A : Nat} (hA : j * (2 * bs) = A) (h : 2 * (j + 1) ≤ q) : A + 2 * bs ≤ q * bs := by
  have := Nat.mul_le_mul_right bs h
  rw [show 2 * (j + 1) * bs = A + 2 * bs by rw [← hA, Nat.mul_add, Nat.add_mul, Nat.mul_comm 2 j, Nat.mul_assoc, Nat.mul_one]] at this
  exact this
/-- Numbers in a row: a nil slice has none. -/
def IRow (w : World) (a : Option Addr) (xs : List Int) : Prop := xs = [] ∨ ∃ b off, a = some ⟨b, off, none⟩ ∧ b < w.heap.size ∧ ∀ i, i < xs.length → w.cell? ⟨b, off + i, none⟩ = some (.int .i64 (xs.getD i 0))
theorem IRow.at {w : World} {a : Option Addr} {xs : List Int} (h : IRow w a xs) {i : Nat} (hi : i < xs.length) : ∃ b off, a = some ⟨b, off, none⟩ ∧ w.cell? ⟨b, off + i, none⟩ = some (.int .i64 (xs.getD i 0)) ∧ b < w.heap.size := by
  rcases h with rfl | ⟨b, off, rfl, hb, h⟩
  · simp at hi
  · exact ⟨b, off, rfl, h i hi, hb⟩
theorem IRow.below {w w' : World} {a : Option Addr} {xs : List Int} (h : IRow w a xs) (hb : Below w.heap.size w w') : IRow w' a xs := by
  rcases h with rfl | ⟨b, off, rfl, hlt, h⟩
  · exact .inl rfl
  · exact .inr ⟨b, off, rfl, Nat.lt_of_lt_of_le hlt hb.size, fun i hi => by rw [hb.cell hlt]; exact h i hi⟩
/-! ### A world of the sort's -/
theorem getD_in {α : Type} {fs : List α} {z : α} {i : Nat} (hi : i < fs.length) : fs.getD i z = fs[i] := by
  rw [List.getD_eq_getElem?_getD, List.getElem?_eq_getElem hi]; rfl
theorem getD_out {α : Type} {fs : List α} {z : α} {i : Nat} (hi : fs.length ≤ i) : fs.getD i z = z := by
  rw [List.getD_eq_getElem?_getD, List.getElem?_eq_none hi]; rfl
def okF (fs : List Int) : Bool := fs.all fun f => decide (0 ≤ f) && decide (f ≤ 1099511627776)
theorem okF_get {fs : List Int} (h : okF fs = true) (i : Nat) : 0 ≤ fs.getD i 0 ∧ fs.getD i 0 ≤ 1099511627776 := by
  unfold okF at h
  rw [List.all_eq_true] at h
  rcases Nat.lt_or_ge i fs.length with hi | hi
  · have := h (fs.getD i 0) (by rw [getD_in hi]; exact List.getElem_mem hi)
    simpa using this
  · rw [getD_out hi]; omega
theorem getD_take_all {fs : List Int} {j : Nat} (hj : j < fs.length) : (fs.take (j + 1)).all (fun f => decide (0 ≤ f) && decide (f ≤ 1099511627776)) = ((fs.take j).all (fun f => decide (0 ≤ f) && decide (f ≤ 1099511627776)) && (decide (0 ≤ fs.getD j 0) && decide (fs.getD j 0 ≤ 1099511627776))) := by
  rw [List.take_succ_eq_append_getElem hj, List.all_append, getD_in hj]
  simp
theorem intInfo : (Tryd.prog.info? 3).map (fun i => (i.zero, i.size, i.bytes)) = some (some (.int .i64 0), 1, 8) := by kernel_rfl
theorem made_zero (w : World) (N : Nat) : LB (w.alloc (.cells (madeCells #[.int .i64 0] N) 3)) w.heap.size N (fun _ => 0) := by
  unfold LB
  rw [heap_alloc_new]
  congr 2
  apply Array.ext'
  rw [toList_madeCells_one]
  unfold lcells
  apply List.ext_getElem
  · simp
  · intro i h1 h2; simp
theorem LB.below {w w' : World} {L N : Nat} {c : Nat → Nat} (h : LB w L N c) (hb : Below w.heap.size w w') : LB w' L N c := (hb.block L (lt_heap h)).trans h
end Go.Proofs.YtchjnfckcfikkaaDoor
