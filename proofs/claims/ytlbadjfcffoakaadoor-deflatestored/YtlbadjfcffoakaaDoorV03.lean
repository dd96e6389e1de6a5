/- Packs in memory: closures that lengthen words, alone and put together. -/
import Derived.Test.YtlbadjfcffoakaaDoorProg
import Derived.WalkKit
import Derived.OwnWalk
import Derived.RowKit3
import Derived.Test.YtlbadjfcffoakaaDoorV01
namespace Go.Proofs.YtlbadjfcffoakaaDoor
open Go.RowKit
set_option linter.unusedVariables false
set_option maxRecDepth 20000

structure Kp (b : Nat) (w w' : World) : Prop where
  os : w'.os = w.os
  tape : w'.tape = w.tape
  output : w'.output = w.output
  size : w'.heap.size = w.heap.size
  block : ∀ k, k ≠ b → w'.heap[k]? = w.heap[k]?
theorem Kp.refl (b : Nat) (w : World) : Kp b w w := ⟨rfl, rfl, rfl, rfl, fun _ _ => rfl⟩
theorem Kp.trans {b : Nat} {u v w : World} (h : Kp b u v) (k : Kp b v w) : Kp b u w :=
  ⟨k.os.trans h.os, k.tape.trans h.tape, k.output.trans h.output, k.size.trans h.size, fun i hi => (k.block i hi).trans (h.block i hi)⟩
theorem Kp.setCell (b i : Nat) (w : World) (u : Value) : Kp b w (w.setCell ⟨b, i, none⟩ u) :=
  ⟨rfl, rfl, rfl, by simp [World.setCell], fun k hk => Below.heap_setCell _ _ _ _ hk⟩
theorem Kp.cell {b : Nat} {w w' : World} (h : Kp b w w') {k i : Nat} (hk : k ≠ b) : w'.cell? ⟨k, i, none⟩ = w.cell? ⟨k, i, none⟩ := by
  simp only [World.cell?, h.block k hk]
theorem Kp.below {b B : Nat} {w w' : World} (h : Kp b w w') (hb : B ≤ b) : Below B w w' :=
  ⟨h.os, h.tape, h.output, Nat.le_of_eq h.size.symm, fun k hk => h.block k (by omega)⟩

theorem lt_heap {w : World} {b : Nat} {o : Obj} (h : w.heap[b]? = some o) : b < w.heap.size := by
  rcases Nat.lt_or_ge b w.heap.size with h' | h'
  · exact h'
  · rw [Array.getElem?_eq_none h'] at h; cases h
theorem lt_cell {w : World} {b i : Nat} {v : Value} (h : w.cell? ⟨b, i, none⟩ = some v) : b < w.heap.size := by
  rcases Nat.lt_or_ge b w.heap.size with h' | h'
  · exact h'
  · simp [World.cell?, Array.getElem?_eq_none h'] at h

def lcells (n : Nat) (c : Nat → Nat) : Array Value := ((List.range n).map fun i => Value.int .i64 (c i : Nat)).toArray
def LB (w : World) (L n : Nat) (c : Nat → Nat) : Prop := w.heap[L]? = some (.cells (lcells n c) 3 (0, 0))
theorem LB.cell {w : World} {L n : Nat} {c : Nat → Nat} (h : LB w L n c) {i : Nat} (hi : i < n) : w.cell? ⟨L, i, none⟩ = some (.int .i64 (c i : Nat)) ∧ w.frozen? ⟨L, i, none⟩ = false := by
  unfold LB at h
  exact ⟨by simp [World.cell?, h, lcells, hi], by simp [World.frozen?, h]⟩
theorem lcells_set (n : Nat) (c : Nat → Nat) (s x : Nat) : (lcells n c).setIfInBounds s (.int .i64 (x : Nat)) = lcells n (fun i => if i = s then x else c i) := by
  unfold lcells
  rw [List.setIfInBounds_toArray]
  congr 1
  apply List.ext_getElem
  · simp
  · intro i h1 h2
    rw [List.getElem_set]
    simp only [List.getElem_map, List.getElem_range]
    by_cases e : s = i
    · subst e; simp
    · rw [if_neg e, if_neg (Ne.symm e)]
theorem LB.set {w : World} {L n : Nat} {c : Nat → Nat} (h : LB w L n c) (s x : Nat) : LB (w.setCell ⟨L, s, none⟩ (.int .i64 (x : Nat))) L n (fun i => if i = s then x else c i) := by
  have hlt := lt_heap h
  unfold LB at h ⊢
  have h' : w.heap[L] = .cells (lcells n c) 3 (0, 0) := by simpa [Array.getElem?_eq_getElem hlt] using h
  show (w.heap.modify L _)[L]? = _
  rw [Array.getElem?_eq_getElem (by simpa using hlt), Array.getElem_modify_self, h']
  show some (Obj.cells ((lcells n c).setIfInBounds s _) _ _) = _
  rw [lcells_set]
theorem lcells_congr {n : Nat} {c d : Nat → Nat} (h : ∀ i, i < n → c i = d i) : lcells n c = lcells n d := by
  apply Array.ext
  · simp [lcells]
  · intro i h1 h2
    have hi : i < n := by simpa [lcells] using h1
    simp only [lcells, List.getElem_toArray, List.getElem_map, List.getElem_range, h i hi]
theorem LB.congr {w : World} {L n : Nat} {c d : Nat → Nat} (h : LB w L n c) (e : ∀ i, i < n → c i = d i) : LB w L n d := by
  unfold LB at h ⊢; rw [h, lcells_congr e]

namespace PT
def fn (t : PT) : Nat := if t.lf = true then 79 else 93
def cap (t : PT) : Array Value := #[.pointer (some ⟨t.mx, 0, none⟩), .pointer (some ⟨t.my, 0, none⟩)]
def fv (t : PT) : Value := .func (.func t.fn) #[] t.cap
def enc (t : PT) : List Value := [.int .i64 (t.wt : Nat), t.fv]
theorem enc_length (t : PT) : t.enc.length = 2 := rfl
theorem enc_one (t : PT) : ∀ v ∈ t.enc, v.oneCell' = true := by
  intro v hv
  simp only [enc, List.mem_cons, List.not_mem_nil, or_false] at hv
  rcases hv with rfl | rfl <;> rfl
def LeafAt (w : World) (L n : Nat) (t : PT) : Prop :=
  ∃ s f x y, t = leaf s f x y ∧ s < n ∧ x ≠ L ∧ y ≠ L ∧ w.cell? ⟨x, 0, none⟩ = some (.slice (some ⟨L, 0, none⟩) n n) ∧ w.cell? ⟨y, 0, none⟩ = some (.int .i64 (s : Nat))
def LaidH (w : World) (L n : Nat) : Nat → PT → Prop
  | 0, t => LeafAt w L n t
  | h + 1, t => LeafAt w L n t ∨ ∃ a b x y, t = node a b x y ∧ x ≠ L ∧ y ≠ L ∧ w.cell? ⟨x, 1, none⟩ = some a.fv ∧ w.cell? ⟨y, 1, none⟩ = some b.fv ∧ LaidH w L n h a ∧ LaidH w L n h b
def Laid (w : World) (L n : Nat) (t : PT) : Prop := ∃ h, LaidH w L n h t
theorem LaidH.succ {w : World} {L n : Nat} : ∀ {h : Nat} {t : PT}, LaidH w L n h t → LaidH w L n (h + 1) t
  | 0, t, h => .inl h
  | k + 1, t, h => by
    rcases h with h | ⟨a, b, x, y, e, h1, h2, h3, h4, h5, h6⟩
    · exact .inl h
    · exact .inr ⟨a, b, x, y, e, h1, h2, h3, h4, LaidH.succ h5, LaidH.succ h6⟩
theorem LaidH.le {w : World} {L n h k : Nat} {t : PT} (hl : LaidH w L n h t) (hk : h ≤ k) : LaidH w L n k t := by
  induction hk with
  | refl => exact hl
  | step _ ih => exact ih.succ
theorem Laid.leaf {w : World} {L n s f x y : Nat} (h1 : s < n) (h2 : x ≠ L) (h3 : y ≠ L) (h4 : w.cell? ⟨x, 0, none⟩ = some (.slice (some ⟨L, 0, none⟩) n n)) (h5 : w.cell? ⟨y, 0, none⟩ = some (.int .i64 (s : Nat))) : Laid w L n (PT.leaf s f x y) :=
  ⟨0, s, f, x, y, rfl, h1, h2, h3, h4, h5⟩
theorem Laid.node {w : World} {L n x y : Nat} {a b : PT} (h1 : x ≠ L) (h2 : y ≠ L) (h3 : w.cell? ⟨x, 1, none⟩ = some a.fv) (h4 : w.cell? ⟨y, 1, none⟩ = some b.fv) (ha : Laid w L n a) (hb : Laid w L n b) : Laid w L n (PT.node a b x y) := by
  obtain ⟨i, ha⟩ := ha
  obtain ⟨j, hb⟩ := hb
  exact ⟨i + j + 1, .inr ⟨a, b, x, y, rfl, h1, h2, h3, h4, ha.le (by omega), hb.le (by omega)⟩⟩
theorem LaidH.same {L n : Nat} {w w' : World} (hc : ∀ (k i : Nat) (v : Value), k ≠ L → w.cell? ⟨k, i, none⟩ = some v → w'.cell? ⟨k, i, none⟩ = some v) : ∀ {h : Nat} {t : PT}, LaidH w L n h t → LaidH w' L n h t
  | 0, t, ⟨s, f, x, y, e, h1, h2, h3, h4, h5⟩ => ⟨s, f, x, y, e, h1, h2, h3, hc _ _ _ h2 h4, hc _ _ _ h3 h5⟩
  | k + 1, t, h => by
    rcases h with ⟨s, f, x, y, e, h1, h2, h3, h4, h5⟩ | ⟨a, b, x, y, e, h1, h2, h3, h4, h5, h6⟩
    · exact .inl ⟨s, f, x, y, e, h1, h2, h3, hc _ _ _ h2 h4, hc _ _ _ h3 h5⟩
    · exact .inr ⟨a, b, x, y, e, h1, h2, hc _ _ _ h1 h3, hc _ _ _ h2 h4, LaidH.same hc h5, LaidH.same hc h6⟩
theorem Laid.below {L n : Nat} {w w' : World} {t : PT} (h : Laid w L n t) (hb : Below w.heap.size w w') : Laid w' L n t := by
  obtain ⟨k, h⟩ := h
  exact ⟨k, h.same fun k i v _ hv => by rw [hb.cell (lt_cell hv)]; exact hv⟩
theorem LaidH.kp {L n h : Nat} {w w' : World} {t : PT} (hk : Kp L w w') (hl : LaidH w L n h t) : LaidH w' L n h t :=
  hl.same fun k i v hne hv => by rw [hk.cell hne]; exact hv
theorem Laid.kp {L n : Nat} {w w' : World} {t : PT} (hk : Kp L w w') (h : Laid w L n t) : Laid w' L n t := by
  obtain ⟨k, h⟩ := h
  exact ⟨k, h.kp hk⟩
end PT
open PT

theorem leaf_call (s f x y L n : Nat) (w : World) (c : Nat → Nat) (hs : s < n) (c1 : w.cell? ⟨x, 0, none⟩ = some (.slice (some ⟨L, 0, none⟩) n n)) (c2 : w.cell? ⟨y, 0, none⟩ = some (.int .i64 (s : Nat))) (hl : LB w L n c) (hc : c s < 4611686018427387904) :
    Calls Tryd.prog 79 #[.pointer (some ⟨x, 0, none⟩), .pointer (some ⟨y, 0, none⟩)] w fun e w' => e = .returned (.tuple #[]) ∧ LB w' L n (fun i => if i = s then c s + 1 else c i) ∧ Kp L w w' := by
  obtain ⟨c3, c4⟩ := hl.cell hs
  have HL : Hid (LB w L n c) := hl
  have hsi : (s : Int) < (n : Int) := by omega
  have e0 : (s : Int).toNat = s := by simp
  clear hl
  go_enter Tryd.func79, Tryd.ntmps79
  go_wp2
  go_end0
  refine ⟨rfl, ?_, Kp.setCell L s w _⟩
  exact HL.out.set s (c s + 1)

theorem lengthenH (L n : Nat) : ∀ (h : Nat) (t : PT) (w : World) (c : Nat → Nat), LaidH w L n h t → LB w L n c → (∀ i, c i + t.cnt i < 4611686018427387904) →
    Calls Tryd.prog t.fn t.cap w fun e w' => e = .returned (.tuple #[]) ∧ LB w' L n (fun i => c i + t.cnt i) ∧ Kp L w w' := by
  have one : ∀ (t : PT) (w : World) (c : Nat → Nat), LeafAt w L n t → LB w L n c → (∀ i, c i + t.cnt i < 4611686018427387904) →
      Calls Tryd.prog t.fn t.cap w fun e w' => e = .returned (.tuple #[]) ∧ LB w' L n (fun i => c i + t.cnt i) ∧ Kp L w w' := by
    rintro t w c ⟨s, f, x, y, rfl, hs, hx, hy, c1, c2⟩ hl hc
    refine (leaf_call s f x y L n w c hs c1 c2 hl (by have := hc s; omega)).mono ?_
    rintro e w' ⟨rfl, h1, h2⟩
    refine ⟨rfl, h1.congr (fun i hi => ?_), h2⟩
    rw [PT.cnt_leaf]
    by_cases e : i = s
    · subst e; simp
    · rw [if_neg e, if_neg (Ne.symm e)]; rfl
  intro h
  induction h with
  | zero => exact one
  | succ h ih =>
    intro t w c hg hl hc
    rcases hg with hg | ⟨a, b, x, y, rfl, hx, hy, c1, c2, ga, gb⟩
    · exact one t w c hg hl hc
    have hc' : ∀ i, c i + (a.cnt i + b.cnt i) < 4611686018427387904 := fun i => by have := hc i; rw [PT.cnt_node] at this; exact this
    have HA : Hid (∀ _ : Unit, Calls Tryd.prog a.fn a.cap w fun e w' => e = .returned (.tuple #[]) ∧ LB w' L n (fun i => c i + a.cnt i) ∧ Kp L w w') := fun _ => ih a w c ga hl (fun i => by have := hc' i; omega)
    have HB : Hid (∀ w1, LB w1 L n (fun i => c i + a.cnt i) → Kp L w w1 → Calls Tryd.prog b.fn b.cap w1 fun e w' => e = .returned (.tuple #[]) ∧ LB w' L n (fun i => c i + (a.cnt i + b.cnt i)) ∧ Kp L w w') := fun w1 h1 h2 =>
      (ih b w1 _ (gb.kp h2) h1 (fun i => by have := hc' i; omega)).mono fun e w' ⟨e1, e2, e3⟩ => ⟨e1, e2.congr (fun i _ => by omega), h2.trans e3⟩
    have HC2 : Hid (w.cell? ⟨y, 1, none⟩ = some b.fv) := c2
    clear ih ga gb hl hc hc' c2
    simp only [PT.cnt_node]
    show Calls Tryd.prog 93 #[.pointer (some ⟨x, 0, none⟩), .pointer (some ⟨y, 0, none⟩)] w _
    unfold PT.fv at c1
    obtain ⟨ka, hka⟩ : ∃ k, a.fn = k := ⟨_, rfl⟩
    obtain ⟨ca, hca⟩ : ∃ k, a.cap = k := ⟨_, rfl⟩
    obtain ⟨kb, hkb⟩ : ∃ k, b.fn = k := ⟨_, rfl⟩
    obtain ⟨cb, hcb⟩ : ∃ k, b.cap = k := ⟨_, rfl⟩
    unfold PT.fv at HC2
    rw [hkb, hcb] at HB HC2
    rw [hka, hca] at HA c1
    have ha2 : ka = 79 ∨ ka = 93 := by rw [← hka]; unfold PT.fn; split <;> simp
    have hb2 : kb = 79 ∨ kb = 93 := by rw [← hkb]; unfold PT.fn; split <;> simp
    clear hka hca hkb hcb
    go_enter Tryd.func93, Tryd.ntmps93
    rcases ha2 with rfl | rfl
    all_goals
      go_wp2_with fail
      refine (HA.out ()).mono ?_
      rintro e w1 ⟨rfl, hl1, hk1⟩
      have c2 : w1.cell? ⟨y, 1, none⟩ = some (.func (.func kb) #[] cb) := by rw [hk1.cell hy]; exact HC2.out
      have K3 := fun _ : Unit => HB.out w1 hl1 hk1
      clear hl1 hk1
      rcases hb2 with rfl | rfl
      all_goals
        have K4 : Hid _ := K3
        clear K3
        go_wp2_with fail
        refine (K4.out ()).mono ?_
        rintro e w2 ⟨rfl, hl2, hk2⟩
        go_wp2
        go_end0
        exact ⟨rfl, hl2, hk2⟩
theorem lengthen (L n : Nat) (t : PT) (w : World) (c : Nat → Nat) (hg : Laid w L n t) (hl : LB w L n c) (hc : ∀ i, c i + t.cnt i < 4611686018427387904) :
    Calls Tryd.prog t.fn t.cap w fun e w' => e = .returned (.tuple #[]) ∧ LB w' L n (fun i => c i + t.cnt i) ∧ Kp L w w' := by
  obtain ⟨h, hg⟩ := hg
  exact lengthenH L n h t w c hg hl hc
end Go.Proofs.YtlbadjfcffoakaaDoor
