
/- Packs in memory: closures that lengthen words, alone and put together. -/
/- Two packs put together; packs by twos. -/
import Derived.Test.YtbcflkdaeboflaaDoorProg
import Derived.WalkKit
import Derived.OwnWalk
import Derived.RowKit3
import Derived.Laws.EntriesVeiled
import Derived.Deep.AppendLies
import Derived.Deep.RegionHeldLaw
/-
  Packages of symbols put together by weight (plain mathematics, no program): lengths from the lightest packages are those of a whole code, keep the order of weights, and cost what the packages weigh.
-/
namespace Go.Proofs.YtbcflkdaeboflaaDoor
set_option linter.unusedVariables false
set_option maxRecDepth 20000

/-- Symbols put together: what they weigh, which they are, whether it is one alone, and two marks of whoever laid it. -/
abbrev PT := Nat × List Nat × Bool × Nat × Nat

namespace PT
def wt (t : PT) : Nat := t.1
def syms (t : PT) : List Nat := t.2.1
def lf (t : PT) : Bool := t.2.2.1
def mx (t : PT) : Nat := t.2.2.2.1
def my (t : PT) : Nat := t.2.2.2.2
def leaf (s f x y : Nat) : PT := (f, [s], true, x, y)
def node (a b : PT) (x y : Nat) : PT := (wt a + wt b, syms a ++ syms b, false, x, y)
/-- How often a symbol is in it. -/
def cnt (s : Nat) (t : PT) : Nat := (syms t).count s
theorem wt_leaf (s f x y : Nat) : wt (leaf s f x y) = f := rfl
theorem wt_node (a b : PT) (x y : Nat) : wt (node a b x y) = wt a + wt b := rfl
theorem cnt_leaf (s t f x y : Nat) : cnt s (leaf t f x y) = if t = s then 1 else 0 := by
  simp only [cnt, syms, leaf, List.count_cons, List.count_nil, beq_iff_eq]; omega
theorem cnt_node (s : Nat) (a b : PT) (x y : Nat) : cnt s (node a b x y) = cnt s a + cnt s b := by
  simp only [cnt, node, syms, List.count_append]
/-- Each of its symbols weighs what a list says, and more than nothing. -/
def OK (F : Nat → Nat) (t : PT) : Prop := wt t = ((syms t).map F).sum ∧ (∀ s ∈ syms t, 0 < F s) ∧ syms t ≠ []
theorem OK.leaf {F : Nat → Nat} {s x y : Nat} (h : 0 < F s) : OK F (leaf s (F s) x y) :=
  ⟨by simp [PT.wt, PT.syms, PT.leaf], by intro t ht; simp [PT.syms, PT.leaf] at ht; rw [ht]; exact h, by simp [PT.syms, PT.leaf]⟩
theorem OK.node {F : Nat → Nat} {a b : PT} {x y : Nat} (ha : OK F a) (hb : OK F b) : OK F (node a b x y) := by
  refine ⟨?_, ?_, ?_⟩
  · show wt a + wt b = ((syms a ++ syms b).map F).sum
    rw [List.map_append, List.sum_append, ha.1, hb.1]
  · intro s hs
    rcases List.mem_append.1 (show s ∈ syms a ++ syms b from hs) with h | h
    · exact ha.2.1 s h
    · exact hb.2.1 s h
  · show syms a ++ syms b ≠ []
    simp [ha.2.2]
theorem sum_ge {F : Nat → Nat} {s : Nat} : ∀ {l : List Nat}, s ∈ l → F s ≤ (l.map F).sum
  | t :: l, h => by
    simp only [List.map_cons, List.sum_cons]
    rcases List.mem_cons.1 h with rfl | h
    · omega
    · have := sum_ge (F := F) h; omega
theorem wt_pos {F : Nat → Nat} {t : PT} (h : OK F t) : 0 < wt t := by
  obtain ⟨h1, h2, h3⟩ := h
  obtain ⟨s, hs⟩ := List.exists_mem_of_ne_nil _ h3
  have := sum_ge (F := F) hs
  have := h2 s hs
  omega
theorem wt_ge {F : Nat → Nat} {s : Nat} {t : PT} (h : OK F t) (hc : 0 < cnt s t) : F s ≤ wt t := by
  rw [h.1]
  exact sum_ge (List.count_pos_iff.1 hc)
end PT

open PT

def cntL (s : Nat) : List PT → Nat
  | [] => 0
  | t :: r => t.cnt s + cntL s r
def wtL : List PT → Nat
  | [] => 0
  | t :: r => t.wt + wtL r
def OKL (F : Nat → Nat) (l : List PT) : Prop := ∀ t ∈ l, OK F t

theorem cntL_append (s : Nat) (a b : List PT) : cntL s (a ++ b) = cntL s a + cntL s b := by
  induction a with
  | nil => simp [cntL]
  | cons t r ih => simp only [List.cons_append, cntL, ih]; omega
theorem wtL_append (a b : List PT) : wtL (a ++ b) = wtL a + wtL b := by
  induction a with
  | nil => simp [wtL]
  | cons t r ih => simp only [List.cons_append, wtL, ih]; omega

theorem cntL_pos {s : Nat} : ∀ {l : List PT}, 0 < cntL s l → ∃ t ∈ l, 0 < t.cnt s
  | [], h => by simp [cntL] at h
  | t :: r, h => by
    simp only [cntL] at h
    by_cases ht : 0 < t.cnt s
    · exact ⟨t, by simp, ht⟩
    · obtain ⟨u, hu, hc⟩ := cntL_pos (s := s) (l := r) (by omega)
      exact ⟨u, by simp [hu], hc⟩

/-- Rising by weight. -/
def Asc (l : List PT) : Prop := l.Pairwise fun a b => a.wt ≤ b.wt

/-- Two lists as one, as the program does it: the first list's head against the other list. -/
def mrgA (x : PT) (k : List PT → List PT) : List PT → List PT
  | [] => x :: k []
  | y :: b => if y.wt < x.wt then y :: mrgA x k b else x :: k (y :: b)
def mrg : List PT → List PT → List PT
  | [] => fun b => b
  | x :: a => mrgA x (mrg a)
theorem mrg_nil (b : List PT) : mrg [] b = b := rfl
theorem mrg_cons_nil (x : PT) (a : List PT) : mrg (x :: a) [] = x :: mrg a [] := rfl
theorem mrg_cons (x y : PT) (a b : List PT) : mrg (x :: a) (y :: b) = if y.wt < x.wt then y :: mrg (x :: a) b else x :: mrg a (y :: b) := rfl
theorem mrg_nil_right (a : List PT) : mrg a [] = a := by
  induction a with
  | nil => rfl
  | cons x a ih => rw [mrg_cons_nil, ih]

/-- Two packs as one. -/
def Two (a b u : PT) : Prop := ∃ x y, u = PT.node a b x y
/-- By twos. -/
def Pairs : List PT → List PT → Prop
  | [], m => m = []
  | [_], m => m = []
  | a :: b :: l, m => ∃ u m', m = u :: m' ∧ Two a b u ∧ Pairs l m'

/-- Induction by twos. -/
theorem two_ind {P : List PT → Prop} (h0 : P []) (h1 : ∀ t, P [t]) (h2 : ∀ a b l, P l → P (a :: b :: l)) (l : List PT) : P l := by
  have key : ∀ n (l : List PT), l.length ≤ n → P l := by
    intro n
    induction n with
    | zero => intro l hl; rw [List.eq_nil_of_length_eq_zero (l := l) (by omega)]; exact h0
    | succ n ih =>
      intro l hl
      match l, hl with
      | [], _ => exact h0
      | [t], _ => exact h1 t
      | a :: b :: l, hl => exact h2 a b l (ih l (by simp at hl; omega))
  exact key l.length l (Nat.le_refl _)

theorem mrg_perm (a : List PT) : ∀ b, (mrg a b).Perm (a ++ b) := by
  induction a with
  | nil => intro b; exact .refl _
  | cons x a ih =>
    intro b
    induction b with
    | nil => rw [mrg_cons_nil, mrg_nil_right]; simp
    | cons y b ihb =>
      rw [mrg_cons]
      split
      · exact (ihb.cons y).trans List.perm_middle.symm
      · exact (ih (y :: b)).cons x

theorem mrg_length (a b : List PT) : (mrg a b).length = a.length + b.length := by
  rw [(mrg_perm a b).length_eq]; simp

theorem mrg_asc (a : List PT) : ∀ b, Asc a → Asc b → Asc (mrg a b) := by
  induction a with
  | nil => intro b _ hb; exact hb
  | cons x a ih =>
    intro b
    induction b with
    | nil => intro ha _; rw [mrg_nil_right]; exact ha
    | cons y b ihb =>
      intro ha hb
      rw [mrg_cons]
      have ha' := List.pairwise_cons.1 ha
      have hb' := List.pairwise_cons.1 hb
      split
      · rename_i hlt
        refine List.pairwise_cons.2 ⟨fun t ht => ?_, ihb ha hb'.2⟩
        have := (mrg_perm (x :: a) b).mem_iff.1 ht
        rcases List.mem_append.1 this with h | h
        · rcases List.mem_cons.1 h with rfl | h
          · omega
          · have := ha'.1 t h; omega
        · exact hb'.1 t h
      · rename_i hlt
        refine List.pairwise_cons.2 ⟨fun t ht => ?_, ih (y :: b) ha'.2 hb⟩
        have := (mrg_perm a (y :: b)).mem_iff.1 ht
        rcases List.mem_append.1 this with h | h
        · exact ha'.1 t h
        · rcases List.mem_cons.1 h with rfl | h
          · omega
          · have := hb'.1 t h; omega

/-- The first j of two lists as one: the first x of one, the first y of the other; whatever of the other is among them is lighter than the next of the one. -/
theorem mrg_take (a : List PT) : ∀ (b : List PT) (j : Nat), Asc a → j ≤ a.length + b.length →
    ∃ x y, x + y = j ∧ x ≤ a.length ∧ y ≤ b.length ∧ ((mrg a b).take j).Perm (a.take x ++ b.take y) ∧ ∀ t ∈ b.take y, ∀ u ∈ a.drop x, t.wt < u.wt := by
  induction a with
  | nil => intro b j _ hj; exact ⟨0, j, by omega, by simp, by simpa using hj, by simp [mrg_nil], by simp⟩
  | cons x a ih =>
    intro b
    induction b with
    | nil => intro j _ hj; exact ⟨j, 0, by omega, by simpa using hj, by simp, by simp [mrg_nil_right], by simp⟩
    | cons y b ihb =>
      intro j ha hj
      cases j with
      | zero => exact ⟨0, 0, rfl, by simp, by simp, by simp, by simp⟩
      | succ j =>
        rw [mrg_cons]
        have ha' := List.pairwise_cons.1 ha
        split
        · rename_i hlt
          obtain ⟨p, q, h1, h2, h3, h4, h5⟩ := ihb j ha (by simp at hj ⊢; omega)
          refine ⟨p, q + 1, by omega, h2, by simpa using h3, ?_, ?_⟩
          · simp only [List.take_succ_cons]
            exact (h4.cons y).trans List.perm_middle.symm
          · intro t ht u hu
            simp only [List.take_succ_cons] at ht
            rcases List.mem_cons.1 ht with rfl | ht
            · have hu' := List.mem_of_mem_drop hu
              rcases List.mem_cons.1 hu' with rfl | hu'
              · exact hlt
              · have := ha'.1 u hu'; omega
            · exact h5 t ht u hu
        · rename_i hlt
          obtain ⟨p, q, h1, h2, h3, h4, h5⟩ := ih (y :: b) j ha'.2 (by simp at hj ⊢; omega)
          refine ⟨p + 1, q, by omega, by simpa using h2, h3, ?_, ?_⟩
          · simp only [List.take_succ_cons]
            exact h4.cons x
          · intro t ht u hu
            exact h5 t ht u (by simpa using hu)

theorem cntL_perm {s : Nat} {a b : List PT} (h : a.Perm b) : cntL s a = cntL s b := by
  induction h with
  | nil => rfl
  | cons x _ ih => simp only [cntL, ih]
  | swap x y l => simp only [cntL]; omega
  | trans _ _ i1 i2 => exact i1.trans i2
theorem wtL_perm {a b : List PT} (h : a.Perm b) : wtL a = wtL b := by
  induction h with
  | nil => rfl
  | cons x _ ih => simp only [wtL, ih]
  | swap x y l => simp only [wtL]; omega
  | trans _ _ i1 i2 => exact i1.trans i2

theorem Pairs.length {l : List PT} : ∀ {m}, Pairs l m → m.length = l.length / 2 := by
  induction l using two_ind with
  | h0 => intro m h; have e : m = [] := h; subst e; rfl
  | h1 t => intro m h; have e : m = [] := h; subst e; simp
  | h2 a b l ih =>
    rintro m ⟨u, m', rfl, _, h⟩
    have := ih h
    simp only [List.length_cons, this]; omega
theorem Pairs.cnt {l : List PT} (s : Nat) : ∀ {m}, Pairs l m → ∀ y, y ≤ m.length → cntL s (m.take y) = cntL s (l.take (2 * y)) := by
  induction l using two_ind with
  | h0 => intro m h y hy; have e : m = [] := h; subst e; simp at hy; subst hy; rfl
  | h1 t => intro m h y hy; have e : m = [] := h; subst e; simp at hy; subst hy; rfl
  | h2 a b l ih =>
    rintro m ⟨u, m', rfl, ⟨x, z, rfl⟩, h⟩ y hy
    cases y with
    | zero => rfl
    | succ y =>
      have := ih h y (by simpa using hy)
      rw [show 2 * (y + 1) = 2 * y + 1 + 1 by omega]
      simp only [List.take_succ_cons, cntL, PT.cnt_node, this]; omega
theorem Pairs.wt {l : List PT} : ∀ {m}, Pairs l m → ∀ y, y ≤ m.length → wtL (m.take y) = wtL (l.take (2 * y)) := by
  induction l using two_ind with
  | h0 => intro m h y hy; have e : m = [] := h; subst e; simp at hy; subst hy; rfl
  | h1 t => intro m h y hy; have e : m = [] := h; subst e; simp at hy; subst hy; rfl
  | h2 a b l ih =>
    rintro m ⟨u, m', rfl, ⟨x, z, rfl⟩, h⟩ y hy
    cases y with
    | zero => rfl
    | succ y =>
      have := ih h y (by simpa using hy)
      rw [show 2 * (y + 1) = 2 * y + 1 + 1 by omega]
      simp only [List.take_succ_cons, wtL, PT.wt_node, this]; omega
theorem Pairs.ok {F : Nat → Nat} {l : List PT} : ∀ {m}, Pairs l m → OKL F l → OKL F m := by
  induction l using two_ind with
  | h0 => intro m h hl; have e : m = [] := h; subst e; exact hl
  | h1 t => intro m h hl; have e : m = [] := h; subst e; intro t ht; simp at ht
  | h2 a b l ih =>
    rintro m ⟨u, m', rfl, ⟨x, z, rfl⟩, h⟩ hl t ht
    rcases List.mem_cons.1 ht with rfl | ht
    · exact PT.OK.node (hl _ (by simp)) (hl _ (by simp))
    · exact ih h (fun u hu => hl u (by simp [hu])) t ht
/-- Whatever is in a pair is lighter than it. -/
theorem Pairs.heavier {F : Nat → Nat} {s : Nat} {l : List PT} : ∀ {m}, Pairs l m → OKL F l → ∀ t ∈ m, 0 < t.cnt s → F s < t.wt := by
  induction l using two_ind with
  | h0 => intro m h hl t ht; have e : m = [] := h; subst e; simp at ht
  | h1 t => intro m h hl t ht; have e : m = [] := h; subst e; simp at ht
  | h2 a b l ih =>
    rintro m ⟨u, m', rfl, ⟨x, z, rfl⟩, h⟩ hl t ht hc
    rcases List.mem_cons.1 ht with rfl | ht
    · have oa := hl a (by simp); have ob := hl b (by simp)
      have pa := wt_pos oa; have pb := wt_pos ob
      rw [PT.cnt_node] at hc
      rw [PT.wt_node]
      by_cases ha : 0 < a.cnt s
      · have := wt_ge oa ha; omega
      · have := wt_ge ob (by omega : 0 < b.cnt s); omega
    · exact ih h (fun u hu => hl u (by simp [hu])) t ht hc
theorem Pairs.least (p q : Nat) {l : List PT} : ∀ {m}, Pairs l m → (∀ t ∈ l, p ≤ t.wt ∧ q ≤ t.wt) → ∀ t ∈ m, p + q ≤ t.wt := by
  induction l using two_ind with
  | h0 => intro m h hl t ht; have e : m = [] := h; subst e; simp at ht
  | h1 t => intro m h hl t ht; have e : m = [] := h; subst e; simp at ht
  | h2 a b l ih =>
    rintro m ⟨u, m', rfl, ⟨x, z, rfl⟩, h⟩ hl t ht
    rcases List.mem_cons.1 ht with rfl | ht
    · have := (hl a (by simp)).1; have := (hl b (by simp)).2; rw [PT.wt_node]; omega
    · exact ih h (fun u hu => hl u (by simp [hu])) t ht
theorem Pairs.asc {l : List PT} : ∀ {m}, Pairs l m → Asc l → Asc m := by
  induction l using two_ind with
  | h0 => intro m h hl; have e : m = [] := h; subst e; exact hl
  | h1 t => intro m h hl; have e : m = [] := h; subst e; simp [Asc]
  | h2 a b l ih =>
    rintro m ⟨u, m', rfl, ⟨x, z, rfl⟩, h⟩ ha
    have h1 := List.pairwise_cons.1 ha
    have h2 := List.pairwise_cons.1 h1.2
    refine List.pairwise_cons.2 ⟨fun t ht => ?_, ih h h2.2⟩
    rw [PT.wt_node]
    exact Pairs.least _ _ h (fun u hu => ⟨h1.1 u (by simp [hu]), h2.1 u hu⟩) t ht
theorem Pairs.append {r k : List PT} {d : List PT} : ∀ {m}, Pairs d m → d.length = 2 * m.length → Pairs r k → Pairs (d ++ r) (m ++ k) := by
  induction d using two_ind with
  | h0 => intro m h e h2; have e : m = [] := h; subst e; exact h2
  | h1 t => intro m h e h2; have e' : m = [] := h; subst e'; simp at e
  | h2 a b l ih =>
    rintro m ⟨u, m', rfl, hu, h⟩ e h2
    exact ⟨u, m' ++ k, rfl, hu, ih h (by simp only [List.length_cons] at e; omega) h2⟩

/-- The lists of each level: singles, then with pairs of the one below. -/
def Lev (S : List PT) : Nat → List PT → Prop
  | 0, l => l = S
  | k + 1, r => ∃ l m, Lev S k l ∧ Pairs l m ∧ r = mrg S m

theorem Lev.asc {S : List PT} (hS : Asc S) : ∀ {k : Nat} {l : List PT}, Lev S k l → Asc l
  | 0, l, h => by rw [show l = S from h]; exact hS
  | k + 1, r, ⟨l, m, h, hp, e⟩ => by rw [e]; exact mrg_asc _ _ hS (hp.asc (Lev.asc hS h))
theorem Lev.ok {F : Nat → Nat} {S : List PT} (hS : OKL F S) : ∀ {k : Nat} {l : List PT}, Lev S k l → OKL F l
  | 0, l, h => by rw [show l = S from h]; exact hS
  | k + 1, r, ⟨l, m, h, hp, e⟩ => by
    intro t ht
    rw [e] at ht
    rcases List.mem_append.1 ((mrg_perm _ _).mem_iff.1 ht) with h' | h'
    · exact hS t h'
    · exact hp.ok (Lev.ok hS h) t h'
/-- How many there are: of n singles at a level k, 2 n less what n is in parts of 2^k, and no part left out. -/
theorem Lev.length {S : List PT} : ∀ {k : Nat} {l : List PT}, Lev S k l → ∀ c : Nat, S.length ≤ c * 2 ^ k → 2 * S.length ≤ l.length + c
  | 0, l, h, c, hn => by rw [show l = S from h]; simp at hn; omega
  | k + 1, r, ⟨l, m, h, hp, e⟩, c, hn => by
    have := Lev.length h (2 * c) (by rw [Nat.pow_succ] at hn; rw [Nat.mul_comm 2 c, Nat.mul_assoc, Nat.mul_comm 2]; exact hn)
    rw [e, mrg_length, hp.length]; omega
theorem Lev.length_lt {S : List PT} (h2 : 2 ≤ S.length) : ∀ {k : Nat} {l : List PT}, Lev S k l → S.length ≤ l.length ∧ l.length < 2 * S.length
  | 0, l, h => by rw [show l = S from h]; omega
  | k + 1, r, ⟨l, m, h, hp, e⟩ => by
    have := Lev.length_lt h2 h
    rw [e, mrg_length, hp.length]; omega
end Go.Proofs.YtbcflkdaeboflaaDoor
namespace Go.Proofs.YtbcflkdaeboflaaDoor
open Go.RowKit
set_option linter.unusedVariables false
set_option maxRecDepth 20000

/-- w' is w but for block b. -/
structure Kp (b : Nat) (w w' : World) : Prop where
  os : w'.os = w.os
  tape : w'.tape = w.tape
  output : w'.output = w.output
  size : w'.heap.size = w.heap.size
  block : ∀ k, k ≠ b → w'.heap[k]? = w.heap[k]?
theorem Kp.refl (b : Nat) (w : World) : Kp b w w := ⟨rfl, rfl, rfl, rfl, fun _ _ => rfl⟩
theorem Kp.trans {b : Nat} {u v w : World} (h : Kp b u v) (k : Kp b v w) : Kp b u w :=
  ⟨k.os.trans h.os, k.tape.trans h.tape, k.output.trans h.output, k.size.trans h.size, fun i hi => (k.block i hi).trans (h.block i hi)⟩
theorem Kp.setCell (b i : Nat) (w : World) (u : Value) : Kp b w (w.setCell ⟨b, i, none⟩ u) :=
  ⟨rfl, rfl, rfl, by simp [World.setCell], fun k hk => Below.heap_setCell _ _ _ _ hk⟩
theorem Kp.cell {b : Nat} {w w' : World} (h : Kp b w w') {k i : Nat} (hk : k ≠ b) : w'.cell? ⟨k, i, none⟩ = w.cell? ⟨k, i, none⟩ := by
  simp only [World.cell?, h.block k hk]
theorem Kp.below {b B : Nat} {w w' : World} (h : Kp b w w') (hb : B ≤ b) : Below B w w' :=
  ⟨h.os, h.tape, h.output, Nat.le_of_eq h.size.symm, fun k hk => h.block k (by omega)⟩

theorem lt_heap {w : World} {b : Nat} {o : Obj} (h : w.heap[b]? = some o) : b < w.heap.size := by
  rcases Nat.lt_or_ge b w.heap.size with h' | h'
  · exact h'
  · rw [Array.getElem?_eq_none h'] at h; cases h
theorem lt_cell {w : World} {b i : Nat} {v : Value} (h : w.cell? ⟨b, i, none⟩ = some v) : b < w.heap.size := by
  rcases Nat.lt_or_ge b w.heap.size with h' | h'
  · exact h'
  · simp [World.cell?, Array.getElem?_eq_none h'] at h

/-- The row of the lengths. -/
def lcells (n : Nat) (c : Nat → Nat) : Array Value := ((List.range n).map fun i => Value.int .i64 (c i : Nat)).toArray
def LB (w : World) (L n : Nat) (c : Nat → Nat) : Prop := w.heap[L]? = some (.cells (lcells n c) 3 (0, 0))
theorem LB.cell {w : World} {L n : Nat} {c : Nat → Nat} (h : LB w L n c) {i : Nat} (hi : i < n) : w.cell? ⟨L, i, none⟩ = some (.int .i64 (c i : Nat)) ∧ w.frozen? ⟨L, i, none⟩ = false := by
  unfold LB at h
  exact ⟨by simp [World.cell?, h, lcells, hi], by simp [World.frozen?, h]⟩
theorem lcells_set (n : Nat) (c : Nat → Nat) (s x : Nat) : (lcells n c).setIfInBounds s (.int .i64 (x : Nat)) = lcells n (fun i => if i = s then x else c i) := by
  unfold lcells
  rw [List.setIfInBounds_toArray]
  congr 1
  apply List.ext_getElem
  · simp
  · intro i h1 h2
    rw [List.getElem_set]
    simp only [List.getElem_map, List.getElem_range]
    by_cases e : s = i
    · subst e; simp
    · rw [if_neg e, if_neg (Ne.symm e)]
theorem LB.set {w : World} {L n : Nat} {c : Nat → Nat} (h : LB w L n c) (s x : Nat) : LB (w.setCell ⟨L, s, none⟩ (.int .i64 (x : Nat))) L n (fun i => if i = s then x else c i) := by
  have hlt := lt_heap h
  unfold LB at h ⊢
  have h' : w.heap[L] = .cells (lcells n c) 3 (0, 0) := by simpa [Array.getElem?_eq_getElem hlt] using h
  show (w.heap.modify L _)[L]? = _
  rw [Array.getElem?_eq_getElem (by simpa using hlt), Array.getElem_modify_self, h']
  show some (Obj.cells ((lcells n c).setIfInBounds s _) _ _) = _
  rw [lcells_set]
theorem lcells_congr {n : Nat} {c d : Nat → Nat} (h : ∀ i, i < n → c i = d i) : lcells n c = lcells n d := by
  apply Array.ext
  · simp [lcells]
  · intro i h1 h2
    have hi : i < n := by simpa [lcells] using h1
    simp only [lcells, List.getElem_toArray, List.getElem_map, List.getElem_range, h i hi]
theorem LB.congr {w : World} {L n : Nat} {c d : Nat → Nat} (h : LB w L n c) (e : ∀ i, i < n → c i = d i) : LB w L n d := by
  unfold LB at h ⊢; rw [h, lcells_congr e]

namespace PT
def fn (t : PT) : Nat := if t.lf = true then 84 else 99
def cap (t : PT) : Array Value := #[.pointer (some ⟨t.mx, 0, none⟩), .pointer (some ⟨t.my, 0, none⟩)]
def fv (t : PT) : Value := .func (.func t.fn) #[] t.cap
def enc (t : PT) : List Value := [.int .i64 (t.wt : Nat), t.fv]
theorem enc_length (t : PT) : t.enc.length = 2 := rfl
theorem enc_one (t : PT) : ∀ v ∈ t.enc, v.oneCell' = true := by
  intro v hv
  simp only [enc, List.mem_cons, List.not_mem_nil, or_false] at hv
  rcases hv with rfl | rfl <;> rfl
/-- One symbol's pack: its closure's variables lie in memory; the lengths' row is block L. -/
def LeafAt (w : World) (L n : Nat) (t : PT) : Prop :=
  ∃ s f x y, t = leaf s f x y ∧ s < n ∧ x ≠ L ∧ y ≠ L ∧ w.cell? ⟨x, 0, none⟩ = some (.slice (some ⟨L, 0, none⟩) n n) ∧ w.cell? ⟨y, 0, none⟩ = some (.int .i64 (s : Nat))
/-- .. of a height at most h. -/
def LaidH (w : World) (L n : Nat) : Nat → PT → Prop
  | 0, t => LeafAt w L n t
  | h + 1, t => LeafAt w L n t ∨ ∃ a b x y, t = node a b x y ∧ x ≠ L ∧ y ≠ L ∧ w.cell? ⟨x, 1, none⟩ = some a.fv ∧ w.cell? ⟨y, 1, none⟩ = some b.fv ∧ LaidH w L n h a ∧ LaidH w L n h b
/-- A pack whose closures lie in memory. -/
def Laid (w : World) (L n : Nat) (t : PT) : Prop := ∃ h, LaidH w L n h t
theorem LaidH.succ {w : World} {L n : Nat} : ∀ {h : Nat} {t : PT}, LaidH w L n h t → LaidH w L n (h + 1) t
  | 0, t, h => .inl h
  | k + 1, t, h => by
    rcases h with h | ⟨a, b, x, y, e, h1, h2, h3, h4, h5, h6⟩
    · exact .inl h
    · exact .inr ⟨a, b, x, y, e, h1, h2, h3, h4, LaidH.succ h5, LaidH.succ h6⟩
theorem LaidH.le {w : World} {L n h k : Nat} {t : PT} (hl : LaidH w L n h t) (hk : h ≤ k) : LaidH w L n k t := by
  induction hk with
  | refl => exact hl
  | step _ ih => exact ih.succ
theorem Laid.leaf {w : World} {L n s f x y : Nat} (h1 : s < n) (h2 : x ≠ L) (h3 : y ≠ L) (h4 : w.cell? ⟨x, 0, none⟩ = some (.slice (some ⟨L, 0, none⟩) n n)) (h5 : w.cell? ⟨y, 0, none⟩ = some (.int .i64 (s : Nat))) : Laid w L n (PT.leaf s f x y) :=
  ⟨0, s, f, x, y, rfl, h1, h2, h3, h4, h5⟩
theorem Laid.node {w : World} {L n x y : Nat} {a b : PT} (h1 : x ≠ L) (h2 : y ≠ L) (h3 : w.cell? ⟨x, 1, none⟩ = some a.fv) (h4 : w.cell? ⟨y, 1, none⟩ = some b.fv) (ha : Laid w L n a) (hb : Laid w L n b) : Laid w L n (PT.node a b x y) := by
  obtain ⟨i, ha⟩ := ha
  obtain ⟨j, hb⟩ := hb
  exact ⟨i + j + 1, .inr ⟨a, b, x, y, rfl, h1, h2, h3, h4, ha.le (by omega), hb.le (by omega)⟩⟩
theorem LaidH.same {L n : Nat} {w w' : World} (hc : ∀ (k i : Nat) (v : Value), k ≠ L → w.cell? ⟨k, i, none⟩ = some v → w'.cell? ⟨k, i, none⟩ = some v) : ∀ {h : Nat} {t : PT}, LaidH w L n h t → LaidH w' L n h t
  | 0, t, ⟨s, f, x, y, e, h1, h2, h3, h4, h5⟩ => ⟨s, f, x, y, e, h1, h2, h3, hc _ _ _ h2 h4, hc _ _ _ h3 h5⟩
  | k + 1, t, h => by
    rcases h with ⟨s, f, x, y, e, h1, h2, h3, h4, h5⟩ | ⟨a, b, x, y, e, h1, h2, h3, h4, h5, h6⟩
    · exact .inl ⟨s, f, x, y, e, h1, h2, h3, hc _ _ _ h2 h4, hc _ _ _ h3 h5⟩
    · exact .inr ⟨a, b, x, y, e, h1, h2, hc _ _ _ h1 h3, hc _ _ _ h2 h4, LaidH.same hc h5, LaidH.same hc h6⟩
theorem Laid.below {L n : Nat} {w w' : World} {t : PT} (h : Laid w L n t) (hb : Below w.heap.size w w') : Laid w' L n t := by
  obtain ⟨k, h⟩ := h
  exact ⟨k, h.same fun k i v _ hv => by rw [hb.cell (lt_cell hv)]; exact hv⟩
theorem LaidH.kp {L n h : Nat} {w w' : World} {t : PT} (hk : Kp L w w') (hl : LaidH w L n h t) : LaidH w' L n h t :=
  hl.same fun k i v hne hv => by rw [hk.cell hne]; exact hv
theorem Laid.kp {L n : Nat} {w w' : World} {t : PT} (hk : Kp L w w') (h : Laid w L n t) : Laid w' L n t := by
  obtain ⟨k, h⟩ := h
  exact ⟨k, h.kp hk⟩
end PT
open PT

theorem leaf_call (s f x y L n : Nat) (w : World) (c : Nat → Nat) (hs : s < n) (c1 : w.cell? ⟨x, 0, none⟩ = some (.slice (some ⟨L, 0, none⟩) n n)) (c2 : w.cell? ⟨y, 0, none⟩ = some (.int .i64 (s : Nat))) (hl : LB w L n c) (hc : c s < 4611686018427387904) :
    Calls Tryd.prog 84 #[.pointer (some ⟨x, 0, none⟩), .pointer (some ⟨y, 0, none⟩)] w fun e w' => e = .returned (.tuple #[]) ∧ LB w' L n (fun i => if i = s then c s + 1 else c i) ∧ Kp L w w' := by
  obtain ⟨c3, c4⟩ := hl.cell hs
  have HL : Hid (LB w L n c) := hl
  have hsi : (s : Int) < (n : Int) := by omega
  have e0 : (s : Int).toNat = s := by simp
  clear hl
  go_enter Tryd.func84, Tryd.ntmps84
  go_wp2
  go_end0
  refine ⟨rfl, ?_, Kp.setCell L s w _⟩
  exact HL.out.set s (c s + 1)

/-- A pack's function: each of its symbols' words is a bit longer. -/
theorem lengthenH (L n : Nat) : ∀ (h : Nat) (t : PT) (w : World) (c : Nat → Nat), LaidH w L n h t → LB w L n c → (∀ i, c i + t.cnt i < 4611686018427387904) →
    Calls Tryd.prog t.fn t.cap w fun e w' => e = .returned (.tuple #[]) ∧ LB w' L n (fun i => c i + t.cnt i) ∧ Kp L w w' := by
  have one : ∀ (t : PT) (w : World) (c : Nat → Nat), LeafAt w L n t → LB w L n c → (∀ i, c i + t.cnt i < 4611686018427387904) →
      Calls Tryd.prog t.fn t.cap w fun e w' => e = .returned (.tuple #[]) ∧ LB w' L n (fun i => c i + t.cnt i) ∧ Kp L w w' := by
    rintro t w c ⟨s, f, x, y, rfl, hs, hx, hy, c1, c2⟩ hl hc
    refine (leaf_call s f x y L n w c hs c1 c2 hl (by have := hc s; omega)).mono ?_
    rintro e w' ⟨rfl, h1, h2⟩
    refine ⟨rfl, h1.congr (fun i hi => ?_), h2⟩
    rw [PT.cnt_leaf]
    by_cases e : i = s
    · subst e; simp
    · rw [if_neg e, if_neg (Ne.symm e)]; rfl
  intro h
  induction h with
  | zero => exact one
  | succ h ih =>
    intro t w c hg hl hc
    rcases hg with hg | ⟨a, b, x, y, rfl, hx, hy, c1, c2, ga, gb⟩
    · exact one t w c hg hl hc
    have hc' : ∀ i, c i + (a.cnt i + b.cnt i) < 4611686018427387904 := fun i => by have := hc i; rw [PT.cnt_node] at this; exact this
    have HA : Hid (∀ _ : Unit, Calls Tryd.prog a.fn a.cap w fun e w' => e = .returned (.tuple #[]) ∧ LB w' L n (fun i => c i + a.cnt i) ∧ Kp L w w') := fun _ => ih a w c ga hl (fun i => by have := hc' i; omega)
    have HB : Hid (∀ w1, LB w1 L n (fun i => c i + a.cnt i) → Kp L w w1 → Calls Tryd.prog b.fn b.cap w1 fun e w' => e = .returned (.tuple #[]) ∧ LB w' L n (fun i => c i + (a.cnt i + b.cnt i)) ∧ Kp L w w') := fun w1 h1 h2 =>
      (ih b w1 _ (gb.kp h2) h1 (fun i => by have := hc' i; omega)).mono fun e w' ⟨e1, e2, e3⟩ => ⟨e1, e2.congr (fun i _ => by omega), h2.trans e3⟩
    have HC2 : Hid (w.cell? ⟨y, 1, none⟩ = some b.fv) := c2
    clear ih ga gb hl hc hc' c2
    simp only [PT.cnt_node]
    show Calls Tryd.prog 99 #[.pointer (some ⟨x, 0, none⟩), .pointer (some ⟨y, 0, none⟩)] w _
    unfold PT.fv at c1
    obtain ⟨ka, hka⟩ : ∃ k, a.fn = k := ⟨_, rfl⟩
    obtain ⟨ca, hca⟩ : ∃ k, a.cap = k := ⟨_, rfl⟩
    obtain ⟨kb, hkb⟩ : ∃ k, b.fn = k := ⟨_, rfl⟩
    obtain ⟨cb, hcb⟩ : ∃ k, b.cap = k := ⟨_, rfl⟩
    unfold PT.fv at HC2
    rw [hkb, hcb] at HB HC2
    rw [hka, hca] at HA c1
    have ha2 : ka = 84 ∨ ka = 99 := by rw [← hka]; unfold PT.fn; split <;> simp
    have hb2 : kb = 84 ∨ kb = 99 := by rw [← hkb]; unfold PT.fn; split <;> simp
    clear hka hca hkb hcb
    go_enter Tryd.func99, Tryd.ntmps99
    rcases ha2 with rfl | rfl
    all_goals
      go_wp2_with fail
      refine (HA.out ()).mono ?_
      rintro e w1 ⟨rfl, hl1, hk1⟩
      have c2 : w1.cell? ⟨y, 1, none⟩ = some (.func (.func kb) #[] cb) := by rw [hk1.cell hy]; exact HC2.out
      have K3 := fun _ : Unit => HB.out w1 hl1 hk1
      clear hl1 hk1
      rcases hb2 with rfl | rfl
      all_goals
        have K4 : Hid _ := K3
        clear K3
        go_wp2_with fail
        refine (K4.out ()).mono ?_
        rintro e w2 ⟨rfl, hl2, hk2⟩
        go_wp2
        go_end0
        exact ⟨rfl, hl2, hk2⟩
theorem lengthen (L n : Nat) (t : PT) (w : World) (c : Nat → Nat) (hg : Laid w L n t) (hl : LB w L n c) (hc : ∀ i, c i + t.cnt i < 4611686018427387904) :
    Calls Tryd.prog t.fn t.cap w fun e w' => e = .returned (.tuple #[]) ∧ LB w' L n (fun i => c i + t.cnt i) ∧ Kp L w w' := by
  obtain ⟨h, hg⟩ := hg
  exact lengthenH L n h t w c hg hl hc
end Go.Proofs.YtbcflkdaeboflaaDoor
namespace Go.Proofs.YtbcflkdaeboflaaDoor
open Go.RowKit PT
set_option linter.unusedVariables false
set_option maxRecDepth 20000

theorem results_cell {fn : Func} {p : Tmp} {ty : TypeId} (h : fn.results = #[.cell p ty]) (tmps : Array Value) (P : Program) (w : World) :
    (results fn tmps).run P w = ((asAddr (tmps.getD p undef)).run P w).andThen fun a w₁ => (loadVar ty a).run P w₁ := by
  simp only [results, h]
  simp [Sem.run_bind, Result.andThen]
set_option maxHeartbeats 1000000 in
theorem together_ok (a b : PT) (L n : Nat) (w : World) (hL : L < w.heap.size) (hw : a.wt + b.wt < 4611686018427387904) :
    Calls Tryd.prog 96 #[.agg #[.int .i64 (a.wt : Nat), a.fv], .agg #[.int .i64 (b.wt : Nat), b.fv]] w fun e w' =>
      ∃ x y, e = .returned (.agg #[.int .i64 ((PT.node a b x y).wt : Nat), (PT.node a b x y).fv]) ∧ (x ≠ L ∧ y ≠ L ∧ w'.cell? ⟨x, 1, none⟩ = some a.fv ∧ w'.cell? ⟨y, 1, none⟩ = some b.fv) ∧ w.heap.size ≤ x ∧ w.heap.size ≤ y ∧ Below w.heap.size w w' := by
  obtain ⟨va, hva⟩ : ∃ v, a.fv = .func (.func v) #[] a.cap := ⟨_, rfl⟩
  obtain ⟨vb, hvb⟩ : ∃ v, b.fv = .func (.func v) #[] b.cap := ⟨_, rfl⟩
  have HVA : Hid (a.fv = .func (.func va) #[] a.cap) := hva
  have HVB : Hid (b.fv = .func (.func vb) #[] b.cap) := hvb
  rw [hva, hvb]
  obtain ⟨p, hp⟩ : ∃ p, a.wt = p := ⟨_, rfl⟩
  obtain ⟨q, hq⟩ : ∃ p, b.wt = p := ⟨_, rfl⟩
  have HP : Hid (a.wt = p ∧ b.wt = q) := ⟨hp, hq⟩
  rw [hp, hq]
  rw [hp, hq] at hw
  clear hva hvb hp hq
  obtain ⟨ca, hca⟩ : ∃ p, a.cap = p := ⟨_, rfl⟩
  obtain ⟨cb, hcb⟩ : ∃ p, b.cap = p := ⟨_, rfl⟩
  have HCA : Hid (a.cap = ca ∧ b.cap = cb) := ⟨hca, hcb⟩
  rw [hca, hcb]
  clear hca hcb
  go_enter Tryd.func96, Tryd.ntmps96
  go_wp2
  refine bodyPost_ret (v := .agg #[.int .i64 ((p + q : Nat) : Int), .func (.func 99) #[] #[.pointer (some ⟨w.heap.size, 0, none⟩), .pointer (some ⟨w.heap.size + 1, 0, none⟩)]]) ?_ rfl ?_
  · rw [results_cell rfl]
    go_simp
  obtain ⟨o1, ho1⟩ : ∃ o, Obj.cells #[Value.int .i64 (p : Nat), .func (.func va) #[] ca] 133 = o := ⟨_, rfl⟩
  obtain ⟨o2, ho2⟩ : ∃ o, Obj.cells #[Value.int .i64 (q : Nat), .func (.func vb) #[] cb] 133 = o := ⟨_, rfl⟩
  have hbel : ∀ o3, Below w.heap.size w (((w.alloc o1).alloc o2).alloc o3) := fun o3 => (((Below.refl _ _).alloc (Nat.le_refl _) _).alloc (by simp) _).alloc (by simp; omega) _
  refine ⟨w.heap.size, w.heap.size + 1, ?_, ⟨by omega, by omega, ?_, ?_⟩, Nat.le_refl _, by omega, ?_⟩
  · rw [PT.wt_node, HP.out.1, HP.out.2]; rfl
  · subst ho1 ho2; go_simp
  · subst ho1 ho2; go_simp
  · rw [ho1, ho2]; exact hbel _

/-- A row of packs. -/
def PRow (w : World) (b off : Nat) (l : List PT) : Prop := ∀ i (t : PT), l[i]? = some t → w.cell? ⟨b, off + i * 2, none⟩ = some (.int .i64 (t.wt : Nat)) ∧ w.cell? ⟨b, off + i * 2 + 1, none⟩ = some t.fv
def pcs (l : List PT) : List Value := l.flatMap PT.enc
theorem pcs_length (l : List PT) : (pcs l).length = l.length * 2 := by
  induction l with
  | nil => rfl
  | cons t r ih => simp only [pcs, List.flatMap_cons, List.length_append, PT.enc_length, List.length_cons] at ih ⊢; omega
theorem pcs_append (l m : List PT) : pcs (l ++ m) = pcs l ++ pcs m := by simp [pcs]
theorem pcs_get : ∀ (l : List PT) (i : Nat) (t : PT), l[i]? = some t → (pcs l)[i * 2]? = some (.int .i64 (t.wt : Nat)) ∧ (pcs l)[i * 2 + 1]? = some t.fv
  | [], i, t, h => by simp at h
  | u :: r, 0, t, h => by simp at h; subst h; exact ⟨rfl, rfl⟩
  | u :: r, i + 1, t, h => by
    have := pcs_get r i t (by simpa using h)
    rw [show (i + 1) * 2 = i * 2 + 2 by omega, show i * 2 + 2 + 1 = i * 2 + 1 + 2 by omega]
    exact this
theorem PRow.cons {w : World} {b off : Nat} {t : PT} {l : List PT} (h : PRow w b off (t :: l)) : w.cell? ⟨b, off, none⟩ = some (.int .i64 (t.wt : Nat)) ∧ w.cell? ⟨b, off + 1, none⟩ = some t.fv ∧ PRow w b (off + 2) l := by
  obtain ⟨h1, h2⟩ := h 0 t rfl
  refine ⟨by simpa using h1, by simpa using h2, fun i u hu => ?_⟩
  have := h (i + 1) u (by simpa using hu)
  rw [show off + (i + 1) * 2 = off + 2 + i * 2 by omega] at this
  exact this
theorem PRow.lt {w : World} {b off : Nat} {t : PT} {l : List PT} (h : PRow w b off (t :: l)) : b < w.heap.size := lt_cell h.cons.1
theorem PRow.below {w w' : World} {b off B : Nat} {l : List PT} (h : PRow w b off l) (hb : Below B w w') (hlt : b < B) : PRow w' b off l := fun i t ht => by
  obtain ⟨h1, h2⟩ := h i t ht
  rw [hb.cell hlt, hb.cell hlt]
  exact ⟨h1, h2⟩
theorem add_zero_addr (g j : Nat) : (⟨g, 0, none⟩ : Addr).add j = ⟨g, j, none⟩ := by
  unfold Addr.add; split
  · subst_vars; rfl
  · simp
theorem PRow.owned {w : World} {B g n cap : Nat} {l : List PT} (h : w.ownsRow B 133 2 (.slice (some ⟨g, 0, none⟩) n cap) n (pcs l)) : PRow w g 0 l := fun i t ht => by
  obtain ⟨h1, h2⟩ := pcs_get l i t ht
  have := h.cells (g := g) rfl
  have h3 := this _ _ h1
  have h4 := this _ _ h2
  rw [add_zero_addr] at h3 h4
  rw [Nat.zero_add]
  exact ⟨h3, h4⟩
theorem packInfo : (Tryd.prog.info? 133).map (fun i => (i.zero, i.size, i.bytes)) = some (some (.agg #[.int .i64 0, .nilFunc]), 2, 16) := by kernel_rfl
theorem info_split {t : TypeId} {z : Option Value} {n m : Nat} (h : (Tryd.prog.info? t).map (fun i => (i.zero, i.size, i.bytes)) = some (z, n, m)) : ∃ i, Tryd.prog.info? t = some i ∧ i.zero = z ∧ i.size = n ∧ i.bytes = m := by
  cases e : Tryd.prog.info? t with
  | none => rw [e] at h; simp at h
  | some i => rw [e] at h; simp at h; exact ⟨i, rfl, h.1, h.2.1, h.2.2⟩
theorem news2 (W : World) (p q : Value) (t : TypeId) : ∀ j u, [p, q][j]? = some u → (W.alloc (.cells #[p, q] t)).cell? ((⟨W.heap.size, 0, none⟩ : Addr).add j) = some u := by
  intro j u h
  match j, h with
  | 0, h => simp at h; subst h; simp [Addr.add]
  | 1, h => simp at h; subst h; simp [Addr.add]
theorem one2 (x : Int) (t : PT) : ∀ u ∈ [Value.int .i64 x, t.fv], u.oneCell' = true := by
  intro u hu
  simp only [List.mem_cons, List.not_mem_nil, or_false] at hu
  rcases hu with rfl | rfl <;> rfl
theorem owns_below {w w' : World} {B : Nat} {E : TypeId} {size n : Nat} {v : Value} {xs : List Value} (h : w.ownsRow B E size v n xs) (hb : Below w.heap.size w w') : w'.ownsRow B E size v n xs := by
  refine ⟨h.1, ?_⟩
  rcases h.2 with hn | ⟨g, cap, cur, hv, hg, hh, r⟩
  · exact .inl hn
  · exact .inr ⟨g, cap, cur, hv, hg, (hb.block g (lt_heap hh)).trans hh, r⟩
theorem grown_cell {w w' : World} {r : Option Nat} (hg : w.grownBy w' r) {k i : Nat} {v : Value} (h : w.cell? ⟨k, i, none⟩ = some v) (hk : r ≠ some k) : w'.cell? ⟨k, i, none⟩ = some v := by
  have := hg.block k (lt_cell h) (fun e => hk e.symm)
  simp only [World.cell?, this] at h ⊢
  exact h
theorem own_lt {w : World} {B : Nat} {E : TypeId} {size n : Nat} {v : Value} {xs : List Value} (h : w.ownsRow B E size v n xs) {k : Nat} (hk : w.heap.size ≤ k) : v.ownBlock ≠ some k := by
  rcases h.2 with ⟨rfl, _⟩ | ⟨g, cap, cur, rfl, hgB, hh, _⟩
  · simp [Value.ownBlock]
  · intro e
    have e' : g = k := by simpa [Value.ownBlock] using e
    have := lt_heap hh
    omega
theorem below_grown {B : Nat} {w w' : World} {v : Value} {E : TypeId} {n size : Nat} {xs : List Value} (ho : w.ownsRow B E size v n xs) (hg : w.grownBy w' v.ownBlock) (hB : B ≤ w.heap.size) : Below B w w' :=
  ⟨hg.os, hg.tape, hg.output, hg.size, fun k hk => hg.block k (by omega) (fun e => by
    rcases ho.2 with ⟨rfl, _⟩ | ⟨g, cap, cur, rfl, hgB, _⟩
    · simp [Value.ownBlock] at e
    · have e' : k = g := by simpa [Value.ownBlock] using e
      omega)⟩
end Go.Proofs.YtbcflkdaeboflaaDoor
