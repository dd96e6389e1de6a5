/-
  Packages of symbols put together by weight (plain mathematics, no program): lengths from the lightest packages are those of a whole code, keep the order of weights, and cost what the packages weigh.
-/
namespace Go.Proofs.Ytklipommocijaaa
set_option linter.unusedVariables false

/-- Symbols put together: what they weigh, which they are, whether it is one alone, and two marks of whoever laid it. -/
abbrev PT := Nat × List Nat × Bool × Nat × Nat

namespace PT
def wt (t : PT) : Nat := t.1
def syms (t : PT) : List Nat := t.2.1
def lf (t : PT) : Bool := t.2.2.1
def mx (t : PT) : Nat := t.2.2.2.1
def my (t : PT) : Nat := t.2.2.2.2
def leaf (s f x y : Nat) : PT := (f, [s], true, x, y)
def node (a b : PT) (x y : Nat) : PT := (wt a + wt b, syms a ++ syms b, false, x, y)
/-- How often a symbol is in it. -/
def cnt (s : Nat) (t : PT) : Nat := (syms t).count s
theorem wt_leaf (s f x y : Nat) : wt (leaf s f x y) = f := rfl
theorem wt_node (a b : PT) (x y : Nat) : wt (node a b x y) = wt a + wt b := rfl
theorem cnt_leaf (s t f x y : Nat) : cnt s (leaf t f x y) = if t = s then 1 else 0 := by
  simp only [cnt, syms, leaf, List.count_cons, List.count_nil, beq_iff_eq]; omega
theorem cnt_node (s : Nat) (a b : PT) (x y : Nat) : cnt s (node a b x y) = cnt s a + cnt s b := by
  simp only [cnt, node, syms, List.count_append]
/-- Each of its symbols weighs what a list says, and more than nothing. -/
def OK (F : Nat → Nat) (t : PT) : Prop := wt t = ((syms t).map F).sum ∧ (∀ s ∈ syms t, 0 < F s) ∧ syms t ≠ []
theorem OK.leaf {F : Nat → Nat} {s x y : Nat} (h : 0 < F s) : OK F (leaf s (F s) x y) :=
  ⟨by simp [PT.wt, PT.syms, PT.leaf], by intro t ht; simp [PT.syms, PT.leaf] at ht; rw [ht]; exact h, by simp [PT.syms, PT.leaf]⟩
theorem OK.node {F : Nat → Nat} {a b : PT} {x y : Nat} (ha : OK F a) (hb : OK F b) : OK F (node a b x y) := by
  refine ⟨?_, ?_, ?_⟩
  · show wt a + wt b = ((syms a ++ syms b).map F).sum
    rw [List.map_append, List.sum_append, ha.1, hb.1]
  · intro s hs
    rcases List.mem_append.1 (show s ∈ syms a ++ syms b from hs) with h | h
    · exact ha.2.1 s h
    · exact hb.2.1 s h
  · show syms a ++ syms b ≠ []
    simp [ha.2.2]
theorem sum_ge {F : Nat → Nat} {s : Nat} : ∀ {l : List Nat}, s ∈ l → F s ≤ (l.map F).sum
  | t :: l, h => by
    simp only [List.map_cons, List.sum_cons]
    rcases List.mem_cons.1 h with rfl | h
    · omega
    · have := sum_ge (F := F) h; omega
theorem wt_pos {F : Nat → Nat} {t : PT} (h : OK F t) : 0 < wt t := by
  obtain ⟨h1, h2, h3⟩ := h
  obtain ⟨s, hs⟩ := List.exists_mem_of_ne_nil _ h3
  have := sum_ge (F := F) hs
  have := h2 s hs
  omega
theorem wt_ge {F : Nat → Nat} {s : Nat} {t : PT} (h : OK F t) (hc : 0 < cnt s t) : F s ≤ wt t := by
  rw [h.1]
  exact sum_ge (List.count_pos_iff.1 hc)
end PT

open PT

def cntL (s : Nat) : List PT → Nat
  | [] => 0
  | t :: r => t.cnt s + cntL s r
def wtL : List PT → Nat
  | [] => 0
  | t :: r => t.wt + wtL r
def OKL (F : Nat → Nat) (l : List PT) : Prop := ∀ t ∈ l, OK F t

theorem cntL_append (s : Nat) (a b : List PT) : cntL s (a ++ b) = cntL s a + cntL s b := by
  induction a with
  | nil => simp [cntL]
  | cons t r ih => simp only [List.cons_append, cntL, ih]; omega
theorem wtL_append (a b : List PT) : wtL (a ++ b) = wtL a + wtL b := by
  induction a with
  | nil => simp [wtL]
  | cons t r ih => simp only [List.cons_append, wtL, ih]; omega

theorem cntL_pos {s : Nat} : ∀ {l : List PT}, 0 < cntL s l → ∃ t ∈ l, 0 < t.cnt s
  | [], h => by simp [cntL] at h
  | t :: r, h => by
    simp only [cntL] at h
    by_cases ht : 0 < t.cnt s
    · exact ⟨t, by simp, ht⟩
    · obtain ⟨u, hu, hc⟩ := cntL_pos (s := s) (l := r) (by omega)
      exact ⟨u, by simp [hu], hc⟩

/-- Rising by weight. -/
def Asc (l : List PT) : Prop := l.Pairwise fun a b => a.wt ≤ b.wt

/-- Two lists as one, as the program does it: the first list's head against the other list. -/
def mrgA (x : PT) (k : List PT → List PT) : List PT → List PT
  | [] => x :: k []
  | y :: b => if y.wt < x.wt then y :: mrgA x k b else x :: k (y :: b)
def mrg : List PT → List PT → List PT
  | [] => fun b => b
  | x :: a => mrgA x (mrg a)
theorem mrg_nil (b : List PT) : mrg [] b = b := rfl
theorem mrg_cons_nil (x : PT) (a : List PT) : mrg (x :: a) [] = x :: mrg a [] := rfl
theorem mrg_cons (x y : PT) (a b : List PT) : mrg (x :: a) (y :: b) = if y.wt < x.wt then y :: mrg (x :: a) b else x :: mrg a (y :: b) := rfl
theorem mrg_nil_right (a : List PT) : mrg a [] = a := by
  induction a with
  | nil => rfl
  | cons x a ih => rw [mrg_cons_nil, ih]

/-- Two packs as one. -/
def Two (a b u : PT) : Prop := ∃ x y, u = PT.node a b x y
/-- By twos. -/
def Pairs : List PT → List PT → Prop
  | [], m => m = []
  | [_], m => m = []
  | a :: b :: l, m => ∃ u m', m = u :: m' ∧ Two a b u ∧ Pairs l m'

/-- Induction by twos. -/
theorem two_ind {P : List PT → Prop} (h0 : P []) (h1 : ∀ t, P [t]) (h2 : ∀ a b l, P l → P (a :: b :: l)) (l : List PT) : P l := by
  have key : ∀ n (l : List PT), l.length ≤ n → P l := by
    intro n
    induction n with
    | zero => intro l hl; rw [List.eq_nil_of_length_eq_zero (l := l) (by omega)]; exact h0
    | succ n ih =>
      intro l hl
      match l, hl with
      | [], _ => exact h0
      | [t], _ => exact h1 t
      | a :: b :: l, hl => exact h2 a b l (ih l (by simp at hl; omega))
  exact key l.length l (Nat.le_refl _)

theorem mrg_perm (a : List PT) : ∀ b, (mrg a b).Perm (a ++ b) := by
  induction a with
  | nil => intro b; exact .refl _
  | cons x a ih =>
    intro b
    induction b with
    | nil => rw [mrg_cons_nil, mrg_nil_right]; simp
    | cons y b ihb =>
      rw [mrg_cons]
      split
      · exact (ihb.cons y).trans List.perm_middle.symm
      · exact (ih (y :: b)).cons x

theorem mrg_length (a b : List PT) : (mrg a b).length = a.length + b.length := by
  rw [(mrg_perm a b).length_eq]; simp

theorem mrg_asc (a : List PT) : ∀ b, Asc a → Asc b → Asc (mrg a b) := by
  induction a with
  | nil => intro b _ hb; exact hb
  | cons x a ih =>
    intro b
    induction b with
    | nil => intro ha _; rw [mrg_nil_right]; exact ha
    | cons y b ihb =>
      intro ha hb
      rw [mrg_cons]
      have ha' := List.pairwise_cons.1 ha
      have hb' := List.pairwise_cons.1 hb
      split
      · rename_i hlt
        refine List.pairwise_cons.2 ⟨fun t ht => ?_, ihb ha hb'.2⟩
        have := (mrg_perm (x :: a) b).mem_iff.1 ht
        rcases List.mem_append.1 this with h | h
        · rcases List.mem_cons.1 h with rfl | h
          · omega
          · have := ha'.1 t h; omega
        · exact hb'.1 t h
      · rename_i hlt
        refine List.pairwise_cons.2 ⟨fun t ht => ?_, ih (y :: b) ha'.2 hb⟩
        have := (mrg_perm a (y :: b)).mem_iff.1 ht
        rcases List.mem_append.1 this with h | h
        · exact ha'.1 t h
        · rcases List.mem_cons.1 h with rfl | h
          · omega
          · have := hb'.1 t h; omega

/-- The first j of two lists as one: the first x of one, the first y of the other; whatever of the other is among them is lighter than the next of the one. -/
theorem mrg_take (a : List PT) : ∀ (b : List PT) (j : Nat), Asc a → j ≤ a.length + b.length →
    ∃ x y, x + y = j ∧ x ≤ a.length ∧ y ≤ b.length ∧ ((mrg a b).take j).Perm (a.take x ++ b.take y) ∧ ∀ t ∈ b.take y, ∀ u ∈ a.drop x, t.wt < u.wt := by
  induction a with
  | nil => intro b j _ hj; exact ⟨0, j, by omega, by simp, by simpa using hj, by simp [mrg_nil], by simp⟩
  | cons x a ih =>
    intro b
    induction b with
    | nil => intro j _ hj; exact ⟨j, 0, by omega, by simpa using hj, by simp, by simp [mrg_nil_right], by simp⟩
    | cons y b ihb =>
      intro j ha hj
      cases j with
      | zero => exact ⟨0, 0, rfl, by simp, by simp, by simp, by simp⟩
      | succ j =>
        rw [mrg_cons]
        have ha' := List.pairwise_cons.1 ha
        split
        · rename_i hlt
          obtain ⟨p, q, h1, h2, h3, h4, h5⟩ := ihb j ha (by simp at hj ⊢; omega)
          refine ⟨p, q + 1, by omega, h2, by simpa using h3, ?_, ?_⟩
          · simp only [List.take_succ_cons]
            exact (h4.cons y).trans List.perm_middle.symm
          · intro t ht u hu
            simp only [List.take_succ_cons] at ht
            rcases List.mem_cons.1 ht with rfl | ht
            · have hu' := List.mem_of_mem_drop hu
              rcases List.mem_cons.1 hu' with rfl | hu'
              · exact hlt
              · have := ha'.1 u hu'; omega
            · exact h5 t ht u hu
        · rename_i hlt
          obtain ⟨p, q, h1, h2, h3, h4, h5⟩ := ih (y :: b) j ha'.2 (by simp at hj ⊢; omega)
          refine ⟨p + 1, q, by omega, by simpa using h2, h3, ?_, ?_⟩
          · simp only [List.take_succ_cons]
            exact h4.cons x
          · intro t ht u hu
            exact h5 t ht u (by simpa using hu)

theorem cntL_perm {s : Nat} {a b : List PT} (h : a.Perm b) : cntL s a = cntL s b := by
  induction h with
  | nil => rfl
  | cons x _ ih => simp only [cntL, ih]
  | swap x y l => simp only [cntL]; omega
  | trans _ _ i1 i2 => exact i1.trans i2
theorem wtL_perm {a b : List PT} (h : a.Perm b) : wtL a = wtL b := by
  induction h with
  | nil => rfl
  | cons x _ ih => simp only [wtL, ih]
  | swap x y l => simp only [wtL]; omega
  | trans _ _ i1 i2 => exact i1.trans i2

theorem Pairs.length {l : List PT} : ∀ {m}, Pairs l m → m.length = l.length / 2 := by
  induction l using two_ind with
  | h0 => intro m h; have e : m = [] := h; subst e; rfl
  | h1 t => intro m h; have e : m = [] := h; subst e; simp
  | h2 a b l ih =>
    rintro m ⟨u, m', rfl, _, h⟩
    have := ih h
    simp only [List.length_cons, this]; omega
theorem Pairs.cnt {l : List PT} (s : Nat) : ∀ {m}, Pairs l m → ∀ y, y ≤ m.length → cntL s (m.take y) = cntL s (l.take (2 * y)) := by
  induction l using two_ind with
  | h0 => intro m h y hy; have e : m = [] := h; subst e; simp at hy; subst hy; rfl
  | h1 t => intro m h y hy; have e : m = [] := h; subst e; simp at hy; subst hy; rfl
  | h2 a b l ih =>
    rintro m ⟨u, m', rfl, ⟨x, z, rfl⟩, h⟩ y hy
    cases y with
    | zero => rfl
    | succ y =>
      have := ih h y (by simpa using hy)
      rw [show 2 * (y + 1) = 2 * y + 1 + 1 by omega]
      simp only [List.take_succ_cons, cntL, PT.cnt_node, this]; omega
theorem Pairs.wt {l : List PT} : ∀ {m}, Pairs l m → ∀ y, y ≤ m.length → wtL (m.take y) = wtL (l.take (2 * y)) := by
  induction l using two_ind with
  | h0 => intro m h y hy; have e : m = [] := h; subst e; simp at hy; subst hy; rfl
  | h1 t => intro m h y hy; have e : m = [] := h; subst e; simp at hy; subst hy; rfl
  | h2 a b l ih =>
    rintro m ⟨u, m', rfl, ⟨x, z, rfl⟩, h⟩ y hy
    cases y with
    | zero => rfl
    | succ y =>
      have := ih h y (by simpa using hy)
      rw [show 2 * (y + 1) = 2 * y + 1 + 1 by omega]
      simp only [List.take_succ_cons, wtL, PT.wt_node, this]; omega
theorem Pairs.ok {F : Nat → Nat} {l : List PT} : ∀ {m}, Pairs l m → OKL F l → OKL F m := by
  induction l using two_ind with
  | h0 => intro m h hl; have e : m = [] := h; subst e; exact hl
  | h1 t => intro m h hl; have e : m = [] := h; subst e; intro t ht; simp at ht
  | h2 a b l ih =>
    rintro m ⟨u, m', rfl, ⟨x, z, rfl⟩, h⟩ hl t ht
    rcases List.mem_cons.1 ht with rfl | ht
    · exact PT.OK.node (hl _ (by simp)) (hl _ (by simp))
    · exact ih h (fun u hu => hl u (by simp [hu])) t ht
/-- Whatever is in a pair is lighter than it. -/
theorem Pairs.heavier {F : Nat → Nat} {s : Nat} {l : List PT} : ∀ {m}, Pairs l m → OKL F l → ∀ t ∈ m, 0 < t.cnt s → F s < t.wt := by
  induction l using two_ind with
  | h0 => intro m h hl t ht; have e : m = [] := h; subst e; simp at ht
  | h1 t => intro m h hl t ht; have e : m = [] := h; subst e; simp at ht
  | h2 a b l ih =>
    rintro m ⟨u, m', rfl, ⟨x, z, rfl⟩, h⟩ hl t ht hc
    rcases List.mem_cons.1 ht with rfl | ht
    · have oa := hl a (by simp); have ob := hl b (by simp)
      have pa := wt_pos oa; have pb := wt_pos ob
      rw [PT.cnt_node] at hc
      rw [PT.wt_node]
      by_cases ha : 0 < a.cnt s
      · have := wt_ge oa ha; omega
      · have := wt_ge ob (by omega : 0 < b.cnt s); omega
    · exact ih h (fun u hu => hl u (by simp [hu])) t ht hc
theorem Pairs.least (p q : Nat) {l : List PT} : ∀ {m}, Pairs l m → (∀ t ∈ l, p ≤ t.wt ∧ q ≤ t.wt) → ∀ t ∈ m, p + q ≤ t.wt := by
  induction l using two_ind with
  | h0 => intro m h hl t ht; have e : m = [] := h; subst e; simp at ht
  | h1 t => intro m h hl t ht; have e : m = [] := h; subst e; simp at ht
  | h2 a b l ih =>
    rintro m ⟨u, m', rfl, ⟨x, z, rfl⟩, h⟩ hl t ht
    rcases List.mem_cons.1 ht with rfl | ht
    · have := (hl a (by simp)).1; have := (hl b (by simp)).2; rw [PT.wt_node]; omega
    · exact ih h (fun u hu => hl u (by simp [hu])) t ht
theorem Pairs.asc {l : List PT} : ∀ {m}, Pairs l m → Asc l → Asc m := by
  induction l using two_ind with
  | h0 => intro m h hl; have e : m = [] := h; subst e; exact hl
  | h1 t => intro m h hl; have e : m = [] := h; subst e; simp [Asc]
  | h2 a b l ih =>
    rintro m ⟨u, m', rfl, ⟨x, z, rfl⟩, h⟩ ha
    have h1 := List.pairwise_cons.1 ha
    have h2 := List.pairwise_cons.1 h1.2
    refine List.pairwise_cons.2 ⟨fun t ht => ?_, ih h h2.2⟩
    rw [PT.wt_node]
    exact Pairs.least _ _ h (fun u hu => ⟨h1.1 u (by simp [hu]), h2.1 u hu⟩) t ht
theorem Pairs.append {r k : List PT} {d : List PT} : ∀ {m}, Pairs d m → d.length = 2 * m.length → Pairs r k → Pairs (d ++ r) (m ++ k) := by
  induction d using two_ind with
  | h0 => intro m h e h2; have e : m = [] := h; subst e; exact h2
  | h1 t => intro m h e h2; have e' : m = [] := h; subst e'; simp at e
  | h2 a b l ih =>
    rintro m ⟨u, m', rfl, hu, h⟩ e h2
    exact ⟨u, m' ++ k, rfl, hu, ih h (by simp only [List.length_cons] at e; omega) h2⟩

/-- The lists of each level: singles, then with pairs of the one below. -/
def Lev (S : List PT) : Nat → List PT → Prop
  | 0, l => l = S
  | k + 1, r => ∃ l m, Lev S k l ∧ Pairs l m ∧ r = mrg S m

theorem Lev.asc {S : List PT} (hS : Asc S) : ∀ {k : Nat} {l : List PT}, Lev S k l → Asc l
  | 0, l, h => by rw [show l = S from h]; exact hS
  | k + 1, r, ⟨l, m, h, hp, e⟩ => by rw [e]; exact mrg_asc _ _ hS (hp.asc (Lev.asc hS h))
theorem Lev.ok {F : Nat → Nat} {S : List PT} (hS : OKL F S) : ∀ {k : Nat} {l : List PT}, Lev S k l → OKL F l
  | 0, l, h => by rw [show l = S from h]; exact hS
  | k + 1, r, ⟨l, m, h, hp, e⟩ => by
    intro t ht
    rw [e] at ht
    rcases List.mem_append.1 ((mrg_perm _ _).mem_iff.1 ht) with h' | h'
    · exact hS t h'
    · exact hp.ok (Lev.ok hS h) t h'
/-- How many there are: of n singles at a level k, 2 n less what n is in parts of 2^k, and no part left out. -/
theorem Lev.length {S : List PT} : ∀ {k : Nat} {l : List PT}, Lev S k l → ∀ c : Nat, S.length ≤ c * 2 ^ k → 2 * S.length ≤ l.length + c
  | 0, l, h, c, hn => by rw [show l = S from h]; simp at hn; omega
  | k + 1, r, ⟨l, m, h, hp, e⟩, c, hn => by
    have := Lev.length h (2 * c) (by rw [Nat.pow_succ] at hn; rw [Nat.mul_comm 2 c, Nat.mul_assoc, Nat.mul_comm 2]; exact hn)
    rw [e, mrg_length, hp.length]; omega
theorem Lev.length_lt {S : List PT} (h2 : 2 ≤ S.length) : ∀ {k : Nat} {l : List PT}, Lev S k l → S.length ≤ l.length ∧ l.length < 2 * S.length
  | 0, l, h => by rw [show l = S from h]; omega
  | k + 1, r, ⟨l, m, h, hp, e⟩ => by
    have := Lev.length_lt h2 h
    rw [e, mrg_length, hp.length]; omega
end Go.Proofs.Ytklipommocijaaa
