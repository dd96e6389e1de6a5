
/-
  What the lightest packages make of lengths (plain mathematics, no program): a whole code, in the order of weights, and what it costs.
-/
/-
  What the lightest packages weigh (plain mathematics, no program): the weights' lists of each level hang on the weights alone; a level more never weighs more.
-/

/-
  Packages of symbols put together by weight (plain mathematics, no program): lengths from the lightest packages are those of a whole code, keep the order of weights, and cost what the packages weigh.
-/
namespace Go.Proofs.YtlbadjfcffoakaaDoor
set_option linter.unusedVariables false
set_option maxRecDepth 20000

abbrev PT := Nat × List Nat × Bool × Nat × Nat

namespace PT
def wt (t : PT) : Nat := t.1
def syms (t : PT) : List Nat := t.2.1
def lf (t : PT) : Bool := t.2.2.1
def mx (t : PT) : Nat := t.2.2.2.1
def my (t : PT) : Nat := t.2.2.2.2
def leaf (s f x y : Nat) : PT := (f, [s], true, x, y)
def node (a b : PT) (x y : Nat) : PT := (wt a + wt b, syms a ++ syms b, false, x, y)
def cnt (s : Nat) (t : PT) : Nat := (syms t).count s
theorem wt_leaf (s f x y : Nat) : wt (leaf s f x y) = f := rfl
theorem wt_node (a b : PT) (x y : Nat) : wt (node a b x y) = wt a + wt b := rfl
theorem cnt_leaf (s t f x y : Nat) : cnt s (leaf t f x y) = if t = s then 1 else 0 := by
  simp only [cnt, syms, leaf, List.count_cons, List.count_nil, beq_iff_eq]; omega
theorem cnt_node (s : Nat) (a b : PT) (x y : Nat) : cnt s (node a b x y) = cnt s a + cnt s b := by
  simp only [cnt, node, syms, List.count_append]
def OK (F : Nat → Nat) (t : PT) : Prop := wt t = ((syms t).map F).sum ∧ (∀ s ∈ syms t, 0 < F s) ∧ syms t ≠ []
theorem OK.leaf {F : Nat → Nat} {s x y : Nat} (h : 0 < F s) : OK F (leaf s (F s) x y) :=
  ⟨by simp [PT.wt, PT.syms, PT.leaf], by intro t ht; simp [PT.syms, PT.leaf] at ht; rw [ht]; exact h, by simp [PT.syms, PT.leaf]⟩
theorem OK.node {F : Nat → Nat} {a b : PT} {x y : Nat} (ha : OK F a) (hb : OK F b) : OK F (node a b x y) := by
  refine ⟨?_, ?_, ?_⟩
  · show wt a + wt b = ((syms a ++ syms b).map F).sum
    rw [List.map_append, List.sum_append, ha.1, hb.1]
  · intro s hs
    rcases List.mem_append.1 (show s ∈ syms a ++ syms b from hs) with h | h
    · exact ha.2.1 s h
    · exact hb.2.1 s h
  · show syms a ++ syms b ≠ []
    simp [ha.2.2]
theorem sum_ge {F : Nat → Nat} {s : Nat} : ∀ {l : List Nat}, s ∈ l → F s ≤ (l.map F).sum
  | t :: l, h => by
    simp only [List.map_cons, List.sum_cons]
    rcases List.mem_cons.1 h with rfl | h
    · omega
    · have := sum_ge (F := F) h; omega
theorem wt_pos {F : Nat → Nat} {t : PT} (h : OK F t) : 0 < wt t := by
  obtain ⟨h1, h2, h3⟩ := h
  obtain ⟨s, hs⟩ := List.exists_mem_of_ne_nil _ h3
  have := sum_ge (F := F) hs
  have := h2 s hs
  omega
theorem wt_ge {F : Nat → Nat} {s : Nat} {t : PT} (h : OK F t) (hc : 0 < cnt s t) : F s ≤ wt t := by
  rw [h.1]
  exact sum_ge (List.count_pos_iff.1 hc)
end PT

open PT

def cntL (s : Nat) : List PT → Nat
  | [] => 0
  | t :: r => t.cnt s + cntL s r
def wtL : List PT → Nat
  | [] => 0
  | t :: r => t.wt + wtL r
def OKL (F : Nat → Nat) (l : List PT) : Prop := ∀ t ∈ l, OK F t

theorem cntL_append (s : Nat) (a b : List PT) : cntL s (a ++ b) = cntL s a + cntL s b := by
  induction a with
  | nil => simp [cntL]
  | cons t r ih => simp only [List.cons_append, cntL, ih]; omega
theorem wtL_append (a b : List PT) : wtL (a ++ b) = wtL a + wtL b := by
  induction a with
  | nil => simp [wtL]
  | cons t r ih => simp only [List.cons_append, wtL, ih]; omega

theorem cntL_pos {s : Nat} : ∀ {l : List PT}, 0 < cntL s l → ∃ t ∈ l, 0 < t.cnt s
  | [], h => by simp [cntL] at h
  | t :: r, h => by
    simp only [cntL] at h
    by_cases ht : 0 < t.cnt s
    · exact ⟨t, by simp, ht⟩
    · obtain ⟨u, hu, hc⟩ := cntL_pos (s := s) (l := r) (by omega)
      exact ⟨u, by simp [hu], hc⟩

def Asc (l : List PT) : Prop := l.Pairwise fun a b => a.wt ≤ b.wt

def mrgA (x : PT) (k : List PT → List PT) : List PT → List PT
  | [] => x :: k []
  | y :: b => if y.wt < x.wt then y :: mrgA x k b else x :: k (y :: b)
def mrg : List PT → List PT → List PT
  | [] => fun b => b
  | x :: a => mrgA x (mrg a)
theorem mrg_nil (b : List PT) : mrg [] b = b := rfl
theorem mrg_cons_nil (x : PT) (a : List PT) : mrg (x :: a) [] = x :: mrg a [] := rfl
theorem mrg_cons (x y : PT) (a b : List PT) : mrg (x :: a) (y :: b) = if y.wt < x.wt then y :: mrg (x :: a) b else x :: mrg a (y :: b) := rfl
theorem mrg_nil_right (a : List PT) : mrg a [] = a := by
  induction a with
  | nil => rfl
  | cons x a ih => rw [mrg_cons_nil, ih]

def Two (a b u : PT) : Prop := ∃ x y, u = PT.node a b x y
def Pairs : List PT → List PT → Prop
  | [], m => m = []
  | [_], m => m = []
  | a :: b :: l, m => ∃ u m', m = u :: m' ∧ Two a b u ∧ Pairs l m'

theorem two_ind {P : List PT → Prop} (h0 : P []) (h1 : ∀ t, P [t]) (h2 : ∀ a b l, P l → P (a :: b :: l)) (l : List PT) : P l := by
  have key : ∀ n (l : List PT), l.length ≤ n → P l := by
    intro n
    induction n with
    | zero => intro l hl; rw [List.eq_nil_of_length_eq_zero (l := l) (by omega)]; exact h0
    | succ n ih =>
      intro l hl
      match l, hl with
      | [], _ => exact h0
      | [t], _ => exact h1 t
      | a :: b :: l, hl => exact h2 a b l (ih l (by simp at hl; omega))
  exact key l.length l (Nat.le_refl _)

theorem mrg_perm (a : List PT) : ∀ b, (mrg a b).Perm (a ++ b) := by
  induction a with
  | nil => intro b; exact .refl _
  | cons x a ih =>
    intro b
    induction b with
    | nil => rw [mrg_cons_nil, mrg_nil_right]; simp
    | cons y b ihb =>
      rw [mrg_cons]
      split
      · exact (ihb.cons y).trans List.perm_middle.symm
      · exact (ih (y :: b)).cons x

theorem mrg_length (a b : List PT) : (mrg a b).length = a.length + b.length := by
  rw [(mrg_perm a b).length_eq]; simp

theorem mrg_asc (a : List PT) : ∀ b, Asc a → Asc b → Asc (mrg a b) := by
  induction a with
  | nil => intro b _ hb; exact hb
  | cons x a ih =>
    intro b
    induction b with
    | nil => intro ha _; rw [mrg_nil_right]; exact ha
    | cons y b ihb =>
      intro ha hb
      rw [mrg_cons]
      have ha' := List.pairwise_cons.1 ha
      have hb' := List.pairwise_cons.1 hb
      split
      · rename_i hlt
        refine List.pairwise_cons.2 ⟨fun t ht => ?_, ihb ha hb'.2⟩
        have := (mrg_perm (x :: a) b).mem_iff.1 ht
        rcases List.mem_append.1 this with h | h
        · rcases List.mem_cons.1 h with rfl | h
          · omega
          · have := ha'.1 t h; omega
        · exact hb'.1 t h
      · rename_i hlt
        refine List.pairwise_cons.2 ⟨fun t ht => ?_, ih (y :: b) ha'.2 hb⟩
        have := (mrg_perm a (y :: b)).mem_iff.1 ht
        rcases List.mem_append.1 this with h | h
        · exact ha'.1 t h
        · rcases List.mem_cons.1 h with rfl | h
          · omega
          · have := hb'.1 t h; omega

theorem mrg_take (a : List PT) : ∀ (b : List PT) (j : Nat), Asc a → j ≤ a.length + b.length →
    ∃ x y, x + y = j ∧ x ≤ a.length ∧ y ≤ b.length ∧ ((mrg a b).take j).Perm (a.take x ++ b.take y) ∧ ∀ t ∈ b.take y, ∀ u ∈ a.drop x, t.wt < u.wt := by
  induction a with
  | nil => intro b j _ hj; exact ⟨0, j, by omega, by simp, by simpa using hj, by simp [mrg_nil], by simp⟩
  | cons x a ih =>
    intro b
    induction b with
    | nil => intro j _ hj; exact ⟨j, 0, by omega, by simpa using hj, by simp, by simp [mrg_nil_right], by simp⟩
    | cons y b ihb =>
      intro j ha hj
      cases j with
      | zero => exact ⟨0, 0, rfl, by simp, by simp, by simp, by simp⟩
      | succ j =>
        rw [mrg_cons]
        have ha' := List.pairwise_cons.1 ha
        split
        · rename_i hlt
          obtain ⟨p, q, h1, h2, h3, h4, h5⟩ := ihb j ha (by simp at hj ⊢; omega)
          refine ⟨p, q + 1, by omega, h2, by simpa using h3, ?_, ?_⟩
          · simp only [List.take_succ_cons]
            exact (h4.cons y).trans List.perm_middle.symm
          · intro t ht u hu
            simp only [List.take_succ_cons] at ht
            rcases List.mem_cons.1 ht with rfl | ht
            · have hu' := List.mem_of_mem_drop hu
              rcases List.mem_cons.1 hu' with rfl | hu'
              · exact hlt
              · have := ha'.1 u hu'; omega
            · exact h5 t ht u hu
        · rename_i hlt
          obtain ⟨p, q, h1, h2, h3, h4, h5⟩ := ih (y :: b) j ha'.2 (by simp at hj ⊢; omega)
          refine ⟨p + 1, q, by omega, by simpa using h2, h3, ?_, ?_⟩
          · simp only [List.take_succ_cons]
            exact h4.cons x
          · intro t ht u hu
            exact h5 t ht u (by simpa using hu)

theorem cntL_perm {s : Nat} {a b : List PT} (h : a.Perm b) : cntL s a = cntL s b := by
  induction h with
  | nil => rfl
  | cons x _ ih => simp only [cntL, ih]
  | swap x y l => simp only [cntL]; omega
  | trans _ _ i1 i2 => exact i1.trans i2
theorem wtL_perm {a b : List PT} (h : a.Perm b) : wtL a = wtL b := by
  induction h with
  | nil => rfl
  | cons x _ ih => simp only [wtL, ih]
  | swap x y l => simp only [wtL]; omega
  | trans _ _ i1 i2 => exact i1.trans i2

theorem Pairs.length {l : List PT} : ∀ {m}, Pairs l m → m.length = l.length / 2 := by
  induction l using two_ind with
  | h0 => intro m h; have e : m = [] := h; subst e; rfl
  | h1 t => intro m h; have e : m = [] := h; subst e; simp
  | h2 a b l ih =>
    rintro m ⟨u, m', rfl, _, h⟩
    have := ih h
    simp only [List.length_cons, this]; omega
theorem Pairs.cnt {l : List PT} (s : Nat) : ∀ {m}, Pairs l m → ∀ y, y ≤ m.length → cntL s (m.take y) = cntL s (l.take (2 * y)) := by
  induction l using two_ind with
  | h0 => intro m h y hy; have e : m = [] := h; subst e; simp at hy; subst hy; rfl
  | h1 t => intro m h y hy; have e : m = [] := h; subst e; simp at hy; subst hy; rfl
  | h2 a b l ih =>
    rintro m ⟨u, m', rfl, ⟨x, z, rfl⟩, h⟩ y hy
    cases y with
    | zero => rfl
    | succ y =>
      have := ih h y (by simpa using hy)
      rw [show 2 * (y + 1) = 2 * y + 1 + 1 by omega]
      simp only [List.take_succ_cons, cntL, PT.cnt_node, this]; omega
theorem Pairs.wt {l : List PT} : ∀ {m}, Pairs l m → ∀ y, y ≤ m.length → wtL (m.take y) = wtL (l.take (2 * y)) := by
  induction l using two_ind with
  | h0 => intro m h y hy; have e : m = [] := h; subst e; simp at hy; subst hy; rfl
  | h1 t => intro m h y hy; have e : m = [] := h; subst e; simp at hy; subst hy; rfl
  | h2 a b l ih =>
    rintro m ⟨u, m', rfl, ⟨x, z, rfl⟩, h⟩ y hy
    cases y with
    | zero => rfl
    | succ y =>
      have := ih h y (by simpa using hy)
      rw [show 2 * (y + 1) = 2 * y + 1 + 1 by omega]
      simp only [List.take_succ_cons, wtL, PT.wt_node, this]; omega
theorem Pairs.ok {F : Nat → Nat} {l : List PT} : ∀ {m}, Pairs l m → OKL F l → OKL F m := by
  induction l using two_ind with
  | h0 => intro m h hl; have e : m = [] := h; subst e; exact hl
  | h1 t => intro m h hl; have e : m = [] := h; subst e; intro t ht; simp at ht
  | h2 a b l ih =>
    rintro m ⟨u, m', rfl, ⟨x, z, rfl⟩, h⟩ hl t ht
    rcases List.mem_cons.1 ht with rfl | ht
    · exact PT.OK.node (hl _ (by simp)) (hl _ (by simp))
    · exact ih h (fun u hu => hl u (by simp [hu])) t ht
theorem Pairs.heavier {F : Nat → Nat} {s : Nat} {l : List PT} : ∀ {m}, Pairs l m → OKL F l → ∀ t ∈ m, 0 < t.cnt s → F s < t.wt := by
  induction l using two_ind with
  | h0 => intro m h hl t ht; have e : m = [] := h; subst e; simp at ht
  | h1 t => intro m h hl t ht; have e : m = [] := h; subst e; simp at ht
  | h2 a b l ih =>
    rintro m ⟨u, m', rfl, ⟨x, z, rfl⟩, h⟩ hl t ht hc
    rcases List.mem_cons.1 ht with rfl | ht
    · have oa := hl a (by simp); have ob := hl b (by simp)
      have pa := wt_pos oa; have pb := wt_pos ob
      rw [PT.cnt_node] at hc
      rw [PT.wt_node]
      by_cases ha : 0 < a.cnt s
      · have := wt_ge oa ha; omega
      · have := wt_ge ob (by omega : 0 < b.cnt s); omega
    · exact ih h (fun u hu => hl u (by simp [hu])) t ht hc
theorem Pairs.least (p q : Nat) {l : List PT} : ∀ {m}, Pairs l m → (∀ t ∈ l, p ≤ t.wt ∧ q ≤ t.wt) → ∀ t ∈ m, p + q ≤ t.wt := by
  induction l using two_ind with
  | h0 => intro m h hl t ht; have e : m = [] := h; subst e; simp at ht
  | h1 t => intro m h hl t ht; have e : m = [] := h; subst e; simp at ht
  | h2 a b l ih =>
    rintro m ⟨u, m', rfl, ⟨x, z, rfl⟩, h⟩ hl t ht
    rcases List.mem_cons.1 ht with rfl | ht
    · have := (hl a (by simp)).1; have := (hl b (by simp)).2; rw [PT.wt_node]; omega
    · exact ih h (fun u hu => hl u (by simp [hu])) t ht
theorem Pairs.asc {l : List PT} : ∀ {m}, Pairs l m → Asc l → Asc m := by
  induction l using two_ind with
  | h0 => intro m h hl; have e : m = [] := h; subst e; exact hl
  | h1 t => intro m h hl; have e : m = [] := h; subst e; simp [Asc]
  | h2 a b l ih =>
    rintro m ⟨u, m', rfl, ⟨x, z, rfl⟩, h⟩ ha
    have h1 := List.pairwise_cons.1 ha
    have h2 := List.pairwise_cons.1 h1.2
    refine List.pairwise_cons.2 ⟨fun t ht => ?_, ih h h2.2⟩
    rw [PT.wt_node]
    exact Pairs.least _ _ h (fun u hu => ⟨h1.1 u (by simp [hu]), h2.1 u hu⟩) t ht
theorem Pairs.append {r k : List PT} {d : List PT} : ∀ {m}, Pairs d m → d.length = 2 * m.length → Pairs r k → Pairs (d ++ r) (m ++ k) := by
  induction d using two_ind with
  | h0 => intro m h e h2; have e : m = [] := h; subst e; exact h2
  | h1 t => intro m h e h2; have e' : m = [] := h; subst e'; simp at e
  | h2 a b l ih =>
    rintro m ⟨u, m', rfl, hu, h⟩ e h2
    exact ⟨u, m' ++ k, rfl, hu, ih h (by simp only [List.length_cons] at e; omega) h2⟩

def Lev (S : List PT) : Nat → List PT → Prop
  | 0, l => l = S
  | k + 1, r => ∃ l m, Lev S k l ∧ Pairs l m ∧ r = mrg S m

theorem Lev.asc {S : List PT} (hS : Asc S) : ∀ {k : Nat} {l : List PT}, Lev S k l → Asc l
  | 0, l, h => by rw [show l = S from h]; exact hS
  | k + 1, r, ⟨l, m, h, hp, e⟩ => by rw [e]; exact mrg_asc _ _ hS (hp.asc (Lev.asc hS h))
theorem Lev.ok {F : Nat → Nat} {S : List PT} (hS : OKL F S) : ∀ {k : Nat} {l : List PT}, Lev S k l → OKL F l
  | 0, l, h => by rw [show l = S from h]; exact hS
  | k + 1, r, ⟨l, m, h, hp, e⟩ => by
    intro t ht
    rw [e] at ht
    rcases List.mem_append.1 ((mrg_perm _ _).mem_iff.1 ht) with h' | h'
    · exact hS t h'
    · exact hp.ok (Lev.ok hS h) t h'
theorem Lev.length {S : List PT} : ∀ {k : Nat} {l : List PT}, Lev S k l → ∀ c : Nat, S.length ≤ c * 2 ^ k → 2 * S.length ≤ l.length + c
  | 0, l, h, c, hn => by rw [show l = S from h]; simp at hn; omega
  | k + 1, r, ⟨l, m, h, hp, e⟩, c, hn => by
    have := Lev.length h (2 * c) (by rw [Nat.pow_succ] at hn; rw [Nat.mul_comm 2 c, Nat.mul_assoc, Nat.mul_comm 2]; exact hn)
    rw [e, mrg_length, hp.length]; omega
theorem Lev.length_lt {S : List PT} (h2 : 2 ≤ S.length) : ∀ {k : Nat} {l : List PT}, Lev S k l → S.length ≤ l.length ∧ l.length < 2 * S.length
  | 0, l, h => by rw [show l = S from h]; omega
  | k + 1, r, ⟨l, m, h, hp, e⟩ => by
    have := Lev.length_lt h2 h
    rw [e, mrg_length, hp.length]; omega
end Go.Proofs.YtlbadjfcffoakaaDoor
namespace Go.Proofs.YtlbadjfcffoakaaDoor
open PT
set_option linter.unusedVariables false
set_option maxRecDepth 20000

def sy (t : PT) : Nat := t.syms.headD 0
def Sing (F : Nat → Nat) (S : List PT) : Prop := (∀ t ∈ S, t.syms = [sy t] ∧ t.wt = F (sy t) ∧ 0 < F (sy t)) ∧ (S.map sy).Nodup
theorem Sing.ok {F : Nat → Nat} {S : List PT} (h : Sing F S) : OKL F S := fun t ht => by
  obtain ⟨h1, h2, h3⟩ := h.1 t ht
  exact ⟨by rw [h1, h2]; simp, by rw [h1]; intro s hs; simp at hs; rw [hs]; exact h3, by rw [h1]; simp⟩
theorem cntL_count {S : List PT} (h : ∀ t ∈ S, t.syms = [sy t]) (s : Nat) : cntL s S = (S.map sy).count s := by
  induction S with
  | nil => rfl
  | cons t r ih =>
    simp only [cntL, List.map_cons, List.count_cons]
    rw [ih (fun u hu => h u (by simp [hu]))]
    have h1 := h t (by simp)
    unfold PT.cnt
    rw [h1]
    simp only [List.count_cons, List.count_nil]
    omega
theorem count_one {l : List Nat} (h : l.Nodup) {s : Nat} (hm : s ∈ l) : l.count s = 1 := by
  induction l with
  | nil => simp at hm
  | cons t r ih =>
    have hn := List.nodup_cons.1 h
    rw [List.count_cons]
    by_cases e : t = s
    · subst e
      rw [List.count_eq_zero_of_not_mem hn.1]; simp
    · have : (t == s) = false := by simpa using e
      rw [this]
      rcases List.mem_cons.1 hm with h1 | h1
      · exact absurd h1.symm e
      · rw [ih hn.2 h1]; rfl
theorem cnt_take {F : Nat → Nat} {S : List PT} (h : Sing F S) (s x : Nat) : cntL s (S.take x) = if s ∈ (S.map sy).take x then 1 else 0 := by
  rw [cntL_count (fun t ht => (h.1 t (List.mem_of_mem_take ht)).1), List.map_take]
  have hn : ((S.map sy).take x).Nodup := h.2.sublist (List.take_sublist _ _)
  split
  · rename_i hm; exact count_one hn hm
  · rename_i hm; exact List.count_eq_zero_of_not_mem hm
theorem cntL_take_le (s : Nat) (l : List PT) (j : Nat) : cntL s (l.take j) ≤ cntL s l := by
  conv => rhs; rw [← List.take_append_drop j l]
  rw [cntL_append]; omega
theorem Lev.mem {F : Nat → Nat} {S : List PT} (hS : Sing F S) {s : Nat} : ∀ {k : Nat} {l : List PT}, Lev S k l → 0 < cntL s l → s ∈ S.map sy
  | 0, l, h, hc => by
    rw [show l = S from h] at hc
    have := cnt_take hS s S.length
    rw [List.take_length, ← List.length_map (f := sy), List.take_length] at this
    rw [this] at hc
    split at hc
    · assumption
    · omega
  | k + 1, r, ⟨l, m, h, hp, e⟩, hc => by
    rw [e, cntL_perm (mrg_perm S m), cntL_append] at hc
    by_cases h1 : 0 < cntL s S
    · exact Lev.mem hS (k := 0) (show Lev S 0 S from rfl) h1
    · have h2 := Pairs.cnt s hp m.length (Nat.le_refl _)
      rw [List.take_length] at h2
      have h3 := cntL_take_le s l (2 * m.length)
      exact Lev.mem hS h (by omega)
theorem Lev.step {F : Nat → Nat} {S : List PT} (hS : Sing F S) (ha : Asc S) {k : Nat} {r : List PT} (h : Lev S (k + 1) r) (j : Nat) (hj : j ≤ r.length) :
    ∃ l x y, Lev S k l ∧ x + y = j ∧ x ≤ S.length ∧ 2 * y ≤ l.length ∧ (∀ s, cntL s (r.take j) = cntL s (S.take x) + cntL s (l.take (2 * y))) ∧ (wtL (r.take j) = wtL (S.take x) + wtL (l.take (2 * y))) ∧ ∀ s, s ∉ (S.map sy).take x → cntL s (l.take (2 * y)) = 0 := by
  obtain ⟨l, m, hl, hp, rfl⟩ := h
  rw [mrg_length] at hj
  obtain ⟨x, y, h1, h2, h3, h4, h5⟩ := mrg_take S m j ha hj
  have hml := hp.length
  refine ⟨l, x, y, hl, h1, h2, by omega, fun s => ?_, ?_, fun s hs => ?_⟩
  · rw [cntL_perm h4, cntL_append, Pairs.cnt s hp y h3]
  · rw [wtL_perm h4, wtL_append, hp.wt y h3]
  · rcases Nat.eq_zero_or_pos (cntL s (l.take (2 * y))) with h0 | h0
    · exact h0
    · exfalso
      have hmem := Lev.mem hS hl (Nat.lt_of_lt_of_le h0 (cntL_take_le s l _))
      rw [← Pairs.cnt s hp y h3] at h0
      obtain ⟨t, ht, hc⟩ := cntL_pos h0
      have hw := Pairs.heavier hp (Lev.ok hS.ok hl) t (List.mem_of_mem_take ht) hc
      have hd : s ∈ (S.drop x).map sy := by
        rw [List.map_drop]
        have := hmem
        rw [← List.take_append_drop x (S.map sy)] at this
        rcases List.mem_append.1 this with h | h
        · exact absurd h hs
        · exact h
      obtain ⟨u, hu, rfl⟩ := List.mem_map.1 hd
      have := h5 t ht u hu
      have := (hS.1 u (List.mem_of_mem_drop hu)).2.1
      omega
theorem sum_same {α : Type} {L : List α} {f : α → Nat} {d : Nat} (h : ∀ s ∈ L, f s = d) : (L.map f).sum = L.length * d := by
  induction L with
  | nil => simp
  | cons s r ih =>
    simp only [List.map_cons, List.sum_cons, List.length_cons]
    rw [h s (by simp), ih (fun u hu => h u (by simp [hu])), Nat.add_mul, Nat.one_mul]; omega
theorem sum_congr {α : Type} {L : List α} {f g : α → Nat} (h : ∀ s ∈ L, f s = g s) : (L.map f).sum = (L.map g).sum := by rw [List.map_congr_left h]
theorem nodup_apart {ss : List Nat} (h : ss.Nodup) {x s : Nat} (hd : s ∈ ss.drop x) : s ∉ ss.take x := by
  rw [← List.take_append_drop x ss] at h
  have := (List.nodup_append.1 h).2.2
  intro ht
  exact this s ht s hd rfl

theorem Lev.kraft {F : Nat → Nat} {S : List PT} (hS : Sing F S) (ha : Asc S) : ∀ {k : Nat} {l : List PT} (j : Nat), Lev S k l → j ≤ l.length →
    (∀ s, cntL s (l.take j) ≤ k + 1) ∧ ((S.map sy).map fun s => 2 ^ (k + 1 - cntL s (l.take j))).sum + j * 2 ^ k = S.length * 2 ^ (k + 1)
  | 0, l, j, h, hj => by
    rw [show l = S from h] at hj ⊢
    have hc := fun s => cnt_take hS s j
    refine ⟨fun s => by rw [hc s]; split <;> omega, ?_⟩
    have hsp : (S.map sy) = (S.map sy).take j ++ (S.map sy).drop j := (List.take_append_drop j _).symm
    rw [hsp, List.map_append, List.sum_append]
    rw [sum_same (d := 1) (fun s hs => by rw [hc s, if_pos (by rw [hsp] at hs ⊢; simpa using hs)]), sum_same (d := 2) (fun s hs => by rw [hc s, if_neg (nodup_apart hS.2 hs)])]
    simp
    omega
  | k + 1, r, j, h, hj => by
    obtain ⟨l, x, y, hl, h1, h2, h3, h4, _, h5⟩ := Lev.step hS ha h j hj
    obtain ⟨i1, i2⟩ := Lev.kraft hS ha (2 * y) hl h3
    have hc := fun s => cnt_take hS s x
    refine ⟨fun s => by rw [h4 s, hc s]; have := i1 s; split <;> omega, ?_⟩
    have hsp : (S.map sy) = (S.map sy).take x ++ (S.map sy).drop x := (List.take_append_drop x _).symm
    have e1 : (((S.map sy).take x).map fun s => 2 ^ (k + 1 + 1 - cntL s (r.take j))).sum = (((S.map sy).take x).map fun s => 2 ^ (k + 1 - cntL s (l.take (2 * y)))).sum := sum_congr (fun s hs => by
      rw [h4 s, hc s, if_pos hs, show k + 1 + 1 - (1 + cntL s (l.take (2 * y))) = k + 1 - cntL s (l.take (2 * y)) by omega])
    have e2 : (((S.map sy).drop x).map fun s => 2 ^ (k + 1 + 1 - cntL s (r.take j))).sum = ((S.map sy).drop x).length * 2 ^ (k + 1 + 1) := sum_same (fun s hs => by
      have hn := nodup_apart hS.2 hs
      rw [h4 s, hc s, if_neg hn, h5 s hn]; rfl)
    have e3 : (((S.map sy).drop x).map fun s => 2 ^ (k + 1 - cntL s (l.take (2 * y)))).sum = ((S.map sy).drop x).length * 2 ^ (k + 1) := sum_same (fun s hs => by
      rw [h5 s (nodup_apart hS.2 hs)]; rfl)
    rw [hsp, List.map_append, List.sum_append, e3] at i2
    rw [hsp, List.map_append, List.sum_append, e1, e2]
    have hdl : ((S.map sy).drop x).length = S.length - x := by simp
    rw [hdl] at i2 ⊢
    obtain ⟨Q, hQ⟩ : ∃ Q, (((S.map sy).take x).map fun s => 2 ^ (k + 1 - cntL s (l.take (2 * y)))).sum = Q := ⟨_, rfl⟩
    rw [hQ] at i2 ⊢
    obtain ⟨d, hd⟩ : ∃ d, S.length - x = d := ⟨_, rfl⟩
    have hn : S.length = x + d := by omega
    rw [hd] at i2 ⊢
    rw [hn] at i2 ⊢
    subst h1
    have ep : 2 ^ (k + 1) = 2 * 2 ^ k := by rw [Nat.pow_succ, Nat.mul_comm]
    rw [Nat.pow_succ 2 (k + 1)]
    rw [ep] at i2 ⊢
    generalize 2 ^ k = P at i2 ⊢
    have f1 : d * (2 * P) = 2 * (d * P) := by rw [Nat.mul_left_comm]
    have f2 : 2 * y * P = 2 * (y * P) := by rw [Nat.mul_assoc]
    have f3 : (x + d) * (2 * P) = 2 * (x * P) + 2 * (d * P) := by rw [Nat.add_mul, Nat.mul_left_comm, Nat.mul_left_comm d]
    have f4 : d * (2 * P * 2) = 4 * (d * P) := by rw [show 2 * P * 2 = 4 * P by omega, Nat.mul_left_comm]
    have f5 : (x + y) * (2 * P) = 2 * (x * P) + 2 * (y * P) := by rw [Nat.add_mul, Nat.mul_left_comm, Nat.mul_left_comm y]
    have f6 : (x + d) * (2 * P * 2) = 4 * (x * P) + 4 * (d * P) := by rw [show 2 * P * 2 = 4 * P by omega, Nat.add_mul, Nat.mul_left_comm, Nat.mul_left_comm d]
    rw [f1, f2, f3] at i2
    rw [f4, f5, f6]
    omega
theorem Lev.falls {F : Nat → Nat} {S : List PT} (hS : Sing F S) (ha : Asc S) {p q : Nat} (hpq : p ≤ q) (hq : q < (S.map sy).length) : ∀ {k : Nat} {l : List PT} (j : Nat), Lev S k l → j ≤ l.length →
    cntL (S.map sy)[q] (l.take j) ≤ cntL (S.map sy)[p] (l.take j) := by
  have hin : ∀ x, (S.map sy)[q] ∈ (S.map sy).take x → (S.map sy)[p] ∈ (S.map sy).take x := fun x h => by
    obtain ⟨i, hi, e⟩ := List.mem_take_iff_getElem.1 h
    have hiq : i = q := (List.getElem_inj hS.2).1 e
    exact List.mem_take_iff_getElem.2 ⟨p, by omega, rfl⟩
  intro k
  induction k with
  | zero =>
    intro l j h hj
    rw [show l = S from h, cnt_take hS, cnt_take hS]
    by_cases e : (S.map sy)[q] ∈ (S.map sy).take j
    · rw [if_pos e, if_pos (hin j e)]; omega
    · rw [if_neg e]; omega
  | succ k ih =>
    intro r j h hj
    obtain ⟨l, x, y, hl, h1, h2, h3, h4, _, h5⟩ := Lev.step hS ha h j hj
    rw [h4, h4, cnt_take hS, cnt_take hS]
    by_cases e : (S.map sy)[q] ∈ (S.map sy).take x
    · have := ih (2 * y) hl h3
      rw [if_pos e, if_pos (hin x e)]; omega
    · rw [if_neg e, h5 _ e]; omega
end Go.Proofs.YtlbadjfcffoakaaDoor
namespace Go.Proofs.YtlbadjfcffoakaaDoor
open PT
set_option linter.unusedVariables false
set_option maxRecDepth 20000

def Up (l : List Nat) : Prop := l.Pairwise fun a b => a ≤ b
def ins (x : Nat) : List Nat → List Nat
  | [] => [x]
  | y :: l => if y ≤ x then y :: ins x l else x :: y :: l
def isort : List Nat → List Nat → List Nat
  | out, [] => out
  | out, x :: l => isort (ins x out) l
theorem ins_perm (x : Nat) : ∀ l, (ins x l).Perm (x :: l)
  | [] => .refl _
  | y :: l => by
    rw [ins]
    split
    · exact ((ins_perm x l).cons y).trans (List.Perm.swap x y l)
    · exact .refl _
theorem ins_up (x : Nat) : ∀ {l}, Up l → Up (ins x l)
  | [], _ => by simp [ins, Up]
  | y :: l, h => by
    have h' := List.pairwise_cons.1 h
    rw [ins]
    split
    · rename_i hle
      refine List.pairwise_cons.2 ⟨fun t ht => ?_, ins_up x h'.2⟩
      rcases List.mem_cons.1 ((ins_perm x l).mem_iff.1 ht) with rfl | ht
      · exact hle
      · exact h'.1 t ht
    · rename_i hle
      refine List.pairwise_cons.2 ⟨fun t ht => ?_, h⟩
      rcases List.mem_cons.1 ht with rfl | ht
      · omega
      · have := h'.1 t ht; omega
theorem isort_perm : ∀ (l out : List Nat), (isort out l).Perm (out ++ l)
  | [], out => by simp [isort]
  | x :: l, out => by
    rw [isort]
    refine (isort_perm l (ins x out)).trans ?_
    refine ((ins_perm x out).append_right l).trans ?_
    exact List.perm_middle.symm
theorem isort_up : ∀ (l : List Nat) {out : List Nat}, Up out → Up (isort out l)
  | [], _, h => h
  | x :: l, _, h => isort_up l (ins_up x h)
theorem up_same : ∀ {a b : List Nat}, Up a → Up b → a.Perm b → a = b
  | [], b, _, _, h => h.nil_eq
  | x :: a, [], _, _, h => by have := h.length_eq; simp at this
  | x :: a, y :: b, ha, hb, h => by
    have ha' := List.pairwise_cons.1 ha
    have hb' := List.pairwise_cons.1 hb
    have hxy : x = y := by
      have h1 : x ∈ y :: b := h.mem_iff.1 (by simp)
      have h2 : y ∈ x :: a := h.mem_iff.2 (by simp)
      rcases List.mem_cons.1 h1 with e | h1
      · exact e
      · rcases List.mem_cons.1 h2 with e | h2
        · exact e.symm
        · have := ha'.1 y h2; have := hb'.1 x h1; omega
    subst hxy
    rw [up_same ha'.2 hb'.2 ((List.perm_cons x).1 h)]
def twos : List Nat → List Nat
  | a :: b :: l => (a + b) :: twos l
  | _ => []
def LW (c : List Nat) : Nat → List Nat
  | 0 => isort [] (c ++ [])
  | k + 1 => isort [] (c ++ twos (LW c k))

theorem Pairs.twos {l : List PT} : ∀ {m}, Pairs l m → m.map PT.wt = Go.Proofs.YtlbadjfcffoakaaDoor.twos (l.map PT.wt) := by
  induction l using two_ind with
  | h0 => intro m h; have e : m = [] := h; subst e; rfl
  | h1 t => intro m h; have e : m = [] := h; subst e; rfl
  | h2 a b l ih =>
    rintro m ⟨u, m', rfl, ⟨x, z, rfl⟩, h⟩
    simp only [List.map_cons, Go.Proofs.YtlbadjfcffoakaaDoor.twos, PT.wt_node, ih h]
theorem asc_up {l : List PT} (h : Asc l) : Up (l.map PT.wt) := List.pairwise_map.2 h
theorem Lev.weights {S : List PT} (hS : Asc S) : ∀ {k : Nat} {l : List PT}, Lev S k l → l.map PT.wt = LW (S.map PT.wt) k
  | 0, l, h => by
    rw [show l = S from h]
    refine up_same (asc_up hS) (isort_up _ List.Pairwise.nil) ?_
    have := isort_perm (S.map PT.wt ++ []) []
    rw [List.nil_append] at this
    have h2 : (LW (S.map PT.wt) 0).Perm (S.map PT.wt ++ []) := this
    rw [List.append_nil] at h2
    exact h2.symm
  | k + 1, r, ⟨l, m, h, hp, e⟩ => by
    have hl := Lev.weights hS h
    have hm := hp.twos
    rw [hl] at hm
    have hup : Up (r.map PT.wt) := by rw [e]; exact asc_up (mrg_asc _ _ hS (hp.asc (Lev.asc hS h)))
    refine up_same hup (isort_up _ List.Pairwise.nil) ?_
    have h1 := isort_perm (S.map PT.wt ++ Go.Proofs.YtlbadjfcffoakaaDoor.twos (LW (S.map PT.wt) k)) []
    rw [List.nil_append] at h1
    refine List.Perm.trans ?_ h1.symm
    rw [e, ← hm, ← List.map_append]
    exact (mrg_perm S m).map _
theorem wtL_sum (l : List PT) : wtL l = (l.map PT.wt).sum := by
  induction l with
  | nil => rfl
  | cons t r ih => simp only [wtL, List.map_cons, List.sum_cons, ih]
theorem LW_length (c : List Nat) (k : Nat) : (LW c (k + 1)).length = c.length + (twos (LW c k)).length := by
  have h : (LW c (k + 1)).length = ([] ++ (c ++ twos (LW c k))).length := (isort_perm (c ++ twos (LW c k)) []).length_eq
  rw [h]; simp

theorem mrg_min (a : List PT) : ∀ (b : List PT) (x y : Nat), Asc a → Asc b → x ≤ a.length → y ≤ b.length → wtL ((mrg a b).take (x + y)) ≤ wtL (a.take x) + wtL (b.take y) := by
  have last : ∀ (l : List PT) (p x : Nat), (∀ t ∈ l, p ≤ t.wt) → x + 1 ≤ l.length → p + wtL (l.take x) ≤ wtL (l.take (x + 1)) := by
    intro l p x h hx
    rw [List.take_succ_eq_append_getElem (by omega), wtL_append]
    have := h l[x] (List.getElem_mem _)
    simp only [wtL]; omega
  induction a with
  | nil => intro b x y _ _ hx hy; simp at hx; subst hx; simp [mrg_nil, wtL]
  | cons p a ih =>
    intro b
    induction b with
    | nil => intro x y _ _ hx hy; simp at hy; subst hy; simp [mrg_nil_right, wtL]
    | cons q b ihb =>
      intro x y ha hb hx hy
      have ha' := List.pairwise_cons.1 ha
      have hb' := List.pairwise_cons.1 hb
      rw [mrg_cons]
      split
      · rename_i hlt
        cases y with
        | succ y =>
          have := ihb x y ha hb'.2 hx (by simpa using hy)
          rw [show x + (y + 1) = x + y + 1 by omega]
          simp only [List.take_succ_cons, wtL]; omega
        | zero =>
          cases x with
          | zero => simp [wtL]
          | succ x =>
            have h1 := ihb x 0 ha hb'.2 (by omega) (by omega)
            have h2 := last (p :: a) q.wt x (fun t ht => by
              rcases List.mem_cons.1 ht with rfl | ht
              · omega
              · have := ha'.1 t ht; omega) hx
            simp only [List.take_zero, wtL, Nat.add_zero] at h1 ⊢
            rw [List.take_succ_cons]
            simp only [wtL]
            omega
      · rename_i hlt
        cases x with
        | succ x =>
          have := ih (q :: b) x y ha'.2 hb (by simpa using hx) hy
          rw [show x + 1 + y = x + y + 1 by omega]
          simp only [List.take_succ_cons, wtL]; omega
        | zero =>
          cases y with
          | zero => simp [wtL]
          | succ y =>
            have h1 := ih (q :: b) 0 y ha'.2 hb (by omega) (by omega)
            have h2 := last (q :: b) p.wt y (fun t ht => by
              rcases List.mem_cons.1 ht with rfl | ht
              · omega
              · have := hb'.1 t ht; omega) hy
            simp only [List.take_zero, wtL, Nat.zero_add] at h1 ⊢
            rw [List.take_succ_cons]
            simp only [wtL]
            omega
def PD (l l' : List PT) : Prop := l.length ≤ l'.length ∧ ∀ j, j ≤ l.length → wtL (l'.take j) ≤ wtL (l.take j)
theorem PD.refl (l : List PT) : PD l l := ⟨Nat.le_refl _, fun _ _ => Nat.le_refl _⟩
theorem PD.trans {a b c : List PT} (h1 : PD a b) (h2 : PD b c) : PD a c := ⟨Nat.le_trans h1.1 h2.1, fun j hj => Nat.le_trans (h2.2 j (Nat.le_trans hj h1.1)) (h1.2 j hj)⟩
theorem Lev.more {S : List PT} (hS : Asc S) : ∀ {k : Nat} {l l' : List PT}, Lev S k l → Lev S (k + 1) l' → PD l l'
  | 0, l, l', h, ⟨l0, m, h0, hp, e⟩ => by
    rw [show l = S from h, e]
    have hm := hp.asc (Lev.asc hS h0)
    refine ⟨by rw [mrg_length]; omega, fun j hj => ?_⟩
    have := mrg_min S m j 0 hS hm hj (by omega)
    simpa [wtL] using this
  | k + 1, l, l', ⟨l0, m, h0, hp, e⟩, ⟨l1, m1, h1, hp1, e1⟩ => by
    have ih := Lev.more hS h0 h1
    have hm := hp.asc (Lev.asc hS h0)
    have hm1 := hp1.asc (Lev.asc hS h1)
    have a1 := hp.length
    have a2 := hp1.length
    have a3 := ih.1
    rw [e, e1]
    refine ⟨by rw [mrg_length, mrg_length]; omega, fun j hj => ?_⟩
    rw [mrg_length] at hj
    obtain ⟨x, y, b1, b2, b3, b4, _⟩ := mrg_take S m j hS hj
    have c1 := mrg_min S m1 x y hS hm1 b2 (by omega)
    rw [b1] at c1
    rw [wtL_perm b4, wtL_append, hp.wt y b3]
    rw [hp1.wt y (by omega)] at c1
    have := ih.2 (2 * y) (by omega)
    omega
theorem Lev.wider {S : List PT} (hS : Asc S) {k : Nat} : ∀ (d : Nat) {l' : List PT}, Lev S (k + d) l' → ∃ l, Lev S k l ∧ PD l l'
  | 0, l', h => ⟨l', h, PD.refl _⟩
  | d + 1, l', h => by
    obtain ⟨l0, m, h0, hp, e⟩ := h
    obtain ⟨l, hl, hd⟩ := Lev.wider hS d h0
    exact ⟨l, hl, hd.trans (Lev.more hS h0 ⟨l0, m, h0, hp, e⟩)⟩

def wsum (F c : Nat → Nat) : Nat → Nat
  | 0 => 0
  | n + 1 => wsum F c n + F n * c n
theorem wsum_add (F c d : Nat → Nat) : ∀ n, wsum F (fun s => c s + d s) n = wsum F c n + wsum F d n
  | 0 => rfl
  | n + 1 => by simp only [wsum, wsum_add F c d n, Nat.mul_add]; omega
theorem wsum_zero (F : Nat → Nat) : ∀ n, wsum F (fun _ => 0) n = 0
  | 0 => rfl
  | n + 1 => by simp only [wsum, wsum_zero F n, Nat.mul_zero]
theorem wsum_one (F : Nat → Nat) (s : Nat) : ∀ n, wsum F (fun t => if s = t then 1 else 0) n = if s < n then F s else 0
  | 0 => rfl
  | n + 1 => by
    simp only [wsum, wsum_one F s n]
    by_cases e : s = n
    · subst e; rw [if_neg (by omega), if_pos rfl, if_pos (by omega)]; omega
    · rw [if_neg e]
      by_cases h : s < n
      · rw [if_pos h, if_pos (by omega)]; omega
      · rw [if_neg h, if_neg (by omega)]; omega
theorem wsum_congr {F c d : Nat → Nat} : ∀ {n}, (∀ s, s < n → c s = d s) → wsum F c n = wsum F d n
  | 0, _ => rfl
  | n + 1, h => by
    have ih := wsum_congr (F := F) (n := n) (fun s hs => h s (by omega))
    simp only [wsum, ih, h n (by omega)]
theorem wsum_count (F : Nat → Nat) (n : Nat) : ∀ (l : List Nat), (∀ s ∈ l, s < n) → wsum F (fun s => l.count s) n = (l.map F).sum
  | [], _ => by simpa using wsum_zero F n
  | t :: l, h => by
    have ih := wsum_count F n l (fun s hs => h s (by simp [hs]))
    have h1 : wsum F (fun s => (t :: l).count s) n = wsum F (fun s => l.count s + (if t = s then 1 else 0)) n := wsum_congr (fun s _ => by
      rw [List.count_cons]
      by_cases e : t = s
      · subst e; simp
      · have : (t == s) = false := by simpa using e
        rw [this, if_neg e]; rfl)
    rw [h1, wsum_add, ih, wsum_one, if_pos (h t (by simp))]
    simp only [List.map_cons, List.sum_cons]; omega
theorem wtL_wsum {F : Nat → Nat} {n : Nat} : ∀ {l : List PT}, OKL F l → (∀ t ∈ l, ∀ s ∈ t.syms, s < n) → wtL l = wsum F (fun s => cntL s l) n
  | [], _, _ => (wsum_zero F n).symm
  | t :: l, h, hn => by
    have ih := wtL_wsum (l := l) (fun u hu => h u (by simp [hu])) (fun u hu => hn u (by simp [hu]))
    have h1 : wsum F (fun s => cntL s (t :: l)) n = wsum F (fun s => t.cnt s + cntL s l) n := rfl
    rw [h1, wsum_add, ← ih]
    have h2 := wsum_count F n t.syms (hn t (by simp))
    show t.wt + wtL l = _
    rw [(h t (by simp)).1, ← h2]; rfl
theorem Lev.syms {S : List PT} {n : Nat} (hS : ∀ t ∈ S, ∀ s ∈ t.syms, s < n) : ∀ {k : Nat} {l : List PT}, Lev S k l → ∀ t ∈ l, ∀ s ∈ t.syms, s < n
  | 0, l, h => by rw [show l = S from h]; exact hS
  | k + 1, r, ⟨l, m, h, hp, e⟩ => by
    have ih := Lev.syms hS h
    have hm : ∀ t ∈ m, ∀ s ∈ t.syms, s < n := by
      clear e h
      induction l using two_ind generalizing m with
      | h0 => have e : m = [] := hp; subst e; intro t ht; simp at ht
      | h1 t => have e : m = [] := hp; subst e; intro t ht; simp at ht
      | h2 a b l ih2 =>
        obtain ⟨u, m', rfl, ⟨x, z, rfl⟩, h⟩ := hp
        intro t ht s hs
        rcases List.mem_cons.1 ht with rfl | ht
        · rcases List.mem_append.1 (show s ∈ a.syms ++ b.syms from hs) with h | h
          · exact ih a (by simp) s h
          · exact ih b (by simp) s h
        · exact ih2 m' h (fun u hu => ih u (by simp [hu])) t ht s hs
    intro t ht
    rw [e] at ht
    rcases List.mem_append.1 ((mrg_perm _ _).mem_iff.1 ht) with h' | h'
    · exact hS t h'
    · exact hm t h'
end Go.Proofs.YtlbadjfcffoakaaDoor
