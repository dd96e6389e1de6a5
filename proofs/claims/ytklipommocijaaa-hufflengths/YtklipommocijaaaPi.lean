/-
  What the lightest packages weigh (plain mathematics, no program): the weights' lists of each level hang on the weights alone; a level more never weighs more.
-/
import Derived.Test.YtklipommocijaaaPh
namespace Go.Proofs.Ytklipommocijaaa
open PT
set_option linter.unusedVariables false

/-- Rising numbers. -/
def Up (l : List Nat) : Prop := l.Pairwise fun a b => a ≤ b
def ins (x : Nat) : List Nat → List Nat
  | [] => [x]
  | y :: l => if y ≤ x then y :: ins x l else x :: y :: l
def isort : List Nat → List Nat → List Nat
  | out, [] => out
  | out, x :: l => isort (ins x out) l
theorem ins_perm (x : Nat) : ∀ l, (ins x l).Perm (x :: l)
  | [] => .refl _
  | y :: l => by
    rw [ins]
    split
    · exact ((ins_perm x l).cons y).trans (List.Perm.swap x y l)
    · exact .refl _
theorem ins_up (x : Nat) : ∀ {l}, Up l → Up (ins x l)
  | [], _ => by simp [ins, Up]
  | y :: l, h => by
    have h' := List.pairwise_cons.1 h
    rw [ins]
    split
    · rename_i hle
      refine List.pairwise_cons.2 ⟨fun t ht => ?_, ins_up x h'.2⟩
      rcases List.mem_cons.1 ((ins_perm x l).mem_iff.1 ht) with rfl | ht
      · exact hle
      · exact h'.1 t ht
    · rename_i hle
      refine List.pairwise_cons.2 ⟨fun t ht => ?_, h⟩
      rcases List.mem_cons.1 ht with rfl | ht
      · omega
      · have := h'.1 t ht; omega
theorem isort_perm : ∀ (l out : List Nat), (isort out l).Perm (out ++ l)
  | [], out => by simp [isort]
  | x :: l, out => by
    rw [isort]
    refine (isort_perm l (ins x out)).trans ?_
    refine ((ins_perm x out).append_right l).trans ?_
    exact List.perm_middle.symm
theorem isort_up : ∀ (l : List Nat) {out : List Nat}, Up out → Up (isort out l)
  | [], _, h => h
  | x :: l, _, h => isort_up l (ins_up x h)
/-- Rising numbers that are the same but for their order are the same. -/
theorem up_same : ∀ {a b : List Nat}, Up a → Up b → a.Perm b → a = b
  | [], b, _, _, h => h.nil_eq
  | x :: a, [], _, _, h => by have := h.length_eq; simp at this
  | x :: a, y :: b, ha, hb, h => by
    have ha' := List.pairwise_cons.1 ha
    have hb' := List.pairwise_cons.1 hb
    have hxy : x = y := by
      have h1 : x ∈ y :: b := h.mem_iff.1 (by simp)
      have h2 : y ∈ x :: a := h.mem_iff.2 (by simp)
      rcases List.mem_cons.1 h1 with e | h1
      · exact e
      · rcases List.mem_cons.1 h2 with e | h2
        · exact e.symm
        · have := ha'.1 y h2; have := hb'.1 x h1; omega
    subst hxy
    rw [up_same ha'.2 hb'.2 ((List.perm_cons x).1 h)]
/-- By twos. -/
def twos : List Nat → List Nat
  | a :: b :: l => (a + b) :: twos l
  | _ => []
/-- The weights of a level. -/
def LW (c : List Nat) : Nat → List Nat
  | 0 => isort [] (c ++ [])
  | k + 1 => isort [] (c ++ twos (LW c k))

theorem Pairs.twos {l : List PT} : ∀ {m}, Pairs l m → m.map PT.wt = Go.Proofs.Ytklipommocijaaa.twos (l.map PT.wt) := by
  induction l using two_ind with
  | h0 => intro m h; have e : m = [] := h; subst e; rfl
  | h1 t => intro m h; have e : m = [] := h; subst e; rfl
  | h2 a b l ih =>
    rintro m ⟨u, m', rfl, ⟨x, z, rfl⟩, h⟩
    simp only [List.map_cons, Go.Proofs.Ytklipommocijaaa.twos, PT.wt_node, ih h]
theorem asc_up {l : List PT} (h : Asc l) : Up (l.map PT.wt) := List.pairwise_map.2 h
theorem Lev.weights {S : List PT} (hS : Asc S) : ∀ {k : Nat} {l : List PT}, Lev S k l → l.map PT.wt = LW (S.map PT.wt) k
  | 0, l, h => by
    rw [show l = S from h]
    refine up_same (asc_up hS) (isort_up _ List.Pairwise.nil) ?_
    have := isort_perm (S.map PT.wt ++ []) []
    rw [List.nil_append] at this
    have h2 : (LW (S.map PT.wt) 0).Perm (S.map PT.wt ++ []) := this
    rw [List.append_nil] at h2
    exact h2.symm
  | k + 1, r, ⟨l, m, h, hp, e⟩ => by
    have hl := Lev.weights hS h
    have hm := hp.twos
    rw [hl] at hm
    have hup : Up (r.map PT.wt) := by rw [e]; exact asc_up (mrg_asc _ _ hS (hp.asc (Lev.asc hS h)))
    refine up_same hup (isort_up _ List.Pairwise.nil) ?_
    have h1 := isort_perm (S.map PT.wt ++ Go.Proofs.Ytklipommocijaaa.twos (LW (S.map PT.wt) k)) []
    rw [List.nil_append] at h1
    refine List.Perm.trans ?_ h1.symm
    rw [e, ← hm, ← List.map_append]
    exact (mrg_perm S m).map _
theorem wtL_sum (l : List PT) : wtL l = (l.map PT.wt).sum := by
  induction l with
  | nil => rfl
  | cons t r ih => simp only [wtL, List.map_cons, List.sum_cons, ih]
theorem LW_length (c : List Nat) (k : Nat) : (LW c (k + 1)).length = c.length + (twos (LW c k)).length := by
  have h : (LW c (k + 1)).length = ([] ++ (c ++ twos (LW c k))).length := (isort_perm (c ++ twos (LW c k)) []).length_eq
  rw [h]; simp

/-- The first so many of two rising lists as one weigh no more than so many of the one and so many of the other. -/
theorem mrg_min (a : List PT) : ∀ (b : List PT) (x y : Nat), Asc a → Asc b → x ≤ a.length → y ≤ b.length → wtL ((mrg a b).take (x + y)) ≤ wtL (a.take x) + wtL (b.take y) := by
  have last : ∀ (l : List PT) (p x : Nat), (∀ t ∈ l, p ≤ t.wt) → x + 1 ≤ l.length → p + wtL (l.take x) ≤ wtL (l.take (x + 1)) := by
    intro l p x h hx
    rw [List.take_succ_eq_append_getElem (by omega), wtL_append]
    have := h l[x] (List.getElem_mem _)
    simp only [wtL]; omega
  induction a with
  | nil => intro b x y _ _ hx hy; simp at hx; subst hx; simp [mrg_nil, wtL]
  | cons p a ih =>
    intro b
    induction b with
    | nil => intro x y _ _ hx hy; simp at hy; subst hy; simp [mrg_nil_right, wtL]
    | cons q b ihb =>
      intro x y ha hb hx hy
      have ha' := List.pairwise_cons.1 ha
      have hb' := List.pairwise_cons.1 hb
      rw [mrg_cons]
      split
      · rename_i hlt
        cases y with
        | succ y =>
          have := ihb x y ha hb'.2 hx (by simpa using hy)
          rw [show x + (y + 1) = x + y + 1 by omega]
          simp only [List.take_succ_cons, wtL]; omega
        | zero =>
          cases x with
          | zero => simp [wtL]
          | succ x =>
            have h1 := ihb x 0 ha hb'.2 (by omega) (by omega)
            have h2 := last (p :: a) q.wt x (fun t ht => by
              rcases List.mem_cons.1 ht with rfl | ht
              · omega
              · have := ha'.1 t ht; omega) hx
            simp only [List.take_zero, wtL, Nat.add_zero] at h1 ⊢
            rw [List.take_succ_cons]
            simp only [wtL]
            omega
      · rename_i hlt
        cases x with
        | succ x =>
          have := ih (q :: b) x y ha'.2 hb (by simpa using hx) hy
          rw [show x + 1 + y = x + y + 1 by omega]
          simp only [List.take_succ_cons, wtL]; omega
        | zero =>
          cases y with
          | zero => simp [wtL]
          | succ y =>
            have h1 := ih (q :: b) 0 y ha'.2 hb (by omega) (by omega)
            have h2 := last (q :: b) p.wt y (fun t ht => by
              rcases List.mem_cons.1 ht with rfl | ht
              · omega
              · have := hb'.1 t ht; omega) hy
            simp only [List.take_zero, wtL, Nat.zero_add] at h1 ⊢
            rw [List.take_succ_cons]
            simp only [wtL]
            omega
/-- Place by place no more in all. -/
def PD (l l' : List PT) : Prop := l.length ≤ l'.length ∧ ∀ j, j ≤ l.length → wtL (l'.take j) ≤ wtL (l.take j)
theorem PD.refl (l : List PT) : PD l l := ⟨Nat.le_refl _, fun _ _ => Nat.le_refl _⟩
theorem PD.trans {a b c : List PT} (h1 : PD a b) (h2 : PD b c) : PD a c := ⟨Nat.le_trans h1.1 h2.1, fun j hj => Nat.le_trans (h2.2 j (Nat.le_trans hj h1.1)) (h1.2 j hj)⟩
theorem Lev.more {S : List PT} (hS : Asc S) : ∀ {k : Nat} {l l' : List PT}, Lev S k l → Lev S (k + 1) l' → PD l l'
  | 0, l, l', h, ⟨l0, m, h0, hp, e⟩ => by
    rw [show l = S from h, e]
    have hm := hp.asc (Lev.asc hS h0)
    refine ⟨by rw [mrg_length]; omega, fun j hj => ?_⟩
    have := mrg_min S m j 0 hS hm hj (by omega)
    simpa [wtL] using this
  | k + 1, l, l', ⟨l0, m, h0, hp, e⟩, ⟨l1, m1, h1, hp1, e1⟩ => by
    have ih := Lev.more hS h0 h1
    have hm := hp.asc (Lev.asc hS h0)
    have hm1 := hp1.asc (Lev.asc hS h1)
    have a1 := hp.length
    have a2 := hp1.length
    have a3 := ih.1
    rw [e, e1]
    refine ⟨by rw [mrg_length, mrg_length]; omega, fun j hj => ?_⟩
    rw [mrg_length] at hj
    obtain ⟨x, y, b1, b2, b3, b4, _⟩ := mrg_take S m j hS hj
    have c1 := mrg_min S m1 x y hS hm1 b2 (by omega)
    rw [b1] at c1
    rw [wtL_perm b4, wtL_append, hp.wt y b3]
    rw [hp1.wt y (by omega)] at c1
    have := ih.2 (2 * y) (by omega)
    omega
theorem Lev.wider {S : List PT} (hS : Asc S) {k : Nat} : ∀ (d : Nat) {l' : List PT}, Lev S (k + d) l' → ∃ l, Lev S k l ∧ PD l l'
  | 0, l', h => ⟨l', h, PD.refl _⟩
  | d + 1, l', h => by
    obtain ⟨l0, m, h0, hp, e⟩ := h
    obtain ⟨l, hl, hd⟩ := Lev.wider hS d h0
    exact ⟨l, hl, hd.trans (Lev.more hS h0 ⟨l0, m, h0, hp, e⟩)⟩

/-- What packs weigh is what their symbols do, each as often as it is in them. -/
def wsum (F c : Nat → Nat) : Nat → Nat
  | 0 => 0
  | n + 1 => wsum F c n + F n * c n
theorem wsum_add (F c d : Nat → Nat) : ∀ n, wsum F (fun s => c s + d s) n = wsum F c n + wsum F d n
  | 0 => rfl
  | n + 1 => by simp only [wsum, wsum_add F c d n, Nat.mul_add]; omega
theorem wsum_zero (F : Nat → Nat) : ∀ n, wsum F (fun _ => 0) n = 0
  | 0 => rfl
  | n + 1 => by simp only [wsum, wsum_zero F n, Nat.mul_zero]
theorem wsum_one (F : Nat → Nat) (s : Nat) : ∀ n, wsum F (fun t => if s = t then 1 else 0) n = if s < n then F s else 0
  | 0 => rfl
  | n + 1 => by
    simp only [wsum, wsum_one F s n]
    by_cases e : s = n
    · subst e; rw [if_neg (by omega), if_pos rfl, if_pos (by omega)]; omega
    · rw [if_neg e]
      by_cases h : s < n
      · rw [if_pos h, if_pos (by omega)]; omega
      · rw [if_neg h, if_neg (by omega)]; omega
theorem wsum_congr {F c d : Nat → Nat} : ∀ {n}, (∀ s, s < n → c s = d s) → wsum F c n = wsum F d n
  | 0, _ => rfl
  | n + 1, h => by
    have ih := wsum_congr (F := F) (n := n) (fun s hs => h s (by omega))
    simp only [wsum, ih, h n (by omega)]
theorem wsum_count (F : Nat → Nat) (n : Nat) : ∀ (l : List Nat), (∀ s ∈ l, s < n) → wsum F (fun s => l.count s) n = (l.map F).sum
  | [], _ => by simpa using wsum_zero F n
  | t :: l, h => by
    have ih := wsum_count F n l (fun s hs => h s (by simp [hs]))
    have h1 : wsum F (fun s => (t :: l).count s) n = wsum F (fun s => l.count s + (if t = s then 1 else 0)) n := wsum_congr (fun s _ => by
      rw [List.count_cons]
      by_cases e : t = s
      · subst e; simp
      · have : (t == s) = false := by simpa using e
        rw [this, if_neg e]; rfl)
    rw [h1, wsum_add, ih, wsum_one, if_pos (h t (by simp))]
    simp only [List.map_cons, List.sum_cons]; omega
theorem wtL_wsum {F : Nat → Nat} {n : Nat} : ∀ {l : List PT}, OKL F l → (∀ t ∈ l, ∀ s ∈ t.syms, s < n) → wtL l = wsum F (fun s => cntL s l) n
  | [], _, _ => (wsum_zero F n).symm
  | t :: l, h, hn => by
    have ih := wtL_wsum (l := l) (fun u hu => h u (by simp [hu])) (fun u hu => hn u (by simp [hu]))
    have h1 : wsum F (fun s => cntL s (t :: l)) n = wsum F (fun s => t.cnt s + cntL s l) n := rfl
    rw [h1, wsum_add, ← ih]
    have h2 := wsum_count F n t.syms (hn t (by simp))
    show t.wt + wtL l = _
    rw [(h t (by simp)).1, ← h2]; rfl
theorem Lev.syms {S : List PT} {n : Nat} (hS : ∀ t ∈ S, ∀ s ∈ t.syms, s < n) : ∀ {k : Nat} {l : List PT}, Lev S k l → ∀ t ∈ l, ∀ s ∈ t.syms, s < n
  | 0, l, h => by rw [show l = S from h]; exact hS
  | k + 1, r, ⟨l, m, h, hp, e⟩ => by
    have ih := Lev.syms hS h
    have hm : ∀ t ∈ m, ∀ s ∈ t.syms, s < n := by
      clear e h
      induction l using two_ind generalizing m with
      | h0 => have e : m = [] := hp; subst e; intro t ht; simp at ht
      | h1 t => have e : m = [] := hp; subst e; intro t ht; simp at ht
      | h2 a b l ih2 =>
        obtain ⟨u, m', rfl, ⟨x, z, rfl⟩, h⟩ := hp
        intro t ht s hs
        rcases List.mem_cons.1 ht with rfl | ht
        · rcases List.mem_append.1 (show s ∈ a.syms ++ b.syms from hs) with h | h
          · exact ih a (by simp) s h
          · exact ih b (by simp) s h
        · exact ih2 m' h (fun u hu => ih u (by simp [hu])) t ht s hs
    intro t ht
    rw [e] at ht
    rcases List.mem_append.1 ((mrg_perm _ _).mem_iff.1 ht) with h' | h'
    · exact hS t h'
    · exact hm t h'
end Go.Proofs.Ytklipommocijaaa
