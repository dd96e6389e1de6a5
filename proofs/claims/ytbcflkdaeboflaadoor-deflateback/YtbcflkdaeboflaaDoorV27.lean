/-
  What the lightest packages weigh (plain mathematics, no program): the weights' lists of each level hang on the weights alone; a level more never weighs more.
-/
/- The best lengths: the function itself. -/
import Derived.Test.YtbcflkdaeboflaaDoorV26
import Derived.Test.YtbcflkdaeboflaaDoorV04
namespace Go.Proofs.YtbcflkdaeboflaaDoor
open PT
set_option linter.unusedVariables false
set_option maxRecDepth 20000

/-- Rising numbers. -/
def Up (l : List Nat) : Prop := l.Pairwise fun a b => a ≤ b
def ins (x : Nat) : List Nat → List Nat
  | [] => [x]
  | y :: l => if y ≤ x then y :: ins x l else x :: y :: l
def isort : List Nat → List Nat → List Nat
  | out, [] => out
  | out, x :: l => isort (ins x out) l
theorem ins_perm (x : Nat) : ∀ l, (ins x l).Perm (x :: l)
  | [] => .refl _
  | y :: l => by
    rw [ins]
    split
    · exact ((ins_perm x l).cons y).trans (List.Perm.swap x y l)
    · exact .refl _
theorem ins_up (x : Nat) : ∀ {l}, Up l → Up (ins x l)
  | [], _ => by simp [ins, Up]
  | y :: l, h => by
    have h' := List.pairwise_cons.1 h
    rw [ins]
    split
    · rename_i hle
      refine List.pairwise_cons.2 ⟨fun t ht => ?_, ins_up x h'.2⟩
      rcases List.mem_cons.1 ((ins_perm x l).mem_iff.1 ht) with rfl | ht
      · exact hle
      · exact h'.1 t ht
    · rename_i hle
      refine List.pairwise_cons.2 ⟨fun t ht => ?_, h⟩
      rcases List.mem_cons.1 ht with rfl | ht
      · omega
      · have := h'.1 t ht; omega
theorem isort_perm : ∀ (l out : List Nat), (isort out l).Perm (out ++ l)
  | [], out => by simp [isort]
  | x :: l, out => by
    rw [isort]
    refine (isort_perm l (ins x out)).trans ?_
    refine ((ins_perm x out).append_right l).trans ?_
    exact List.perm_middle.symm
theorem isort_up : ∀ (l : List Nat) {out : List Nat}, Up out → Up (isort out l)
  | [], _, h => h
  | x :: l, _, h => isort_up l (ins_up x h)
/-- Rising numbers that are the same but for their order are the same. -/
theorem up_same : ∀ {a b : List Nat}, Up a → Up b → a.Perm b → a = b
  | [], b, _, _, h => h.nil_eq
  | x :: a, [], _, _, h => by have := h.length_eq; simp at this
  | x :: a, y :: b, ha, hb, h => by
    have ha' := List.pairwise_cons.1 ha
    have hb' := List.pairwise_cons.1 hb
    have hxy : x = y := by
      have h1 : x ∈ y :: b := h.mem_iff.1 (by simp)
      have h2 : y ∈ x :: a := h.mem_iff.2 (by simp)
      rcases List.mem_cons.1 h1 with e | h1
      · exact e
      · rcases List.mem_cons.1 h2 with e | h2
        · exact e.symm
        · have := ha'.1 y h2; have := hb'.1 x h1; omega
    subst hxy
    rw [up_same ha'.2 hb'.2 ((List.perm_cons x).1 h)]
/-- By twos. -/
def twos : List Nat → List Nat
  | a :: b :: l => (a + b) :: twos l
  | _ => []
/-- The weights of a level. -/
def LW (c : List Nat) : Nat → List Nat
  | 0 => isort [] (c ++ [])
  | k + 1 => isort [] (c ++ twos (LW c k))

theorem Pairs.twos {l : List PT} : ∀ {m}, Pairs l m → m.map PT.wt = Go.Proofs.YtbcflkdaeboflaaDoor.twos (l.map PT.wt) := by
  induction l using two_ind with
  | h0 => intro m h; have e : m = [] := h; subst e; rfl
  | h1 t => intro m h; have e : m = [] := h; subst e; rfl
  | h2 a b l ih =>
    rintro m ⟨u, m', rfl, ⟨x, z, rfl⟩, h⟩
    simp only [List.map_cons, Go.Proofs.YtbcflkdaeboflaaDoor.twos, PT.wt_node, ih h]
theorem asc_up {l : List PT} (h : Asc l) : Up (l.map PT.wt) := List.pairwise_map.2 h
theorem Lev.weights {S : List PT} (hS : Asc S) : ∀ {k : Nat} {l : List PT}, Lev S k l → l.map PT.wt = LW (S.map PT.wt) k
  | 0, l, h => by
    rw [show l = S from h]
    refine up_same (asc_up hS) (isort_up _ List.Pairwise.nil) ?_
    have := isort_perm (S.map PT.wt ++ []) []
    rw [List.nil_append] at this
    have h2 : (LW (S.map PT.wt) 0).Perm (S.map PT.wt ++ []) := this
    rw [List.append_nil] at h2
    exact h2.symm
  | k + 1, r, ⟨l, m, h, hp, e⟩ => by
    have hl := Lev.weights hS h
    have hm := hp.twos
    rw [hl] at hm
    have hup : Up (r.map PT.wt) := by rw [e]; exact asc_up (mrg_asc _ _ hS (hp.asc (Lev.asc hS h)))
    refine up_same hup (isort_up _ List.Pairwise.nil) ?_
    have h1 := isort_perm (S.map PT.wt ++ Go.Proofs.YtbcflkdaeboflaaDoor.twos (LW (S.map PT.wt) k)) []
    rw [List.nil_append] at h1
    refine List.Perm.trans ?_ h1.symm
    rw [e, ← hm, ← List.map_append]
    exact (mrg_perm S m).map _
theorem wtL_sum (l : List PT) : wtL l = (l.map PT.wt).sum := by
  induction l with
  | nil => rfl
  | cons t r ih => simp only [wtL, List.map_cons, List.sum_cons, ih]
theorem LW_length (c : List Nat) (k : Nat) : (LW c (k + 1)).length = c.length + (twos (LW c k)).length := by
  have h : (LW c (k + 1)).length = ([] ++ (c ++ twos (LW c k))).length := (isort_perm (c ++ twos (LW c k)) []).length_eq
  rw [h]; simp

/-- The first so many of two rising lists as one weigh no more than so many of the one and so many of the other. -/
theorem mrg_min (a : List PT) : ∀ (b : List PT) (x y : Nat), Asc a → Asc b → x ≤ a.length → y ≤ b.length → wtL ((mrg a b).take (x + y)) ≤ wtL (a.take x) + wtL (b.take y) := by
  have last : ∀ (l : List PT) (p x : Nat), (∀ t ∈ l, p ≤ t.wt) → x + 1 ≤ l.length → p + wtL (l.take x) ≤ wtL (l.take (x + 1)) := by
    intro l p x h hx
    rw [List.take_succ_eq_append_getElem (by omega), wtL_append]
    have := h l[x] (List.getElem_mem _)
    simp only [wtL]; omega
  induction a with
  | nil => intro b x y _ _ hx hy; simp at hx; subst hx; simp [mrg_nil, wtL]
  | cons p a ih =>
    intro b
    induction b with
    | nil => intro x y _ _ hx hy; simp at hy; subst hy; simp [mrg_nil_right, wtL]
    | cons q b ihb =>
      intro x y ha hb hx hy
      have ha' := List.pairwise_cons.1 ha
      have hb' := List.pairwise_cons.1 hb
      rw [mrg_cons]
      split
      · rename_i hlt
        cases y with
        | succ y =>
          have := ihb x y ha hb'.2 hx (by simpa using hy)
          rw [show x + (y + 1) = x + y + 1 by omega]
          simp only [List.take_succ_cons, wtL]; omega
        | zero =>
          cases x with
          | zero => simp [wtL]
          | succ x =>
            have h1 := ihb x 0 ha hb'.2 (by omega) (by omega)
            have h2 := last (p :: a) q.wt x (fun t ht => by
              rcases List.mem_cons.1 ht with rfl | ht
              · omega
              · have := ha'.1 t ht; omega) hx
            simp only [List.take_zero, wtL, Nat.add_zero] at h1 ⊢
            rw [List.take_succ_cons]
            simp only [wtL]
            omega
      · rename_i hlt
        cases x with
        | succ x =>
          have := ih (q :: b) x y ha'.2 hb (by simpa using hx) hy
          rw [show x + 1 + y = x + y + 1 by omega]
          simp only [List.take_succ_cons, wtL]; omega
        | zero =>
          cases y with
          | zero => simp [wtL]
          | succ y =>
            have h1 := ih (q :: b) 0 y ha'.2 hb (by omega) (by omega)
            have h2 := last (q :: b) p.wt y (fun t ht => by
              rcases List.mem_cons.1 ht with rfl | ht
              · omega
              · have := hb'.1 t ht; omega) hy
            simp only [List.take_zero, wtL, Nat.zero_add] at h1 ⊢
            rw [List.take_succ_cons]
            simp only [wtL]
            omega
/-- Place by place no more in all. -/
def PD (l l' : List PT) : Prop := l.length ≤ l'.length ∧ ∀ j, j ≤ l.length → wtL (l'.take j) ≤ wtL (l.take j)
theorem PD.refl (l : List PT) : PD l l := ⟨Nat.le_refl _, fun _ _ => Nat.le_refl _⟩
theorem PD.trans {a b c : List PT} (h1 : PD a b) (h2 : PD b c) : PD a c := ⟨Nat.le_trans h1.1 h2.1, fun j hj => Nat.le_trans (h2.2 j (Nat.le_trans hj h1.1)) (h1.2 j hj)⟩
theorem Lev.more {S : List PT} (hS : Asc S) : ∀ {k : Nat} {l l' : List PT}, Lev S k l → Lev S (k + 1) l' → PD l l'
  | 0, l, l', h, ⟨l0, m, h0, hp, e⟩ => by
    rw [show l = S from h, e]
    have hm := hp.asc (Lev.asc hS h0)
    refine ⟨by rw [mrg_length]; omega, fun j hj => ?_⟩
    have := mrg_min S m j 0 hS hm hj (by omega)
    simpa [wtL] using this
  | k + 1, l, l', ⟨l0, m, h0, hp, e⟩, ⟨l1, m1, h1, hp1, e1⟩ => by
    have ih := Lev.more hS h0 h1
    have hm := hp.asc (Lev.asc hS h0)
    have hm1 := hp1.asc (Lev.asc hS h1)
    have a1 := hp.length
    have a2 := hp1.length
    have a3 := ih.1
    rw [e, e1]
    refine ⟨by rw [mrg_length, mrg_length]; omega, fun j hj => ?_⟩
    rw [mrg_length] at hj
    obtain ⟨x, y, b1, b2, b3, b4, _⟩ := mrg_take S m j hS hj
    have c1 := mrg_min S m1 x y hS hm1 b2 (by omega)
    rw [b1] at c1
    rw [wtL_perm b4, wtL_append, hp.wt y b3]
    rw [hp1.wt y (by omega)] at c1
    have := ih.2 (2 * y) (by omega)
    omega
theorem Lev.wider {S : List PT} (hS : Asc S) {k : Nat} : ∀ (d : Nat) {l' : List PT}, Lev S (k + d) l' → ∃ l, Lev S k l ∧ PD l l'
  | 0, l', h => ⟨l', h, PD.refl _⟩
  | d + 1, l', h => by
    obtain ⟨l0, m, h0, hp, e⟩ := h
    obtain ⟨l, hl, hd⟩ := Lev.wider hS d h0
    exact ⟨l, hl, hd.trans (Lev.more hS h0 ⟨l0, m, h0, hp, e⟩)⟩

/-- What packs weigh is what their symbols do, each as often as it is in them. -/
def wsum (F c : Nat → Nat) : Nat → Nat
  | 0 => 0
  | n + 1 => wsum F c n + F n * c n
theorem wsum_add (F c d : Nat → Nat) : ∀ n, wsum F (fun s => c s + d s) n = wsum F c n + wsum F d n
  | 0 => rfl
  | n + 1 => by simp only [wsum, wsum_add F c d n, Nat.mul_add]; omega
theorem wsum_zero (F : Nat → Nat) : ∀ n, wsum F (fun _ => 0) n = 0
  | 0 => rfl
  | n + 1 => by simp only [wsum, wsum_zero F n, Nat.mul_zero]
theorem wsum_one (F : Nat → Nat) (s : Nat) : ∀ n, wsum F (fun t => if s = t then 1 else 0) n = if s < n then F s else 0
  | 0 => rfl
  | n + 1 => by
    simp only [wsum, wsum_one F s n]
    by_cases e : s = n
    · subst e; rw [if_neg (by omega), if_pos rfl, if_pos (by omega)]; omega
    · rw [if_neg e]
      by_cases h : s < n
      · rw [if_pos h, if_pos (by omega)]; omega
      · rw [if_neg h, if_neg (by omega)]; omega
theorem wsum_congr {F c d : Nat → Nat} : ∀ {n}, (∀ s, s < n → c s = d s) → wsum F c n = wsum F d n
  | 0, _ => rfl
  | n + 1, h => by
    have ih := wsum_congr (F := F) (n := n) (fun s hs => h s (by omega))
    simp only [wsum, ih, h n (by omega)]
theorem wsum_count (F : Nat → Nat) (n : Nat) : ∀ (l : List Nat), (∀ s ∈ l, s < n) → wsum F (fun s => l.count s) n = (l.map F).sum
  | [], _ => by simpa using wsum_zero F n
  | t :: l, h => by
    have ih := wsum_count F n l (fun s hs => h s (by simp [hs]))
    have h1 : wsum F (fun s => (t :: l).count s) n = wsum F (fun s => l.count s + (if t = s then 1 else 0)) n := wsum_congr (fun s _ => by
      rw [List.count_cons]
      by_cases e : t = s
      · subst e; simp
      · have : (t == s) = false := by simpa using e
        rw [this, if_neg e]; rfl)
    rw [h1, wsum_add, ih, wsum_one, if_pos (h t (by simp))]
    simp only [List.map_cons, List.sum_cons]; omega
theorem wtL_wsum {F : Nat → Nat} {n : Nat} : ∀ {l : List PT}, OKL F l → (∀ t ∈ l, ∀ s ∈ t.syms, s < n) → wtL l = wsum F (fun s => cntL s l) n
  | [], _, _ => (wsum_zero F n).symm
  | t :: l, h, hn => by
    have ih := wtL_wsum (l := l) (fun u hu => h u (by simp [hu])) (fun u hu => hn u (by simp [hu]))
    have h1 : wsum F (fun s => cntL s (t :: l)) n = wsum F (fun s => t.cnt s + cntL s l) n := rfl
    rw [h1, wsum_add, ← ih]
    have h2 := wsum_count F n t.syms (hn t (by simp))
    show t.wt + wtL l = _
    rw [(h t (by simp)).1, ← h2]; rfl
theorem Lev.syms {S : List PT} {n : Nat} (hS : ∀ t ∈ S, ∀ s ∈ t.syms, s < n) : ∀ {k : Nat} {l : List PT}, Lev S k l → ∀ t ∈ l, ∀ s ∈ t.syms, s < n
  | 0, l, h => by rw [show l = S from h]; exact hS
  | k + 1, r, ⟨l, m, h, hp, e⟩ => by
    have ih := Lev.syms hS h
    have hm : ∀ t ∈ m, ∀ s ∈ t.syms, s < n := by
      clear e h
      induction l using two_ind generalizing m with
      | h0 => have e : m = [] := hp; subst e; intro t ht; simp at ht
      | h1 t => have e : m = [] := hp; subst e; intro t ht; simp at ht
      | h2 a b l ih2 =>
        obtain ⟨u, m', rfl, ⟨x, z, rfl⟩, h⟩ := hp
        intro t ht s hs
        rcases List.mem_cons.1 ht with rfl | ht
        · rcases List.mem_append.1 (show s ∈ a.syms ++ b.syms from hs) with h | h
          · exact ih a (by simp) s h
          · exact ih b (by simp) s h
        · exact ih2 m' h (fun u hu => ih u (by simp [hu])) t ht s hs
    intro t ht
    rw [e] at ht
    rcases List.mem_append.1 ((mrg_perm _ _).mem_iff.1 ht) with h' | h'
    · exact hS t h'
    · exact hm t h'
end Go.Proofs.YtbcflkdaeboflaaDoor
namespace Go.Proofs.YtbcflkdaeboflaaDoor
open Go.RowKit PT Go.Sort
set_option linter.unusedVariables false
set_option maxRecDepth 20000

def frq (fs : List Int) (s : Nat) : Nat := (fs.getD s 0).toNat
theorem Leaves.at {fs : List Int} {ss : List Nat} {l : List PT} (h : Leaves fs ss l) {t : PT} (ht : t ∈ l) : ∃ s ∈ ss, t.syms = [s] ∧ t.wt = frq fs s ∧ t.lf = true := by
  have : (t.syms, t.wt, t.lf) ∈ ss.map fun s => ([s], (fs.getD s 0).toNat, true) := by rw [← h]; exact List.mem_map_of_mem ht
  obtain ⟨s, hs, e⟩ := List.mem_map.1 this
  simp only [Prod.mk.injEq] at e
  exact ⟨s, hs, e.1.symm, e.2.1.symm, e.2.2.symm⟩
theorem Leaves.ok {fs : List Int} {n : Nat} {l : List PT} (h : Leaves fs (comes fs n) l) : OKL (frq fs) l := fun t ht => by
  obtain ⟨s, hs, e1, e2, _⟩ := h.at ht
  have hp := (comes_lt hs).2
  refine ⟨by rw [e1, e2]; simp, fun u hu => ?_, by rw [e1]; simp⟩
  rw [e1] at hu
  simp at hu
  subst hu
  unfold frq; omega
theorem wtL_bound {l : List PT} {B : Nat} (h : ∀ t ∈ l, t.wt ≤ B) : wtL l ≤ l.length * B := by
  induction l with
  | nil => simp [wtL]
  | cons t r ih =>
    have h1 := ih (fun u hu => h u (by simp [hu]))
    have h2 := h t (by simp)
    simp only [wtL, List.length_cons, Nat.add_mul, Nat.one_mul]; omega
theorem sum_len {F : Nat → Nat} : ∀ {l : List Nat}, (∀ s ∈ l, 0 < F s) → l.length ≤ (l.map F).sum
  | [], _ => by simp
  | t :: l, h => by
    have h1 := sum_len (F := F) (l := l) (fun s hs => h s (by simp [hs]))
    have h2 := h t (by simp)
    simp only [List.map_cons, List.sum_cons, List.length_cons]; omega
theorem cntL_le_wtL {F : Nat → Nat} {l : List PT} (h : OKL F l) (i : Nat) : cntL i l ≤ wtL l := by
  induction l with
  | nil => simp [cntL, wtL]
  | cons t r ih =>
    have h1 := ih (fun u hu => h u (by simp [hu]))
    have h2 := h t (by simp)
    have h3 : t.cnt i ≤ t.wt := by
      rw [h2.1]
      exact Nat.le_trans List.count_le_length (sum_len h2.2.1)
    simp only [cntL, wtL]; omega

structure SingF (W w2 : World) (L N : Nat) (fs : List Int) (ao : Option Addr) (M cp : Nat) (S l : List PT) : Prop where
  len : S.length = M
  row : M = 0 ∨ ∃ g, ao = some ⟨g, 0, none⟩ ∧ g < w2.heap.size ∧ M ≤ cp ∧ cp ≤ 9223372036854775807 ∧ PRow w2 g 0 S
  asc : Asc S
  leaves : Leaves fs (comes fs N) l
  perm : S.Perm l
  laid : ∀ t ∈ S, Laid w2 L N t
  bel : Below W.heap.size W w2
theorem SingEnd.form {W w2 : World} {L N : Nat} {fs : List Int} {e : Ending} (h : SingEnd W L N fs e w2) : ∃ ao M cp S l, e = .returned (.slice ao M cp) ∧ SingF W w2 L N fs ao M cp S l := by
  obtain ⟨v, S, rfl, hv, hasc, ⟨l, hlv, hpm⟩, hla, hbel⟩ := h
  rcases hv with ⟨rfl, rfl⟩ | ⟨g, cap, rfl, h1, h2, h3, h4⟩
  · exact ⟨none, 0, 0, [], l, rfl, rfl, .inl rfl, hasc, hlv, hpm, hla, hbel⟩
  · exact ⟨_, _, _, S, l, rfl, rfl, .inr ⟨g, rfl, h1, h2, h3, h4⟩, hasc, hlv, hpm, hla, hbel⟩
set_option maxRecDepth 20000 in
set_option maxHeartbeats 4000000 in
theorem lengths_ok (fs : List Int) (a : Option Addr) (c N : Nat) (most : Int) (w : World) (hN : fs.length = N) (hrow : IRow w a fs) (hlen : N ≤ 9223372036854775807) (hsort : N ≤ 288 → SortsTo (comes fs N).length) :
    Calls Tryd.prog 63 #[.slice a N c, .int .i64 most] w fun e w' => LensEnd w fs most e w' := by
  have HR : Hid (IRow w a fs) := hrow
  have HN : Hid (fs.length = N) := hN
  have HSO : Hid (N ≤ 288 → SortsTo (comes fs N).length) := hsort
  have HA : Hid (Calls Tryd.prog 75 #[.slice a N c] w fun e w' => e = .returned (.bool (okF fs)) ∧ w' = w) := areFreqs_ok fs a c N w hN hrow hlen
  clear hrow hN hsort
  have refuse : ¬ (fs.length ≤ 288 ∧ okF fs = true ∧ 1 ≤ most ∧ most ≤ 15 ∧ (comes fs fs.length).length ≤ 2 ^ most.toNat) → ∀ w', Below w.heap.size w w' → LensEnd w fs most (.returned (.tuple #[.slice none 0 0, .int .i64 1])) w' := fun h w' hb => .inr ⟨h, rfl, hb⟩
  have HRF : Hid _ := refuse
  clear refuse
  go_enter Tryd.func63, Tryd.ntmps63
  by_cases h1 : 288 < N
  · have h1i : (288 : Int) < (N : Int) := by omega
    go_wp2
    go_ret2
    exact HRF.out (by rw [HN.out]; omega) _ (Below.refl _ _)
  · have h1i : ¬ (288 : Int) < (N : Int) := by omega
    obtain ⟨q, hq⟩ : ∃ q, okF fs = q := ⟨_, rfl⟩
    have HQ : Hid (okF fs = q) := hq
    have HA2 : Hid (∀ _ : Unit, Calls Tryd.prog 75 #[.slice a N c] w fun e w' => e = .returned (.bool q) ∧ w' = w) := fun _ => by rw [← hq]; exact HA.out
    clear hq HA
    cases q with
    | false =>
      go_wp2_with (go_at_call 75; refine (HA2.out ()).mono ?_; rintro e w1 ⟨rfl, hw⟩; obtain rfl := hw.symm)
      go_ret2
      exact HRF.out (by rw [HQ.out]; simp) _ (Below.refl _ _)
    | true =>
      by_cases h2 : most < 1
      · go_wp2_with (go_at_call 75; refine (HA2.out ()).mono ?_; rintro e w1 ⟨rfl, hw⟩; obtain rfl := hw.symm)
        go_ret2
        exact HRF.out (by omega) _ (Below.refl _ _)
      · by_cases h3 : 15 < most
        · go_wp2_with (go_at_call 75; refine (HA2.out ()).mono ?_; rintro e w1 ⟨rfl, hw⟩; obtain rfl := hw.symm)
          go_ret2
          exact HRF.out (by omega) _ (Below.refl _ _)
        · obtain ⟨mo, hmo⟩ : ∃ mo : Nat, most = (mo : Int) := ⟨most.toNat, by omega⟩
          subst hmo
          have hm1 : 1 ≤ mo := by omega
          have hm2 : mo ≤ 15 := by omega
          obtain ⟨i0, hi, hz0, hz1, hz2⟩ := info_split intInfo
          have HI : Hid (Tryd.prog.info? 3 = some i0 ∧ i0.zero = some (.int .i64 0) ∧ i0.size = 1 ∧ i0.bytes = 8) := ⟨hi, hz0, hz1, hz2⟩
          have HSI : Hid (∀ W, W = w.alloc (.cells (madeCells #[.int .i64 0] N) 3) → Calls Tryd.prog 76 #[.slice a N c, .slice (some ⟨w.heap.size, 0, none⟩) N N] W fun e w' => SingEnd W w.heap.size N fs e w') := by
            rintro W rfl
            have hal : Below w.heap.size w (w.alloc (.cells (madeCells #[.int .i64 0] N) 3)) := (Below.refl _ _).alloc (Nat.le_refl _) _
            exact singlePacks_ok fs a c w.heap.size N _ HN.out (HR.out.below hal) (by simp) (okF_get HQ.out) (by omega) (HSO.out (by omega))
          clear hi hz0 hz1 hz2
          obtain ⟨mk, hmk⟩ : ∃ W, w.alloc (.cells (madeCells #[.int .i64 0] N) 3) = W := ⟨_, rfl⟩
          have HMK : Hid (w.alloc (.cells (madeCells #[.int .i64 0] N) 3) = mk) := hmk
          clear hmk
          go_wp2_with (first
            | (go_at_call 75; refine (HA2.out ()).mono ?_; rintro e w1 ⟨rfl, hw⟩; obtain rfl := hw.symm)
            | (at_make; refine wpList_make_row _ rfl _ _ 44 rfl 3 i0 (.int .i64 0) Tryd.underlying44 HI.out.1 HI.out.2.1 HI.out.2.2.1 rfl .i64 .i64 N rfl rfl (by rw [HI.out.2.2.2]; omega) (by omega) ?_; rw [HMK.out]))
          refine (HSI.out _ HMK.out.symm).mono ?_
          intro e w2 hE
          obtain ⟨ao, M, cp, S, l, rfl, hSF⟩ := hE.form
          have HSF : Hid (SingF mk w2 w.heap.size N fs ao M cp S l) := hSF
          have hsz : mk.heap.size = w.heap.size + 1 := by rw [← HMK.out]; simp
          have hbm : Below w.heap.size w mk := by rw [← HMK.out]; exact (Below.refl _ _).alloc (Nat.le_refl _) _
          have HB2 : Hid (Below w.heap.size w w2) := hbm.trans (hSF.bel.mono hbm.size)
          have HLB : Hid (LB w2 w.heap.size N (fun _ => 0)) := by
            have : LB mk w.heap.size N (fun _ => 0) := by rw [← HMK.out]; exact made_zero w N
            exact this.below hSF.bel
          have hMc : (comes fs N).length = M := by rw [← hSF.leaves.length, ← hSF.perm.length_eq, hSF.len]
          have hM288 : M ≤ 288 := by rw [← hMc]; exact Nat.le_trans (comes_length_le fs N) (by omega)
          have HMC : Hid ((comes fs N).length = M) := hMc
          obtain ⟨T, hT⟩ : ∃ T, 2 ^ mo = T := ⟨_, rfl⟩
          have hTb : T ≤ 32768 := by
            rw [← hT, show 32768 = 2 ^ 15 from rfl]
            exact Nat.pow_le_pow_right (by omega) hm2
          have hsh : wrap64 ((2 : Int) ^ mo) = (T : Int) := by
            rw [← hT]
            have e : ((2 : Int) ^ mo) = ((2 ^ mo : Nat) : Int) := by simp
            rw [e]
            unfold wrap64
            rw [hT]
            omega
          have HTT : Hid (2 ^ mo = T) := hT
          have HWT : Hid (wtL S ≤ 316659348799488) := by
            show _ ≤ _
            rw [wtL_perm hSF.perm]
            refine Nat.le_trans (wtL_bound (B := 1099511627776) (fun t ht => ?_)) ?_
            · obtain ⟨s, hs, _, e, _⟩ := hSF.leaves.at ht
              have := (okF_get HQ.out s).2
              rw [e]; unfold frq; omega
            · rw [← hSF.perm.length_eq, hSF.len]; omega
          have HOK : Hid (OKL (frq fs) S) := fun t ht => hSF.leaves.ok t (hSF.perm.mem_iff.1 ht)
          clear hSF hE hMc hT hsz hbm
          by_cases hgt : T < M
          · have hgti : (T : Int) < (M : Int) := by omega
            go_wp2
            go_ret2
            refine HRF.out ?_ _ HB2.out
            rw [HN.out, HMC.out]
            rintro ⟨_, _, _, _, h⟩
            rw [show ((mo : Int).toNat) = mo by simp, HTT.out] at h
            omega
          · have hgti : ¬ (T : Int) < (M : Int) := by omega
            by_cases hone : 1 < M
            · have honei : (1 : Int) < (M : Int) := by omega
              obtain ⟨g, hao, hg, hcp, hcm, hrw⟩ : ∃ g, ao = some ⟨g, 0, none⟩ ∧ g < w2.heap.size ∧ M ≤ cp ∧ cp ≤ 9223372036854775807 ∧ PRow w2 g 0 S := by
                rcases HSF.out.row with h | h
                · omega
                · exact h
              subst hao
              have hbp := fun _ : Unit => bestPacks_ok S w.heap.size N g 0 cp mo w2 hrw HSF.out.laid (by have := HB2.out.size; have := HSF.out.bel.size; have := lt_heap HLB.out; omega) hg (by rw [HSF.out.len]; exact hcp) hcm (by rw [HSF.out.len]; omega) (by rw [HSF.out.len]; exact hM288) HWT.out hm1 hm2 (by rw [HSF.out.len, HTT.out]; omega)
              rw [HSF.out.len] at hbp
              have HBP : Hid _ := hbp
              clear hbp hrw
              go_wp2_with fail
              refine (HBP.out ()).mono ?_
              rintro e w3 ⟨r, g3, o3, c3, rfl, hlev, hrl, hrow3, hlaid3, hbel3⟩
              rw [HSF.out.len] at hrl ⊢
              obtain ⟨K, hK⟩ : ∃ K, 2 * M - 2 = K := ⟨_, rfl⟩
              rw [hK] at hrl ⊢
              have hKb : K ≤ 600 := by omega
              have HK : Hid (2 * M - 2 = K) := hK
              have HLV : Hid (Lev S (mo - 1) r ∧ K ≤ r.length) := ⟨hlev, hrl⟩
              have HCB : Hid (∀ i, cntL i r < 4611686018427387904) := fun i => by
                have h1 := cntL_le_wtL (Lev.ok HOK.out hlev) i
                have h2 := hlev.wt
                have h3 : (mo - 1 + 1) * wtL S ≤ 15 * wtL S := Nat.mul_le_mul_right _ (by omega)
                have := HWT.out
                omega
              have H3 : Hid (LenSt w w3 w.heap.size N g3 o3 r 0) := ⟨(HLB.out.below hbel3).congr (fun i _ => by simp [cntL]), hrow3, hlaid3, HB2.out.trans (hbel3.mono HB2.out.size), Nat.le_refl _⟩
              clear hlev hrl hrow3 hlaid3 hbel3 hK
              go_wp2
              go_loopw [9, 45] (fun _ v45 wr => ∃ j : Nat, v45 = .int .i64 j ∧ j ≤ K ∧ Hid (LenSt w wr w.heap.size N g3 o3 r j)) (fun _ v45 _ => K - (intOf v45).toNat)
              case atStart => exact ⟨0, rfl, by omega, H3⟩
              case round =>
                obtain ⟨j, rfl, hj, HS⟩ := hrel
                by_cases hlt : j < K
                · have hlti : (j : Int) < (K : Int) := by omega
                  obtain ⟨t, ht⟩ : ∃ t, r[j]? = some t := ⟨_, List.getElem?_eq_getElem (by have := HLV.out.2; omega)⟩
                  obtain ⟨k1, k2⟩ := HS.out.row j t ht
                  have hst : Hid (∀ ob, Calls Tryd.prog t.fn t.cap (wr.alloc ob) fun e w' => e = .returned (.tuple #[]) ∧ LenSt w w' w.heap.size N g3 o3 r (j + 1)) := fun ob => HS.out.step (w' := w) ht HCB.out
                  unfold PT.fv at k2
                  obtain ⟨kf, hkf⟩ : ∃ k, t.fn = k := ⟨_, rfl⟩
                  obtain ⟨kc, hkc⟩ : ∃ k, t.cap = k := ⟨_, rfl⟩
                  obtain ⟨kw, hkw⟩ : ∃ k, t.wt = k := ⟨_, rfl⟩
                  have hk2 : kf = 84 ∨ kf = 99 := by rw [← hkf]; unfold PT.fn; split <;> simp
                  rw [hkf, hkc] at k2 hst
                  rw [hkw] at k1
                  clear hkf hkc hkw ht
                  rcases hk2 with rfl | rfl
                  all_goals
                    go_wp2_with fail
                    refine (hst.out _).mono ?_
                    rintro e w4 ⟨rfl, h4⟩
                    have H4 : Hid (LenSt w w4 w.heap.size N g3 o3 r (j + 1)) := h4
                    clear h4
                    go_wp2
                    exact ⟨⟨j + 1, by go_num, by omega, H4⟩, by simp [intOf]; omega⟩
                · obtain rfl : j = K := by omega
                  go_wp2
                  go_ret2
                  refine .inl ⟨by rw [HN.out]; omega, HQ.out, by omega, by omega, ?_, ?_⟩
                  · rw [HN.out, HMC.out, show ((mo : Int).toNat) = mo by simp, HTT.out]; omega
                  · refine ⟨w.heap.size, _, S, l, by rw [HN.out]; rfl, by rw [HN.out]; exact HS.out.lb, Nat.le_refl _, HS.out.bel, HSF.out.asc, by rw [HN.out]; exact HSF.out.leaves, HSF.out.perm, .inr ⟨by rw [HSF.out.len]; omega, r, by rw [show ((mo : Int).toNat) = mo by simp]; exact HLV.out.1, by rw [HSF.out.len, HK.out]; exact HLV.out.2, by rw [HSF.out.len, HK.out]⟩⟩
            · have honei : ¬ (1 : Int) < (M : Int) := by omega
              obtain ⟨g3, hgr, hrw⟩ : ∃ g, (M = 0 ∨ ao = some ⟨g, 0, none⟩) ∧ PRow w2 g 0 S := by
                rcases HSF.out.row with h | ⟨g, h1, _, _, _, h5⟩
                · refine ⟨0, .inl h, ?_⟩
                  rw [List.eq_nil_of_length_eq_zero (HSF.out.len.trans h)]
                  intro i t ht; simp at ht
                · exact ⟨g, .inr h1, h5⟩
              have HCB : Hid (∀ i, cntL i S < 4611686018427387904) := fun i => by
                have h1 := cntL_le_wtL HOK.out i
                have := HWT.out
                omega
              have H3 : Hid (LenSt w w2 w.heap.size N g3 0 S 0) := ⟨HLB.out.congr (fun i _ => by simp [cntL]), hrw, HSF.out.laid, HB2.out, Nat.le_refl _⟩
              clear hrw
              rcases hgr with hM0 | hao
              · go_wp2
                go_loopw [9, 45] (fun _ v45 wr => ∃ j : Nat, v45 = .int .i64 j ∧ j ≤ M ∧ Hid (LenSt w wr w.heap.size N g3 0 S j)) (fun _ v45 _ => M - (intOf v45).toNat)
                case atStart => exact ⟨0, rfl, by omega, H3⟩
                case round =>
                  obtain ⟨j, rfl, hj, HS⟩ := hrel
                  by_cases hlt : j < M
                  · omega
                  · obtain rfl : j = M := by omega
                    go_wp2
                    go_ret2
                    refine .inl ⟨by rw [HN.out]; omega, HQ.out, by omega, by omega, ?_, ?_⟩
                    · rw [HN.out, HMC.out, show ((mo : Int).toNat) = mo by simp, HTT.out]; omega
                    · refine ⟨w.heap.size, _, S, l, by rw [HN.out]; rfl, by rw [HN.out]; exact HS.out.lb, Nat.le_refl _, HS.out.bel, HSF.out.asc, by rw [HN.out]; exact HSF.out.leaves, HSF.out.perm, .inl ⟨by rw [HSF.out.len]; omega, ?_⟩⟩
                      rw [List.take_of_length_le (by rw [HSF.out.len]; exact Nat.le_refl _)]
              · subst hao
                rcases Nat.eq_zero_or_pos M with hM0 | hM0
                · subst hM0
                  have H4 := H3
                  go_wp2
                  refine wp_loop_rounds 1 ?_
                  rw [rounds_succ]
                  go_wp2
                  go_ret2
                  refine .inl ⟨by rw [HN.out]; omega, HQ.out, by omega, by omega, ?_, ?_⟩
                  · rw [HN.out, HMC.out, show ((mo : Int).toNat) = mo by simp, HTT.out]; omega
                  · refine ⟨w.heap.size, _, S, l, by rw [HN.out]; rfl, by rw [HN.out]; exact H4.out.lb, Nat.le_refl _, H4.out.bel, HSF.out.asc, by rw [HN.out]; exact HSF.out.leaves, HSF.out.perm, .inl ⟨by rw [HSF.out.len]; omega, ?_⟩⟩
                    rw [List.take_of_length_le (by rw [HSF.out.len]; exact Nat.le_refl _)]
                obtain rfl : M = 1 := by omega
                obtain ⟨t, ht⟩ : ∃ t, S[0]? = some t := ⟨_, List.getElem?_eq_getElem (by have := HSF.out.len; omega)⟩
                obtain ⟨k1, k2⟩ := H3.out.row 0 t ht
                have hst : Hid (∀ ob, Calls Tryd.prog t.fn t.cap (w2.alloc ob) fun e w' => e = .returned (.tuple #[]) ∧ LenSt w w' w.heap.size N g3 0 S 1) := fun ob => H3.out.step (w' := w) ht HCB.out
                unfold PT.fv at k2
                obtain ⟨kf, hkf⟩ : ∃ k, t.fn = k := ⟨_, rfl⟩
                obtain ⟨kc, hkc⟩ : ∃ k, t.cap = k := ⟨_, rfl⟩
                obtain ⟨kw, hkw⟩ : ∃ k, t.wt = k := ⟨_, rfl⟩
                have hk2 : kf = 84 ∨ kf = 99 := by rw [← hkf]; unfold PT.fn; split <;> simp
                rw [hkf, hkc] at k2 hst
                rw [hkw] at k1
                have k1 : w2.cell? ⟨g3, 0, none⟩ = some (.int .i64 (kw : Nat)) := k1
                have k2 : w2.cell? ⟨g3, 1, none⟩ = some (.func (.func kf) #[] kc) := k2
                clear hkf hkc hkw ht
                go_wp2
                refine wp_loop_rounds 2 ?_
                rw [rounds_succ]
                rcases hk2 with rfl | rfl
                all_goals
                  go_wp2_with fail
                  refine (hst.out _).mono ?_
                  rintro e w4 ⟨rfl, h4⟩
                  have H4 : Hid (LenSt w w4 w.heap.size N g3 0 S 1) := h4
                  clear h4
                  go_wp2
                  rw [rounds_succ]
                  go_wp2
                  go_ret2
                  refine .inl ⟨by rw [HN.out]; omega, HQ.out, by omega, by omega, ?_, ?_⟩
                  · rw [HN.out, HMC.out, show ((mo : Int).toNat) = mo by simp, HTT.out]; omega
                  · refine ⟨w.heap.size, _, S, l, by rw [HN.out]; rfl, by rw [HN.out]; exact H4.out.lb, Nat.le_refl _, H4.out.bel, HSF.out.asc, by rw [HN.out]; exact HSF.out.leaves, HSF.out.perm, .inl ⟨by rw [HSF.out.len]; omega, ?_⟩⟩
                    rw [List.take_of_length_le (by rw [HSF.out.len]; exact Nat.le_refl _)]
end Go.Proofs.YtbcflkdaeboflaaDoor
