/- What the best lengths are: a whole code, in the order of weights, and what it costs. -/
import Derived.Test.YtklipommocijaaaPi
import Derived.Test.YtklipommocijaaaGk
import Derived.Test.YtklipommocijaaaGs
import Derived.Test.YtklipommocijaaaGv
namespace Go.Proofs.Ytklipommocijaaa
open Go.RowKit PT
set_option linter.unusedVariables false

def lensOf (c : Nat → Nat) (N : Nat) : List Int := (List.range N).map fun i => ((c i : Nat) : Int)
theorem lensOf_length (c : Nat → Nat) (N : Nat) : (lensOf c N).length = N := by simp [lensOf]
theorem lensOf_get (c : Nat → Nat) {N i : Nat} (h : i < N) : (lensOf c N).getD i 0 = ((c i : Nat) : Int) := by
  rw [getD_in (by rw [lensOf_length]; exact h)]
  simp [lensOf]
theorem lensOf_out (c : Nat → Nat) {N i : Nat} (h : N ≤ i) : (lensOf c N).getD i 0 = 0 := by
  rw [List.getD_eq_getElem?_getD, List.getElem?_eq_none (by rw [lensOf_length]; exact h)]; rfl
theorem LB.row {w : World} {L N : Nat} {c : Nat → Nat} (h : LB w L N c) : IRow w (some ⟨L, 0, none⟩) (lensOf c N) := by
  refine .inr ⟨L, 0, rfl, lt_heap h, fun i hi => ?_⟩
  rw [lensOf_length] at hi
  rw [lensOf_get c hi, Nat.zero_add]
  exact (h.cell hi).1
theorem sum_mul {L : List Nat} {f : Nat → Nat} (K : Nat) : (L.map fun s => K * f s).sum = K * (L.map f).sum := by
  induction L with
  | nil => simp
  | cons t r ih => simp only [List.map_cons, List.sum_cons, ih, Nat.mul_add]
theorem sum_more {L : List Nat} {f : Nat → Nat} (hf : ∀ s, 1 ≤ f s) {s : Nat} (hs : s ∈ L) : f s + (L.length - 1) ≤ (L.map f).sum := by
  have hlen : ∀ M : List Nat, M.length ≤ (M.map f).sum := by
    intro M
    induction M with
    | nil => simp
    | cons t r ih => have := hf t; simp only [List.map_cons, List.sum_cons, List.length_cons]; omega
  induction L with
  | nil => simp at hs
  | cons t r ih =>
    simp only [List.map_cons, List.sum_cons, List.length_cons]
    rcases List.mem_cons.1 hs with rfl | hs
    · have := hlen r; omega
    · have := ih hs
      have := hf t
      have : 0 < r.length := List.length_pos_of_mem hs
      omega
theorem Leaves.sys {fs : List Int} : ∀ {ss : List Nat} {l : List PT}, Leaves fs ss l → l.map sy = ss
  | [], [], _ => rfl
  | [], t :: l, h => by simp [Leaves] at h
  | s :: ss, [], h => by simp [Leaves] at h
  | s :: ss, t :: l, h => by
    simp only [Leaves, List.map_cons, List.cons.injEq] at h
    have ih := Leaves.sys (fs := fs) (ss := ss) (l := l) h.2
    rw [List.map_cons, ih]
    have : t.syms = [s] := by have := h.1; simp only [Prod.mk.injEq] at this; exact this.1
    unfold sy
    rw [this]; rfl
theorem sing_of {fs : List Int} {n : Nat} {S l : List PT} (h : Leaves fs (comes fs n) l) (hp : S.Perm l) : Sing (frq fs) S := by
  refine ⟨fun t ht => ?_, ?_⟩
  · obtain ⟨s, hs, e1, e2, _⟩ := h.at (hp.mem_iff.1 ht)
    have : sy t = s := by unfold sy; rw [e1]; rfl
    rw [this]
    refine ⟨e1, e2, ?_⟩
    have := (comes_lt hs).2
    unfold frq; omega
  · refine (hp.map sy).nodup_iff.2 ?_
    rw [h.sys]
    exact List.nodup_range.sublist List.filter_sublist
theorem mem_comes {fs : List Int} {n s : Nat} : s ∈ comes fs n ↔ s < n ∧ 0 < fs.getD s 0 := by
  unfold comes
  simp only [List.mem_filter, List.mem_range, decide_eq_true_eq]
theorem shr_comes {fs : List Int} {ns : List Nat} : ∀ {j : Nat}, (∀ i, i < j → (0 < fs.getD i 0 ↔ ns.getD i 0 ≠ 0)) → shr ns j = ((comes fs j).map fun s => 2 ^ (15 - ns.getD s 0)).sum
  | 0, _ => rfl
  | j + 1, h => by
    have ih := shr_comes (fs := fs) (ns := ns) (j := j) (fun i hi => h i (by omega))
    have hj := h j (by omega)
    rw [comes_succ]
    simp only [shr, ih]
    by_cases e : 0 < fs.getD j 0
    · rw [if_pos e, if_neg (hj.1 e), List.map_append, List.sum_append]; simp
    · have : ns.getD j 0 = 0 := by
        rcases Nat.eq_zero_or_pos (ns.getD j 0) with h0 | h0
        · exact h0
        · exact absurd (hj.2 (by omega)) e
      rw [if_neg e, if_pos this]; rfl
theorem costTo_wsum {fs : List Int} {c : Nat → Nat} {N : Nat} : ∀ {j : Nat}, j ≤ N → costTo fs (lensOf c N) j = wsum (frq fs) c j
  | 0, _ => rfl
  | j + 1, h => by
    have ih := costTo_wsum (fs := fs) (c := c) (N := N) (j := j) (by omega)
    simp only [costTo, wsum, ih]
    rw [lensOf_get c (show j < N by omega)]; simp

/-- What there is to know of lengths that Lengths told. -/
structure BestL (fs : List Int) (mo : Nat) (c : Nat → Nat) (W : List Nat) : Prop where
  top : ∀ i, i < fs.length → c i ≤ mo
  has : ∀ i, i < fs.length → (0 < fs.getD i 0 ↔ 0 < c i)
  order : ∀ i k, i < fs.length → k < fs.length → fs.getD k 0 < fs.getD i 0 → 0 < fs.getD k 0 → c i ≤ c k
  code : isCode (lensOf c fs.length) = true
  whole : 2 ≤ (comes fs fs.length).length → shareV (lensOf c fs.length) = 32768
  up : Up W
  perm : W.Perm ((comes fs fs.length).map (frq fs))
  cost1 : W.length ≤ 1 → costTo fs (lensOf c fs.length) fs.length = W.sum
  cost : 2 ≤ W.length → costTo fs (lensOf c fs.length) fs.length = ((LW W (mo - 1)).take (2 * W.length - 2)).sum
  wide : 2 ≤ W.length → ∀ k d, k + d = mo - 1 → ((LW W (mo - 1)).take (2 * W.length - 2)).sum ≤ ((LW W k).take (2 * W.length - 2)).sum ∨ (LW W k).length < 2 * W.length - 2
theorem BestL.lacks {fs : List Int} {mo : Nat} {c : Nat → Nat} {W : List Nat} (h : BestL fs mo c W) : ∀ {j : Nat}, j ≤ fs.length → Go.Proofs.Ytklipommocijaaa.lacks fs (lensOf c fs.length) j = false
  | 0, _ => rfl
  | j + 1, hj => by
    simp only [Go.Proofs.Ytklipommocijaaa.lacks, h.lacks (j := j) (by omega), Bool.false_or]
    rw [lensOf_get c (by omega)]
    have := h.has j (by omega)
    by_cases e : 0 < fs.getD j 0
    · have := this.1 e
      rw [decide_eq_false (p := ((c j : Nat) : Int) = 0) (by omega)]; simp
    · rw [decide_eq_false e]; rfl
theorem nsOf_lens (c : Nat → Nat) {N i : Nat} (h : i < N) : (nsOf (lensOf c N)).getD i 0 = c i := by rw [nsOf_get, lensOf_get c h]; simp
theorem may_lens {c : Nat → Nat} {N : Nat} (hN : N ≤ 288) (h : ∀ i, i < N → c i ≤ 15) : may (lensOf c N) = true := by
  refine may_yes (by rw [lensOf_length]; exact hN) (fun i hi => ?_)
  rw [lensOf_length] at hi
  rw [lensOf_get c hi]
  have := h i hi
  omega
theorem share_lens {c : Nat → Nat} {fs : List Int} (h : ∀ i, i < fs.length → c i ≤ 15) (hh : ∀ i, i < fs.length → (0 < fs.getD i 0 ↔ 0 < c i)) : ew (nsOf (lensOf c fs.length)) 15 = ((comes fs fs.length).map fun s => 2 ^ (15 - c s)).sum := by
  have hl : (nsOf (lensOf c fs.length)).length = fs.length := by rw [nsOf_length, lensOf_length]
  rw [← shr_ew, hl, shr_comes (fs := fs)]
  · refine sum_congr (fun s hs => ?_)
    rw [nsOf_lens c (comes_lt hs).1]
  · intro i hi
    rw [nsOf_lens c hi, hh i hi]; omega
  · intro i
    by_cases hi : i < fs.length
    · rw [nsOf_lens c hi]; exact h i hi
    · rw [nsOf_get, lensOf_out c (by omega)]; simp
theorem best_of {fs : List Int} {mo : Nat} {c : Nat → Nat} {S l : List PT} (hN : fs.length ≤ 288) (h1 : 1 ≤ mo) (h2 : mo ≤ 15) (hasc : Asc S) (hlv : Leaves fs (comes fs fs.length) l) (hp : S.Perm l)
    (hc : (S.length ≤ 1 ∧ c = fun i => cntL i S) ∨ (2 ≤ S.length ∧ ∃ r, Lev S (mo - 1) r ∧ 2 * S.length - 2 ≤ r.length ∧ c = fun i => cntL i (r.take (2 * S.length - 2)))) : BestL fs mo c (S.map PT.wt) := by
  have hsg := sing_of hlv hp
  have hpm : (S.map sy).Perm (comes fs fs.length) := by rw [← hlv.sys]; exact hp.map sy
  have hsm : ∀ {s}, s ∈ S.map sy ↔ s < fs.length ∧ 0 < fs.getD s 0 := fun {s} => by rw [hpm.mem_iff, mem_comes]
  have hlen : S.length = (comes fs fs.length).length := by have := hpm.length_eq; simpa using this
  have hup : Up (S.map PT.wt) := asc_up hasc
  have hwp : (S.map PT.wt).Perm ((comes fs fs.length).map (frq fs)) := by
    have e : S.map PT.wt = (S.map sy).map (frq fs) := by
      rw [List.map_map]
      exact List.map_congr_left (fun t ht => (hsg.1 t ht).2.1)
    rw [e]
    exact hpm.map _
  have hsy : ∀ t ∈ S, ∀ s ∈ t.syms, s < fs.length := fun t ht s hs => by
    rw [(hsg.1 t ht).1] at hs
    simp at hs
    subst hs
    exact (hsm.1 (List.mem_map_of_mem ht)).1
  rcases hc with ⟨hS1, rfl⟩ | ⟨hS2, r, hr, hrl, rfl⟩
  · have hcnt : ∀ i, cntL i S = if i ∈ S.map sy then 1 else 0 := fun i => by
      have := cnt_take hsg i S.length
      rw [List.take_length, ← List.length_map (f := sy), List.take_length] at this
      exact this
    have htop : ∀ i, cntL i S ≤ 1 := fun i => by rw [hcnt]; split <;> omega
    have hhas : ∀ i, i < fs.length → (0 < fs.getD i 0 ↔ 0 < cntL i S) := fun i hi => by
      rw [hcnt]
      by_cases e : 0 < fs.getD i 0
      · rw [if_pos (hsm.2 ⟨hi, e⟩)]; exact ⟨fun _ => by omega, fun _ => e⟩
      · rw [if_neg (fun h => e (hsm.1 h).2)]; exact ⟨fun h => absurd h e, fun h => by omega⟩
    refine ⟨fun i _ => Nat.le_trans (htop i) h1, hhas, fun i k hi hk h3 h4 => ?_, ?_, fun h => by omega, hup, hwp, fun _ => ?_, fun h => by simp at h; omega, fun h => by simp at h; omega⟩
    · exfalso
      have m1 : i ∈ S.map sy := hsm.2 ⟨hi, by omega⟩
      have m2 : k ∈ S.map sy := hsm.2 ⟨hk, h4⟩
      obtain ⟨t, ht⟩ : ∃ t, S = [t] := List.length_eq_one_iff.1 (by
        have : 0 < (S.map sy).length := List.length_pos_of_mem m1
        rw [List.length_map] at this; omega)
      rw [ht] at m1 m2
      simp at m1 m2
      rw [← m1] at m2
      subst m2
      omega
    · rw [isCode_iff]
      refine ⟨may_lens hN (fun i _ => Nat.le_trans (htop i) (by omega)), ?_⟩
      rw [share_lens (fun i _ => Nat.le_trans (htop i) (by omega)) hhas]
      have h3 : ((comes fs fs.length).map fun s => 2 ^ (15 - cntL s S)).sum ≤ (comes fs fs.length).length * 16384 := by
        rw [sum_same (d := 16384)]
        · exact Nat.le_refl _
        · intro s hs
          rw [hcnt, if_pos (hpm.mem_iff.2 hs)]
      omega
    · rw [costTo_wsum (Nat.le_refl _), ← wtL_wsum hsg.ok hsy, wtL_sum]
  · have hk := Lev.kraft hsg hasc (2 * S.length - 2) hr hrl
    have e1 : mo - 1 + 1 = mo := by omega
    rw [e1] at hk
    have hK : (((S.map sy).map fun s => 2 ^ (mo - cntL s (r.take (2 * S.length - 2)))).sum) = 2 ^ mo := by
      have h := hk.2
      have e2 : 2 ^ mo = 2 * 2 ^ (mo - 1) := by rw [← e1, Nat.pow_succ, Nat.add_sub_cancel]; omega
      rw [e2] at h ⊢
      obtain ⟨P, hP⟩ : ∃ P, 2 ^ (mo - 1) = P := ⟨_, rfl⟩
      rw [hP] at h ⊢
      have e3 : (2 * S.length - 2) * P = 2 * (S.length * P) - 2 * P := by rw [Nat.sub_mul, Nat.mul_assoc]
      have e4 : S.length * (2 * P) = 2 * (S.length * P) := by rw [Nat.mul_left_comm]
      have e5 : 2 * P ≤ S.length * P := Nat.mul_le_mul_right P hS2
      rw [e3, e4] at h
      omega
    have htop : ∀ i, cntL i (r.take (2 * S.length - 2)) ≤ mo := hk.1
    have hone : ∀ i, i ∈ S.map sy → 0 < cntL i (r.take (2 * S.length - 2)) := fun i hi => by
      rcases Nat.eq_zero_or_pos (cntL i (r.take (2 * S.length - 2))) with h0 | h0
      · exfalso
        have := sum_more (f := fun s => 2 ^ (mo - cntL s (r.take (2 * S.length - 2)))) (fun s => Nat.pos_of_ne_zero (by simp)) hi
        rw [hK, h0, List.length_map] at this
        simp at this
        omega
      · exact h0
    have hnone : ∀ i, 0 < cntL i (r.take (2 * S.length - 2)) → i ∈ S.map sy := fun i h0 => Lev.mem hsg hr (Nat.lt_of_lt_of_le h0 (cntL_take_le i r _))
    have hhas : ∀ i, i < fs.length → (0 < fs.getD i 0 ↔ 0 < cntL i (r.take (2 * S.length - 2))) := fun i hi =>
      ⟨fun h => hone i (hsm.2 ⟨hi, h⟩), fun h => (hsm.1 (hnone i h)).2⟩
    have hshare : ew (nsOf (lensOf (fun i => cntL i (r.take (2 * S.length - 2))) fs.length)) 15 = 32768 := by
      rw [share_lens (fun i _ => Nat.le_trans (htop i) h2) hhas]
      have h3 : ((comes fs fs.length).map fun s => 2 ^ (15 - cntL s (r.take (2 * S.length - 2)))).sum = ((S.map sy).map fun s => 2 ^ (15 - cntL s (r.take (2 * S.length - 2)))).sum := (hpm.map _).sum_nat.symm
      rw [h3, sum_congr (g := fun s => 2 ^ (15 - mo) * 2 ^ (mo - cntL s (r.take (2 * S.length - 2)))) (fun s _ => by
        have := htop s
        rw [← Nat.pow_add]; congr 1; omega), sum_mul, hK, ← Nat.pow_add, show 15 - mo + mo = 15 by omega]
    have hmay := may_lens hN (fun i (_ : i < fs.length) => Nat.le_trans (htop i) h2)
    refine ⟨fun i _ => htop i, hhas, fun i k hi hk h3 h4 => ?_, ?_, fun _ => ?_, hup, hwp, fun h => by simp at h; omega, fun _ => ?_, fun _ k d hkd => ?_⟩
    · have m1 : i ∈ S.map sy := hsm.2 ⟨hi, by omega⟩
      have m2 : k ∈ S.map sy := hsm.2 ⟨hk, h4⟩
      obtain ⟨q, hq, rfl⟩ := List.getElem_of_mem m1
      obtain ⟨p, hpp, rfl⟩ := List.getElem_of_mem m2
      by_cases hpq : p ≤ q
      · exact Lev.falls hsg hasc hpq hq _ hr hrl
      · exfalso
        have hq' : q < S.length := by simpa using hq
        have hp' : p < S.length := by simpa using hpp
        have hw := List.pairwise_iff_getElem.1 hasc q p hq' hp' (by omega)
        have a1 := (hsg.1 S[q] (List.getElem_mem _)).2.1
        have a2 := (hsg.1 S[p] (List.getElem_mem _)).2.1
        have b1 : (S.map sy)[q] = sy S[q] := by simp
        have b2 : (S.map sy)[p] = sy S[p] := by simp
        rw [a1, a2] at hw
        rw [b1, b2] at h3
        unfold frq at hw
        rw [b2] at h4
        omega
    · rw [isCode_iff]
      exact ⟨hmay, by rw [hshare]; omega⟩
    · unfold shareV
      rw [if_pos hmay, hshare]; rfl
    · rw [costTo_wsum (Nat.le_refl _), ← wtL_wsum (fun t ht => Lev.ok hsg.ok hr t (List.mem_of_mem_take ht)) (fun t ht => Lev.syms hsy hr t (List.mem_of_mem_take ht)), wtL_sum, List.map_take, Lev.weights hasc hr, List.length_map]
    · rw [← hkd] at hr ⊢
      obtain ⟨l0, hl0, hpd⟩ := Lev.wider hasc d hr
      rw [← Lev.weights hasc hr, ← Lev.weights hasc hl0, List.length_map, List.length_map, ← List.map_take, ← List.map_take, ← wtL_sum, ← wtL_sum]
      by_cases hle : 2 * S.length - 2 ≤ l0.length
      · exact .inl (hpd.2 _ hle)
      · exact .inr (by omega)
end Go.Proofs.Ytklipommocijaaa
