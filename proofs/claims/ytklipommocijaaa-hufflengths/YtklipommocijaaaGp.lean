/- The example of the best lengths: 5 1 1 by 3 are 1 2 2. -/
import Derived.Test.YtklipommocijaaaGk
namespace Go.Proofs.Ytklipommocijaaa
open Go.RowKit PT
set_option linter.unusedVariables false

theorem pairs_cons2 {a b : PT} {l m : List PT} (h : Pairs (a :: b :: l) m) : ∃ x y m', m = PT.node a b x y :: m' ∧ Pairs l m' := by
  obtain ⟨u, m', rfl, ⟨x, y, rfl⟩, h⟩ := h
  exact ⟨x, y, m', rfl, h⟩
theorem lev_three {a b c : PT} {r : List PT} (ha : a.wt = 1) (hb : b.wt = 1) (hc : c.wt = 5) (h : Lev [a, b, c] 2 r) (i : Nat) : cntL i (r.take 4) = 2 * a.cnt i + 2 * b.cnt i + c.cnt i := by
  obtain ⟨l, m, ⟨l0, m0, h0, hp0, rfl⟩, hp, rfl⟩ := h
  have e0 : l0 = [a, b, c] := h0
  subst e0
  obtain ⟨x, y, m1, rfl, h1⟩ := pairs_cons2 hp0
  have e1 : m1 = [] := h1
  subst e1
  have e2 : mrg [a, b, c] [PT.node a b x y] = [a, b, PT.node a b x y, c] := by
    rw [mrg_cons, if_neg (by rw [PT.wt_node, ha, hb]; omega), mrg_cons, if_neg (by rw [PT.wt_node, ha, hb]; omega), mrg_cons, if_pos (by rw [PT.wt_node, ha, hb, hc]; omega), mrg_nil_right]
  rw [e2] at hp
  obtain ⟨x2, y2, m2, rfl, h2⟩ := pairs_cons2 hp
  obtain ⟨x3, y3, m3, rfl, h3⟩ := pairs_cons2 h2
  have e3 : m3 = [] := h3
  subst e3
  have e4 : mrg [a, b, c] [PT.node a b x2 y2, PT.node (PT.node a b x y) c x3 y3] = [a, b, PT.node a b x2 y2, c, PT.node (PT.node a b x y) c x3 y3] := by
    rw [mrg_cons, if_neg (by rw [PT.wt_node, ha, hb]; omega), mrg_cons, if_neg (by rw [PT.wt_node, ha, hb]; omega), mrg_cons, if_pos (by rw [PT.wt_node, ha, hb, hc]; omega), mrg_cons, if_neg (by rw [PT.wt_node, PT.wt_node, ha, hb, hc]; omega), mrg_nil]
  rw [e4]
  simp only [List.take_succ_cons, List.take_zero, cntL, PT.cnt_node]
  omega
theorem example_lens {S l r : List PT} (hS : Asc S) (hl : Leaves [5, 1, 1] (comes [5, 1, 1] 3) l) (hp : S.Perm l) (h : Lev S 2 r) : cntL 0 (r.take 4) = 1 ∧ cntL 1 (r.take 4) = 2 ∧ cntL 2 (r.take 4) = 2 := by
  have hcm : comes [5, 1, 1] 3 = [0, 1, 2] := by decide
  rw [hcm] at hl
  have hlen : l.length = 3 := hl.length
  match l, hlen with
  | [t0, t1, t2], _ =>
    unfold Leaves at hl
    simp only [List.map_cons, List.map_nil, List.cons.injEq, Prod.mk.injEq, and_true] at hl
    obtain ⟨⟨a1, a2, _⟩, ⟨b1, b2, _⟩, ⟨c1, c2, _⟩⟩ := hl
    have a2' : t0.wt = 5 := a2
    have b2' : t1.wt = 1 := b2
    have c2' : t2.wt = 1 := c2
    have hsl : S.length = 3 := hp.length_eq
    match S, hsl with
    | [a, b, c], _ =>
      have hw := wtL_perm hp
      simp only [wtL, a2', b2', c2'] at hw
      have hm : ∀ t ∈ [a, b, c], t = t0 ∨ t = t1 ∨ t = t2 := fun t ht => by simpa using hp.mem_iff.1 ht
      have hwt : ∀ t ∈ [a, b, c], t.wt = 5 ∨ t.wt = 1 := fun t ht => by
        rcases hm t ht with rfl | rfl | rfl
        · exact .inl a2'
        · exact .inr b2'
        · exact .inr c2'
      have wa := hwt a (by simp)
      have wb := hwt b (by simp)
      have wc := hwt c (by simp)
      have hab : a.wt ≤ b.wt ∧ b.wt ≤ c.wt := by
        unfold Asc at hS
        simp only [List.pairwise_cons, List.mem_cons, List.not_mem_nil, or_false] at hS
        exact ⟨hS.1 b (.inl rfl), hS.2.1 c rfl⟩
      have hc5 : c.wt = 5 := by omega
      have hc0 : c = t0 := by
        rcases hm c (by simp) with e | e | e
        · exact e
        · rw [e, b2'] at hc5; omega
        · rw [e, c2'] at hc5; omega
      have key := lev_three (by omega) (by omega) (by omega) h
      have hcnt := fun i => cntL_perm (s := i) hp
      simp only [cntL, hc0, Nat.add_zero] at hcnt
      simp only [hc0] at key
      have d0 : ∀ i, t0.cnt i = [0].count i := fun i => by unfold PT.cnt; rw [show t0.syms = [0] from a1]
      have d1 : ∀ i, t1.cnt i = [1].count i := fun i => by unfold PT.cnt; rw [show t1.syms = [1] from b1]
      have d2 : ∀ i, t2.cnt i = [2].count i := fun i => by unfold PT.cnt; rw [show t2.syms = [2] from c1]
      have q0 := hcnt 0; have q1 := hcnt 1; have q2 := hcnt 2
      rw [key 0, key 1, key 2]
      rw [d0, d1, d2] at q0 q1 q2
      rw [d0, d0, d0]
      simp at q0 q1 q2 ⊢
      omega
end Go.Proofs.Ytklipommocijaaa
