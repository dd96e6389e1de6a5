/-
  What the lightest packages make of lengths (plain mathematics, no program): a whole code, in the order of weights, and what it costs.
-/
import Derived.Test.YtklipommocijaaaPg
namespace Go.Proofs.Ytklipommocijaaa
open PT
set_option linter.unusedVariables false

/-- A pack's first symbol. -/
def sy (t : PT) : Nat := t.syms.headD 0
/-- Packs of one symbol each, none twice. -/
def Sing (F : Nat → Nat) (S : List PT) : Prop := (∀ t ∈ S, t.syms = [sy t] ∧ t.wt = F (sy t) ∧ 0 < F (sy t)) ∧ (S.map sy).Nodup
theorem Sing.ok {F : Nat → Nat} {S : List PT} (h : Sing F S) : OKL F S := fun t ht => by
  obtain ⟨h1, h2, h3⟩ := h.1 t ht
  exact ⟨by rw [h1, h2]; simp, by rw [h1]; intro s hs; simp at hs; rw [hs]; exact h3, by rw [h1]; simp⟩
theorem cntL_count {S : List PT} (h : ∀ t ∈ S, t.syms = [sy t]) (s : Nat) : cntL s S = (S.map sy).count s := by
  induction S with
  | nil => rfl
  | cons t r ih =>
    simp only [cntL, List.map_cons, List.count_cons]
    rw [ih (fun u hu => h u (by simp [hu]))]
    have h1 := h t (by simp)
    unfold PT.cnt
    rw [h1]
    simp only [List.count_cons, List.count_nil]
    omega
theorem count_one {l : List Nat} (h : l.Nodup) {s : Nat} (hm : s ∈ l) : l.count s = 1 := by
  induction l with
  | nil => simp at hm
  | cons t r ih =>
    have hn := List.nodup_cons.1 h
    rw [List.count_cons]
    by_cases e : t = s
    · subst e
      rw [List.count_eq_zero_of_not_mem hn.1]; simp
    · have : (t == s) = false := by simpa using e
      rw [this]
      rcases List.mem_cons.1 hm with h1 | h1
      · exact absurd h1.symm e
      · rw [ih hn.2 h1]; rfl
theorem cnt_take {F : Nat → Nat} {S : List PT} (h : Sing F S) (s x : Nat) : cntL s (S.take x) = if s ∈ (S.map sy).take x then 1 else 0 := by
  rw [cntL_count (fun t ht => (h.1 t (List.mem_of_mem_take ht)).1), List.map_take]
  have hn : ((S.map sy).take x).Nodup := h.2.sublist (List.take_sublist _ _)
  split
  · rename_i hm; exact count_one hn hm
  · rename_i hm; exact List.count_eq_zero_of_not_mem hm
theorem cntL_take_le (s : Nat) (l : List PT) (j : Nat) : cntL s (l.take j) ≤ cntL s l := by
  conv => rhs; rw [← List.take_append_drop j l]
  rw [cntL_append]; omega
theorem Lev.mem {F : Nat → Nat} {S : List PT} (hS : Sing F S) {s : Nat} : ∀ {k : Nat} {l : List PT}, Lev S k l → 0 < cntL s l → s ∈ S.map sy
  | 0, l, h, hc => by
    rw [show l = S from h] at hc
    have := cnt_take hS s S.length
    rw [List.take_length, ← List.length_map (f := sy), List.take_length] at this
    rw [this] at hc
    split at hc
    · assumption
    · omega
  | k + 1, r, ⟨l, m, h, hp, e⟩, hc => by
    rw [e, cntL_perm (mrg_perm S m), cntL_append] at hc
    by_cases h1 : 0 < cntL s S
    · exact Lev.mem hS (k := 0) (show Lev S 0 S from rfl) h1
    · have h2 := Pairs.cnt s hp m.length (Nat.le_refl _)
      rw [List.take_length] at h2
      have h3 := cntL_take_le s l (2 * m.length)
      exact Lev.mem hS h (by omega)
/-- One level down: of the first j so many singles, and pairs of the first ones there; whatever is in those is among these singles. -/
theorem Lev.step {F : Nat → Nat} {S : List PT} (hS : Sing F S) (ha : Asc S) {k : Nat} {r : List PT} (h : Lev S (k + 1) r) (j : Nat) (hj : j ≤ r.length) :
    ∃ l x y, Lev S k l ∧ x + y = j ∧ x ≤ S.length ∧ 2 * y ≤ l.length ∧ (∀ s, cntL s (r.take j) = cntL s (S.take x) + cntL s (l.take (2 * y))) ∧ (wtL (r.take j) = wtL (S.take x) + wtL (l.take (2 * y))) ∧ ∀ s, s ∉ (S.map sy).take x → cntL s (l.take (2 * y)) = 0 := by
  obtain ⟨l, m, hl, hp, rfl⟩ := h
  rw [mrg_length] at hj
  obtain ⟨x, y, h1, h2, h3, h4, h5⟩ := mrg_take S m j ha hj
  have hml := hp.length
  refine ⟨l, x, y, hl, h1, h2, by omega, fun s => ?_, ?_, fun s hs => ?_⟩
  · rw [cntL_perm h4, cntL_append, Pairs.cnt s hp y h3]
  · rw [wtL_perm h4, wtL_append, hp.wt y h3]
  · rcases Nat.eq_zero_or_pos (cntL s (l.take (2 * y))) with h0 | h0
    · exact h0
    · exfalso
      have hmem := Lev.mem hS hl (Nat.lt_of_lt_of_le h0 (cntL_take_le s l _))
      rw [← Pairs.cnt s hp y h3] at h0
      obtain ⟨t, ht, hc⟩ := cntL_pos h0
      have hw := Pairs.heavier hp (Lev.ok hS.ok hl) t (List.mem_of_mem_take ht) hc
      have hd : s ∈ (S.drop x).map sy := by
        rw [List.map_drop]
        have := hmem
        rw [← List.take_append_drop x (S.map sy)] at this
        rcases List.mem_append.1 this with h | h
        · exact absurd h hs
        · exact h
      obtain ⟨u, hu, rfl⟩ := List.mem_map.1 hd
      have := h5 t ht u hu
      have := (hS.1 u (List.mem_of_mem_drop hu)).2.1
      omega
theorem sum_same {α : Type} {L : List α} {f : α → Nat} {d : Nat} (h : ∀ s ∈ L, f s = d) : (L.map f).sum = L.length * d := by
  induction L with
  | nil => simp
  | cons s r ih =>
    simp only [List.map_cons, List.sum_cons, List.length_cons]
    rw [h s (by simp), ih (fun u hu => h u (by simp [hu])), Nat.add_mul, Nat.one_mul]; omega
theorem sum_congr {α : Type} {L : List α} {f g : α → Nat} (h : ∀ s ∈ L, f s = g s) : (L.map f).sum = (L.map g).sum := by rw [List.map_congr_left h]
theorem nodup_apart {ss : List Nat} (h : ss.Nodup) {x s : Nat} (hd : s ∈ ss.drop x) : s ∉ ss.take x := by
  rw [← List.take_append_drop x ss] at h
  have := (List.nodup_append.1 h).2.2
  intro ht
  exact this s ht s hd rfl

/-- The share of what the first j packs of a level lengthen, and the first j themselves. -/
theorem Lev.kraft {F : Nat → Nat} {S : List PT} (hS : Sing F S) (ha : Asc S) : ∀ {k : Nat} {l : List PT} (j : Nat), Lev S k l → j ≤ l.length →
    (∀ s, cntL s (l.take j) ≤ k + 1) ∧ ((S.map sy).map fun s => 2 ^ (k + 1 - cntL s (l.take j))).sum + j * 2 ^ k = S.length * 2 ^ (k + 1)
  | 0, l, j, h, hj => by
    rw [show l = S from h] at hj ⊢
    have hc := fun s => cnt_take hS s j
    refine ⟨fun s => by rw [hc s]; split <;> omega, ?_⟩
    have hsp : (S.map sy) = (S.map sy).take j ++ (S.map sy).drop j := (List.take_append_drop j _).symm
    rw [hsp, List.map_append, List.sum_append]
    rw [sum_same (d := 1) (fun s hs => by rw [hc s, if_pos (by rw [hsp] at hs ⊢; simpa using hs)]), sum_same (d := 2) (fun s hs => by rw [hc s, if_neg (nodup_apart hS.2 hs)])]
    simp
    omega
  | k + 1, r, j, h, hj => by
    obtain ⟨l, x, y, hl, h1, h2, h3, h4, _, h5⟩ := Lev.step hS ha h j hj
    obtain ⟨i1, i2⟩ := Lev.kraft hS ha (2 * y) hl h3
    have hc := fun s => cnt_take hS s x
    refine ⟨fun s => by rw [h4 s, hc s]; have := i1 s; split <;> omega, ?_⟩
    have hsp : (S.map sy) = (S.map sy).take x ++ (S.map sy).drop x := (List.take_append_drop x _).symm
    have e1 : (((S.map sy).take x).map fun s => 2 ^ (k + 1 + 1 - cntL s (r.take j))).sum = (((S.map sy).take x).map fun s => 2 ^ (k + 1 - cntL s (l.take (2 * y)))).sum := sum_congr (fun s hs => by
      rw [h4 s, hc s, if_pos hs, show k + 1 + 1 - (1 + cntL s (l.take (2 * y))) = k + 1 - cntL s (l.take (2 * y)) by omega])
    have e2 : (((S.map sy).drop x).map fun s => 2 ^ (k + 1 + 1 - cntL s (r.take j))).sum = ((S.map sy).drop x).length * 2 ^ (k + 1 + 1) := sum_same (fun s hs => by
      have hn := nodup_apart hS.2 hs
      rw [h4 s, hc s, if_neg hn, h5 s hn]; rfl)
    have e3 : (((S.map sy).drop x).map fun s => 2 ^ (k + 1 - cntL s (l.take (2 * y)))).sum = ((S.map sy).drop x).length * 2 ^ (k + 1) := sum_same (fun s hs => by
      rw [h5 s (nodup_apart hS.2 hs)]; rfl)
    rw [hsp, List.map_append, List.sum_append, e3] at i2
    rw [hsp, List.map_append, List.sum_append, e1, e2]
    have hdl : ((S.map sy).drop x).length = S.length - x := by simp
    rw [hdl] at i2 ⊢
    obtain ⟨Q, hQ⟩ : ∃ Q, (((S.map sy).take x).map fun s => 2 ^ (k + 1 - cntL s (l.take (2 * y)))).sum = Q := ⟨_, rfl⟩
    rw [hQ] at i2 ⊢
    obtain ⟨d, hd⟩ : ∃ d, S.length - x = d := ⟨_, rfl⟩
    have hn : S.length = x + d := by omega
    rw [hd] at i2 ⊢
    rw [hn] at i2 ⊢
    subst h1
    have ep : 2 ^ (k + 1) = 2 * 2 ^ k := by rw [Nat.pow_succ, Nat.mul_comm]
    rw [Nat.pow_succ 2 (k + 1)]
    rw [ep] at i2 ⊢
    generalize 2 ^ k = P at i2 ⊢
    have f1 : d * (2 * P) = 2 * (d * P) := by rw [Nat.mul_left_comm]
    have f2 : 2 * y * P = 2 * (y * P) := by rw [Nat.mul_assoc]
    have f3 : (x + d) * (2 * P) = 2 * (x * P) + 2 * (d * P) := by rw [Nat.add_mul, Nat.mul_left_comm, Nat.mul_left_comm d]
    have f4 : d * (2 * P * 2) = 4 * (d * P) := by rw [show 2 * P * 2 = 4 * P by omega, Nat.mul_left_comm]
    have f5 : (x + y) * (2 * P) = 2 * (x * P) + 2 * (y * P) := by rw [Nat.add_mul, Nat.mul_left_comm, Nat.mul_left_comm y]
    have f6 : (x + d) * (2 * P * 2) = 4 * (x * P) + 4 * (d * P) := by rw [show 2 * P * 2 = 4 * P by omega, Nat.add_mul, Nat.mul_left_comm, Nat.mul_left_comm d]
    rw [f1, f2, f3] at i2
    rw [f4, f5, f6]
    omega
/-- Among the singles one that lies further on is lengthened no more often. -/
theorem Lev.falls {F : Nat → Nat} {S : List PT} (hS : Sing F S) (ha : Asc S) {p q : Nat} (hpq : p ≤ q) (hq : q < (S.map sy).length) : ∀ {k : Nat} {l : List PT} (j : Nat), Lev S k l → j ≤ l.length →
    cntL (S.map sy)[q] (l.take j) ≤ cntL (S.map sy)[p] (l.take j) := by
  have hin : ∀ x, (S.map sy)[q] ∈ (S.map sy).take x → (S.map sy)[p] ∈ (S.map sy).take x := fun x h => by
    obtain ⟨i, hi, e⟩ := List.mem_take_iff_getElem.1 h
    have hiq : i = q := (List.getElem_inj hS.2).1 e
    exact List.mem_take_iff_getElem.2 ⟨p, by omega, rfl⟩
  intro k
  induction k with
  | zero =>
    intro l j h hj
    rw [show l = S from h, cnt_take hS, cnt_take hS]
    by_cases e : (S.map sy)[q] ∈ (S.map sy).take j
    · rw [if_pos e, if_pos (hin j e)]; omega
    · rw [if_neg e]; omega
  | succ k ih =>
    intro r j h hj
    obtain ⟨l, x, y, hl, h1, h2, h3, h4, _, h5⟩ := Lev.step hS ha h j hj
    rw [h4, h4, cnt_take hS, cnt_take hS]
    by_cases e : (S.map sy)[q] ∈ (S.map sy).take x
    · have := ih (2 * y) hl h3
      rw [if_pos e, if_pos (hin x e)]; omega
    · rw [if_neg e, h5 _ e]; omega
end Go.Proofs.Ytklipommocijaaa
