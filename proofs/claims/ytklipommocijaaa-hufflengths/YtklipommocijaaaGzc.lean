/- One pack carried to its place among sorted ones: why it sorts (plain); the comparison as a walk meets it. -/
import Derived.Test.YtklipommocijaaaGzb
namespace Go.Proofs.Ytklipommocijaaa
open Go.RowKit PT Go.Sort
set_option linter.unusedVariables false

/-- What lay at a lies at k, what lay between moved down by one. -/
def ShU (a k : Nat) (d d' : Array PT) : Prop := d'.size = d.size ∧ ∀ t, d'[t]! = if a ≤ t ∧ t < k then d[t + 1]! else if t = k then d[a]! else d[t]!
theorem ShU.zero (a : Nat) (d : Array PT) : ShU a a d d := ⟨rfl, fun t => by
  rw [if_neg (by omega)]
  by_cases e : t = a
  · rw [if_pos e, e]
  · rw [if_neg e]⟩
theorem ShU.next {a k N : Nat} {d d' : Array PT} (h : ShU a k d d') (hd : d.size = N) (hak : a ≤ k) (hk : k + 1 < N) : ShU a (k + 1) d (swp d' k (k + 1)) := by
  refine ⟨by rw [size_swp, h.1], fun t => ?_⟩
  have hs : d'.size = N := h.1.trans hd
  rw [swp_get d' (by omega) (by omega) t]
  by_cases e1 : t = k + 1
  · subst e1
    rw [if_pos rfl, h.2, if_neg (by omega), if_pos rfl, if_neg (by omega), if_pos rfl]
  · rw [if_neg e1]
    by_cases e2 : t = k
    · subst e2
      rw [if_pos rfl, h.2, if_neg (by omega), if_neg (by omega), if_pos (by omega)]
    · rw [if_neg e2, h.2]
      by_cases e3 : a ≤ t ∧ t < k
      · rw [if_pos e3, if_pos (by omega)]
      · rw [if_neg e3, if_neg e2, if_neg (show ¬ (a ≤ t ∧ t < k + 1) by omega), if_neg e1]
theorem ShU.sorted {a i b : Nat} {d d' : Array PT} (h : ShU a (i - 1) d d') (hai : a + 1 ≤ i) (hib : i ≤ b) (hs : SortedIn (ltOf cf) (a + 1) b d) (hl : ∀ t, a + 1 ≤ t → t < i → d[t]!.wt < d[a]!.wt) (hr : ∀ t, i ≤ t → t < b → d[a]!.wt ≤ d[t]!.wt) : SortedIn (ltOf cf) a b d' := by
  refine srt_iff.2 (fun p q h1 h2 h3 => ?_)
  rw [h.2 p, h.2 q]
  by_cases p1 : a ≤ p ∧ p < i - 1
  · rw [if_pos p1]
    by_cases q1 : a ≤ q ∧ q < i - 1
    · rw [if_pos q1]; exact srt_iff.1 hs _ _ (by omega) (by omega) (by omega)
    · rw [if_neg q1]
      by_cases q2 : q = i - 1
      · rw [if_pos q2]; have := hl (p + 1) (by omega) (by omega); omega
      · rw [if_neg q2]; exact srt_iff.1 hs _ _ (by omega) (by omega) h3
  · rw [if_neg p1]
    by_cases p2 : p = i - 1
    · rw [if_pos p2, if_neg (by omega), if_neg (by omega)]; exact hr q (by omega) h3
    · rw [if_neg p2, if_neg (by omega), if_neg (by omega)]; exact srt_iff.1 hs _ _ (by omega) h2 h3
/-- What lay at m lies at k, what lay between moved up by one. -/
def ShD (m k : Nat) (d d' : Array PT) : Prop := d'.size = d.size ∧ ∀ t, d'[t]! = if k < t ∧ t ≤ m then d[t - 1]! else if t = k then d[m]! else d[t]!
theorem ShD.zero (m : Nat) (d : Array PT) : ShD m m d d := ⟨rfl, fun t => by
  rw [if_neg (by omega)]
  by_cases e : t = m
  · rw [if_pos e, e]
  · rw [if_neg e]⟩
theorem ShD.next {m k N : Nat} {d d' : Array PT} (h : ShD m (k + 1) d d') (hd : d.size = N) (hkm : k + 1 ≤ m) (hm : m < N) : ShD m k d (swp d' (k + 1) k) := by
  refine ⟨by rw [size_swp, h.1], fun t => ?_⟩
  have hs : d'.size = N := h.1.trans hd
  rw [swp_get d' (by omega) (by omega) t]
  by_cases e1 : t = k
  · subst e1
    rw [if_pos rfl, h.2, if_neg (by omega), if_pos rfl, if_neg (by omega), if_pos rfl]
  · rw [if_neg e1]
    by_cases e2 : t = k + 1
    · subst e2
      rw [if_pos rfl, h.2, if_neg (by omega), if_neg (by omega), if_pos (by omega), Nat.add_sub_cancel]
    · rw [if_neg e2, h.2]
      by_cases e3 : k + 1 < t ∧ t ≤ m
      · rw [if_pos e3, if_pos (by omega)]
      · rw [if_neg e3, if_neg e2, if_neg (show ¬ (k < t ∧ t ≤ m) by omega), if_neg e1]
theorem ShD.sorted {a i m : Nat} {d d' : Array PT} (h : ShD m i d d') (hai : a ≤ i) (him : i ≤ m) (hs : SortedIn (ltOf cf) a m d) (hl : ∀ t, a ≤ t → t < i → d[t]!.wt ≤ d[m]!.wt) (hr : ∀ t, i ≤ t → t < m → d[m]!.wt < d[t]!.wt) : SortedIn (ltOf cf) a (m + 1) d' := by
  refine srt_iff.2 (fun p q h1 h2 h3 => ?_)
  rw [h.2 p, h.2 q]
  by_cases q1 : i < q ∧ q ≤ m
  · rw [if_pos q1]
    by_cases p1 : i < p ∧ p ≤ m
    · rw [if_pos p1]; exact srt_iff.1 hs _ _ (by omega) (by omega) (by omega)
    · rw [if_neg p1]
      by_cases p2 : p = i
      · rw [if_pos p2]; have := hr (q - 1) (by omega) (by omega); omega
      · rw [if_neg p2]; exact srt_iff.1 hs _ _ h1 (by omega) (by omega)
  · rw [if_neg q1, if_neg (show ¬ (i < p ∧ p ≤ m) by omega), if_neg (show ¬ p = i by omega)]
    by_cases q2 : q = i
    · rw [if_pos q2]; exact hl p h1 (by omega)
    · rw [if_neg q2]; exact srt_iff.1 hs _ _ h1 h2 (by omega)

theorem cmp_at (x y : PT) (W : World) : Calls Try.prog 45 #[.agg #[.int .i64 (x.wt : Nat), x.fv], .agg #[.int .i64 (y.wt : Nat), y.fv]] W fun e w' => e = .returned (.int .i64 (cf x y)) ∧ ∃ q os', w' = grow (W.drewN q) os' := cmp_call x y W
theorem cf_neg {x y : PT} : cf x y < 0 ↔ x.wt < y.wt := by
  have := cf_lt x y
  unfold ltOf at this
  by_cases h : x.wt < y.wt
  · rw [decide_eq_true h] at this; simp at this; exact ⟨fun _ => h, fun _ => this⟩
  · rw [decide_eq_false h] at this; simp at this; exact ⟨fun h' => by omega, fun h' => absurd h' h⟩
theorem half (i j : Nat) (h : i < j) : i ≤ (i + j) / 2 ∧ (i + j) / 2 < j := by omega
end Go.Proofs.Ytklipommocijaaa
