/- Merging two sorted parts by turning their middle: why it sorts (plain). -/
import Derived.Test.YtklipommocijaaaGza
namespace Go.Proofs.Ytklipommocijaaa
open Go.RowKit PT Go.Sort
set_option linter.unusedVariables false

theorem srt_iff {x y : Nat} {d : Array PT} : SortedIn (ltOf cf) x y d ↔ ∀ i j, x ≤ i → i < j → j < y → d[i]!.wt ≤ d[j]!.wt := by
  constructor
  · intro h i j h1 h2 h3
    have := h i j h1 h2 h3
    rw [cf_lt] at this
    simpa using this
  · intro h i j h1 h2 h3
    rw [cf_lt]
    simpa using h i j h1 h2 h3
theorem srt_le {x y : Nat} {d : Array PT} (h : SortedIn (ltOf cf) x y d) {i j : Nat} (h1 : x ≤ i) (h2 : i ≤ j) (h3 : j < y) : d[i]!.wt ≤ d[j]!.wt := by
  rcases Nat.lt_or_ge i j with h' | h'
  · exact srt_iff.1 h i j h1 h' h3
  · rw [show i = j by omega]; exact Nat.le_refl _
theorem Rot.none {a m b : Nat} {d : Array PT} (h : a = m ∨ m = b) (ham : a ≤ m) (hmb : m ≤ b) : Rot a m b d d := ⟨rfl, fun t => by
  rcases h with rfl | rfl
  · by_cases e : a ≤ t ∧ t < a + (b - a)
    · rw [if_pos e, Nat.sub_self, Nat.add_zero]
    · rw [if_neg e, if_neg (by omega)]
  · rw [if_neg (by omega)]
    by_cases e : a + (m - m) ≤ t ∧ t < m
    · rw [if_pos e, Nat.sub_self, Nat.sub_zero]
    · rw [if_neg e]⟩

/-- What the search for the parts to be turned has found. -/
structure Cut (a m b mid s e : Nat) (d : Array PT) : Prop where
  le : a ≤ s ∧ s ≤ m ∧ m ≤ e ∧ e ≤ b
  mid : s + e = mid + m ∧ s ≤ mid ∧ mid ≤ e
  low : a < s → e < b → d[s - 1]!.wt ≤ d[e]!.wt
  high : m < e → s < m → d[e - 1]!.wt ≤ d[s]!.wt
theorem Cut.parts {a m b mid s e : Nat} {d d1 : Array PT} (c : Cut a m b mid s e d) (h1 : SortedIn (ltOf cf) a m d) (h2 : SortedIn (ltOf cf) m b d) (r : Rot s m e d d1) :
    SortedIn (ltOf cf) a s d1 ∧ SortedIn (ltOf cf) s mid d1 ∧ SortedIn (ltOf cf) mid e d1 ∧ SortedIn (ltOf cf) e b d1 ∧ ∀ p q, a ≤ p → p < mid → mid ≤ q → q < b → d1[p]!.wt ≤ d1[q]!.wt := by
  obtain ⟨l1, l2, l3, l4⟩ := c.le
  obtain ⟨m1, m2, m3⟩ := c.mid
  have gA : ∀ t, t < s → d1[t]! = d[t]! := fun t ht => by rw [r.2, if_neg (by omega), if_neg (by omega)]
  have gB : ∀ t, s ≤ t → t < mid → d1[t]! = d[t + (m - s)]! := fun t h h' => by rw [r.2, if_pos (by omega)]
  have gC : ∀ t, mid ≤ t → t < e → d1[t]! = d[t - (e - m)]! := fun t h h' => by rw [r.2, if_neg (by omega), if_pos (by omega)]
  have gD : ∀ t, e ≤ t → d1[t]! = d[t]! := fun t h => by rw [r.2, if_neg (by omega), if_neg (by omega)]
  refine ⟨?_, ?_, ?_, ?_, ?_⟩
  · refine srt_iff.2 (fun i j h h' h'' => ?_)
    rw [gA i (by omega), gA j (by omega)]
    exact srt_iff.1 h1 i j h h' (by omega)
  · refine srt_iff.2 (fun i j h h' h'' => ?_)
    rw [gB i h (by omega), gB j (by omega) h'']
    exact srt_iff.1 h2 _ _ (by omega) (by omega) (by omega)
  · refine srt_iff.2 (fun i j h h' h'' => ?_)
    rw [gC i h (by omega), gC j (by omega) h'']
    exact srt_iff.1 h1 _ _ (by omega) (by omega) (by omega)
  · refine srt_iff.2 (fun i j h h' h'' => ?_)
    rw [gD i h, gD j (by omega)]
    exact srt_iff.1 h2 i j (by omega) h' h''
  · intro p q hp1 hp2 hq1 hq2
    rcases Nat.lt_or_ge p s with hp | hp
    · rw [gA p hp]
      rcases Nat.lt_or_ge q e with hq | hq
      · rw [gC q hq1 hq]
        exact srt_le h1 hp1 (by omega) (by omega)
      · rw [gD q hq]
        have x1 := srt_le h1 hp1 (show p ≤ s - 1 by omega) (by omega)
        have x2 := c.low (by omega) (by omega)
        have x3 := srt_le h2 (show m ≤ e by omega) hq hq2
        omega
    · rw [gB p hp hp2]
      rcases Nat.lt_or_ge q e with hq | hq
      · rw [gC q hq1 hq]
        have x1 := srt_le h2 (show m ≤ p + (m - s) by omega) (show p + (m - s) ≤ e - 1 by omega) (by omega)
        have x2 := c.high (by omega) (by omega)
        have x3 := srt_le h1 (show a ≤ s by omega) (show s ≤ q - (e - m) by omega) (by omega)
        omega
      · rw [gD q hq]
        exact srt_le h2 (by omega) (by omega) hq2
/-- Both halves sorted, none of the one above any of the other. -/
theorem sorted_join {a mid b N : Nat} {d1 d2 d3 : Array PT} (hs : d1.size = N) (hb : b ≤ N) (ham : a ≤ mid) (hmb : mid ≤ b) (hx : ∀ p q, a ≤ p → p < mid → mid ≤ q → q < b → d1[p]!.wt ≤ d1[q]!.wt)
    (p2 : PermIn a mid d1 d2) (s2 : SortedIn (ltOf cf) a mid d2) (p3 : PermIn mid b d2 d3) (s3 : SortedIn (ltOf cf) mid b d3) : SortedIn (ltOf cf) a b d3 := by
  have hx2 : ∀ p q, a ≤ p → p < mid → mid ≤ q → q < b → d2[p]!.wt ≤ d2[q]!.wt := fun p q h1 h2 h3 h4 => by
    rw [p2.2.1 q (by omega)]
    exact permIn_all d1 d2 a mid (fun x => x.wt ≤ d1[q]!.wt) (by omega) p2 (fun i hi hi' => hx i q hi hi' h3 h4) p h1 h2
  have hx3 : ∀ p q, a ≤ p → p < mid → mid ≤ q → q < b → d3[p]!.wt ≤ d3[q]!.wt := fun p q h1 h2 h3 h4 => by
    rw [p3.2.1 p (by omega)]
    exact permIn_all d2 d3 mid b (fun x => d2[p]!.wt ≤ x.wt) (by rw [p2.1, hs]; exact hb) p3 (fun i hi hi' => hx2 p i h1 h2 hi hi') q h3 h4
  refine srt_iff.2 (fun i j h1 h2 h3 => ?_)
  rcases Nat.lt_or_ge j mid with hj | hj
  · rw [p3.2.1 i (by omega), p3.2.1 j (by omega)]
    exact srt_iff.1 s2 i j h1 h2 hj
  · rcases Nat.lt_or_ge i mid with hi | hi
    · exact hx3 i j h1 hi hj h3
    · exact srt_iff.1 s3 i j hi h2 h3
end Go.Proofs.Ytklipommocijaaa
