/- Merging two sorted parts: the general way, and the function. -/
import Derived.Test.YtklipommocijaaaGze
namespace Go.Proofs.Ytklipommocijaaa
open Go.RowKit PT Go.Sort
set_option linter.unusedVariables false

/-- So far searched, for the parts to be turned. -/
structure FindM (w0 : World) (blk off N q s0 r0 s r : Nat) (d0 d : Array PT) (wr : World) : Prop where
  st : SortSt w0 blk off N d0 d wr
  le : s0 ≤ s ∧ s ≤ r ∧ r ≤ r0
  low : ∀ t, s0 ≤ t → t < s → d[t]!.wt ≤ d[q - t]!.wt
  high : ∀ t, r ≤ t → t < r0 → d[q - t]!.wt < d[t]!.wt

/-- The merging, of parts that are shorter than n together. -/
def SymAt (n : Nat) : Prop := ∀ (w0 : World) (blk off cap N a m b : Nat) (d0 d : Array PT) (w : World), b - a < n → SortSt w0 blk off N d0 d w → N ≤ 100000 → a < m → m < b → b ≤ N → SortedIn (ltOf cf) a m d → SortedIn (ltOf cf) m b d →
  Calls Try.prog 55 #[.slice (some ⟨blk, off, none⟩) N cap, .int .i64 a, .int .i64 m, .int .i64 b, .func (.func 45) #[] #[]] w fun e w' =>
    e = .returned (.tuple #[]) ∧ ∃ d', PermIn a b d d' ∧ SortedIn (ltOf cf) a b d' ∧ SWK PT.enc 2 w0 blk off d' w'

/-- What is known behind the turning. -/
structure Turned (w0 : World) (blk off N a mid b s e : Nat) (d0 d d1 : Array PT) (wr : World) : Prop where
  st : SortSt w0 blk off N d0 d1 wr
  perm : PermIn a b d d1
  p1 : SortedIn (ltOf cf) a s d1
  p2 : SortedIn (ltOf cf) s mid d1
  p3 : SortedIn (ltOf cf) mid e d1
  p4 : SortedIn (ltOf cf) e b d1
  less : ∀ p q, a ≤ p → p < mid → mid ≤ q → q < b → d1[p]!.wt ≤ d1[q]!.wt
/-- .. and behind the first half's merging. -/
structure Half (w0 : World) (blk off N a mid b s e : Nat) (d0 d d1 d2 : Array PT) (wr : World) : Prop where
  t : SortedIn (ltOf cf) mid e d2 ∧ SortedIn (ltOf cf) e b d2
  st : SortSt w0 blk off N d0 d2 wr
  size1 : d1.size = N
  perm : PermIn a b d d2
  less : ∀ p q, a ≤ p → p < mid → mid ≤ q → q < b → d1[p]!.wt ≤ d1[q]!.wt
  p12 : PermIn a mid d1 d2
  srt : SortedIn (ltOf cf) a mid d2
theorem Turned.half {w0 : World} {blk off N a mid b s e : Nat} {d0 d d1 d2 : Array PT} {wr w2 : World} (h : Turned w0 blk off N a mid b s e d0 d d1 wr) (hle : a ≤ s ∧ s ≤ mid ∧ mid ≤ e ∧ e ≤ b ∧ b ≤ N) (hp : PermIn a mid d1 d2) (hs : SortedIn (ltOf cf) a mid d2) (hw : SWK PT.enc 2 w0 blk off d2 w2) : Half w0 blk off N a mid b s e d0 d d1 d2 w2 :=
  ⟨⟨sortedIn_keep hp h.p3 (by omega), sortedIn_keep hp h.p4 (by omega)⟩, h.st.step (by omega) hp hw, h.st.size, permIn_trans _ _ _ _ _ h.perm (permIn_mono _ _ a mid a b (by omega) (by omega) (by rw [h.st.size]; omega) hp), h.less, hp, hs⟩
theorem Turned.half0 {w0 : World} {blk off N a mid b s e : Nat} {d0 d d1 : Array PT} {wr : World} (h : Turned w0 blk off N a mid b s e d0 d d1 wr) (hle : a ≤ s ∧ s ≤ mid ∧ mid ≤ e ∧ e ≤ b ∧ b ≤ N) (h0 : ¬ (a < s ∧ s < mid)) : Half w0 blk off N a mid b s e d0 d d1 d1 wr := by
  refine h.half hle (permIn_refl _ _ _) ?_ h.st.swk
  rcases Nat.lt_or_ge a s with h1 | h1
  · have : s = mid := by omega
    rw [← this]; exact h.p1
  · have : s = a := by omega
    rw [← this]; exact h.p2
theorem Half.done {w0 : World} {blk off N a mid b s e : Nat} {d0 d d1 d2 d3 : Array PT} {wr w3 : World} (h : Half w0 blk off N a mid b s e d0 d d1 d2 wr) (hle : a ≤ mid ∧ mid ≤ b ∧ b ≤ N) (hp : PermIn mid b d2 d3) (hs : SortedIn (ltOf cf) mid b d3) (hw : SWK PT.enc 2 w0 blk off d3 w3) : ∃ d', PermIn a b d d' ∧ SortedIn (ltOf cf) a b d' ∧ SWK PT.enc 2 w0 blk off d' w3 :=
  ⟨d3, permIn_trans _ _ _ _ _ h.perm (permIn_mono _ _ mid b a b (by omega) (by omega) (by rw [h.st.size]; omega) hp), sorted_join h.size1 hle.2.2 hle.1 hle.2.1 h.less h.p12 h.srt hp hs, hw⟩
theorem Half.done0 {w0 : World} {blk off N a mid b s e : Nat} {d0 d d1 d2 : Array PT} {wr : World} (h : Half w0 blk off N a mid b s e d0 d d1 d2 wr) (hle : a ≤ mid ∧ mid ≤ b ∧ b ≤ N) (he : mid ≤ e ∧ e ≤ b) (h0 : ¬ (mid < e ∧ e < b)) : ∃ d', PermIn a b d d' ∧ SortedIn (ltOf cf) a b d' ∧ SWK PT.enc 2 w0 blk off d' wr := by
  refine h.done hle (permIn_refl _ _ _) ?_ h.st.swk
  rcases Nat.lt_or_ge mid e with h1 | h1
  · have : e = b := by omega
    rw [← this]; exact h.t.1
  · have : e = mid := by omega
    rw [← this]; exact h.t.2
theorem cut_of {w0 : World} {blk off N a m b mid s0 r0 s : Nat} {d0 d : Array PT} {wr : World} (h : FindM w0 blk off N (mid + m - 1) s0 r0 s s d0 d wr) (ham : a < m) (hmb : m < b) (hmid : (a + b) / 2 = mid) (hc : (mid < m ∧ s0 = mid + m - b ∧ r0 = mid) ∨ (m ≤ mid ∧ s0 = a ∧ r0 = m)) : Cut a m b mid s (mid + m - s) d := by
  have hle := h.le
  refine ⟨by omega, by omega, fun h1 h2 => ?_, fun h1 h2 => ?_⟩
  · have := h.low (s - 1) (by omega) (by omega)
    rw [show mid + m - 1 - (s - 1) = mid + m - s by omega] at this
    exact this
  · have := h.high s (Nat.le_refl _) (by omega)
    rw [show mid + m - 1 - s = mid + m - s - 1 by omega] at this
    omega
theorem turned_of {w0 : World} {blk off N a m b mid s e : Nat} {d0 d d1 : Array PT} {wr w1 : World} (c : Cut a m b mid s e d) (h1 : SortedIn (ltOf cf) a m d) (h2 : SortedIn (ltOf cf) m b d) (hst : SortSt w0 blk off N d0 d wr) (hb : b ≤ N) (r : Rot s m e d d1) (hp : PermIn s e d d1) (hw : SWK PT.enc 2 w0 blk off d1 w1) : Turned w0 blk off N a mid b s e d0 d d1 w1 := by
  obtain ⟨q1, q2, q3, q4, q5⟩ := c.parts h1 h2 r
  have hle := c.le
  exact ⟨hst.step (by omega) hp hw, permIn_mono _ _ s e a b (by omega) (by omega) (by rw [hst.size]; omega) hp, q1, q2, q3, q4, q5⟩
end Go.Proofs.Ytklipommocijaaa
