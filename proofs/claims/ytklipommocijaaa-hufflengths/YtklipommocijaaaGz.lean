/- Two parts of a row of packs exchanged. -/
import Derived.Test.YtklipommocijaaaGg
namespace Go.Proofs.Ytklipommocijaaa
open Go.RowKit PT Go.Sort
set_option linter.unusedVariables false

/-- d' is d with so many places from a on and from b on exchanged. -/
def SwR (a b n : Nat) (d d' : Array PT) : Prop := d'.size = d.size ∧ ∀ t, d'[t]! = if a ≤ t ∧ t < a + n then d[b + (t - a)]! else if b ≤ t ∧ t < b + n then d[a + (t - b)]! else d[t]!
theorem SwR.zero (a b : Nat) (d : Array PT) : SwR a b 0 d d := ⟨rfl, fun t => by rw [if_neg (by omega), if_neg (by omega)]⟩
theorem SwR.next {a b n N : Nat} {d d' : Array PT} (h : SwR a b n d d') (hd : d.size = N) (hab : a + n < b) (hb : b + n < N) : SwR a b (n + 1) d (swp d' (a + n) (b + n)) := by
  refine ⟨by rw [size_swp, h.1], fun t => ?_⟩
  have hs : d'.size = N := h.1.trans hd
  rw [swp_get d' (by omega) (by omega) t]
  by_cases e1 : t = b + n
  · subst e1
    rw [if_pos rfl, h.2, if_neg (by omega), if_neg (by omega), if_neg (by omega), if_pos (by omega), show a + (b + n - b) = a + n by omega]
  · rw [if_neg e1]
    by_cases e2 : t = a + n
    · subst e2
      rw [if_pos rfl, h.2, if_neg (by omega), if_neg (by omega), if_pos (by omega), show b + (a + n - a) = b + n by omega]
    · rw [if_neg e2, h.2]
      by_cases e3 : a ≤ t ∧ t < a + n
      · rw [if_pos e3, if_pos (by omega)]
      · by_cases e4 : b ≤ t ∧ t < b + n
        · rw [if_neg e3, if_pos e4, if_neg (show ¬ (a ≤ t ∧ t < a + (n + 1)) by omega), if_pos (show b ≤ t ∧ t < b + (n + 1) by omega)]
        · rw [if_neg e3, if_neg e4, if_neg (show ¬ (a ≤ t ∧ t < a + (n + 1)) by omega), if_neg (show ¬ (b ≤ t ∧ t < b + (n + 1)) by omega)]

theorem st_cells {w0 : World} {blk off N : Nat} {d0 d : Array PT} {w : World} (h : SortSt w0 blk off N d0 d w) {x : Nat} (hx : x < N) :
    w.cell? ⟨blk, off + x * 2, none⟩ = some (.int .i64 (d[x]!.wt : Nat)) ∧ w.frozen? ⟨blk, off + x * 2, none⟩ = false ∧ w.cell? ⟨blk, off + x * 2 + 1, none⟩ = some d[x]!.fv ∧ w.frozen? ⟨blk, off + x * 2 + 1, none⟩ = false := by
  have hh : HoldsK PT.enc 2 w blk off d := h.swk.holds h.row.hblk h.row.hH (by rw [h.size, h.size0])
  have c0 := HoldsK.cell hh (i := x) (c := 0) (by rw [h.size]; exact hx) (by omega)
  have c1 := HoldsK.cell hh (i := x) (c := 1) (by rw [h.size]; exact hx) (by omega)
  exact ⟨c0.1, c0.2, c1.1, c1.2⟩
theorem st_swap {w0 : World} {blk off N : Nat} {d0 d : Array PT} {w : World} (h : SortSt w0 blk off N d0 d w) {lo hi x y : Nat} (hx : lo ≤ x ∧ x < hi) (hy : lo ≤ y ∧ y < hi) (hN : hi ≤ N) :
    PermIn lo hi d (swp d x y) ∧ SWK PT.enc 2 w0 blk off (swp d x y) ((((w.drew.setCell ⟨blk, off + x * 2, none⟩ (.int .i64 (d[y]!.wt : Nat))).setCell ⟨blk, off + x * 2 + 1, none⟩ d[y]!.fv).setCell ⟨blk, off + y * 2, none⟩ (.int .i64 (d[x]!.wt : Nat))).setCell ⟨blk, off + y * 2 + 1, none⟩ d[x]!.fv) := by
  refine ⟨swp_permIn d lo hi x y hx.1 hx.2 hy.1 hy.2 (by rw [h.size]; exact hN), ?_⟩
  exact h.swk.swapped h.row x y (by rw [h.size]; omega) (by rw [h.size]; omega)

set_option maxRecDepth 20000 in
set_option maxHeartbeats 4000000 in
theorem swapRange_ok (w0 : World) (blk off cap N a b n : Nat) (d0 d : Array PT) (w : World) (hst : SortSt w0 blk off N d0 d w) (hN : N ≤ 100000) (hab : a + n ≤ b) (hb : b + n ≤ N) :
    Calls Try.prog 58 #[.slice (some ⟨blk, off, none⟩) N cap, .int .i64 a, .int .i64 b, .int .i64 n, .func (.func 45) #[] #[]] w fun e w' =>
      e = .returned (.tuple #[]) ∧ ∃ d', SwR a b n d d' ∧ PermIn a (b + n) d d' ∧ SWK PT.enc 2 w0 blk off d' w' := by
  have HST : Hid (SortSt w0 blk off N d0 d w) := hst
  clear hst
  go_enter Try.func58, Try.ntmps58
  go_wp2
  go_loopw [10] (fun v10 wr => ∃ (i : Nat) (d1 : Array PT), v10 = .int .i64 i ∧ i ≤ n ∧ Hid (SwR a b i d d1 ∧ PermIn a (b + n) d d1 ∧ SWK PT.enc 2 w0 blk off d1 wr)) (fun v10 _ => n - (intOf v10).toNat)
  case atStart => exact ⟨0, d, rfl, by omega, SwR.zero a b d, permIn_refl _ _ _, HST.out.swk⟩
  case round =>
    obtain ⟨i, d1, rfl, hi, HS⟩ := hrel
    by_cases hlt : i < n
    · have hlti : (i : Int) < (n : Int) := by omega
      have hst1 : SortSt w0 blk off N d0 d1 wr := HST.out.step hb HS.out.2.1 HS.out.2.2
      obtain ⟨x, hx⟩ : ∃ x, a + i = x := ⟨_, rfl⟩
      obtain ⟨y, hy⟩ : ∃ x, b + i = x := ⟨_, rfl⟩
      obtain ⟨c1, c2, c3, c4⟩ := st_cells hst1 (x := x) (by omega)
      obtain ⟨k1, k2, k3, k4⟩ := st_cells hst1 (x := y) (by omega)
      have hsw := st_swap hst1 (lo := a) (hi := b + n) (x := x) (y := y) (by omega) (by omega) hb
      have hnx := SwR.next HS.out.1 HST.out.size (by omega) (show b + i < N by omega)
      rw [hx, hy] at hnx
      obtain ⟨D, hD⟩ : ∃ D, swp d1 x y = D := ⟨_, rfl⟩
      rw [hD] at hsw hnx
      obtain ⟨tx, htx⟩ : ∃ t, d1[x]! = t := ⟨_, rfl⟩
      obtain ⟨ty, hty⟩ : ∃ t, d1[y]! = t := ⟨_, rfl⟩
      rw [htx] at c1 c3 hsw
      rw [hty] at k1 k3 hsw
      have HSW : Hid (SwR a b (i + 1) d D ∧ PermIn a (b + n) d D ∧ SWK PT.enc 2 w0 blk off D ((((wr.drew.setCell ⟨blk, off + x * 2, none⟩ (.int .i64 (ty.wt : Nat))).setCell ⟨blk, off + x * 2 + 1, none⟩ ty.fv).setCell ⟨blk, off + y * 2, none⟩ (.int .i64 (tx.wt : Nat))).setCell ⟨blk, off + y * 2 + 1, none⟩ tx.fv)) := ⟨hnx, permIn_trans _ _ _ _ _ HS.out.2.1 hsw.1, hsw.2⟩
      have hxi : (a : Int) + (i : Int) = (x : Int) := by omega
      have hyi : (b : Int) + (i : Int) = (y : Int) := by omega
      have wx : IntKind.i64.wrap ((a : Int) + (i : Int)) = (x : Int) := by rw [IntKind.wrap_i64]; omega
      have wy : IntKind.i64.wrap ((b : Int) + (i : Int)) = (y : Int) := by rw [IntKind.wrap_i64]; omega
      have bx : (x : Int) < (N : Int) := by omega
      have by1 : (y : Int) < (N : Int) := by omega
      have hxy : ¬ x = y := by omega
      obtain ⟨fx, hfx⟩ : ∃ v, tx.fv = .func (.func v) #[] tx.cap := ⟨_, rfl⟩
      obtain ⟨fy, hfy⟩ : ∃ v, ty.fv = .func (.func v) #[] ty.cap := ⟨_, rfl⟩
      rw [hfx] at c3 HSW
      rw [hfy] at k3 HSW
      obtain ⟨px, hpx⟩ : ∃ v, off + x * 2 = v := ⟨_, rfl⟩
      obtain ⟨py, hpy⟩ : ∃ v, off + y * 2 = v := ⟨_, rfl⟩
      have n1 : ¬ px = py := by omega
      have n2 : ¬ px = py + 1 := by omega
      have n3 : ¬ px + 1 = py := by omega
      rw [hpx] at c1 c2 c3 c4 HSW
      rw [hpy] at k1 k2 k3 k4 HSW
      clear hst1 hsw hnx hD htx hty hfx hfy hx hy
      go_wp2_with fail
      go_region
      all_goals
        go_wp2
        exact ⟨⟨i + 1, D, by go_num, by omega, HSW⟩, by simp [intOf]; omega⟩
    · obtain rfl : i = n := by omega
      go_wp2
      go_end0
      exact ⟨rfl, d1, HS.out.1, HS.out.2.1, HS.out.2.2⟩

/-- d' is d with the parts [a, m) and [m, b) one in the other's place. -/
def Rot (a m b : Nat) (d d' : Array PT) : Prop := d'.size = d.size ∧ ∀ t, d'[t]! = if a ≤ t ∧ t < a + (b - m) then d[t + (m - a)]! else if a + (b - m) ≤ t ∧ t < b then d[t - (b - m)]! else d[t]!
theorem Rot.equal {m i : Nat} {d d' : Array PT} (h : SwR (m - i) m i d d') (hi : i ≤ m) : Rot (m - i) m (m + i) d d' := by
  refine ⟨h.1, fun t => ?_⟩
  rw [h.2]
  by_cases e1 : m - i ≤ t ∧ t < m - i + i
  · rw [if_pos e1, if_pos (by omega), show m + (t - (m - i)) = t + (m - (m - i)) by omega]
  · rw [if_neg e1, if_neg (show ¬ (m - i ≤ t ∧ t < m - i + (m + i - m)) by omega)]
    by_cases e2 : m ≤ t ∧ t < m + i
    · rw [if_pos e2, if_pos (by omega), show m - i + (t - m) = t - (m + i - m) by omega]
    · rw [if_neg e2, if_neg (by omega)]
/-- The first part is the longer one. -/
theorem Rot.more {m i j : Nat} {d d1 d' : Array PT} (h : SwR (m - i) m j d d1) (h2 : Rot (m - (i - j)) m (m + j) d1 d') (hij : j < i) (him : i ≤ m) : Rot (m - i) m (m + j) d d' := by
  refine ⟨h2.1.trans h.1, fun t => ?_⟩
  rw [h2.2]
  by_cases e1 : m - i ≤ t ∧ t < m - i + (m + j - m)
  · rw [if_neg (show ¬ (m - (i - j) ≤ t ∧ t < m - (i - j) + (m + j - m)) by omega), if_neg (show ¬ (m - (i - j) + (m + j - m) ≤ t ∧ t < m + j) by omega), if_pos e1, h.2, if_pos (by omega), show m + (t - (m - i)) = t + (m - (m - i)) by omega]
  · rw [if_neg e1]
    by_cases e2 : m - (i - j) ≤ t ∧ t < m - (i - j) + (m + j - m)
    · rw [if_pos e2, if_pos (show m - i + (m + j - m) ≤ t ∧ t < m + j by omega), h.2]
      rw [if_neg (show ¬ (m - i ≤ t + (m - (m - (i - j))) ∧ t + (m - (m - (i - j))) < m - i + j) by omega), if_pos (show m ≤ t + (m - (m - (i - j))) ∧ t + (m - (m - (i - j))) < m + j by omega)]
      rw [show m - i + (t + (m - (m - (i - j))) - m) = t - (m + j - m) by omega]
    · rw [if_neg e2]
      by_cases e3 : m - (i - j) + (m + j - m) ≤ t ∧ t < m + j
      · rw [if_pos e3, if_pos (show m - i + (m + j - m) ≤ t ∧ t < m + j by omega), h.2]
        rw [if_neg (show ¬ (m - i ≤ t - (m + j - m) ∧ t - (m + j - m) < m - i + j) by omega), if_neg (show ¬ (m ≤ t - (m + j - m) ∧ t - (m + j - m) < m + j) by omega)]
      · rw [if_neg e3, if_neg (show ¬ (m - i + (m + j - m) ≤ t ∧ t < m + j) by omega), h.2]
        rw [if_neg (show ¬ (m - i ≤ t ∧ t < m - i + j) by omega), if_neg (show ¬ (m ≤ t ∧ t < m + j) by omega)]
/-- The second part is the longer one. -/
theorem Rot.less {m i j : Nat} {d d1 d' : Array PT} (h : SwR (m - i) (m + j - i) i d d1) (h2 : Rot (m - i) m (m + (j - i)) d1 d') (hij : i < j) (him : i ≤ m) : Rot (m - i) m (m + j) d d' := by
  refine ⟨h2.1.trans h.1, fun t => ?_⟩
  rw [h2.2]
  by_cases e1 : m - i ≤ t ∧ t < m - i + (m + (j - i) - m)
  · rw [if_pos e1, if_pos (show m - i ≤ t ∧ t < m - i + (m + j - m) by omega), h.2]
    rw [if_neg (show ¬ (m - i ≤ t + (m - (m - i)) ∧ t + (m - (m - i)) < m - i + i) by omega), if_neg (show ¬ (m + j - i ≤ t + (m - (m - i)) ∧ t + (m - (m - i)) < m + j - i + i) by omega)]
  · rw [if_neg e1]
    by_cases e2 : m - i + (m + (j - i) - m) ≤ t ∧ t < m + (j - i)
    · rw [if_pos e2, if_pos (show m - i ≤ t ∧ t < m - i + (m + j - m) by omega), h.2]
      rw [if_pos (show m - i ≤ t - (m + (j - i) - m) ∧ t - (m + (j - i) - m) < m - i + i by omega)]
      rw [show m + j - i + (t - (m + (j - i) - m) - (m - i)) = t + (m - (m - i)) by omega]
    · rw [if_neg e2, h.2]
      rw [if_neg (show ¬ (m - i ≤ t ∧ t < m - i + i) by omega)]
      by_cases e3 : m + j - i ≤ t ∧ t < m + j - i + i
      · rw [if_pos e3, if_neg (show ¬ (m - i ≤ t ∧ t < m - i + (m + j - m)) by omega), if_pos (show m - i + (m + j - m) ≤ t ∧ t < m + j by omega)]
        rw [show m - i + (t - (m + j - i)) = t - (m + j - m) by omega]
      · rw [if_neg e3, if_neg (show ¬ (m - i ≤ t ∧ t < m - i + (m + j - m)) by omega), if_neg (show ¬ (m - i + (m + j - m) ≤ t ∧ t < m + j) by omega)]
end Go.Proofs.Ytklipommocijaaa
