/- Two parts of a row of packs exchanged. -/
/- Two parts of a row of packs, one in the other's place. -/
/- Merging two sorted parts by turning their middle: why it sorts (plain). -/
/- One pack carried to its place among sorted ones: why it sorts (plain); the comparison as a walk meets it. -/
/- Merging where the first part is one pack. -/
/- Merging where the second part is one pack. -/
import Derived.Test.YtlbadjfcffoakaaDoorV11
namespace Go.Proofs.YtlbadjfcffoakaaDoor
open Go.RowKit PT Go.Sort
set_option linter.unusedVariables false
set_option maxRecDepth 20000

def SwR (a b n : Nat) (d d' : Array PT) : Prop := d'.size = d.size ∧ ∀ t, d'[t]! = if a ≤ t ∧ t < a + n then d[b + (t - a)]! else if b ≤ t ∧ t < b + n then d[a + (t - b)]! else d[t]!
theorem SwR.zero (a b : Nat) (d : Array PT) : SwR a b 0 d d := ⟨rfl, fun t => by rw [if_neg (by omega), if_neg (by omega)]⟩
theorem SwR.next {a b n N : Nat} {d d' : Array PT} (h : SwR a b n d d') (hd : d.size = N) (hab : a + n < b) (hb : b + n < N) : SwR a b (n + 1) d (swp d' (a + n) (b + n)) := by
  refine ⟨by rw [size_swp, h.1], fun t => ?_⟩
  have hs : d'.size = N := h.1.trans hd
  rw [swp_get d' (by omega) (by omega) t]
  by_cases e1 : t = b + n
  · subst e1
    rw [if_pos rfl, h.2, if_neg (by omega), if_neg (by omega), if_neg (by omega), if_pos (by omega), show a + (b + n - b) = a + n by omega]
  · rw [if_neg e1]
    by_cases e2 : t = a + n
    · subst e2
      rw [if_pos rfl, h.2, if_neg (by omega), if_neg (by omega), if_pos (by omega), show b + (a + n - a) = b + n by omega]
    · rw [if_neg e2, h.2]
      by_cases e3 : a ≤ t ∧ t < a + n
      · rw [if_pos e3, if_pos (by omega)]
      · by_cases e4 : b ≤ t ∧ t < b + n
        · rw [if_neg e3, if_pos e4, if_neg (show ¬ (a ≤ t ∧ t < a + (n + 1)) by omega), if_pos (show b ≤ t ∧ t < b + (n + 1) by omega)]
        · rw [if_neg e3, if_neg e4, if_neg (show ¬ (a ≤ t ∧ t < a + (n + 1)) by omega), if_neg (show ¬ (b ≤ t ∧ t < b + (n + 1)) by omega)]

theorem st_cells {w0 : World} {blk off N : Nat} {d0 d : Array PT} {w : World} (h : SortSt w0 blk off N d0 d w) {x : Nat} (hx : x < N) :
    w.cell? ⟨blk, off + x * 2, none⟩ = some (.int .i64 (d[x]!.wt : Nat)) ∧ w.frozen? ⟨blk, off + x * 2, none⟩ = false ∧ w.cell? ⟨blk, off + x * 2 + 1, none⟩ = some d[x]!.fv ∧ w.frozen? ⟨blk, off + x * 2 + 1, none⟩ = false := by
  have hh : HoldsK PT.enc 2 w blk off d := h.swk.holds h.row.hblk h.row.hH (by rw [h.size, h.size0])
  have c0 := HoldsK.cell hh (i := x) (c := 0) (by rw [h.size]; exact hx) (by omega)
  have c1 := HoldsK.cell hh (i := x) (c := 1) (by rw [h.size]; exact hx) (by omega)
  exact ⟨c0.1, c0.2, c1.1, c1.2⟩
theorem st_swap {w0 : World} {blk off N : Nat} {d0 d : Array PT} {w : World} (h : SortSt w0 blk off N d0 d w) {lo hi x y : Nat} (hx : lo ≤ x ∧ x < hi) (hy : lo ≤ y ∧ y < hi) (hN : hi ≤ N) :
    PermIn lo hi d (swp d x y) ∧ SWK PT.enc 2 w0 blk off (swp d x y) ((((w.drew.setCell ⟨blk, off + x * 2, none⟩ (.int .i64 (d[y]!.wt : Nat))).setCell ⟨blk, off + x * 2 + 1, none⟩ d[y]!.fv).setCell ⟨blk, off + y * 2, none⟩ (.int .i64 (d[x]!.wt : Nat))).setCell ⟨blk, off + y * 2 + 1, none⟩ d[x]!.fv) := by
  refine ⟨swp_permIn d lo hi x y hx.1 hx.2 hy.1 hy.2 (by rw [h.size]; exact hN), ?_⟩
  exact h.swk.swapped h.row x y (by rw [h.size]; omega) (by rw [h.size]; omega)

set_option maxRecDepth 20000 in
set_option maxHeartbeats 4000000 in
theorem swapRange_ok (w0 : World) (blk off cap N a b n : Nat) (d0 d : Array PT) (w : World) (hst : SortSt w0 blk off N d0 d w) (hN : N ≤ 100000) (hab : a + n ≤ b) (hb : b + n ≤ N) :
    Calls Tryd.prog 95 #[.slice (some ⟨blk, off, none⟩) N cap, .int .i64 a, .int .i64 b, .int .i64 n, .func (.func 81) #[] #[]] w fun e w' =>
      e = .returned (.tuple #[]) ∧ ∃ d', SwR a b n d d' ∧ PermIn a (b + n) d d' ∧ SWK PT.enc 2 w0 blk off d' w' := by
  have HST : Hid (SortSt w0 blk off N d0 d w) := hst
  clear hst
  go_enter Tryd.func95, Tryd.ntmps95
  go_wp2
  go_loopw [10] (fun v10 wr => ∃ (i : Nat) (d1 : Array PT), v10 = .int .i64 i ∧ i ≤ n ∧ Hid (SwR a b i d d1 ∧ PermIn a (b + n) d d1 ∧ SWK PT.enc 2 w0 blk off d1 wr)) (fun v10 _ => n - (intOf v10).toNat)
  case atStart => exact ⟨0, d, rfl, by omega, SwR.zero a b d, permIn_refl _ _ _, HST.out.swk⟩
  case round =>
    obtain ⟨i, d1, rfl, hi, HS⟩ := hrel
    by_cases hlt : i < n
    · have hlti : (i : Int) < (n : Int) := by omega
      have hst1 : SortSt w0 blk off N d0 d1 wr := HST.out.step hb HS.out.2.1 HS.out.2.2
      obtain ⟨x, hx⟩ : ∃ x, a + i = x := ⟨_, rfl⟩
      obtain ⟨y, hy⟩ : ∃ x, b + i = x := ⟨_, rfl⟩
      obtain ⟨c1, c2, c3, c4⟩ := st_cells hst1 (x := x) (by omega)
      obtain ⟨k1, k2, k3, k4⟩ := st_cells hst1 (x := y) (by omega)
      have hsw := st_swap hst1 (lo := a) (hi := b + n) (x := x) (y := y) (by omega) (by omega) hb
      have hnx := SwR.next HS.out.1 HST.out.size (by omega) (show b + i < N by omega)
      rw [hx, hy] at hnx
      obtain ⟨D, hD⟩ : ∃ D, swp d1 x y = D := ⟨_, rfl⟩
      rw [hD] at hsw hnx
      obtain ⟨tx, htx⟩ : ∃ t, d1[x]! = t := ⟨_, rfl⟩
      obtain ⟨ty, hty⟩ : ∃ t, d1[y]! = t := ⟨_, rfl⟩
      rw [htx] at c1 c3 hsw
      rw [hty] at k1 k3 hsw
      have HSW : Hid (SwR a b (i + 1) d D ∧ PermIn a (b + n) d D ∧ SWK PT.enc 2 w0 blk off D ((((wr.drew.setCell ⟨blk, off + x * 2, none⟩ (.int .i64 (ty.wt : Nat))).setCell ⟨blk, off + x * 2 + 1, none⟩ ty.fv).setCell ⟨blk, off + y * 2, none⟩ (.int .i64 (tx.wt : Nat))).setCell ⟨blk, off + y * 2 + 1, none⟩ tx.fv)) := ⟨hnx, permIn_trans _ _ _ _ _ HS.out.2.1 hsw.1, hsw.2⟩
      have hxi : (a : Int) + (i : Int) = (x : Int) := by omega
      have hyi : (b : Int) + (i : Int) = (y : Int) := by omega
      have wx : IntKind.i64.wrap ((a : Int) + (i : Int)) = (x : Int) := by rw [IntKind.wrap_i64]; omega
      have wy : IntKind.i64.wrap ((b : Int) + (i : Int)) = (y : Int) := by rw [IntKind.wrap_i64]; omega
      have bx : (x : Int) < (N : Int) := by omega
      have by1 : (y : Int) < (N : Int) := by omega
      have hxy : ¬ x = y := by omega
      obtain ⟨fx, hfx⟩ : ∃ v, tx.fv = .func (.func v) #[] tx.cap := ⟨_, rfl⟩
      obtain ⟨fy, hfy⟩ : ∃ v, ty.fv = .func (.func v) #[] ty.cap := ⟨_, rfl⟩
      rw [hfx] at c3 HSW
      rw [hfy] at k3 HSW
      obtain ⟨px, hpx⟩ : ∃ v, off + x * 2 = v := ⟨_, rfl⟩
      obtain ⟨py, hpy⟩ : ∃ v, off + y * 2 = v := ⟨_, rfl⟩
      have n1 : ¬ px = py := by omega
      have n2 : ¬ px = py + 1 := by omega
      have n3 : ¬ px + 1 = py := by omega
      rw [hpx] at c1 c2 c3 c4 HSW
      rw [hpy] at k1 k2 k3 k4 HSW
      clear hst1 hsw hnx hD htx hty hfx hfy hx hy
      go_wp2_with fail
      go_region
      all_goals
        go_wp2
        exact ⟨⟨i + 1, D, by go_num, by omega, HSW⟩, by simp [intOf]; omega⟩
    · obtain rfl : i = n := by omega
      go_wp2
      go_end0
      exact ⟨rfl, d1, HS.out.1, HS.out.2.1, HS.out.2.2⟩

def Rot (a m b : Nat) (d d' : Array PT) : Prop := d'.size = d.size ∧ ∀ t, d'[t]! = if a ≤ t ∧ t < a + (b - m) then d[t + (m - a)]! else if a + (b - m) ≤ t ∧ t < b then d[t - (b - m)]! else d[t]!
theorem Rot.equal {m i : Nat} {d d' : Array PT} (h : SwR (m - i) m i d d') (hi : i ≤ m) : Rot (m - i) m (m + i) d d' := by
  refine ⟨h.1, fun t => ?_⟩
  rw [h.2]
  by_cases e1 : m - i ≤ t ∧ t < m - i + i
  · rw [if_pos e1, if_pos (by omega), show m + (t - (m - i)) = t + (m - (m - i)) by omega]
  · rw [if_neg e1, if_neg (show ¬ (m - i ≤ t ∧ t < m - i + (m + i - m)) by omega)]
    by_cases e2 : m ≤ t ∧ t < m + i
    · rw [if_pos e2, if_pos (by omega), show m - i + (t - m) = t - (m + i - m) by omega]
    · rw [if_neg e2, if_neg (by omega)]
theorem Rot.more {m i j : Nat} {d d1 d' : Array PT} (h : SwR (m - i) m j d d1) (h2 : Rot (m - (i - j)) m (m + j) d1 d') (hij : j < i) (him : i ≤ m) : Rot (m - i) m (m + j) d d' := by
  refine ⟨h2.1.trans h.1, fun t => ?_⟩
  rw [h2.2]
  by_cases e1 : m - i ≤ t ∧ t < m - i + (m + j - m)
  · rw [if_neg (show ¬ (m - (i - j) ≤ t ∧ t < m - (i - j) + (m + j - m)) by omega), if_neg (show ¬ (m - (i - j) + (m + j - m) ≤ t ∧ t < m + j) by omega), if_pos e1, h.2, if_pos (by omega), show m + (t - (m - i)) = t + (m - (m - i)) by omega]
  · rw [if_neg e1]
    by_cases e2 : m - (i - j) ≤ t ∧ t < m - (i - j) + (m + j - m)
    · rw [if_pos e2, if_pos (show m - i + (m + j - m) ≤ t ∧ t < m + j by omega), h.2]
      rw [if_neg (show ¬ (m - i ≤ t + (m - (m - (i - j))) ∧ t + (m - (m - (i - j))) < m - i + j) by omega), if_pos (show m ≤ t + (m - (m - (i - j))) ∧ t + (m - (m - (i - j))) < m + j by omega)]
      rw [show m - i + (t + (m - (m - (i - j))) - m) = t - (m + j - m) by omega]
    · rw [if_neg e2]
      by_cases e3 : m - (i - j) + (m + j - m) ≤ t ∧ t < m + j
      · rw [if_pos e3, if_pos (show m - i + (m + j - m) ≤ t ∧ t < m + j by omega), h.2]
        rw [if_neg (show ¬ (m - i ≤ t - (m + j - m) ∧ t - (m + j - m) < m - i + j) by omega), if_neg (show ¬ (m ≤ t - (m + j - m) ∧ t - (m + j - m) < m + j) by omega)]
      · rw [if_neg e3, if_neg (show ¬ (m - i + (m + j - m) ≤ t ∧ t < m + j) by omega), h.2]
        rw [if_neg (show ¬ (m - i ≤ t ∧ t < m - i + j) by omega), if_neg (show ¬ (m ≤ t ∧ t < m + j) by omega)]
theorem Rot.less {m i j : Nat} {d d1 d' : Array PT} (h : SwR (m - i) (m + j - i) i d d1) (h2 : Rot (m - i) m (m + (j - i)) d1 d') (hij : i < j) (him : i ≤ m) : Rot (m - i) m (m + j) d d' := by
  refine ⟨h2.1.trans h.1, fun t => ?_⟩
  rw [h2.2]
  by_cases e1 : m - i ≤ t ∧ t < m - i + (m + (j - i) - m)
  · rw [if_pos e1, if_pos (show m - i ≤ t ∧ t < m - i + (m + j - m) by omega), h.2]
    rw [if_neg (show ¬ (m - i ≤ t + (m - (m - i)) ∧ t + (m - (m - i)) < m - i + i) by omega), if_neg (show ¬ (m + j - i ≤ t + (m - (m - i)) ∧ t + (m - (m - i)) < m + j - i + i) by omega)]
  · rw [if_neg e1]
    by_cases e2 : m - i + (m + (j - i) - m) ≤ t ∧ t < m + (j - i)
    · rw [if_pos e2, if_pos (show m - i ≤ t ∧ t < m - i + (m + j - m) by omega), h.2]
      rw [if_pos (show m - i ≤ t - (m + (j - i) - m) ∧ t - (m + (j - i) - m) < m - i + i by omega)]
      rw [show m + j - i + (t - (m + (j - i) - m) - (m - i)) = t + (m - (m - i)) by omega]
    · rw [if_neg e2, h.2]
      rw [if_neg (show ¬ (m - i ≤ t ∧ t < m - i + i) by omega)]
      by_cases e3 : m + j - i ≤ t ∧ t < m + j - i + i
      · rw [if_pos e3, if_neg (show ¬ (m - i ≤ t ∧ t < m - i + (m + j - m)) by omega), if_pos (show m - i + (m + j - m) ≤ t ∧ t < m + j by omega)]
        rw [show m - i + (t - (m + j - i)) = t - (m + j - m) by omega]
      · rw [if_neg e3, if_neg (show ¬ (m - i ≤ t ∧ t < m - i + (m + j - m)) by omega), if_neg (show ¬ (m - i + (m + j - m) ≤ t ∧ t < m + j) by omega)]
end Go.Proofs.YtlbadjfcffoakaaDoor
namespace Go.Proofs.YtlbadjfcffoakaaDoor
open Go.RowKit PT Go.Sort
set_option linter.unusedVariables false
set_option maxRecDepth 20000

structure RotSt (w0 : World) (blk off N a m b i j : Nat) (d0 d dk : Array PT) (wr : World) : Prop where
  st : SortSt w0 blk off N d0 dk wr
  perm : PermIn a b d dk
  left : i ≤ m ∧ a ≤ m - i
  right : m + j ≤ b
  pos : 0 < i ∧ 0 < j
  go : ∀ d', Rot (m - i) m (m + j) dk d' → Rot a m b d d'

set_option maxRecDepth 20000 in
set_option maxHeartbeats 4000000 in
theorem rotate_ok (w0 : World) (blk off cap N a m b : Nat) (d0 d : Array PT) (w : World) (hst : SortSt w0 blk off N d0 d w) (hN : N ≤ 100000) (ham : a < m) (hmb : m < b) (hb : b ≤ N) :
    Calls Tryd.prog 94 #[.slice (some ⟨blk, off, none⟩) N cap, .int .i64 a, .int .i64 m, .int .i64 b, .func (.func 81) #[] #[]] w fun e w' =>
      e = .returned (.tuple #[]) ∧ ∃ d', Rot a m b d d' ∧ PermIn a b d d' ∧ SWK PT.enc 2 w0 blk off d' w' := by
  have H0 : Hid (RotSt w0 blk off N a m b (m - a) (b - m) d0 d d w) := ⟨hst, permIn_refl _ _ _, by omega, by omega, by omega, fun d' h => by
    rw [show m - (m - a) = a by omega, show m + (b - m) = b by omega] at h; exact h⟩
  clear hst
  obtain ⟨I, hI⟩ : ∃ I, m - a = I := ⟨_, rfl⟩
  obtain ⟨J, hJ⟩ : ∃ J, b - m = J := ⟨_, rfl⟩
  rw [hI, hJ] at H0
  have hIi : (m : Int) - (a : Int) = (I : Int) := by omega
  have hJi : (b : Int) - (m : Int) = (J : Int) := by omega
  have wI : IntKind.i64.wrap ((m : Int) - (a : Int)) = (I : Int) := by rw [IntKind.wrap_i64]; omega
  have wJ : IntKind.i64.wrap ((b : Int) - (m : Int)) = (J : Int) := by rw [IntKind.wrap_i64]; omega
  go_enter Tryd.func94, Tryd.ntmps94
  go_wp2
  go_loopw [10, 11] (fun v10 v11 wr => ∃ (i j : Nat) (dk : Array PT), v10 = .int .i64 i ∧ v11 = .int .i64 j ∧ Hid (RotSt w0 blk off N a m b i j d0 d dk wr)) (fun v10 v11 _ => (intOf v10).toNat + (intOf v11).toNat)
  case atStart => exact ⟨I, J, d, rfl, rfl, H0⟩
  case round =>
    obtain ⟨i, j, dk, rfl, rfl, HS⟩ := hrel
    have hl := HS.out.left
    have hr := HS.out.right
    have hp := HS.out.pos
    obtain ⟨x, hx⟩ : ∃ x, m - i = x := ⟨_, rfl⟩
    have hxi : (m : Int) - (i : Int) = (x : Int) := by omega
    have wx : IntKind.i64.wrap ((m : Int) - (i : Int)) = (x : Int) := by rw [IntKind.wrap_i64]; omega
    have HX : Hid (m - i = x) := hx
    rcases Nat.lt_trichotomy i j with hij | hij | hij
    · have hne : ¬ (i : Int) = (j : Int) := by omega
      have hneb : ((i : Int) != (j : Int)) = true := by simpa using hne
      have hgt : ¬ (j : Int) < (i : Int) := by omega
      obtain ⟨y, hy⟩ : ∃ y, m + j - i = y := ⟨_, rfl⟩
      have hyi : (m : Int) + (j : Int) - (i : Int) = (y : Int) := by omega
      have wy0 : IntKind.i64.wrap ((m : Int) + (j : Int)) = (m : Int) + (j : Int) := by rw [IntKind.wrap_i64]; omega
      have wy : IntKind.i64.wrap ((m : Int) + (j : Int) - (i : Int)) = (y : Int) := by rw [IntKind.wrap_i64]; omega
      have hsr := fun _ : Unit => swapRange_ok w0 blk off cap N x y i d0 dk wr HS.out.st hN (by omega) (by omega)
      have HSR : Hid _ := hsr
      have HXY : Hid (m - i = x ∧ m + j - i = y) := ⟨hx, hy⟩
      clear hsr hx hy
      go_wp2_with fail
      refine (HSR.out ()).mono ?_
      rintro e w1 ⟨rfl, d1, h1, h2, h3⟩
      have H1 : Hid (RotSt w0 blk off N a m b i (j - i) d0 d d1 w1) := by
        have e1 := HXY.out.1
        have e2 := HXY.out.2
        have hp1 : PermIn a b dk d1 := permIn_mono _ _ x (y + i) a b (by omega) (by omega) (by rw [HS.out.st.size]; exact hb) h2
        refine ⟨HS.out.st.step (by omega) h2 h3, permIn_trans _ _ _ _ _ HS.out.perm hp1, hl, by omega, by omega, fun d' h => HS.out.go d' ?_⟩
        rw [← e1, ← e2] at h1
        exact Rot.less h1 h hij hl.1
      clear h1 h2 h3
      go_wp2
      refine ⟨⟨i, j - i, d1, rfl, ?_, H1⟩, by simp [intOf]; omega⟩
      congr 1; omega
    · subst hij
      have hsr := fun _ : Unit => swapRange_ok w0 blk off cap N x m i d0 dk wr HS.out.st hN (by omega) (by omega)
      have HSR : Hid _ := hsr
      clear hsr
      go_wp2_with fail
      refine (HSR.out ()).mono ?_
      rintro e w1 ⟨rfl, d1, h1, h2, h3⟩
      have HF : Hid (Rot a m b d d1 ∧ PermIn a b d d1 ∧ SWK PT.enc 2 w0 blk off d1 w1) := by
        have e1 := HX.out
        refine ⟨HS.out.go d1 (Rot.equal (by rw [e1]; exact h1) hl.1), permIn_trans _ _ _ _ _ HS.out.perm (permIn_mono _ _ x (m + i) a b (by omega) (by omega) (by rw [HS.out.st.size]; exact hb) h2), h3⟩
      clear h1 h2 h3
      go_wp2
      go_end0
      exact ⟨rfl, d1, HF.out⟩
    · have hne : ¬ (i : Int) = (j : Int) := by omega
      have hneb : ((i : Int) != (j : Int)) = true := by simpa using hne
      have hgt : (j : Int) < (i : Int) := by omega
      have hsr := fun _ : Unit => swapRange_ok w0 blk off cap N x m j d0 dk wr HS.out.st hN (by omega) (by omega)
      have HSR : Hid _ := hsr
      clear hsr
      go_wp2_with fail
      refine (HSR.out ()).mono ?_
      rintro e w1 ⟨rfl, d1, h1, h2, h3⟩
      have H1 : Hid (RotSt w0 blk off N a m b (i - j) j d0 d d1 w1) := by
        have e1 := HX.out
        have hp1 : PermIn a b dk d1 := permIn_mono _ _ x (m + j) a b (by omega) (by omega) (by rw [HS.out.st.size]; exact hb) h2
        refine ⟨HS.out.st.step (by omega) h2 h3, permIn_trans _ _ _ _ _ HS.out.perm hp1, by omega, by omega, by omega, fun d' h => HS.out.go d' ?_⟩
        rw [← e1] at h1
        exact Rot.more h1 h hij hl.1
      clear h1 h2 h3
      go_wp2
      refine ⟨⟨i - j, j, d1, ?_, rfl, H1⟩, by simp [intOf]; omega⟩
      congr 1; omega
end Go.Proofs.YtlbadjfcffoakaaDoor
namespace Go.Proofs.YtlbadjfcffoakaaDoor
open Go.RowKit PT Go.Sort
set_option linter.unusedVariables false
set_option maxRecDepth 20000

theorem srt_iff {x y : Nat} {d : Array PT} : SortedIn (ltOf cf) x y d ↔ ∀ i j, x ≤ i → i < j → j < y → d[i]!.wt ≤ d[j]!.wt := by
  constructor
  · intro h i j h1 h2 h3
    have := h i j h1 h2 h3
    rw [cf_lt] at this
    simpa using this
  · intro h i j h1 h2 h3
    rw [cf_lt]
    simpa using h i j h1 h2 h3
theorem srt_le {x y : Nat} {d : Array PT} (h : SortedIn (ltOf cf) x y d) {i j : Nat} (h1 : x ≤ i) (h2 : i ≤ j) (h3 : j < y) : d[i]!.wt ≤ d[j]!.wt := by
  rcases Nat.lt_or_ge i j with h' | h'
  · exact srt_iff.1 h i j h1 h' h3
  · rw [show i = j by omega]; exact Nat.le_refl _
theorem Rot.none {a m b : Nat} {d : Array PT} (h : a = m ∨ m = b) (ham : a ≤ m) (hmb : m ≤ b) : Rot a m b d d := ⟨rfl, fun t => by
  rcases h with rfl | rfl
  · by_cases e : a ≤ t ∧ t < a + (b - a)
    · rw [if_pos e, Nat.sub_self, Nat.add_zero]
    · rw [if_neg e, if_neg (by omega)]
  · rw [if_neg (by omega)]
    by_cases e : a + (m - m) ≤ t ∧ t < m
    · rw [if_pos e, Nat.sub_self, Nat.sub_zero]
    · rw [if_neg e]⟩

structure Cut (a m b mid s e : Nat) (d : Array PT) : Prop where
  le : a ≤ s ∧ s ≤ m ∧ m ≤ e ∧ e ≤ b
  mid : s + e = mid + m ∧ s ≤ mid ∧ mid ≤ e
  low : a < s → e < b → d[s - 1]!.wt ≤ d[e]!.wt
  high : m < e → s < m → d[e - 1]!.wt ≤ d[s]!.wt
theorem Cut.parts {a m b mid s e : Nat} {d d1 : Array PT} (c : Cut a m b mid s e d) (h1 : SortedIn (ltOf cf) a m d) (h2 : SortedIn (ltOf cf) m b d) (r : Rot s m e d d1) :
    SortedIn (ltOf cf) a s d1 ∧ SortedIn (ltOf cf) s mid d1 ∧ SortedIn (ltOf cf) mid e d1 ∧ SortedIn (ltOf cf) e b d1 ∧ ∀ p q, a ≤ p → p < mid → mid ≤ q → q < b → d1[p]!.wt ≤ d1[q]!.wt := by
  obtain ⟨l1, l2, l3, l4⟩ := c.le
  obtain ⟨m1, m2, m3⟩ := c.mid
  have gA : ∀ t, t < s → d1[t]! = d[t]! := fun t ht => by rw [r.2, if_neg (by omega), if_neg (by omega)]
  have gB : ∀ t, s ≤ t → t < mid → d1[t]! = d[t + (m - s)]! := fun t h h' => by rw [r.2, if_pos (by omega)]
  have gC : ∀ t, mid ≤ t → t < e → d1[t]! = d[t - (e - m)]! := fun t h h' => by rw [r.2, if_neg (by omega), if_pos (by omega)]
  have gD : ∀ t, e ≤ t → d1[t]! = d[t]! := fun t h => by rw [r.2, if_neg (by omega), if_neg (by omega)]
  refine ⟨?_, ?_, ?_, ?_, ?_⟩
  · refine srt_iff.2 (fun i j h h' h'' => ?_)
    rw [gA i (by omega), gA j (by omega)]
    exact srt_iff.1 h1 i j h h' (by omega)
  · refine srt_iff.2 (fun i j h h' h'' => ?_)
    rw [gB i h (by omega), gB j (by omega) h'']
    exact srt_iff.1 h2 _ _ (by omega) (by omega) (by omega)
  · refine srt_iff.2 (fun i j h h' h'' => ?_)
    rw [gC i h (by omega), gC j (by omega) h'']
    exact srt_iff.1 h1 _ _ (by omega) (by omega) (by omega)
  · refine srt_iff.2 (fun i j h h' h'' => ?_)
    rw [gD i h, gD j (by omega)]
    exact srt_iff.1 h2 i j (by omega) h' h''
  · intro p q hp1 hp2 hq1 hq2
    rcases Nat.lt_or_ge p s with hp | hp
    · rw [gA p hp]
      rcases Nat.lt_or_ge q e with hq | hq
      · rw [gC q hq1 hq]
        exact srt_le h1 hp1 (by omega) (by omega)
      · rw [gD q hq]
        have x1 := srt_le h1 hp1 (show p ≤ s - 1 by omega) (by omega)
        have x2 := c.low (by omega) (by omega)
        have x3 := srt_le h2 (show m ≤ e by omega) hq hq2
        omega
    · rw [gB p hp hp2]
      rcases Nat.lt_or_ge q e with hq | hq
      · rw [gC q hq1 hq]
        have x1 := srt_le h2 (show m ≤ p + (m - s) by omega) (show p + (m - s) ≤ e - 1 by omega) (by omega)
        have x2 := c.high (by omega) (by omega)
        have x3 := srt_le h1 (show a ≤ s by omega) (show s ≤ q - (e - m) by omega) (by omega)
        omega
      · rw [gD q hq]
        exact srt_le h2 (by omega) (by omega) hq2
theorem sorted_join {a mid b N : Nat} {d1 d2 d3 : Array PT} (hs : d1.size = N) (hb : b ≤ N) (ham : a ≤ mid) (hmb : mid ≤ b) (hx : ∀ p q, a ≤ p → p < mid → mid ≤ q → q < b → d1[p]!.wt ≤ d1[q]!.wt)
    (p2 : PermIn a mid d1 d2) (s2 : SortedIn (ltOf cf) a mid d2) (p3 : PermIn mid b d2 d3) (s3 : SortedIn (ltOf cf) mid b d3) : SortedIn (ltOf cf) a b d3 := by
  have hx2 : ∀ p q, a ≤ p → p < mid → mid ≤ q → q < b → d2[p]!.wt ≤ d2[q]!.wt := fun p q h1 h2 h3 h4 => by
    rw [p2.2.1 q (by omega)]
    exact permIn_all d1 d2 a mid (fun x => x.wt ≤ d1[q]!.wt) (by omega) p2 (fun i hi hi' => hx i q hi hi' h3 h4) p h1 h2
  have hx3 : ∀ p q, a ≤ p → p < mid → mid ≤ q → q < b → d3[p]!.wt ≤ d3[q]!.wt := fun p q h1 h2 h3 h4 => by
    rw [p3.2.1 p (by omega)]
    exact permIn_all d2 d3 mid b (fun x => d2[p]!.wt ≤ x.wt) (by rw [p2.1, hs]; exact hb) p3 (fun i hi hi' => hx2 p i h1 h2 hi hi') q h3 h4
  refine srt_iff.2 (fun i j h1 h2 h3 => ?_)
  rcases Nat.lt_or_ge j mid with hj | hj
  · rw [p3.2.1 i (by omega), p3.2.1 j (by omega)]
    exact srt_iff.1 s2 i j h1 h2 hj
  · rcases Nat.lt_or_ge i mid with hi | hi
    · exact hx3 i j h1 hi hj h3
    · exact srt_iff.1 s3 i j hi h2 h3
end Go.Proofs.YtlbadjfcffoakaaDoor
namespace Go.Proofs.YtlbadjfcffoakaaDoor
open Go.RowKit PT Go.Sort
set_option linter.unusedVariables false
set_option maxRecDepth 20000

def ShU (a k : Nat) (d d' : Array PT) : Prop := d'.size = d.size ∧ ∀ t, d'[t]! = if a ≤ t ∧ t < k then d[t + 1]! else if t = k then d[a]! else d[t]!
theorem ShU.zero (a : Nat) (d : Array PT) : ShU a a d d := ⟨rfl, fun t => by
  rw [if_neg (by omega)]
  by_cases e : t = a
  · rw [if_pos e, e]
  · rw [if_neg e]⟩
theorem ShU.next {a k N : Nat} {d d' : Array PT} (h : ShU a k d d') (hd : d.size = N) (hak : a ≤ k) (hk : k + 1 < N) : ShU a (k + 1) d (swp d' k (k + 1)) := by
  refine ⟨by rw [size_swp, h.1], fun t => ?_⟩
  have hs : d'.size = N := h.1.trans hd
  rw [swp_get d' (by omega) (by omega) t]
  by_cases e1 : t = k + 1
  · subst e1
    rw [if_pos rfl, h.2, if_neg (by omega), if_pos rfl, if_neg (by omega), if_pos rfl]
  · rw [if_neg e1]
    by_cases e2 : t = k
    · subst e2
      rw [if_pos rfl, h.2, if_neg (by omega), if_neg (by omega), if_pos (by omega)]
    · rw [if_neg e2, h.2]
      by_cases e3 : a ≤ t ∧ t < k
      · rw [if_pos e3, if_pos (by omega)]
      · rw [if_neg e3, if_neg e2, if_neg (show ¬ (a ≤ t ∧ t < k + 1) by omega), if_neg e1]
theorem ShU.sorted {a i b : Nat} {d d' : Array PT} (h : ShU a (i - 1) d d') (hai : a + 1 ≤ i) (hib : i ≤ b) (hs : SortedIn (ltOf cf) (a + 1) b d) (hl : ∀ t, a + 1 ≤ t → t < i → d[t]!.wt < d[a]!.wt) (hr : ∀ t, i ≤ t → t < b → d[a]!.wt ≤ d[t]!.wt) : SortedIn (ltOf cf) a b d' := by
  refine srt_iff.2 (fun p q h1 h2 h3 => ?_)
  rw [h.2 p, h.2 q]
  by_cases p1 : a ≤ p ∧ p < i - 1
  · rw [if_pos p1]
    by_cases q1 : a ≤ q ∧ q < i - 1
    · rw [if_pos q1]; exact srt_iff.1 hs _ _ (by omega) (by omega) (by omega)
    · rw [if_neg q1]
      by_cases q2 : q = i - 1
      · rw [if_pos q2]; have := hl (p + 1) (by omega) (by omega); omega
      · rw [if_neg q2]; exact srt_iff.1 hs _ _ (by omega) (by omega) h3
  · rw [if_neg p1]
    by_cases p2 : p = i - 1
    · rw [if_pos p2, if_neg (by omega), if_neg (by omega)]; exact hr q (by omega) h3
    · rw [if_neg p2, if_neg (by omega), if_neg (by omega)]; exact srt_iff.1 hs _ _ (by omega) h2 h3
def ShD (m k : Nat) (d d' : Array PT) : Prop := d'.size = d.size ∧ ∀ t, d'[t]! = if k < t ∧ t ≤ m then d[t - 1]! else if t = k then d[m]! else d[t]!
theorem ShD.zero (m : Nat) (d : Array PT) : ShD m m d d := ⟨rfl, fun t => by
  rw [if_neg (by omega)]
  by_cases e : t = m
  · rw [if_pos e, e]
  · rw [if_neg e]⟩
theorem ShD.next {m k N : Nat} {d d' : Array PT} (h : ShD m (k + 1) d d') (hd : d.size = N) (hkm : k + 1 ≤ m) (hm : m < N) : ShD m k d (swp d' (k + 1) k) := by
  refine ⟨by rw [size_swp, h.1], fun t => ?_⟩
  have hs : d'.size = N := h.1.trans hd
  rw [swp_get d' (by omega) (by omega) t]
  by_cases e1 : t = k
  · subst e1
    rw [if_pos rfl, h.2, if_neg (by omega), if_pos rfl, if_neg (by omega), if_pos rfl]
  · rw [if_neg e1]
    by_cases e2 : t = k + 1
    · subst e2
      rw [if_pos rfl, h.2, if_neg (by omega), if_neg (by omega), if_pos (by omega), Nat.add_sub_cancel]
    · rw [if_neg e2, h.2]
      by_cases e3 : k + 1 < t ∧ t ≤ m
      · rw [if_pos e3, if_pos (by omega)]
      · rw [if_neg e3, if_neg e2, if_neg (show ¬ (k < t ∧ t ≤ m) by omega), if_neg e1]
theorem ShD.sorted {a i m : Nat} {d d' : Array PT} (h : ShD m i d d') (hai : a ≤ i) (him : i ≤ m) (hs : SortedIn (ltOf cf) a m d) (hl : ∀ t, a ≤ t → t < i → d[t]!.wt ≤ d[m]!.wt) (hr : ∀ t, i ≤ t → t < m → d[m]!.wt < d[t]!.wt) : SortedIn (ltOf cf) a (m + 1) d' := by
  refine srt_iff.2 (fun p q h1 h2 h3 => ?_)
  rw [h.2 p, h.2 q]
  by_cases q1 : i < q ∧ q ≤ m
  · rw [if_pos q1]
    by_cases p1 : i < p ∧ p ≤ m
    · rw [if_pos p1]; exact srt_iff.1 hs _ _ (by omega) (by omega) (by omega)
    · rw [if_neg p1]
      by_cases p2 : p = i
      · rw [if_pos p2]; have := hr (q - 1) (by omega) (by omega); omega
      · rw [if_neg p2]; exact srt_iff.1 hs _ _ h1 (by omega) (by omega)
  · rw [if_neg q1, if_neg (show ¬ (i < p ∧ p ≤ m) by omega), if_neg (show ¬ p = i by omega)]
    by_cases q2 : q = i
    · rw [if_pos q2]; exact hl p h1 (by omega)
    · rw [if_neg q2]; exact srt_iff.1 hs _ _ h1 h2 (by omega)

theorem cmp_at (x y : PT) (W : World) : Calls Tryd.prog 81 #[.agg #[.int .i64 (x.wt : Nat), x.fv], .agg #[.int .i64 (y.wt : Nat), y.fv]] W fun e w' => e = .returned (.int .i64 (cf x y)) ∧ ∃ q os', w' = grow (W.drewN q) os' := cmp_call x y W
theorem cf_neg {x y : PT} : cf x y < 0 ↔ x.wt < y.wt := by
  have := cf_lt x y
  unfold ltOf at this
  by_cases h : x.wt < y.wt
  · rw [decide_eq_true h] at this; simp at this; exact ⟨fun _ => h, fun _ => this⟩
  · rw [decide_eq_false h] at this; simp at this; exact ⟨fun h' => by omega, fun h' => absurd h' h⟩
theorem half (i j : Nat) (h : i < j) : i ≤ (i + j) / 2 ∧ (i + j) / 2 < j := by omega
end Go.Proofs.YtlbadjfcffoakaaDoor
namespace Go.Proofs.YtlbadjfcffoakaaDoor
open Go.RowKit PT Go.Sort
set_option linter.unusedVariables false
set_option maxRecDepth 20000

structure FindU (w0 : World) (blk off N a b i j : Nat) (d0 d : Array PT) (wr : World) : Prop where
  st : SortSt w0 blk off N d0 d wr
  le : a + 1 ≤ i ∧ i ≤ j ∧ j ≤ b
  low : ∀ t, a + 1 ≤ t → t < i → d[t]!.wt < d[a]!.wt
  high : ∀ t, j ≤ t → t < b → d[a]!.wt ≤ d[t]!.wt

set_option maxRecDepth 20000 in
set_option maxHeartbeats 4000000 in
theorem symOne (w0 : World) (blk off cap N a b : Nat) (d0 d : Array PT) (w : World) (hst : SortSt w0 blk off N d0 d w) (hN : N ≤ 100000) (hab : a + 1 < b) (hb : b ≤ N) (hs : SortedIn (ltOf cf) (a + 1) b d) :
    Calls Tryd.prog 92 #[.slice (some ⟨blk, off, none⟩) N cap, .int .i64 a, .int .i64 ((a + 1 : Nat) : Int), .int .i64 b, .func (.func 81) #[] #[]] w fun e w' =>
      e = .returned (.tuple #[]) ∧ ∃ d', PermIn a b d d' ∧ SortedIn (ltOf cf) a b d' ∧ SWK PT.enc 2 w0 blk off d' w' := by
  have HST : Hid (SortSt w0 blk off N d0 d w) := hst
  have HS : Hid (SortedIn (ltOf cf) (a + 1) b d) := hs
  obtain ⟨m, hm⟩ : ∃ m, a + 1 = m := ⟨_, rfl⟩
  rw [hm]
  have hmi : (m : Int) - (a : Int) = 1 := by omega
  have hmw : IntKind.i64.wrap ((m : Int) - (a : Int)) = 1 := by rw [hmi]; rfl
  clear hst hs
  go_enter Tryd.func92, Tryd.ntmps92
  go_wp2
  go_loopw [10, 11, 12] (fun v10 v11 _ wr => ∃ (i j : Nat), v10 = .int .i64 i ∧ v11 = .int .i64 j ∧ Hid (FindU w0 blk off N a b i j d0 d wr)) (fun v10 v11 _ _ => (intOf v11).toNat - (intOf v10).toNat)
  case atStart => exact ⟨m, b, rfl, rfl, HST.out, by omega, fun t h1 h2 => by omega, fun t h1 h2 => by omega⟩
  case round =>
    obtain ⟨i, j, rfl, rfl, HF⟩ := hrel
    have hle := HF.out.le
    by_cases hlt : i < j
    · have hlti : (i : Int) < (j : Int) := by omega
      have hh := half i j hlt
      obtain ⟨h, hhd⟩ : ∃ h, (i + j) / 2 = h := ⟨_, rfl⟩
      rw [hhd] at hh
      have hhi : ((i : Int) + (j : Int)) / 2 = (h : Int) := by omega
      obtain ⟨c1, _, c3, _⟩ := st_cells HF.out.st (x := h) (by omega)
      obtain ⟨k1, _, k3, _⟩ := st_cells HF.out.st (x := a) (by omega)
      obtain ⟨tx, htx⟩ : ∃ t, d[h]! = t := ⟨_, rfl⟩
      obtain ⟨ty, hty⟩ : ∃ t, d[a]! = t := ⟨_, rfl⟩
      rw [htx] at c1 c3
      rw [hty] at k1 k3
      have HXY : Hid (d[h]! = tx ∧ d[a]! = ty) := ⟨htx, hty⟩
      have HSWK : Hid (∀ q os, SWK PT.enc 2 w0 blk off d (grow (wr.drew.drewN q) os)) := fun q os => HF.out.st.swk.drew.grown q os
      clear htx hty hhd
      obtain ⟨c, hc⟩ : ∃ c, cf tx ty = c := ⟨_, rfl⟩
      have HC : Hid (∀ W, Calls Tryd.prog 81 #[.agg #[.int .i64 (tx.wt : Nat), tx.fv], .agg #[.int .i64 (ty.wt : Nat), ty.fv]] W fun e w' => e = .returned (.int .i64 c) ∧ ∃ q os', w' = grow (W.drewN q) os') := fun W => by rw [← hc]; exact cmp_at tx ty W
      have hcn := cf_neg (x := tx) (y := ty)
      rw [hc] at hcn
      have hhN : (h : Int) < (N : Int) := by omega
      have haN : (a : Int) < (N : Int) := by omega
      clear hc
      by_cases hcc : tx.wt < ty.wt
      · have hc0 : c < 0 := hcn.2 hcc
        have NX : Hid (∀ W, SWK PT.enc 2 w0 blk off d W → FindU w0 blk off N a b (h + 1) j d0 d W) := fun W hW => by
          refine ⟨⟨HF.out.st.row, HF.out.st.size0, HF.out.st.size, HF.out.st.perm, hW⟩, by omega, fun t h1 h2 => ?_, HF.out.high⟩
          have := srt_le HS.out h1 (show t ≤ h by omega) (by omega)
          rw [HXY.out.1] at this
          rw [HXY.out.2]; omega
        clear hcn hcc
        go_wp2_with fail
        go_region_with (first | (go_at_call 81; refine (HC.out _).mono ?_; rintro e W2 ⟨rfl, q, os, hW2⟩; have H2 : Hid (SWK PT.enc 2 w0 blk off d W2) := (by show SWK _ _ _ _ _ _ _; rw [hW2]; exact HSWK.out q os); clear hW2))
        all_goals
          go_wp2
          exact ⟨⟨h + 1, j, by go_num, rfl, NX.out _ H2.out⟩, by simp [intOf]; omega⟩
      · have hc0 : ¬ c < 0 := fun e => hcc (hcn.1 e)
        have NX : Hid (∀ W, SWK PT.enc 2 w0 blk off d W → FindU w0 blk off N a b i h d0 d W) := fun W hW => by
          refine ⟨⟨HF.out.st.row, HF.out.st.size0, HF.out.st.size, HF.out.st.perm, hW⟩, by omega, HF.out.low, fun t h1 h2 => ?_⟩
          have := srt_le HS.out (show a + 1 ≤ h by omega) h1 h2
          rw [HXY.out.1] at this
          rw [HXY.out.2]; omega
        clear hcn hcc
        go_wp2_with fail
        go_region_with (first | (go_at_call 81; refine (HC.out _).mono ?_; rintro e W2 ⟨rfl, q, os, hW2⟩; have H2 : Hid (SWK PT.enc 2 w0 blk off d W2) := (by show SWK _ _ _ _ _ _ _; rw [hW2]; exact HSWK.out q os); clear hW2))
        all_goals
          go_wp2
          exact ⟨⟨i, h, rfl, rfl, NX.out _ H2.out⟩, by simp [intOf]; omega⟩
    · obtain rfl : i = j := by omega
      have hlti : ¬ (i : Int) < (i : Int) := by omega
      have w1 : IntKind.i64.wrap ((i : Int) - 1) = (i : Int) - 1 := by rw [IntKind.wrap_i64]; omega
      go_wp2
      go_loopw [13] (fun v13 wr => ∃ (k : Nat) (d1 : Array PT), v13 = .int .i64 k ∧ a ≤ k ∧ k ≤ i - 1 ∧ Hid (ShU a k d d1 ∧ PermIn a b d d1 ∧ SWK PT.enc 2 w0 blk off d1 wr)) (fun v13 _ => i - (intOf v13).toNat)
      case atStart => exact ⟨a, d, rfl, by omega, by omega, ShU.zero a d, permIn_refl _ _ _, HF.out.st.swk⟩
      case round =>
        obtain ⟨k, d1, rfl, hak, hki, HD⟩ := hrel
        by_cases hlt2 : k < i - 1
        · have hlt2i : (k : Int) < (i : Int) - 1 := by omega
          have hst1 : SortSt w0 blk off N d0 d1 wr := HF.out.st.step hb HD.out.2.1 HD.out.2.2
          obtain ⟨y, hy⟩ : ∃ y, k + 1 = y := ⟨_, rfl⟩
          obtain ⟨c1, c2, c3, c4⟩ := st_cells hst1 (x := k) (by omega)
          obtain ⟨k1, k2, k3, k4⟩ := st_cells hst1 (x := y) (by omega)
          have hsw := st_swap hst1 (lo := a) (hi := b) (x := k) (y := y) (by omega) (by omega) hb
          have hnx := ShU.next HD.out.1 HST.out.size hak (show k + 1 < N by omega)
          rw [hy] at hnx
          obtain ⟨D, hD⟩ : ∃ D, swp d1 k y = D := ⟨_, rfl⟩
          rw [hD] at hsw hnx
          obtain ⟨tx, htx⟩ : ∃ t, d1[k]! = t := ⟨_, rfl⟩
          obtain ⟨ty, hty⟩ : ∃ t, d1[y]! = t := ⟨_, rfl⟩
          rw [htx] at c1 c3 hsw
          rw [hty] at k1 k3 hsw
          have HSW : Hid (ShU a y d D ∧ PermIn a b d D ∧ SWK PT.enc 2 w0 blk off D ((((wr.drew.setCell ⟨blk, off + k * 2, none⟩ (.int .i64 (ty.wt : Nat))).setCell ⟨blk, off + k * 2 + 1, none⟩ ty.fv).setCell ⟨blk, off + y * 2, none⟩ (.int .i64 (tx.wt : Nat))).setCell ⟨blk, off + y * 2 + 1, none⟩ tx.fv)) := ⟨hnx, permIn_trans _ _ _ _ _ HD.out.2.1 hsw.1, hsw.2⟩
          have hyi : (k : Int) + 1 = (y : Int) := by omega
          have wy : IntKind.i64.wrap ((k : Int) + 1) = (y : Int) := by rw [IntKind.wrap_i64]; omega
          have bx : (k : Int) < (N : Int) := by omega
          have by1 : (y : Int) < (N : Int) := by omega
          obtain ⟨fx, hfx⟩ : ∃ v, tx.fv = .func (.func v) #[] tx.cap := ⟨_, rfl⟩
          obtain ⟨fy, hfy⟩ : ∃ v, ty.fv = .func (.func v) #[] ty.cap := ⟨_, rfl⟩
          rw [hfx] at c3 HSW
          rw [hfy] at k3 HSW
          obtain ⟨px, hpx⟩ : ∃ v, off + k * 2 = v := ⟨_, rfl⟩
          obtain ⟨py, hpy⟩ : ∃ v, off + y * 2 = v := ⟨_, rfl⟩
          have n1 : ¬ px = py := by omega
          have n2 : ¬ px = py + 1 := by omega
          have n3 : ¬ px + 1 = py := by omega
          rw [hpx] at c1 c2 c3 c4 HSW
          rw [hpy] at k1 k2 k3 k4 HSW
          clear hst1 hsw hnx hD htx hty hfx hfy
          go_wp2_with fail
          go_region
          all_goals
            go_wp2
            exact ⟨⟨y, D, rfl, by omega, by omega, HSW⟩, by simp [intOf]; omega⟩
        · have hlt2i : ¬ (k : Int) < (i : Int) - 1 := by omega
          have hk : k = i - 1 := by omega
          have HE : Hid (PermIn a b d d1 ∧ SortedIn (ltOf cf) a b d1 ∧ SWK PT.enc 2 w0 blk off d1 wr) := by
            have h1 := HD.out.1
            rw [hk] at h1
            exact ⟨HD.out.2.1, h1.sorted hle.1 hle.2.2 HS.out HF.out.low HF.out.high, HD.out.2.2⟩
          go_wp2
          exact bodyPost_ret (results_none rfl _ _ _) rfl ⟨rfl, d1, HE.out⟩
end Go.Proofs.YtlbadjfcffoakaaDoor
namespace Go.Proofs.YtlbadjfcffoakaaDoor
open Go.RowKit PT Go.Sort
set_option linter.unusedVariables false
set_option maxRecDepth 20000

structure FindD (w0 : World) (blk off N a m i j : Nat) (d0 d : Array PT) (wr : World) : Prop where
  st : SortSt w0 blk off N d0 d wr
  le : a ≤ i ∧ i ≤ j ∧ j ≤ m
  low : ∀ t, a ≤ t → t < i → d[t]!.wt ≤ d[m]!.wt
  high : ∀ t, j ≤ t → t < m → d[m]!.wt < d[t]!.wt

set_option maxRecDepth 20000 in
set_option maxHeartbeats 4000000 in
theorem symLast (w0 : World) (blk off cap N a m : Nat) (d0 d : Array PT) (w : World) (hst : SortSt w0 blk off N d0 d w) (hN : N ≤ 100000) (ham : a + 1 < m) (hb : m + 1 ≤ N) (hs : SortedIn (ltOf cf) a m d) :
    Calls Tryd.prog 92 #[.slice (some ⟨blk, off, none⟩) N cap, .int .i64 a, .int .i64 m, .int .i64 ((m + 1 : Nat) : Int), .func (.func 81) #[] #[]] w fun e w' =>
      e = .returned (.tuple #[]) ∧ ∃ d', PermIn a (m + 1) d d' ∧ SortedIn (ltOf cf) a (m + 1) d' ∧ SWK PT.enc 2 w0 blk off d' w' := by
  have HST : Hid (SortSt w0 blk off N d0 d w) := hst
  have HS : Hid (SortedIn (ltOf cf) a m d) := hs
  obtain ⟨b, hbm⟩ : ∃ b, m + 1 = b := ⟨_, rfl⟩
  rw [hbm]
  rw [hbm] at hb
  have hmi : (b : Int) - (m : Int) = 1 := by omega
  have hmw : IntKind.i64.wrap ((b : Int) - (m : Int)) = 1 := by rw [hmi]; rfl
  have hnw : IntKind.i64.wrap ((m : Int) - (a : Int)) = (m : Int) - (a : Int) := by rw [IntKind.wrap_i64]; omega
  have hne : ¬ (m : Int) - (a : Int) = 1 := by omega
  have hneb : ((m : Int) - (a : Int) == 1) = false := by simpa using hne
  clear hst hs
  go_enter Tryd.func92, Tryd.ntmps92
  go_wp2
  go_loopw [14, 15, 16] (fun v10 v11 _ wr => ∃ (i j : Nat), v10 = .int .i64 i ∧ v11 = .int .i64 j ∧ Hid (FindD w0 blk off N a m i j d0 d wr)) (fun v10 v11 _ _ => (intOf v11).toNat - (intOf v10).toNat)
  case atStart => exact ⟨a, m, rfl, rfl, HST.out, by omega, fun t h1 h2 => by omega, fun t h1 h2 => by omega⟩
  case round =>
    obtain ⟨i, j, rfl, rfl, HF⟩ := hrel
    have hle := HF.out.le
    by_cases hlt : i < j
    · have hlti : (i : Int) < (j : Int) := by omega
      have hh := half i j hlt
      obtain ⟨h, hhd⟩ : ∃ h, (i + j) / 2 = h := ⟨_, rfl⟩
      rw [hhd] at hh
      have hhi : ((i : Int) + (j : Int)) / 2 = (h : Int) := by omega
      obtain ⟨c1, _, c3, _⟩ := st_cells HF.out.st (x := m) (by omega)
      obtain ⟨k1, _, k3, _⟩ := st_cells HF.out.st (x := h) (by omega)
      obtain ⟨tx, htx⟩ : ∃ t, d[m]! = t := ⟨_, rfl⟩
      obtain ⟨ty, hty⟩ : ∃ t, d[h]! = t := ⟨_, rfl⟩
      rw [htx] at c1 c3
      rw [hty] at k1 k3
      have HXY : Hid (d[m]! = tx ∧ d[h]! = ty) := ⟨htx, hty⟩
      have HSWK : Hid (∀ q os, SWK PT.enc 2 w0 blk off d (grow (wr.drew.drewN q) os)) := fun q os => HF.out.st.swk.drew.grown q os
      clear htx hty hhd
      obtain ⟨c, hc⟩ : ∃ c, cf tx ty = c := ⟨_, rfl⟩
      have HC : Hid (∀ W, Calls Tryd.prog 81 #[.agg #[.int .i64 (tx.wt : Nat), tx.fv], .agg #[.int .i64 (ty.wt : Nat), ty.fv]] W fun e w' => e = .returned (.int .i64 c) ∧ ∃ q os', w' = grow (W.drewN q) os') := fun W => by rw [← hc]; exact cmp_at tx ty W
      have hcn := cf_neg (x := tx) (y := ty)
      rw [hc] at hcn
      have hhN : (h : Int) < (N : Int) := by omega
      have haN : (m : Int) < (N : Int) := by omega
      clear hc
      by_cases hcc : tx.wt < ty.wt
      · have hc0 : c < 0 := hcn.2 hcc
        have NX : Hid (∀ W, SWK PT.enc 2 w0 blk off d W → FindD w0 blk off N a m i h d0 d W) := fun W hW => by
          refine ⟨⟨HF.out.st.row, HF.out.st.size0, HF.out.st.size, HF.out.st.perm, hW⟩, by omega, HF.out.low, fun t h1 h2 => ?_⟩
          have := srt_le HS.out (show a ≤ h by omega) h1 h2
          rw [HXY.out.2] at this
          rw [HXY.out.1]; omega
        clear hcn hcc
        go_wp2_with fail
        go_region_with (first | (go_at_call 81; refine (HC.out _).mono ?_; rintro e W2 ⟨rfl, q, os, hW2⟩; have H2 : Hid (SWK PT.enc 2 w0 blk off d W2) := (by show SWK _ _ _ _ _ _ _; rw [hW2]; exact HSWK.out q os); clear hW2))
        all_goals
          go_wp2
          exact ⟨⟨i, h, rfl, rfl, NX.out _ H2.out⟩, by simp [intOf]; omega⟩
      · have hc0 : ¬ c < 0 := fun e => hcc (hcn.1 e)
        have hcb : decide (c < 0) = false := decide_eq_false hc0
        have hcb2 : (!decide (c < 0)) = true := by rw [hcb]; rfl
        have hcb3 : 0 ≤ c := by omega
        have NX : Hid (∀ W, SWK PT.enc 2 w0 blk off d W → FindD w0 blk off N a m (h + 1) j d0 d W) := fun W hW => by
          refine ⟨⟨HF.out.st.row, HF.out.st.size0, HF.out.st.size, HF.out.st.perm, hW⟩, by omega, fun t h1 h2 => ?_, HF.out.high⟩
          have := srt_le HS.out h1 (show t ≤ h by omega) (by omega)
          rw [HXY.out.2] at this
          rw [HXY.out.1]; omega
        clear hcn hcc
        go_wp2_with fail
        go_region_with (first | (go_at_call 81; refine (HC.out _).mono ?_; rintro e W2 ⟨rfl, q, os, hW2⟩; have H2 : Hid (SWK PT.enc 2 w0 blk off d W2) := (by show SWK _ _ _ _ _ _ _; rw [hW2]; exact HSWK.out q os); clear hW2))
        all_goals
          go_wp2
          exact ⟨⟨h + 1, j, by go_num, rfl, NX.out _ H2.out⟩, by simp [intOf]; omega⟩
    · obtain rfl : i = j := by omega
      have hlti : ¬ (i : Int) < (i : Int) := by omega
      go_wp2
      go_loopw [17] (fun v17 wr => ∃ (k : Nat) (d1 : Array PT), v17 = .int .i64 k ∧ i ≤ k ∧ k ≤ m ∧ Hid (ShD m k d d1 ∧ PermIn a b d d1 ∧ SWK PT.enc 2 w0 blk off d1 wr)) (fun v17 _ => (intOf v17).toNat)
      case atStart => exact ⟨m, d, rfl, by omega, by omega, ShD.zero m d, permIn_refl _ _ _, HF.out.st.swk⟩
      case round =>
        obtain ⟨k, d1, rfl, hik, hkm, HD⟩ := hrel
        by_cases hlt2 : i < k
        · have hlt2i : (i : Int) < (k : Int) := by omega
          have hst1 : SortSt w0 blk off N d0 d1 wr := HF.out.st.step hb HD.out.2.1 HD.out.2.2
          obtain ⟨y, rfl⟩ : ∃ y, k = y + 1 := ⟨k - 1, by omega⟩
          obtain ⟨k, hk⟩ : ∃ k, y + 1 = k := ⟨_, rfl⟩
          rw [hk] at hlt2 hlt2i hik hkm ⊢
          obtain ⟨c1, c2, c3, c4⟩ := st_cells hst1 (x := k) (by omega)
          obtain ⟨k1, k2, k3, k4⟩ := st_cells hst1 (x := y) (by omega)
          have hsw := st_swap hst1 (lo := a) (hi := b) (x := k) (y := y) (by omega) (by omega) hb
          have hnx := ShD.next HD.out.1 HST.out.size (show y + 1 ≤ m by omega) (show m < N by omega)
          rw [hk] at hnx
          obtain ⟨D, hD⟩ : ∃ D, swp d1 k y = D := ⟨_, rfl⟩
          rw [hD] at hsw hnx
          obtain ⟨tx, htx⟩ : ∃ t, d1[k]! = t := ⟨_, rfl⟩
          obtain ⟨ty, hty⟩ : ∃ t, d1[y]! = t := ⟨_, rfl⟩
          rw [htx] at c1 c3 hsw
          rw [hty] at k1 k3 hsw
          have HSW : Hid (ShD m y d D ∧ PermIn a b d D ∧ SWK PT.enc 2 w0 blk off D ((((wr.drew.setCell ⟨blk, off + k * 2, none⟩ (.int .i64 (ty.wt : Nat))).setCell ⟨blk, off + k * 2 + 1, none⟩ ty.fv).setCell ⟨blk, off + y * 2, none⟩ (.int .i64 (tx.wt : Nat))).setCell ⟨blk, off + y * 2 + 1, none⟩ tx.fv)) := ⟨hnx, permIn_trans _ _ _ _ _ HD.out.2.1 hsw.1, hsw.2⟩
          have hyi : (k : Int) - 1 = (y : Int) := by omega
          have wy : IntKind.i64.wrap ((k : Int) - 1) = (y : Int) := by rw [IntKind.wrap_i64]; omega
          have bx : (k : Int) < (N : Int) := by omega
          have by1 : (y : Int) < (N : Int) := by omega
          obtain ⟨fx, hfx⟩ : ∃ v, tx.fv = .func (.func v) #[] tx.cap := ⟨_, rfl⟩
          obtain ⟨fy, hfy⟩ : ∃ v, ty.fv = .func (.func v) #[] ty.cap := ⟨_, rfl⟩
          rw [hfx] at c3 HSW
          rw [hfy] at k3 HSW
          obtain ⟨px, hpx⟩ : ∃ v, off + k * 2 = v := ⟨_, rfl⟩
          obtain ⟨py, hpy⟩ : ∃ v, off + y * 2 = v := ⟨_, rfl⟩
          have n1 : ¬ px = py := by omega
          have n2 : ¬ px = py + 1 := by omega
          have n3 : ¬ px + 1 = py := by omega
          rw [hpx] at c1 c2 c3 c4 HSW
          rw [hpy] at k1 k2 k3 k4 HSW
          clear hst1 hsw hnx hD htx hty hfx hfy
          go_wp2_with fail
          go_region
          all_goals
            go_wp2
            exact ⟨⟨y, D, rfl, by omega, by omega, HSW⟩, by simp [intOf]; omega⟩
        · have hlt2i : ¬ (i : Int) < (k : Int) := by omega
          have hk : k = i := by omega
          have HE : Hid (PermIn a b d d1 ∧ SortedIn (ltOf cf) a b d1 ∧ SWK PT.enc 2 w0 blk off d1 wr) := by
            have h1 := HD.out.1
            rw [hk] at h1
            have h2 := h1.sorted hle.1 hle.2.2 HS.out HF.out.low HF.out.high
            rw [hbm] at h2
            exact ⟨HD.out.2.1, h2, HD.out.2.2⟩
          go_wp2
          exact bodyPost_ret (results_none rfl _ _ _) rfl ⟨rfl, d1, HE.out⟩
end Go.Proofs.YtlbadjfcffoakaaDoor
