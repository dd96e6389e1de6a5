/- Layer 11: around of any segment: the listed places next to an offset. -/
import Derived.Test.YtmokjopffgmfjaaGreatDoorEKtg
namespace Go.Proofs.YtmokjopffgmfjaaGreatDoor
open Go.RowKit
set_option linter.unusedVariables false
set_option maxRecDepth 20000
set_option maxRecDepth 20000

/-- What around answers: the place of a number, and the next one. -/
def nxt (P : List Pl) (bh : Pl) (i : Nat) : Pl := (P[i + 1]?).getD bh
def AroundEnd (w : World) (P : List Pl) (bh : Pl) (o : Nat) (e : Ending) (w' : World) : Prop := ∃ i p, P[i]? = some p ∧ e = .returned (.tuple #[p.v, (nxt P bh i).v]) ∧ Below w.heap.size w w' ∧ p.off ≤ o ∧ o < (nxt P bh i).off
theorem plc_cells {w : World} {B g cap n : Nat} {P : List Pl} (h : w.ownsRow B 31 3 (.slice (some ⟨g, 0, none⟩) n cap) n (plc P)) (i : Nat) (x : Pl) (hi : P[i]? = some x) : w.cell? ⟨g, i * 3, none⟩ = some (.int .i64 (x.off : Nat)) ∧ w.cell? ⟨g, i * 3 + 1, none⟩ = some (.int .i64 (x.byt : Nat)) ∧ w.cell? ⟨g, i * 3 + 2, none⟩ = some (.int .i64 (x.cnt : Nat)) := by
  obtain ⟨h0, h1, h2⟩ := plc_get P i x hi
  have c := fun j u hj => h.cells (g := g) rfl j u hj
  have c0 := c _ _ h0
  have c1 := c _ _ h1
  have c2 := c _ _ h2
  rw [add_zero_addr] at c0 c1 c2
  exact ⟨c0, c1, c2⟩
/-- What the search keeps. -/
structure AR (P : List Pl) (bh : Pl) (o lo hi : Nat) : Prop where
  lt : lo < hi
  le : hi ≤ P.length
  low : ∃ p, P[lo]? = some p ∧ p.off ≤ o
  high : hi = P.length ∨ ∃ p, P[hi]? = some p ∧ o < p.off
set_option maxHeartbeats 4000000 in
theorem around_ok (w : World) (B s d base : Nat) (nm : ByteArray) (P : List Pl) (bh : Pl) (h : SG w B s d nm base P bh) (o : Nat) (hP : P ≠ []) (h0 : ∀ p, P[0]? = some p → p.off ≤ o) (ho : o < bh.off) (hPl : P.length ≤ 1073741824) :
    Calls Tryz.prog 40 #[.pointer (some ⟨s, 0, none⟩), .int .i64 (o : Nat)] w (AroundEnd w P bh o) := by
  have hPpos : 0 < P.length := List.length_pos_iff.2 hP
  have HA0 : Hid (AR P bh o 0 P.length) := ⟨hPpos, Nat.le_refl _, ⟨_, List.getElem?_eq_getElem hPpos, h0 _ (List.getElem?_eq_getElem hPpos)⟩, .inl rfl⟩
  have HO := hide ho
  obtain ⟨bo, bb, bc⟩ := bh
  unfold AroundEnd
  have hb1 := below_a w (.cells #[.int .i64 0, .int .i64 0, .int .i64 0] 31)
  have hb2 := below_a (w.alloc (.cells #[.int .i64 0, .int .i64 0, .int .i64 0] 31)) (.cells #[.int .i64 0, .int .i64 0, .int .i64 0] 31)
  have hx := (hb2.block w.heap.size (by simp)).trans (heap_alloc_new w (.cells #[.int .i64 0, .int .i64 0, .int .i64 0] 31))
  have hy := heap_alloc_new (w.alloc (.cells #[.int .i64 0, .int .i64 0, .int .i64 0] 31)) (.cells #[.int .i64 0, .int .i64 0, .int .i64 0] 31)
  have hsz : (w.alloc (.cells #[.int .i64 0, .int .i64 0, .int .i64 0] 31)).heap.size = w.heap.size + 1 := by simp
  rw [hsz] at hy
  have H := hide (And.intro ((h.below hb1).below hb2) (And.intro (hb1.trans (hb2.mono hb1.size)) (And.intro hx hy)))
  clear h hb1 hb2 hx hy hsz h0 ho hP
  obtain ⟨X, hX⟩ : ∃ X, w.heap.size = X := ⟨_, rfl⟩
  rw [hX] at H
  obtain ⟨N, hN⟩ : ∃ N, P.length = N := ⟨_, rfl⟩
  rw [hN] at HA0 hPl
  have HNN := hide hN
  go_enter Tryz.func40, Tryz.ntmps40
  go_upto_region 1 with fail
  try rw [hX]
  generalize ((w.alloc (.cells #[.int .i64 0, .int .i64 0, .int .i64 0] 31)).alloc (.cells #[.int .i64 0, .int .i64 0, .int .i64 0] 31)) = w1 at H
  have HXY := hide hX
  clear hX
  obtain ⟨pv, hblk, hrow⟩ := H.out.1.blk
  obtain ⟨pa, pcap, rfl⟩ := rowForm hrow
  obtain ⟨g, rfl, hcap⟩ : ∃ g, pa = some ⟨g, 0, none⟩ ∧ N ≤ pcap := by
    rcases hrow.2 with ⟨e, h0⟩ | ⟨g, cap, cur, e, _, _, h3, _⟩
    · exact absurd h0 (by omega)
    · cases e; exact ⟨g, rfl, by omega⟩
  rw [hN] at hblk hrow
  have c4 : w1.cell? ⟨s, 4, none⟩ = some (.slice (some ⟨g, 0, none⟩) N pcap) := by simp [World.cell?, hblk]
  obtain ⟨c0, c1, c2, c3, c5, c6, c7⟩ := H.out.1.cells
  simp only at c5 c6 c7
  have HR := hide hrow
  clear hrow hblk c0 c1 c2 c3 hN hPpos hcap
  go_region
  go_wp2
  go_loopw [6, 7] (fun a b wr => ∃ lo hi : Nat, a = .int .i64 (lo : Nat) ∧ b = .int .i64 (hi : Nat) ∧ AR P ⟨bo, bb, bc⟩ o lo hi ∧ wr = w1.drew) (fun a b _ => (intOf b).toNat - (intOf a).toNat)
  case atStart => exact ⟨0, N, rfl, rfl, by have := HA0.out; rw [← HNN.out] at this ⊢; exact this, rfl⟩
  case round =>
    obtain ⟨lo, hi, rfl, rfl, har, rfl⟩ := hrel
    have HAR := hide har
    have hlt := har.lt
    have hle := har.le
    rw [HNN.out] at hle
    clear har
    by_cases hfar : 1 < hi - lo
    · obtain ⟨m, hm⟩ : ∃ m, lo + (hi - lo) / 2 = m := ⟨_, rfl⟩
      obtain ⟨df, hdf⟩ : ∃ df, hi - lo = df := ⟨_, rfl⟩
      obtain ⟨hf, hhf⟩ : ∃ hf, df / 2 = hf := ⟨_, rfl⟩
      have f1 : (hi : Int) - (lo : Int) = (df : Int) := by omega
      have f2 : (1 : Int) < (df : Int) := by omega
      have f3 : Int.tdiv (df : Int) 2 = (hf : Int) := by rw [Int.tdiv_eq_ediv_of_nonneg (by omega)]; omega
      have f4 : (lo : Int) + (hf : Int) = (m : Int) := by omega
      have hmN : m < N := by omega
      have hmNi : (m : Int) < (N : Int) := by omega
      have hb1 : df ≤ 1073741824 := by omega
      have hb2 : lo ≤ 1073741824 := by omega
      have hb3 : m ≤ 1073741824 := by omega
      have hmb : lo < m ∧ m < hi := by omega
      have HML := hide hmb
      obtain ⟨pm, hpm⟩ : ∃ pm, P[m]? = some pm := ⟨_, List.getElem?_eq_getElem (by rw [HNN.out]; exact hmN)⟩
      obtain ⟨po, pb, pc⟩ := pm
      have hpc : w1.cell? ⟨g, m * 3, none⟩ = some (.int .i64 (po : Nat)) := (plc_cells HR.out m _ hpm).1
      have HPM := hide hpm
      have HLE := hide hle
      have HFAR := hide hfar
      clear hm hdf hhf hlt hle hfar hpm hmb c5 c6 c7
      by_cases hq : po ≤ o
      · have hqi : (po : Int) ≤ (o : Int) := by omega
        have HQ := hide hq
        clear hq
        go_wp2
        refine ⟨⟨m, hi, rfl, rfl, ⟨HML.out.2, by rw [HNN.out]; exact HLE.out, ⟨_, HPM.out, HQ.out⟩, HAR.out.high⟩, trivial⟩, ?_⟩
        have := HML.out; simp [intOf]; omega
      · have hqi : ¬ (po : Int) ≤ (o : Int) := by omega
        have HQ := hide hq
        clear hq
        go_wp2
        refine ⟨⟨lo, m, rfl, rfl, ⟨HML.out.1, by have := HML.out; have := HLE.out; rw [HNN.out]; omega, HAR.out.low, .inr ⟨_, HPM.out, by have := HQ.out; show o < po; omega⟩⟩, trivial⟩, ?_⟩
        have := HML.out; simp [intOf]; omega
    · have hhi : hi = lo + 1 := by omega
      obtain ⟨p, hp, hpo⟩ := HAR.out.low
      have HPP := hide (And.intro hp hpo)
      obtain ⟨po, pb, pc⟩ := p
      obtain ⟨q0, q1, q2⟩ := plc_cells HR.out lo _ hp
      have f1 : (hi : Int) - (lo : Int) = 1 := by omega
      have hloN : lo < N := by omega
      have hloNi : (lo : Int) < (N : Int) := by omega
      obtain ⟨x0, x1, x2⟩ := cellsP3 H.out.2.2.1
      obtain ⟨y0, y1, y2⟩ := cellsP3 H.out.2.2.2
      have fx := frozen0 H.out.2.2.1
      have fy := frozen0 H.out.2.2.2
      have HLO := hide hhi
      clear hp hpo
      by_cases hend : hi = N
      · have hendi : ((hi : Int) == (N : Int)) = true := by rw [hend]; simp
        have HE := hide hend
        clear hhi hend hlt hle hfar
        go_upto_region 8 with fail
        go_region
        go_wp2
        refine bodyPost_ret (v := ?v) ?c1 rfl ?c2
        case c1 =>
          rw [results_cell2 rfl]
          go_simp
          exact rfl
        case c2 =>
          have hn : nxt P ⟨bo, bb, bc⟩ lo = ⟨bo, bb, bc⟩ := by
            unfold nxt
            rw [List.getElem?_eq_none (by have := HLO.out; have := HE.out; have := HNN.out; omega)]
            rfl
          refine ⟨lo, ⟨po, pb, pc⟩, HPP.out.1, by rw [hn], ?_, HPP.out.2, by rw [hn]; exact HO.out⟩
          rw [HXY.out]
          have hXX : X ≤ X + 1 := Nat.le_succ _
          exact bl_drew.2 (bl_drew.2 ((((((H.out.2.1.trans (below_set w1 _ (Nat.le_refl _))).trans (below_set _ _ (Nat.le_refl _))).trans (below_set _ _ (Nat.le_refl _))).trans (below_set _ _ hXX)).trans (below_set _ _ hXX)).trans (below_set _ _ hXX)))
      · have hendi : ((hi : Int) == (N : Int)) = false := by simp; omega
        obtain ⟨q, hq, hqo⟩ : ∃ q, P[hi]? = some q ∧ o < q.off := by
          rcases HAR.out.high with e | e
          · exact absurd (e.trans HNN.out) hend
          · exact e
        have HQ := hide (And.intro hq hqo)
        obtain ⟨qo, qb, qc⟩ := q
        obtain ⟨s0, s1, s2⟩ := plc_cells HR.out hi _ hq
        have hhiN : hi < N := by omega
        have hhiNi : (hi : Int) < (N : Int) := by omega
        clear hhi hend hlt hle hfar hq hqo c5 c6 c7
        go_upto_region 9 with fail
        go_region
        go_wp2
        refine bodyPost_ret (v := ?v2) ?c3 rfl ?c4
        case c3 =>
          rw [results_cell2 rfl]
          go_simp
          exact rfl
        case c4 =>
          have hn : nxt P ⟨bo, bb, bc⟩ lo = ⟨qo, qb, qc⟩ := by
            unfold nxt
            rw [← HLO.out, HQ.out.1]
            rfl
          refine ⟨lo, ⟨po, pb, pc⟩, HPP.out.1, by rw [hn], ?_, HPP.out.2, by rw [hn]; exact HQ.out.2⟩
          rw [HXY.out]
          have hXX : X ≤ X + 1 := Nat.le_succ _
          exact bl_drew.2 (bl_drew.2 ((((((H.out.2.1.trans (below_set w1 _ (Nat.le_refl _))).trans (below_set _ _ (Nat.le_refl _))).trans (below_set _ _ (Nat.le_refl _))).trans (below_set _ _ hXX)).trans (below_set _ _ hXX)).trans (below_set _ _ hXX)))
end Go.Proofs.YtmokjopffgmfjaaGreatDoor
