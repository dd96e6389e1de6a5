/- Layer 11: around of any segment: the listed places next to an offset. -/
/- Layer 11: find and Batch of any segment. -/
/- Layer 11: the document's End and Having of batches in a row of the law's own; the law's told. -/
/- Layer 11: a segment's state. -/
import Derived.Test.YtcjlcieheepegaaGreatDoorV26
import Derived.WalkMore
import Derived.Test.YtcjlcieheepegaaGreatDoorV25
namespace Go.Proofs.YtcjlcieheepegaaGreatDoor
open Go.RowKit
set_option linter.unusedVariables false
set_option maxRecDepth 20000
set_option maxRecDepth 20000

/-- What around answers: the place of a number, and the next one. -/
def nxt (P : List Pl) (bh : Pl) (i : Nat) : Pl := (P[i + 1]?).getD bh
def AroundEnd (w : World) (P : List Pl) (bh : Pl) (o : Nat) (e : Ending) (w' : World) : Prop := ∃ i p, P[i]? = some p ∧ e = .returned (.tuple #[p.v, (nxt P bh i).v]) ∧ Below w.heap.size w w' ∧ p.off ≤ o ∧ o < (nxt P bh i).off
theorem plc_cells {w : World} {B g cap n : Nat} {P : List Pl} (h : w.ownsRow B 68 3 (.slice (some ⟨g, 0, none⟩) n cap) n (plc P)) (i : Nat) (x : Pl) (hi : P[i]? = some x) : w.cell? ⟨g, i * 3, none⟩ = some (.int .i64 (x.off : Nat)) ∧ w.cell? ⟨g, i * 3 + 1, none⟩ = some (.int .i64 (x.byt : Nat)) ∧ w.cell? ⟨g, i * 3 + 2, none⟩ = some (.int .i64 (x.cnt : Nat)) := by
  obtain ⟨h0, h1, h2⟩ := plc_get P i x hi
  have c := fun j u hj => h.cells (g := g) rfl j u hj
  have c0 := c _ _ h0
  have c1 := c _ _ h1
  have c2 := c _ _ h2
  rw [add_zero_addr] at c0 c1 c2
  exact ⟨c0, c1, c2⟩
/-- What the search keeps. -/
structure AR (P : List Pl) (bh : Pl) (o lo hi : Nat) : Prop where
  lt : lo < hi
  le : hi ≤ P.length
  low : ∃ p, P[lo]? = some p ∧ p.off ≤ o
  high : hi = P.length ∨ ∃ p, P[hi]? = some p ∧ o < p.off
set_option maxHeartbeats 4000000 in
theorem around_ok (w : World) (B s d base : Nat) (nm : ByteArray) (P : List Pl) (bh : Pl) (h : SG w B s d nm base P bh) (o : Nat) (hP : P ≠ []) (h0 : ∀ p, P[0]? = some p → p.off ≤ o) (ho : o < bh.off) (hPl : P.length ≤ 1073741824) :
    Calls Tryz.prog 67 #[.pointer (some ⟨s, 0, none⟩), .int .i64 (o : Nat)] w (AroundEnd w P bh o) := by
  have hPpos : 0 < P.length := List.length_pos_iff.2 hP
  have HA0 : Hid (AR P bh o 0 P.length) := ⟨hPpos, Nat.le_refl _, ⟨_, List.getElem?_eq_getElem hPpos, h0 _ (List.getElem?_eq_getElem hPpos)⟩, .inl rfl⟩
  have HO := hide ho
  obtain ⟨bo, bb, bc⟩ := bh
  unfold AroundEnd
  have hb1 := below_a w (.cells #[.int .i64 0, .int .i64 0, .int .i64 0] 68)
  have hb2 := below_a (w.alloc (.cells #[.int .i64 0, .int .i64 0, .int .i64 0] 68)) (.cells #[.int .i64 0, .int .i64 0, .int .i64 0] 68)
  have hx := (hb2.block w.heap.size (by simp)).trans (heap_alloc_new w (.cells #[.int .i64 0, .int .i64 0, .int .i64 0] 68))
  have hy := heap_alloc_new (w.alloc (.cells #[.int .i64 0, .int .i64 0, .int .i64 0] 68)) (.cells #[.int .i64 0, .int .i64 0, .int .i64 0] 68)
  have hsz : (w.alloc (.cells #[.int .i64 0, .int .i64 0, .int .i64 0] 68)).heap.size = w.heap.size + 1 := by simp
  rw [hsz] at hy
  have H := hide (And.intro ((h.below hb1).below hb2) (And.intro (hb1.trans (hb2.mono hb1.size)) (And.intro hx hy)))
  clear h hb1 hb2 hx hy hsz h0 ho hP
  obtain ⟨X, hX⟩ : ∃ X, w.heap.size = X := ⟨_, rfl⟩
  rw [hX] at H
  obtain ⟨N, hN⟩ : ∃ N, P.length = N := ⟨_, rfl⟩
  rw [hN] at HA0 hPl
  have HNN := hide hN
  go_enter Tryz.func67, Tryz.ntmps67
  go_upto_region 1 with fail
  try rw [hX]
  generalize ((w.alloc (.cells #[.int .i64 0, .int .i64 0, .int .i64 0] 68)).alloc (.cells #[.int .i64 0, .int .i64 0, .int .i64 0] 68)) = w1 at H
  have HXY := hide hX
  clear hX
  obtain ⟨pv, hblk, hrow⟩ := H.out.1.blk
  obtain ⟨pa, pcap, rfl⟩ := rowForm hrow
  obtain ⟨g, rfl, hcap⟩ : ∃ g, pa = some ⟨g, 0, none⟩ ∧ N ≤ pcap := by
    rcases hrow.2 with ⟨e, h0⟩ | ⟨g, cap, cur, e, _, _, h3, _⟩
    · exact absurd h0 (by omega)
    · cases e; exact ⟨g, rfl, by omega⟩
  rw [hN] at hblk hrow
  have c4 : w1.cell? ⟨s, 4, none⟩ = some (.slice (some ⟨g, 0, none⟩) N pcap) := by simp [World.cell?, hblk]
  obtain ⟨c0, c1, c2, c3, c5, c6, c7⟩ := H.out.1.cells
  simp only at c5 c6 c7
  have HR := hide hrow
  clear hrow hblk c0 c1 c2 c3 hN hPpos hcap
  go_region
  go_wp2
  go_loopw [6, 7] (fun a b wr => ∃ lo hi : Nat, a = .int .i64 (lo : Nat) ∧ b = .int .i64 (hi : Nat) ∧ AR P ⟨bo, bb, bc⟩ o lo hi ∧ wr = w1.drew) (fun a b _ => (intOf b).toNat - (intOf a).toNat)
  case atStart => exact ⟨0, N, rfl, rfl, by have := HA0.out; rw [← HNN.out] at this ⊢; exact this, rfl⟩
  case round =>
    obtain ⟨lo, hi, rfl, rfl, har, rfl⟩ := hrel
    have HAR := hide har
    have hlt := har.lt
    have hle := har.le
    rw [HNN.out] at hle
    clear har
    by_cases hfar : 1 < hi - lo
    · obtain ⟨m, hm⟩ : ∃ m, lo + (hi - lo) / 2 = m := ⟨_, rfl⟩
      obtain ⟨df, hdf⟩ : ∃ df, hi - lo = df := ⟨_, rfl⟩
      obtain ⟨hf, hhf⟩ : ∃ hf, df / 2 = hf := ⟨_, rfl⟩
      have f1 : (hi : Int) - (lo : Int) = (df : Int) := by omega
      have f2 : (1 : Int) < (df : Int) := by omega
      have f3 : Int.tdiv (df : Int) 2 = (hf : Int) := by rw [Int.tdiv_eq_ediv_of_nonneg (by omega)]; omega
      have f4 : (lo : Int) + (hf : Int) = (m : Int) := by omega
      have hmN : m < N := by omega
      have hmNi : (m : Int) < (N : Int) := by omega
      have hb1 : df ≤ 1073741824 := by omega
      have hb2 : lo ≤ 1073741824 := by omega
      have hb3 : m ≤ 1073741824 := by omega
      have hmb : lo < m ∧ m < hi := by omega
      have HML := hide hmb
      obtain ⟨pm, hpm⟩ : ∃ pm, P[m]? = some pm := ⟨_, List.getElem?_eq_getElem (by rw [HNN.out]; exact hmN)⟩
      obtain ⟨po, pb, pc⟩ := pm
      have hpc : w1.cell? ⟨g, m * 3, none⟩ = some (.int .i64 (po : Nat)) := (plc_cells HR.out m _ hpm).1
      have HPM := hide hpm
      have HLE := hide hle
      have HFAR := hide hfar
      clear hm hdf hhf hlt hle hfar hpm hmb c5 c6 c7
      by_cases hq : po ≤ o
      · have hqi : (po : Int) ≤ (o : Int) := by omega
        have HQ := hide hq
        clear hq
        go_wp2
        refine ⟨⟨m, hi, rfl, rfl, ⟨HML.out.2, by rw [HNN.out]; exact HLE.out, ⟨_, HPM.out, HQ.out⟩, HAR.out.high⟩, trivial⟩, ?_⟩
        have := HML.out; simp [intOf]; omega
      · have hqi : ¬ (po : Int) ≤ (o : Int) := by omega
        have HQ := hide hq
        clear hq
        go_wp2
        refine ⟨⟨lo, m, rfl, rfl, ⟨HML.out.1, by have := HML.out; have := HLE.out; rw [HNN.out]; omega, HAR.out.low, .inr ⟨_, HPM.out, by have := HQ.out; show o < po; omega⟩⟩, trivial⟩, ?_⟩
        have := HML.out; simp [intOf]; omega
    · have hhi : hi = lo + 1 := by omega
      obtain ⟨p, hp, hpo⟩ := HAR.out.low
      have HPP := hide (And.intro hp hpo)
      obtain ⟨po, pb, pc⟩ := p
      obtain ⟨q0, q1, q2⟩ := plc_cells HR.out lo _ hp
      have f1 : (hi : Int) - (lo : Int) = 1 := by omega
      have hloN : lo < N := by omega
      have hloNi : (lo : Int) < (N : Int) := by omega
      obtain ⟨x0, x1, x2⟩ := cellsP3 H.out.2.2.1
      obtain ⟨y0, y1, y2⟩ := cellsP3 H.out.2.2.2
      have fx := frozen0 H.out.2.2.1
      have fy := frozen0 H.out.2.2.2
      have HLO := hide hhi
      clear hp hpo
      by_cases hend : hi = N
      · have hendi : ((hi : Int) == (N : Int)) = true := by rw [hend]; simp
        have HE := hide hend
        clear hhi hend hlt hle hfar
        go_upto_region 8 with fail
        go_region
        go_wp2
        refine bodyPost_ret (v := ?v) ?c1 rfl ?c2
        case c1 =>
          rw [results_cell2 rfl]
          go_simp
          exact rfl
        case c2 =>
          have hn : nxt P ⟨bo, bb, bc⟩ lo = ⟨bo, bb, bc⟩ := by
            unfold nxt
            rw [List.getElem?_eq_none (by have := HLO.out; have := HE.out; have := HNN.out; omega)]
            rfl
          refine ⟨lo, ⟨po, pb, pc⟩, HPP.out.1, by rw [hn], ?_, HPP.out.2, by rw [hn]; exact HO.out⟩
          rw [HXY.out]
          have hXX : X ≤ X + 1 := Nat.le_succ _
          exact bl_drew.2 (bl_drew.2 ((((((H.out.2.1.trans (below_set w1 _ (Nat.le_refl _))).trans (below_set _ _ (Nat.le_refl _))).trans (below_set _ _ (Nat.le_refl _))).trans (below_set _ _ hXX)).trans (below_set _ _ hXX)).trans (below_set _ _ hXX)))
      · have hendi : ((hi : Int) == (N : Int)) = false := by simp; omega
        obtain ⟨q, hq, hqo⟩ : ∃ q, P[hi]? = some q ∧ o < q.off := by
          rcases HAR.out.high with e | e
          · exact absurd (e.trans HNN.out) hend
          · exact e
        have HQ := hide (And.intro hq hqo)
        obtain ⟨qo, qb, qc⟩ := q
        obtain ⟨s0, s1, s2⟩ := plc_cells HR.out hi _ hq
        have hhiN : hi < N := by omega
        have hhiNi : (hi : Int) < (N : Int) := by omega
        clear hhi hend hlt hle hfar hq hqo c5 c6 c7
        go_upto_region 9 with fail
        go_region
        go_wp2
        refine bodyPost_ret (v := ?v2) ?c3 rfl ?c4
        case c3 =>
          rw [results_cell2 rfl]
          go_simp
          exact rfl
        case c4 =>
          have hn : nxt P ⟨bo, bb, bc⟩ lo = ⟨qo, qb, qc⟩ := by
            unfold nxt
            rw [← HLO.out, HQ.out.1]
            rfl
          refine ⟨lo, ⟨po, pb, pc⟩, HPP.out.1, by rw [hn], ?_, HPP.out.2, by rw [hn]; exact HQ.out.2⟩
          rw [HXY.out]
          have hXX : X ≤ X + 1 := Nat.le_succ _
          exact bl_drew.2 (bl_drew.2 ((((((H.out.2.1.trans (below_set w1 _ (Nat.le_refl _))).trans (below_set _ _ (Nat.le_refl _))).trans (below_set _ _ (Nat.le_refl _))).trans (below_set _ _ hXX)).trans (below_set _ _ hXX)).trans (below_set _ _ hXX)))
end Go.Proofs.YtcjlcieheepegaaGreatDoor
namespace Go.Proofs.YtcjlcieheepegaaGreatDoor
open Go.RowKit
set_option linter.unusedVariables false
set_option maxRecDepth 20000
set_option maxRecDepth 20000

theorem len_le_szs : ∀ (l : List BT), allOK l → l.length ≤ szs l
  | [], _ => Nat.zero_le _
  | b :: l, h => by
    have h1 := len_le_szs l (fun x hx => h x (List.mem_cons_of_mem _ hx))
    have h2 := BT.sz_le (h b List.mem_cons_self)
    have e : szs (b :: l) = b.sz + szs l := by rw [show b :: l = [b] ++ l from rfl, szs_append, szs_one]
    rw [e, List.length_cons]
    omega
/-- The file holds the batches' bytes. -/
def FileOf (F : List UInt8 → Option (List Nat × Nat)) (nm : ByteArray) (l : List BT) : Prop := ∃ y, F nm.data.toList = some ((allB l).map UInt8.toNat, y)
theorem toBA_nat (l : List UInt8) : V8.toBA (l.map UInt8.toNat) = mk l := by
  unfold V8.toBA mk
  rw [List.map_map]
  congr 2
  conv => rhs; rw [← List.map_id l]
  apply List.map_congr_left
  intro x _
  simp
/-- What around tells of marks. -/
theorem marks_next {base : Nat} {l : List BT} {K : List Nat} (hm : Marks l.length K) {ia : Nat} {p : Pl} (hp : (K.map (plAt base l))[ia]? = some p) : ∃ k0 k1, p = plAt base l k0 ∧ nxt (K.map (plAt base l)) (plAt base l l.length) ia = plAt base l k1 ∧ k0 < k1 ∧ k1 ≤ l.length := by
  rw [List.getElem?_map] at hp
  obtain ⟨k0, hk0, rfl⟩ : ∃ k0, K[ia]? = some k0 ∧ p = plAt base l k0 := by
    cases h : K[ia]? with
    | none => rw [h] at hp; cases hp
    | some k0 => rw [h] at hp; exact ⟨k0, rfl, (Option.some.inj hp).symm⟩
  have hk0l := hm.lt k0 (List.mem_of_getElem? hk0)
  unfold nxt
  rw [List.getElem?_map]
  cases h : K[ia + 1]? with
  | none => exact ⟨k0, l.length, rfl, rfl, hk0l, Nat.le_refl _⟩
  | some k1 =>
    obtain ⟨h0, e0⟩ := List.getElem?_eq_some_iff.1 hk0
    obtain ⟨h1, e1⟩ := List.getElem?_eq_some_iff.1 h
    have hlt := List.pairwise_iff_getElem.1 hm.up ia (ia + 1) h0 h1 (by omega)
    rw [e0, e1] at hlt
    exact ⟨k0, k1, rfl, rfl, hlt, Nat.le_of_lt (hm.lt k1 (List.mem_of_getElem? h))⟩
def FindEnd (w : World) (base : Nat) (l : List BT) (o : Nat) (e : Ending) (w' : World) : Prop := ∃ i b, l[i]? = some b ∧ (plAt base l i).off ≤ o ∧ o < (plAt base l (i + 1)).off ∧ e = .returned (.tuple #[(plAt base l i).v, .string b.s, .int .i64 0]) ∧ Below w.heap.size w w'
/-- What find's loop keeps: the result's block, the place's block. -/
structure FL (w wr : World) (X Y : Nat) (p : Pl) : Prop where
  bel : Below X w wr
  x : wr.heap[X]? = some (.cells #[.int .i64 0, .int .i64 0, .int .i64 0] 68 (0, 0))
  y : wr.heap[Y]? = some (.cells #[.int .i64 (p.off : Nat), .int .i64 (p.byt : Nat), .int .i64 (p.cnt : Nat)] 68 (0, 0))
  xy : X < Y
def sizeV : Value → Nat
  | .string b => b.size
  | _ => 0
theorem part_cons {l : List BT} {j k1 : Nat} {b : BT} (hj : j < k1) (hb : l[j]? = some b) : allB ((l.take k1).drop j) = b.z ++ allB ((l.take k1).drop (j + 1)) := by
  obtain ⟨h, rfl⟩ := List.getElem?_eq_some_iff.1 hb
  have hl : j < (l.take k1).length := by rw [List.length_take]; omega
  rw [List.drop_eq_getElem_cons hl]
  have e : (l.take k1)[j] = l[j] := by simp
  rw [e]
  simp [allB]
set_option maxHeartbeats 8000000 in
theorem find_ok (w : World) (B Bd s d base room cnt us : Nat) (nm : ByteArray) (F : List UInt8 → Option (List Nat × Nat)) (l : List BT) (K : List Nat) (hS : SG w B s d nm base (K.map (plAt base l)) (plAt base l l.length)) (hD : V8.VD w Bd d room F cnt us) (hm : V8.May nm) (hF : FileOf F nm l) (hc : chain base l) (ho : allOK l) (hK : Marks l.length K) (hT : TabF w) (o : Nat) (h1 : base ≤ o) (h2 : o < endB base l) :
    Calls Tryz.prog 42 #[.pointer (some ⟨s, 0, none⟩), .int .i64 (o : Nat)] w (FindEnd w base l o) := by
  obtain ⟨y, hy⟩ := hF
  have hus := hD.some_ hy
  have hbd := hD.bounds
  have hsz : szs l ≤ 16777216 := by have := hus.1; rw [List.length_map] at this; unfold szs; omega
  have hlen : l.length ≤ 16777216 := Nat.le_trans (len_le_szs l ho) hsz
  have hl0 : l ≠ [] := by rintro rfl; simp [endB, cnts] at h2; omega
  have hKn : K.map (plAt base l) ≠ [] := by
    intro e
    have := hK.first (by intro e'; exact hl0 (List.length_eq_zero_iff.1 e'))
    rw [List.map_eq_nil_iff] at e
    rw [e] at this
    cases this
  have hfirst : ∀ p, (K.map (plAt base l))[0]? = some p → p.off ≤ o := fun p hp => by
    have := hK.first (by intro e'; exact hl0 (List.length_eq_zero_iff.1 e'))
    rw [List.head?_eq_getElem?] at this
    rw [List.getElem?_map, this] at hp
    cases hp
    rw [plAt_zero]
    exact h1
  have hKl : K.length ≤ 1073741824 := by
    have : K.length ≤ l.length := by
      rcases Nat.lt_or_ge l.length K.length with hlt | hge
      · exfalso
        have hpw : ∀ i (hi : i < K.length), i ≤ K[i] := by
          intro i
          induction i with
          | zero => intro _; exact Nat.zero_le _
          | succ i ih =>
            intro hi
            have a := ih (by omega)
            have b := List.pairwise_iff_getElem.1 hK.up i (i + 1) (by omega) hi (by omega)
            omega
        have a := hpw l.length hlt
        have b := hK.lt _ (List.getElem_mem hlt)
        omega
      · exact hge
    omega
  have HAr := hide (fun W (hW : SG W B s d nm base (K.map (plAt base l)) (plAt base l l.length)) => around_ok W B s d base nm (K.map (plAt base l)) (plAt base l l.length) hW o hKn hfirst (by rw [plAt_full]; exact h2) (by rw [List.length_map]; exact hKl))
  have HH := hide (And.intro hS (And.intro hD (And.intro hT (And.intro hm (And.intro hy (And.intro hc (And.intro ho (And.intro hK (And.intro hsz (And.intro hlen hbd))))))))))
  have g1 : ¬ (o : Int) < (base : Int) := by omega
  obtain ⟨E, hE⟩ : ∃ E, endB base l = E := ⟨_, rfl⟩
  have hpf : (plAt base l l.length).off = E := by rw [plAt_full]; exact hE
  have g2 : ¬ (E : Int) ≤ (o : Int) := by omega
  clear hS hD hm hc ho hK hT h1 h2 hy hus hbd hsz hlen hl0 hKn hfirst hKl hE
  obtain ⟨X, hX⟩ : ∃ X, w.heap.size = X := ⟨_, rfl⟩
  have hba := below_a w (.cells #[.int .i64 0, .int .i64 0, .int .i64 0] 68)
  have H1 := hide (And.intro (HH.out.1.below hba) (And.intro hba (heap_alloc_new w (.cells #[.int .i64 0, .int .i64 0, .int .i64 0] 68))))
  rw [hX] at H1
  have HX := hide hX
  clear hba
  unfold FindEnd
  rw [hX]
  clear hX
  go_enter Tryz.func42, Tryz.ntmps42
  go_upto_region 1 with fail
  try rw [HX.out]
  generalize (w.alloc (.cells #[.int .i64 0, .int .i64 0, .int .i64 0] 68)) = w1 at H1
  obtain ⟨c0, c1, c2, c3, c5, c6, c7⟩ := H1.out.1.cells
  rw [hpf] at c5
  clear c0 c6 c7 hpf
  go_step3
  go_wp2_with fail
  refine (HAr.out w1 H1.out.1).mono ?_
  rintro e w2 ⟨ia, p, hp, rfl, hb2, hp1, hp2⟩
  clear c1 c2 c3 c5 HAr g1 g2
  obtain ⟨k0, k1, rfl, hn, hk01, hk1⟩ := marks_next HH.out.2.2.2.2.2.2.2.1 hp
  rw [hn] at hp2 ⊢
  clear hp hn
  obtain ⟨⟨uo, ub, uc⟩, hu⟩ : ∃ u, plAt base l k1 = u := ⟨_, rfl⟩
  obtain ⟨⟨ao, ab, ac⟩, ha⟩ : ∃ u, plAt base l k0 = u := ⟨_, rfl⟩
  rw [hu] at hp2 ⊢
  rw [ha] at hp1 ⊢
  simp only [Pl.v] at hp1 hp2 ⊢
  have hble := (plAt_le (base := base) HH.out.2.2.2.2.2.2.1 (Nat.le_of_lt hk01) hk1).2
  have hbl2 := (plAt_le (base := base) HH.out.2.2.2.2.2.2.1 hk1 (Nat.le_refl _)).2
  have hblt := (plAt_lt (base := base) HH.out.2.2.2.2.2.2.1 hk01 hk1).2
  rw [hu, ha] at hble hblt
  rw [hu, plAt_full] at hbl2
  simp only at hble hbl2 hblt
  have hszl := HH.out.2.2.2.2.2.2.2.2.1
  have hab : szs (l.take k0) = ab := by have := congrArg Pl.byt ha; exact this
  have hub : szs (l.take k1) = ub := by have := congrArg Pl.byt hu; exact this
  have HG3 : Hid (Below X w ((w2.alloc (.cells #[.int .i64 (ao : Nat), .int .i64 (ab : Nat), .int .i64 (ac : Nat)] 68)).alloc (.cells #[.int .i64 (uo : Nat), .int .i64 (ub : Nat), .int .i64 (uc : Nat)] 68)) ∧ SG ((w2.alloc (.cells #[.int .i64 (ao : Nat), .int .i64 (ab : Nat), .int .i64 (ac : Nat)] 68)).alloc (.cells #[.int .i64 (uo : Nat), .int .i64 (ub : Nat), .int .i64 (uc : Nat)] 68)) B s d nm base (K.map (plAt base l)) (plAt base l l.length) ∧ ((w2.alloc (.cells #[.int .i64 (ao : Nat), .int .i64 (ab : Nat), .int .i64 (ac : Nat)] 68)).alloc (.cells #[.int .i64 (uo : Nat), .int .i64 (ub : Nat), .int .i64 (uc : Nat)] 68)).heap[X]? = some (.cells #[.int .i64 0, .int .i64 0, .int .i64 0] 68 (0, 0)) ∧ ((w2.alloc (.cells #[.int .i64 (ao : Nat), .int .i64 (ab : Nat), .int .i64 (ac : Nat)] 68)).alloc (.cells #[.int .i64 (uo : Nat), .int .i64 (ub : Nat), .int .i64 (uc : Nat)] 68)).heap[w2.heap.size]? = some (.cells #[.int .i64 (ao : Nat), .int .i64 (ab : Nat), .int .i64 (ac : Nat)] 68 (0, 0)) ∧ ((w2.alloc (.cells #[.int .i64 (ao : Nat), .int .i64 (ab : Nat), .int .i64 (ac : Nat)] 68)).alloc (.cells #[.int .i64 (uo : Nat), .int .i64 (ub : Nat), .int .i64 (uc : Nat)] 68)).heap[w2.heap.size + 1]? = some (.cells #[.int .i64 (uo : Nat), .int .i64 (ub : Nat), .int .i64 (uc : Nat)] 68 (0, 0)) ∧ X < w2.heap.size) := by
    have hba := below_a w2 (.cells #[.int .i64 (ao : Nat), .int .i64 (ab : Nat), .int .i64 (ac : Nat)] 68)
    have hbb := below_a (w2.alloc (.cells #[.int .i64 (ao : Nat), .int .i64 (ab : Nat), .int .i64 (ac : Nat)] 68)) (.cells #[.int .i64 (uo : Nat), .int .i64 (ub : Nat), .int .i64 (uc : Nat)] 68)
    have hsz : (w2.alloc (.cells #[.int .i64 (ao : Nat), .int .i64 (ab : Nat), .int .i64 (ac : Nat)] 68)).heap.size = w2.heap.size + 1 := by simp
    have hl := lt_of_block H1.out.2.2
    have hl2 : X < w2.heap.size := Nat.lt_of_lt_of_le hl hb2.size
    refine ⟨((H1.out.2.1.trans (hb2.mono (Nat.le_of_lt hl))).trans (hba.mono (Nat.le_of_lt hl2))).trans (hbb.mono (by rw [hsz]; omega)), ((H1.out.1.below hb2).below hba).below hbb, ?_, ?_, ?_, hl2⟩
    · exact (hbb.block X (by rw [hsz]; omega)).trans ((hba.block X hl2).trans ((hb2.block X hl).trans H1.out.2.2))
    · exact (hbb.block _ (by rw [hsz]; omega)).trans (heap_alloc_new w2 _)
    · rw [← hsz]; exact heap_alloc_new _ _
  clear hb2
  obtain ⟨Y, hY⟩ : ∃ Y, w2.heap.size = Y := ⟨_, rfl⟩
  rw [hY] at HG3
  have HQ := hide (And.intro hu (And.intro ha (And.intro hp1 (And.intro hp2 (And.intro hk01 hk1)))))
  clear hu ha hp1 hp2
  obtain ⟨M, hM⟩ : ∃ M, ub - ab = M := ⟨_, rfl⟩
  have hsub : (ub : Int) - (ab : Int) = (M : Int) := by omega
  have hM1 : 1 ≤ M := by omega
  have hMb : M ≤ 16777216 := by omega
  have habb : ab ≤ 16777216 := by omega
  have hubb : ub ≤ 16777216 := by omega
  have hpart : V8.toBA ((((allB l).map UInt8.toNat).drop ab).take M) = mk (allB ((l.take k1).drop k0)) := by
    rw [← List.map_drop, ← List.map_take, toBA_nat, ← hM, ← hab, ← hub, allB_part l k0 k1 (Nat.le_of_lt hk01) hk1]
  have hfit : ab + M ≤ ((allB l).map UInt8.toNat).length := by rw [List.length_map]; show ab + M ≤ szs l; omega
  have HRd := hide (fun W (hW : V8.VD W Bd d room F cnt us) => V8.read_at W Bd d room cnt us F hW nm HH.out.2.2.2.1 _ y HH.out.2.2.2.2.1 ab M hfit hM1)
  rw [hpart] at HRd
  clear hpart hfit hM hab hub hble hbl2 hblt hszl hk01 hk1
  obtain ⟨Z0, hZ0⟩ : ∃ Z0, mk (allB ((l.take k1).drop k0)) = Z0 := ⟨_, rfl⟩
  rw [hZ0] at HRd
  have HZ0 := hide hZ0
  clear hZ0
  go_upto_region 4 with fail
  try rw [hY]
  generalize ((w2.alloc (.cells #[.int .i64 (ao : Nat), .int .i64 (ab : Nat), .int .i64 (ac : Nat)] 68)).alloc (.cells #[.int .i64 (uo : Nat), .int .i64 (ub : Nat), .int .i64 (uc : Nat)] 68)) = w3 at HG3
  clear hY
  obtain ⟨c0, c1, c2, c3, c5, c6, c7⟩ := HG3.out.2.1.cells
  obtain ⟨y0, y1, y2⟩ := cellsP3 HG3.out.2.2.2.1
  obtain ⟨v0, v1, v2⟩ := cellsP3 HG3.out.2.2.2.2.1
  have d1 := cellB (belD w3) c1
  have d2 := cellB (belD w3) c2
  have d3 := cellB (belD w3) y1
  have d4 := cellB (belD w3) v1
  have HRd'' := hide (HRd.out w3.drew ((HH.out.2.1.below (by rw [HX.out]; exact HG3.out.1)).below (belD w3)))
  have HRd' : Hid (∀ x : Int, x = (M : Int) → Calls Tryz.prog 61 #[.pointer (some ⟨d, 0, none⟩), .string nm, .int .i64 (ab : Nat), .int .i64 x] w3.drew fun e w' => e = .returned (.tuple #[.string Z0, .int .i64 0]) ∧ w' = w3.drew) := fun x hx => by rw [hx]; exact HRd''.out
  have HW1 : Hid (IntKind.i64.wrap (M : Int) = (M : Int)) := by show IntKind.i64.wrap _ = _; rw [IntKind.wrap_i64]; omega
  have HW2 : Hid (wrap64 ((ub : Int) - (ab : Int)) = (M : Int)) := by show wrap64 _ = _; unfold wrap64; omega
  have HW3 : Hid ((ub : Int) - (ab : Int) = (M : Int)) := hsub
  have HW4 : Hid ((M : Int) = (M : Int)) := rfl
  have HW5 : Hid (IntKind.i64.wrap ((ub : Int) - (ab : Int)) = (M : Int)) := by show IntKind.i64.wrap _ = _; rw [hsub, IntKind.wrap_i64]; omega
  clear c0 c1 c2 c3 c5 c6 c7 y0 y1 y2 v0 v1 v2 HRd
  go_region_held_law (fun w' => w'.cell? ⟨s, 1, none⟩ = some (.pointer (some ⟨d, 0, none⟩)) ∧ w'.cell? ⟨s, 2, none⟩ = some (.string nm) ∧ w'.cell? ⟨Y, 1, none⟩ = some (.int .i64 (ab : Nat)) ∧ w'.cell? ⟨Y + 1, 1, none⟩ = some (.int .i64 (ub : Nat)))
    (first | exact ⟨d1, d2, d3, d4⟩ | go_keep)
    (first | (go_at_call 61; (first | with_reducible refine (HRd'.out _ HW1.out).mono ?_ | with_reducible refine (HRd'.out _ HW2.out).mono ?_ | with_reducible refine (HRd'.out _ HW3.out).mono ?_ | with_reducible refine (HRd'.out _ HW4.out).mono ?_ | with_reducible refine (HRd'.out _ HW5.out).mono ?_); rintro e W ⟨rfl, rfl⟩))
  have H4 : Hid (FL w w3.drew X Y ⟨ao, ab, ac⟩) := ⟨HG3.out.1.trans ((belD w3).mono (Nat.le_of_lt (lt_of_block HG3.out.2.2.1))), HG3.out.2.2.1, HG3.out.2.2.2.1, HG3.out.2.2.2.2.2⟩
  clear d1 d2 d3 d4 HRd' HRd'' HW1 HW2 HW3 HW4 HW5 HG3 hsub hM1 hMb habb hubb
  generalize w3.drew = w4 at H4
  go_wp2
  go_step3
  go_wp2
  go_loopw [9] (fun v wr => ∃ j, k0 ≤ j ∧ j < k1 ∧ (plAt base l j).off ≤ o ∧ v = .string (mk (allB ((l.take k1).drop j))) ∧ FL w wr X Y (plAt base l j)) (fun v _ => sizeV v)
  case atStart => exact ⟨k0, Nat.le_refl _, HQ.out.2.2.2.2.1, by rw [HQ.out.2.1]; exact HQ.out.2.2.1, by rw [HZ0.out], by rw [HQ.out.2.1]; exact H4.out⟩
  case round =>
    obtain ⟨j, hj0, hj1, hjo, rfl, hfl⟩ := hrel
    obtain ⟨b, hbj⟩ : ∃ b, l[j]? = some b := ⟨_, List.getElem?_eq_getElem (Nat.lt_of_lt_of_le hj1 HQ.out.2.2.2.2.2)⟩
    have hbok : b.ok := HH.out.2.2.2.2.2.2.1 b (List.mem_of_getElem? hbj)
    have hbs := BT.sz_le hbok
    have hbase := plAt_base HH.out.2.2.2.2.2.1 hbj
    have hsucc := plAt_succ (base := base) hbj
    have hcnt : (plAt base l j).cnt = j := rfl
    have hbyt := (plAt_le (base := base) HH.out.2.2.2.2.2.2.1 (Nat.le_of_lt (List.getElem?_eq_some_iff.1 hbj).1) (Nat.le_refl _)).2
    have hjl : j ≤ 16777216 := Nat.le_trans (Nat.le_of_lt (List.getElem?_eq_some_iff.1 hbj).1) HH.out.2.2.2.2.2.2.2.2.2.1
    rw [plAt_full] at hbyt
    obtain ⟨t, ht⟩ : ∃ t, allB ((l.take k1).drop (j + 1)) = t := ⟨_, rfl⟩
    have hcons := part_cons hj1 hbj
    rw [ht] at hcons
    have htl : t.length ≤ 16777216 := by
      rw [← ht]
      refine Nat.le_trans ?_ HH.out.2.2.2.2.2.2.2.2.1
      have e1 : szs l = szs (l.take k1) + szs (l.drop k1) := by rw [← szs_append, List.take_append_drop]
      have e2 : szs (l.take k1) = szs ((l.take k1).take (j + 1)) + szs ((l.take k1).drop (j + 1)) := by rw [← szs_append, List.take_append_drop]
      have e3 : (allB ((l.take k1).drop (j + 1))).length = szs ((l.take k1).drop (j + 1)) := rfl
      omega
    rw [hcons]
    have HHd' := hide (head_ok b.h hbok.ok b.p t wr (HH.out.2.2.1.new (by rw [HX.out]; exact hfl.bel)) hbok.hp (by omega))
    have HAf := hide (fun W ao ln cp => after_ok (plAt base l j) b.h hbok.ok ao ln cp b.sz W (by simp only at hbyt; have := HH.out.2.2.2.2.2.2.2.2.1; omega) (by rw [hcnt]; omega) (by omega))
    have hex : (mk (b.z ++ t)).extract 0 b.sz = b.s := by
      rw [mk_extract, List.drop_zero, ← b.z_length, List.take_left]
    have htl2 : (mk (b.z ++ t)).extract b.sz (mk (b.z ++ t)).size = mk t := by
      rw [extract_drop, ← b.z_length, List.drop_left]
    have hzs : (mk (b.z ++ t)).size = b.sz + t.length := by rw [mk_size, List.length_append, b.z_length]
    have hdd : (39 + b.p.length : Nat) = b.sz := rfl
    have hzz : batL b.h b.p = b.z := rfl
    rw [hdd, hzz] at HHd'
    obtain ⟨N, hN⟩ : ∃ N, b.sz = N := ⟨_, rfl⟩
    obtain ⟨Zs, hZs⟩ : ∃ Zs, mk (b.z ++ t) = Zs := ⟨_, rfl⟩
    rw [hZs, hN] at hex htl2 HHd'
    rw [hZs] at hzs ⊢
    rw [hN] at HAf hzs hsucc
    have HFL := hide hfl
    obtain ⟨⟨po, pb, pc⟩, hpl⟩ : ∃ p, plAt base l j = p := ⟨_, rfl⟩
    rw [hpl] at HAf hbase hsucc HFL hjo
    simp only at hbase hsucc hjo
    have HR := hide (And.intro hbj (And.intro hpl (And.intro hex (And.intro htl2 (And.intro hj0 (And.intro hj1 (And.intro ht (And.intro hsucc (And.intro hjo hbok)))))))))
    have hNz : N ≤ Zs.size := by omega
    have hN39 : 39 ≤ N := by omega
    clear hfl hbj hpl hex htl2 hj0 hj1 ht hsucc hjo hbok hbs hcnt hbyt hjl hcons htl hdd hzz hN hZs
    obtain ⟨⟨xb, xc, xv, xp, xs, xn⟩, L⟩ := b
    unfold HN.bv at HAf HHd'
    simp only [Pl.v] at HAf HHd' hbase
    subst hbase
    obtain ⟨q1, hq1⟩ : ∃ q, xb + xc = q := ⟨_, rfl⟩
    obtain ⟨q2, hq2⟩ : ∃ q, pb + N = q := ⟨_, rfl⟩
    obtain ⟨q3, hq3⟩ : ∃ q, pc + 1 = q := ⟨_, rfl⟩
    rw [hq1, hq2, hq3] at HAf
    have HQ3 := hide (And.intro hq1 (And.intro hq2 hq3))
    clear hq1 hq2 hq3
    go_wp2_with fail
    refine HHd'.out.mono ?_
    rintro e w5 ⟨rfl, hb5⟩
    obtain ⟨U, hU⟩ : ∃ U, w5.heap.size = U := ⟨_, rfl⟩
    have H5 : Hid (FL w (w5.alloc (.cells #[.int .i64 (xb : Nat), .int .i64 (xc : Nat), .int .i64 (xv : Nat), .int .i64 (xp : Nat), .int .i64 (xs : Nat), .slice none 0 0] 46)) X Y ⟨xb, pb, pc⟩ ∧ (w5.alloc (.cells #[.int .i64 (xb : Nat), .int .i64 (xc : Nat), .int .i64 (xv : Nat), .int .i64 (xp : Nat), .int .i64 (xs : Nat), .slice none 0 0] 46)).heap[U]? = some (.cells #[.int .i64 (xb : Nat), .int .i64 (xc : Nat), .int .i64 (xv : Nat), .int .i64 (xp : Nat), .int .i64 (xs : Nat), .slice none 0 0] 46 (0, 0))) := by
      have hba := below_a w5 (.cells #[.int .i64 (xb : Nat), .int .i64 (xc : Nat), .int .i64 (xv : Nat), .int .i64 (xp : Nat), .int .i64 (xs : Nat), .slice none 0 0] 46)
      have hX4 := lt_of_block HFL.out.x
      have hY4 := lt_of_block HFL.out.y
      refine ⟨⟨(HFL.out.bel.trans (hb5.mono (Nat.le_of_lt hX4))).trans (hba.mono (Nat.le_trans (Nat.le_of_lt hX4) hb5.size)), ?_, ?_, HFL.out.xy⟩, by rw [← hU]; exact heap_alloc_new _ _⟩
      · exact (hba.block X (Nat.lt_of_lt_of_le hX4 hb5.size)).trans ((hb5.block X hX4).trans HFL.out.x)
      · exact (hba.block Y (Nat.lt_of_lt_of_le hY4 hb5.size)).trans ((hb5.block Y hY4).trans HFL.out.y)
    clear hb5 HHd' HFL
    go_upto_region 6 with fail
    try rw [hU]
    generalize (w5.alloc (.cells #[.int .i64 (xb : Nat), .int .i64 (xc : Nat), .int .i64 (xv : Nat), .int .i64 (xp : Nat), .int .i64 (xs : Nat), .slice none 0 0] 46)) = w6 at H5
    clear hU
    obtain ⟨y0, y1, y2⟩ := cellsP3 H5.out.1.y
    obtain ⟨z0, z1, z2, z3, z4, z5⟩ := cells6 H5.out.2
    go_wp2_with fail
    refine (HAf.out w6 none 0 0).mono ?_
    rintro e w7 ⟨rfl, hb7⟩
    obtain ⟨Z, hZ⟩ : ∃ Z, w7.heap.size = Z := ⟨_, rfl⟩
    have H7 : Hid (FL w (w7.alloc (.cells #[.int .i64 (q1 : Nat), .int .i64 (q2 : Nat), .int .i64 (q3 : Nat)] 68)) X Y ⟨xb, pb, pc⟩ ∧ (w7.alloc (.cells #[.int .i64 (q1 : Nat), .int .i64 (q2 : Nat), .int .i64 (q3 : Nat)] 68)).heap[U]? = some (.cells #[.int .i64 (xb : Nat), .int .i64 (xc : Nat), .int .i64 (xv : Nat), .int .i64 (xp : Nat), .int .i64 (xs : Nat), .slice none 0 0] 46 (0, 0)) ∧ (w7.alloc (.cells #[.int .i64 (q1 : Nat), .int .i64 (q2 : Nat), .int .i64 (q3 : Nat)] 68)).heap[Z]? = some (.cells #[.int .i64 (q1 : Nat), .int .i64 (q2 : Nat), .int .i64 (q3 : Nat)] 68 (0, 0))) := by
      have hba := below_a w7 (.cells #[.int .i64 (q1 : Nat), .int .i64 (q2 : Nat), .int .i64 (q3 : Nat)] 68)
      have hX6 := lt_of_block H5.out.1.x
      have hY6 := lt_of_block H5.out.1.y
      have hU6 := lt_of_block H5.out.2
      refine ⟨⟨(H5.out.1.bel.trans (hb7.mono (Nat.le_of_lt hX6))).trans (hba.mono (Nat.le_trans (Nat.le_of_lt hX6) hb7.size)), ?_, ?_, H5.out.1.xy⟩, ?_, by rw [← hZ]; exact heap_alloc_new _ _⟩
      · exact (hba.block X (Nat.lt_of_lt_of_le hX6 hb7.size)).trans ((hb7.block X hX6).trans H5.out.1.x)
      · exact (hba.block Y (Nat.lt_of_lt_of_le hY6 hb7.size)).trans ((hb7.block Y hY6).trans H5.out.1.y)
      · exact (hba.block U (Nat.lt_of_lt_of_le hU6 hb7.size)).trans ((hb7.block U hU6).trans H5.out.2)
    clear hb7 y0 y1 y2 z0 z1 z2 z3 z4 z5 H5
    go_upto_region 7 with fail
    try rw [hZ]
    generalize (w7.alloc (.cells #[.int .i64 (q1 : Nat), .int .i64 (q2 : Nat), .int .i64 (q3 : Nat)] 68)) = w8 at H7
    clear hZ
    obtain ⟨y0, y1, y2⟩ := cellsP3 H7.out.1.y
    obtain ⟨z0, z1, z2, z3, z4, z5⟩ := cells6 H7.out.2.1
    obtain ⟨u0, u1, u2⟩ := cellsP3 H7.out.2.2
    obtain ⟨x0, x1, x2⟩ := cellsP3 H7.out.1.x
    have fx := frozen0 H7.out.1.x
    have fy := frozen0 H7.out.1.y
    have hzsz := hide hzs
    clear hzs
    by_cases hlt : o < q1
    · have hlti : (o : Int) < (q1 : Int) := by omega
      have HLT := hide hlt
      clear hlt
      go_upto_region 9 with fail
      go_region
      go_wp2
      try rw [Exit.noGoto_ret]
      refine bodyPost_ret (v := ?v) ?c1 rfl ?c2
      case c1 =>
        rw [results_cell_tmp2 rfl]
        go_simp
        exact rfl
      case c2 =>
        refine ⟨j, _, HR.out.1, by rw [HR.out.2.1]; exact HR.out.2.2.2.2.2.2.2.2.1, ?_, ?_, ?_⟩
        · rw [HR.out.2.2.2.2.2.2.2.1]; show o < xb + xc; have := HLT.out; have := HQ3.out.1; omega
        · rw [HR.out.2.1, HR.out.2.2.1]
        · exact bl_drew.2 (((H7.out.1.bel.trans (below_set w8 _ (Nat.le_refl _))).trans (below_set _ _ (Nat.le_refl _))).trans (below_set _ _ (Nat.le_refl _)))
    · have hlti : ¬ (o : Int) < (q1 : Int) := by omega
      have HLT := hide hlt
      clear hlt
      go_upto_region 10 with fail
      go_region
      go_wp2
      have hpc : pc = j := by have := congrArg Pl.cnt HR.out.2.1; exact this.symm
      have hnx : plAt base l (j + 1) = ⟨q1, q2, q3⟩ := by
        rw [HR.out.2.2.2.2.2.2.2.1, ← HQ3.out.1, ← HQ3.out.2.1, ← HQ3.out.2.2, hpc]
      have hoj : (plAt base l (j + 1)).off ≤ o := by rw [hnx]; have := HLT.out; show q1 ≤ o; omega
      have hjk : j + 1 < k1 := by
        have h1 := HR.out.2.2.2.2.2.1
        rcases Nat.lt_or_eq_of_le (Nat.succ_le_of_lt h1) with h | h
        · exact h
        · exfalso
          have h2 : (plAt base l k1).off ≤ o := by rw [← h]; exact hoj
          rw [HQ.out.1] at h2
          have := HQ.out.2.2.2.1
          simp only at h2
          omega
      have hXY := H7.out.1.xy
      have s1 := block_set (i := 0) (u := .int .i64 (q1 : Nat)) H7.out.1.y
      have s2 := block_set (i := 1) (u := .int .i64 (q2 : Nat)) s1
      have s3 := block_set (i := 2) (u := .int .i64 (q3 : Nat)) s2
      have hne : X ≠ Y := Nat.ne_of_lt hXY
      refine ⟨⟨j + 1, by have := HR.out.2.2.2.2.1; omega, hjk, hoj, ?_, ?_⟩, ?_⟩
      · rw [HR.out.2.2.2.1, HR.out.2.2.2.2.2.2.1]
      · rw [hnx]
        refine ⟨?_, ?_, ?_, hXY⟩
        · exact bl_drew.2 (((H7.out.1.bel.trans (below_set w8 _ (Nat.le_of_lt hXY))).trans (below_set _ _ (Nat.le_of_lt hXY))).trans (below_set _ _ (Nat.le_of_lt hXY)))
        · show (((w8.setCell ⟨Y, 0, none⟩ _).setCell ⟨Y, 1, none⟩ _).setCell ⟨Y, 2, none⟩ _).heap[X]? = _
          rw [Below.heap_setCell _ _ _ _ (by simpa using hne), Below.heap_setCell _ _ _ _ (by simpa using hne), Below.heap_setCell _ _ _ _ (by simpa using hne)]
          exact H7.out.1.x
        · exact s3
      · have h1 := hzsz.out
        have h2 : sizeV (.string (Zs.extract N Zs.size)) = Zs.size - N := by simp [sizeV]
        have h3 : sizeV (.string Zs) = Zs.size := rfl
        have h4 : sizeV (.string (Zs.extract N Zs.size)) < sizeV (.string Zs) := by omega
        exact h4
def BatchEnd (w : World) (base : Nat) (l : List BT) (o : Nat) (e : Ending) (w' : World) : Prop := ∃ i b, l[i]? = some b ∧ (plAt base l i).off ≤ o ∧ o < (plAt base l (i + 1)).off ∧ e = .returned (.tuple #[.string b.s, .int .i64 0]) ∧ Below w.heap.size w w'
set_option maxHeartbeats 1000000 in
theorem batch_found (w : World) (B Bd s d base room cnt us : Nat) (nm : ByteArray) (F : List UInt8 → Option (List Nat × Nat)) (l : List BT) (K : List Nat) (hS : SG w B s d nm base (K.map (plAt base l)) (plAt base l l.length)) (hD : V8.VD w Bd d room F cnt us) (hm : V8.May nm) (hF : FileOf F nm l) (hc : chain base l) (ho : allOK l) (hK : Marks l.length K) (hT : TabF w) (o : Nat) (h1 : base ≤ o) (h2 : o < endB base l) :
    Calls Tryz.prog 25 #[.pointer (some ⟨s, 0, none⟩), .int .i64 (o : Nat)] w (BatchEnd w base l o) := by
  have HG := hide (sgiven_yes s w hS.cells.1)
  have HFi := hide (find_ok w B Bd s d base room cnt us nm F l K hS hD hm hF hc ho hK hT o h1 h2)
  have HO := hide ho
  clear hS hD hm hF hc ho hK hT h1 h2
  unfold BatchEnd
  go_enter Tryz.func25, Tryz.ntmps25
  go_wp2_with fail
  refine HG.out.mono ?_
  rintro e W ⟨rfl, hW⟩
  obtain rfl := hW.symm
  clear HG hW
  go_wp2_with fail
  refine HFi.out.mono ?_
  rintro e w1 ⟨i, b, hb, ho1, ho2, rfl, hb1⟩
  have HB := hide (And.intro hb (And.intro ho1 ho2))
  have HC := hide (fun W => V8.clone b.s W (by have := (BT.sz_le (HO.out b (List.mem_of_getElem? hb))).2; rw [b.size]; omega))
  obtain ⟨bs, hbs⟩ : ∃ bs, b.s = bs := ⟨_, rfl⟩
  rw [hbs] at HC ⊢
  have HBS := hide hbs
  obtain ⟨⟨po, pb, pc⟩, hp⟩ : ∃ p, plAt base l i = p := ⟨_, rfl⟩
  rw [hp]
  simp only [Pl.v]
  have H1 := hide (hb1.alloc hb1.size (.cells #[.int .i64 (po : Nat), .int .i64 (pb : Nat), .int .i64 (pc : Nat)] 68))
  clear hb1 HFi hb ho1 ho2 hbs hp
  go_upto_region 4 with fail
  generalize (w1.alloc (.cells #[.int .i64 (po : Nat), .int .i64 (pb : Nat), .int .i64 (pc : Nat)] 68)) = w2 at H1
  go_wp2_with fail
  refine (HC.out w2).mono ?_
  rintro e w3 ⟨rfl, hb3⟩
  have H3 := hide (H1.out.trans (hb3.mono H1.out.size))
  clear hb3 HC
  go_wp2
  go_ret2
  exact ⟨i, b, HB.out.1, HB.out.2.1, HB.out.2.2, by rw [HBS.out]; rfl, H3.out⟩
set_option maxHeartbeats 1000000 in
theorem find_out (w : World) (B s d base : Nat) (nm : ByteArray) (P : List Pl) (bh : Pl) (hS : SG w B s d nm base P bh) (o : Int) (h : o < (base : Int) ∨ (bh.off : Int) ≤ o) :
    Calls Tryz.prog 42 #[.pointer (some ⟨s, 0, none⟩), .int .i64 o] w fun e w' => e = .returned (.tuple #[.agg #[.int .i64 0, .int .i64 0, .int .i64 0], .string ⟨#[]⟩, .int .i64 3]) ∧ Below w.heap.size w w' := by
  obtain ⟨bo, bb, bc⟩ := bh
  simp only at h
  have hba := below_a w (.cells #[.int .i64 0, .int .i64 0, .int .i64 0] 68)
  obtain ⟨X, hX⟩ : ∃ X, w.heap.size = X := ⟨_, rfl⟩
  have H1 := hide (And.intro (hS.below hba) (And.intro hba (heap_alloc_new w (.cells #[.int .i64 0, .int .i64 0, .int .i64 0] 68))))
  rw [hX] at H1
  have HX := hide hX
  clear hba hS
  rcases h with h | h
  · go_enter Tryz.func42, Tryz.ntmps42
    go_upto_region 1 with fail
    try rw [hX]
    generalize (w.alloc (.cells #[.int .i64 0, .int .i64 0, .int .i64 0] 68)) = w1 at H1
    clear hX
    obtain ⟨c0, c1, c2, c3, c5, c6, c7⟩ := H1.out.1.cells
    obtain ⟨x0, x1, x2⟩ := cellsP3 H1.out.2.2
    have fx := frozen0 H1.out.2.2
    clear c0 c1 c2
    go_step3
    go_wp2
    try rw [Exit.noGoto_ret]
    refine bodyPost_ret (v := ?v) ?c1 rfl ?c2
    case c1 =>
      rw [results_cell_tmp2 rfl]
      go_simp
      all_goals exact rfl
    case c2 =>
      refine ⟨rfl, ?_⟩
      rw [HX.out]
      exact ((H1.out.2.1.trans (below_set w1 _ (Nat.le_refl _))).trans (below_set _ _ (Nat.le_refl _))).trans (below_set _ _ (Nat.le_refl _))
  · by_cases h0 : o < (base : Int)
    · go_enter Tryz.func42, Tryz.ntmps42
      go_upto_region 1 with fail
      try rw [hX]
      generalize (w.alloc (.cells #[.int .i64 0, .int .i64 0, .int .i64 0] 68)) = w1 at H1
      clear hX h
      obtain ⟨c0, c1, c2, c3, c5, c6, c7⟩ := H1.out.1.cells
      obtain ⟨x0, x1, x2⟩ := cellsP3 H1.out.2.2
      have fx := frozen0 H1.out.2.2
      clear c0 c1 c2
      go_step3
      go_wp2
      try rw [Exit.noGoto_ret]
      refine bodyPost_ret (v := ?v3) ?c5 rfl ?c6
      case c5 =>
        rw [results_cell_tmp2 rfl]
        go_simp
        all_goals exact rfl
      case c6 =>
        refine ⟨rfl, ?_⟩
        rw [HX.out]
        exact ((H1.out.2.1.trans (below_set w1 _ (Nat.le_refl _))).trans (below_set _ _ (Nat.le_refl _))).trans (below_set _ _ (Nat.le_refl _))
    · go_enter Tryz.func42, Tryz.ntmps42
      go_upto_region 1 with fail
      try rw [hX]
      generalize (w.alloc (.cells #[.int .i64 0, .int .i64 0, .int .i64 0] 68)) = w1 at H1
      clear hX
      obtain ⟨c0, c1, c2, c3, c5, c6, c7⟩ := H1.out.1.cells
      simp only at c5 c6 c7
      obtain ⟨x0, x1, x2⟩ := cellsP3 H1.out.2.2
      have fx := frozen0 H1.out.2.2
      clear c0 c1 c2 c6 c7
      go_step3
      go_wp2
      try rw [Exit.noGoto_ret]
      refine bodyPost_ret (v := ?v2) ?c3 rfl ?c4
      case c3 =>
        rw [results_cell_tmp2 rfl]
        go_simp
        all_goals exact rfl
      case c4 =>
        refine ⟨rfl, ?_⟩
        rw [HX.out]
        exact ((H1.out.2.1.trans (below_set w1 _ (Nat.le_refl _))).trans (below_set _ _ (Nat.le_refl _))).trans (below_set _ _ (Nat.le_refl _))
set_option maxHeartbeats 1000000 in
theorem batch_out (w : World) (B s d base : Nat) (nm : ByteArray) (P : List Pl) (bh : Pl) (hS : SG w B s d nm base P bh) (o : Int) (h : o < (base : Int) ∨ (bh.off : Int) ≤ o) :
    Calls Tryz.prog 25 #[.pointer (some ⟨s, 0, none⟩), .int .i64 o] w fun e w' => e = .returned (.tuple #[.string ⟨#[]⟩, .int .i64 3]) ∧ Below w.heap.size w w' := by
  have HG := hide (sgiven_yes s w hS.cells.1)
  have HFi := hide (find_out w B s d base nm P bh hS o h)
  have HC := hide (fun W => V8.clone ⟨#[]⟩ W (by decide))
  clear hS h
  go_enter Tryz.func25, Tryz.ntmps25
  go_wp2_with fail
  refine HG.out.mono ?_
  rintro e W ⟨rfl, hW⟩
  obtain rfl := hW.symm
  clear HG hW
  go_wp2_with fail
  refine HFi.out.mono ?_
  rintro e w1 ⟨rfl, hb1⟩
  have H1 := hide (hb1.alloc hb1.size (.cells #[.int .i64 0, .int .i64 0, .int .i64 0] 68))
  clear hb1 HFi
  go_upto_region 4 with fail
  generalize (w1.alloc (.cells #[.int .i64 0, .int .i64 0, .int .i64 0] 68)) = w2 at H1
  go_wp2_with fail
  refine (HC.out w2).mono ?_
  rintro e w3 ⟨rfl, hb3⟩
  have H3 := hide (H1.out.trans (hb3.mono H1.out.size))
  clear hb3 HC
  go_wp2
  go_ret2
  exact ⟨rfl, H3.out⟩
end Go.Proofs.YtcjlcieheepegaaGreatDoor
namespace Go.Proofs.YtcjlcieheepegaaGreatDoor
open Go.RowKit
set_option linter.unusedVariables false
set_option maxRecDepth 20000
set_option maxRecDepth 20000

def strs (l : List BT) : List Value := l.map fun b => .string b.s
/-- A row of batches' bytes of the law's own. -/
def OwnS (w : World) (B : Nat) (v : Value) (l : List BT) : Prop := w.ownsRow B 9 1 v l.length (strs l)
theorem OwnS.below {w w' : World} {B : Nat} {v : Value} {l : List BT} (h : OwnS w B v l) (hb : Below w.heap.size w w') : OwnS w' B v l := owns_below h hb
theorem OwnS.form {w : World} {B : Nat} {v : Value} {l : List BT} (h : OwnS w B v l) : ∃ a c, v = .slice a l.length c := rowForm h
theorem OwnS.blk {w : World} {B : Nat} {a : Option Addr} {n c : Nat} {l : List BT} (h : OwnS w B (.slice a n c) l) (h0 : 0 < l.length) : ∃ g, a = some ⟨g, 0, none⟩ ∧ n = l.length ∧ ∀ i b, l[i]? = some b → w.cell? ⟨g, i, none⟩ = some (.string b.s) := by
  have h' := h
  unfold OwnS at h'
  rcases h'.2 with ⟨e, e0⟩ | ⟨g, cap, cur, e, _⟩
  · omega
  · cases e
    refine ⟨g, rfl, rfl, fun i b hi => ?_⟩
    have := h'.cells (g := g) rfl i (.string b.s) (by simp [strs, hi])
    rw [add_zero_addr] at this
    exact this
/-- What Having answers. -/
def HavEnd (w : World) (base : Nat) (l : List BT) (o : Int) (e : Ending) (w' : World) : Prop := Below w.heap.size w w' ∧ ((e = .returned (.int .i64 (-1)) ∧ ∀ i b, l[i]? = some b → ¬ (((plAt base l i).off : Int) ≤ o ∧ o < ((plAt base l (i + 1)).off : Int))) ∨ ∃ i b, l[i]? = some b ∧ ((plAt base l i).off : Int) ≤ o ∧ o < ((plAt base l (i + 1)).off : Int) ∧ e = .returned (.int .i64 (i : Nat)))
/-- Only one batch has an offset. -/
theorem only {base : Nat} {l : List BT} (ho : allOK l) {i j : Nat} {b c : BT} (hi : l[i]? = some b) (hj : l[j]? = some c) {o : Int} (h1 : ((plAt base l i).off : Int) ≤ o) (h2 : o < ((plAt base l (i + 1)).off : Int)) (h3 : ((plAt base l j).off : Int) ≤ o) (h4 : o < ((plAt base l (j + 1)).off : Int)) : i = j := by
  obtain ⟨il, _⟩ := List.getElem?_eq_some_iff.1 hi
  obtain ⟨jl, _⟩ := List.getElem?_eq_some_iff.1 hj
  rcases Nat.lt_trichotomy i j with h | h | h
  · have := (plAt_le (base := base) ho (show i + 1 ≤ j from h) (Nat.le_of_lt jl)).1; omega
  · exact h
  · have := (plAt_le (base := base) ho (show j + 1 ≤ i from h) (Nat.le_of_lt il)).1; omega
end Go.Proofs.YtcjlcieheepegaaGreatDoor
namespace Go.Proofs.YtcjlcieheepegaaGreatDoor
open Go.RowKit
set_option linter.unusedVariables false
set_option maxRecDepth 20000
set_option maxRecDepth 20000

/-- A segment that holds batches, on its disk. -/
structure SS (w : World) (B Bd s d base room cnt : Nat) (nm : ByteArray) (F : List UInt8 → Option (List Nat × Nat)) (l : List BT) (K : List Nat) : Prop where
  sg : SG w B s d nm base (K.map (plAt base l)) (plAt base l l.length)
  vd : V8.VD w Bd d room F cnt (szs l)
  may : V8.May nm
  file : (l = [] ∧ F nm.data.toList = none ∧ cnt = 0) ∨ (FileOf F nm l ∧ l ≠ [])
  ch : chain base l
  ok : allOK l
  mks : Marks l.length K
  hb : base ≤ 65535
theorem SS.below {w w' : World} {B Bd s d base room cnt : Nat} {nm : ByteArray} {F : List UInt8 → Option (List Nat × Nat)} {l : List BT} {K : List Nat} (h : SS w B Bd s d base room cnt nm F l K) (hb : Below w.heap.size w w') : SS w' B Bd s d base room cnt nm F l K :=
  ⟨h.sg.below hb, h.vd.below hb, h.may, h.file, h.ch, h.ok, h.mks, h.hb⟩
theorem SS.len {w : World} {B Bd s d base room cnt : Nat} {nm : ByteArray} {F : List UInt8 → Option (List Nat × Nat)} {l : List BT} {K : List Nat} (h : SS w B Bd s d base room cnt nm F l K) : l.length ≤ 16777216 ∧ szs l ≤ 16777216 := by
  have h1 := h.vd.bounds
  have h2 := len_le_szs l h.ok
  constructor <;> omega
end Go.Proofs.YtcjlcieheepegaaGreatDoor
