/- Layer 11: take of any segment. -/
import Derived.Test.YtmokjopffgmfjaaGreatDoorEKte
namespace Go.Proofs.YtmokjopffgmfjaaGreatDoor
open Go.RowKit
set_option linter.unusedVariables false
set_option maxRecDepth 20000
set_option maxRecDepth 20000

/-- What take leaves. -/
def TakeEnd (w : World) (B s d base : Nat) (nm : ByteArray) (P : List Pl) (bh bn : Pl) (e : Ending) (w' : World) : Prop :=
  e = .returned (.tuple #[]) ∧ TK B s w w' ∧ ∃ P', SG w' B s d nm base P' bn ∧ (P' = P ++ [bh] ∨ (P' = P ∧ P ≠ []))
theorem plc_get (P : List Pl) (i : Nat) (x : Pl) (h : P[i]? = some x) : (plc P)[i * 3]? = some (.int .i64 (x.off : Nat)) ∧ (plc P)[i * 3 + 1]? = some (.int .i64 (x.byt : Nat)) ∧ (plc P)[i * 3 + 2]? = some (.int .i64 (x.cnt : Nat)) := by
  induction P generalizing i with
  | nil => simp at h
  | cons p P ih =>
    cases i with
    | zero =>
      simp at h
      subst h
      exact ⟨rfl, rfl, rfl⟩
    | succ i =>
      simp at h
      obtain ⟨h1, h2, h3⟩ := ih i h
      have e : ∀ j, (plc (p :: P))[(i + 1) * 3 + j]? = (plc P)[i * 3 + j]? := fun j => by
        have e1 : plc (p :: P) = [.int .i64 (p.off : Nat), .int .i64 (p.byt : Nat), .int .i64 (p.cnt : Nat)] ++ plc P := rfl
        rw [e1, List.getElem?_append_right (by show 3 ≤ _; omega)]
        congr 1
        show (i + 1) * 3 + j - 3 = _
        omega
      exact ⟨(e 0).trans h1, (e 1).trans h2, (e 2).trans h3⟩
set_option maxHeartbeats 8000000 in
theorem take_empty (w : World) (B s d base : Nat) (nm : ByteArray) (P : List Pl) (bh : Pl) (h : SG w B s d nm base P bh) (x : HN) (ok : x.OK) (ao : Option Addr) (ln cp n : Nat) (hn : n ≤ 1048576) (hp : bh.byt ≤ 1073741824) (hc : bh.cnt ≤ 1073741824) (hBw : B ≤ w.heap.size) (hPl : P.length ≤ 1073741824) (hP : P = []) :
    Calls Tryz.prog 29 #[.pointer (some ⟨s, 0, none⟩), x.bv (.slice ao ln cp), .int .i64 (n : Nat)] w (TakeEnd w B s d base nm P bh ⟨x.base + x.cnt, bh.byt + n, bh.cnt + 1⟩) := by
  have hslt := h.lt
  obtain ⟨i0, hi, hz0, hz1, hz2⟩ := info_split plInfo
  have HI : Hid (Tryz.prog.info? 31 = some i0 ∧ i0.zero = some (.agg #[.int .i64 0, .int .i64 0, .int .i64 0]) ∧ i0.size = 3 ∧ i0.bytes = 24) := ⟨hi, hz0, hz1, hz2⟩
  clear hi hz0 hz1 hz2
  obtain ⟨po, pb, pc⟩ := bh
  have HA := hide (fun W => after_ok ⟨po, pb, pc⟩ x ok ao ln cp n W (by show pb ≤ _; simp only at hp; omega) (by show pc ≤ _; simp only at hc; omega) hn)
  obtain ⟨xb, xc, xv, xp, xs, xn⟩ := x
  unfold TakeEnd
  unfold HN.bv at HA ⊢
  simp only [Pl.v] at HA ⊢
  obtain ⟨q1, hq1⟩ : ∃ q, xb + xc = q := ⟨_, rfl⟩
  obtain ⟨q2, hq2⟩ : ∃ q, pb + n = q := ⟨_, rfl⟩
  obtain ⟨q3, hq3⟩ : ∃ q, pc + 1 = q := ⟨_, rfl⟩
  rw [hq1, hq2, hq3] at HA ⊢
  have hpb : pb ≤ 1073741824 := hp
  clear hq1 hq2 hq3 hp hc hn ok
  obtain ⟨U, hU⟩ : ∃ U, w.heap.size = U := ⟨_, rfl⟩
  have hba := below_a w (.cells #[.int .i64 (xb : Nat), .int .i64 (xc : Nat), .int .i64 (xv : Nat), .int .i64 (xp : Nat), .int .i64 (xs : Nat), .slice ao ln cp] 62)
  have HT := hide (And.intro (h.below hba) (And.intro (TK.of (s := s) hba hBw hslt) (And.intro (heap_alloc_new w (.cells #[.int .i64 (xb : Nat), .int .i64 (xc : Nat), .int .i64 (xv : Nat), .int .i64 (xp : Nat), .int .i64 (xs : Nat), .slice ao ln cp] 62)) (Nat.le_trans hBw hba.size))))
  rw [hU] at HT
  have HBs := hide h.hB
  obtain ⟨N, hN⟩ : ∃ N, P.length = N := ⟨_, rfl⟩
  have HN := hide hN
  rw [hN] at hPl
  have hM1 : (N : Int) - 1 = -1 := by rw [← hN, hP]; rfl
  clear h hba hBw hslt
  go_enter Tryz.func29, Tryz.ntmps29
  go_upto_region 1 with fail
  try rw [hU]
  generalize (w.alloc (.cells #[.int .i64 (xb : Nat), .int .i64 (xc : Nat), .int .i64 (xv : Nat), .int .i64 (xp : Nat), .int .i64 (xs : Nat), .slice ao ln cp] 62)) = w1 at HT
  clear hU
  obtain ⟨pv, hblk, hrow⟩ := HT.out.1.blk
  obtain ⟨pa, pcap, rfl⟩ := rowForm hrow
  rw [hN] at hblk hrow
  have c4 : w1.cell? ⟨s, 4, none⟩ = some (.slice pa N pcap) := by simp [World.cell?, hblk]
  have HX := hide (And.intro hblk hrow)
  clear hblk hrow hN
  go_upto_region 2 with fail
  go_region
  have HX2 : Hid (w1.drew.heap[s]? = some (.cells #[.pointer (some ⟨s, 0, none⟩), .pointer (some ⟨d, 0, none⟩), .string nm, .int .i64 (base : Nat), .slice pa N pcap, .int .i64 (po : Nat), .int .i64 (pb : Nat), .int .i64 (pc : Nat)] 33 (0, 0)) ∧ w1.drew.ownsRow B 31 3 (.slice pa N pcap) N (plc P) ∧ TK B s w w1.drew ∧ w1.drew.heap[U]? = some (.cells #[.int .i64 (xb : Nat), .int .i64 (xc : Nat), .int .i64 (xv : Nat), .int .i64 (xp : Nat), .int .i64 (xs : Nat), .slice ao ln cp] 62 (0, 0)) ∧ B ≤ w1.drew.heap.size) :=
    ⟨HX.out.1, owns_below HX.out.2 (belD w1), HT.out.2.1.trans (TK.of (belD w1) HT.out.2.2.2 (lt_of_block HX.out.1)), HT.out.2.2.1, HT.out.2.2.2⟩
  clear c4
  go_upto_region 3 with fail
  generalize w1.drew = w2 at HX2
  have d4 : w2.cell? ⟨s, 4, none⟩ = some (.slice pa N pcap) := by simp [World.cell?, HX2.out.1]
  have d5 : w2.cell? ⟨s, 5, none⟩ = some (.int .i64 (po : Nat)) := by simp [World.cell?, HX2.out.1]
  have d6 : w2.cell? ⟨s, 6, none⟩ = some (.int .i64 (pb : Nat)) := by simp [World.cell?, HX2.out.1]
  have d7 : w2.cell? ⟨s, 7, none⟩ = some (.int .i64 (pc : Nat)) := by simp [World.cell?, HX2.out.1]
  have d41 := cellB (belD w2) d4
  have d51 := cellB (belD w2) d5
  have d61 := cellB (belD w2) d6
  have d71 := cellB (belD w2) d7
  have d42 := fun o => cellB (below_ad w2 o) d4
  have HOW : Hid (∀ o, (w2.alloc o).drew.ownsRow B 31 3 (.slice pa N pcap) N (plc P) ∧ B ≤ (w2.alloc o).drew.heap.size) := fun o => ⟨owns_below HX2.out.2.1 (below_ad w2 o), Nat.le_trans HX2.out.2.2.2.2 (below_ad w2 o).size⟩
  have HNW := hide (news3 w2 (.int .i64 (po : Nat)) (.int .i64 (pb : Nat)) (.int .i64 (pc : Nat)) 31)
  have HK : Hid (∀ w7 g c, (w2.alloc (.cells #[.int .i64 (po : Nat), .int .i64 (pb : Nat), .int .i64 (pc : Nat)] 31)).grownBy w7 (Value.slice pa N pcap).ownBlock → ((Value.slice pa N pcap).ownBlock = some g ∨ g = (w2.alloc (.cells #[.int .i64 (po : Nat), .int .i64 (pb : Nat), .int .i64 (pc : Nat)] 31)).heap.size) → w7.heap[s]? = some (.cells #[.pointer (some ⟨s, 0, none⟩), .pointer (some ⟨d, 0, none⟩), .string nm, .int .i64 (base : Nat), .slice pa N pcap, .int .i64 (po : Nat), .int .i64 (pb : Nat), .int .i64 (pc : Nat)] 33 (0, 0)) ∧ w7.heap[U]? = some (.cells #[.int .i64 (xb : Nat), .int .i64 (xc : Nat), .int .i64 (xv : Nat), .int .i64 (xp : Nat), .int .i64 (xs : Nat), .slice ao ln cp] 62 (0, 0)) ∧ TK B s w (w7.setCell ⟨s, 4, none⟩ (.slice (some ⟨g, 0, none⟩) (N + 1) c)) ∧ B ≤ w7.heap.size) := fun w7 g c hg hat => by
    have hbe := below_a w2 (.cells #[.int .i64 (po : Nat), .int .i64 (pb : Nat), .int .i64 (pc : Nat)] 31)
    have hr := owns_below HX2.out.2.1 hbe
    have hs1 := (hbe.block s (lt_of_block HX2.out.1)).trans HX2.out.1
    have hu1 := (hbe.block U (lt_of_block HX2.out.2.2.2.1)).trans HX2.out.2.2.2.1
    have hns : (Value.slice pa N pcap).ownBlock ≠ some s := fun e => by
      obtain ⟨_, cs, e'⟩ := rowBlk hr e
      rw [hs1] at e'; cases e'
    refine ⟨(hg.block s (lt_of_block hs1) (fun e => hns e.symm)).trans hs1, (hg.block U (lt_of_block hu1) (fun e => ?_)).trans hu1, (HX2.out.2.2.1.trans (TK.of hbe HX2.out.2.2.2.2 (lt_of_block HX2.out.1))).trans (TK.push hs1 rfl hg hns (fun k hk => (rowBlk hr hk).1) (Nat.le_trans HX2.out.2.2.2.2 hbe.size) HBs.out ?_), Nat.le_trans (Nat.le_trans HX2.out.2.2.2.2 hbe.size) hg.size⟩
    · obtain ⟨_, cs, e'⟩ := rowBlk hr e.symm
      rw [hu1] at e'; cases e'
    · rcases hat with h | h
      · exact .inl h.symm
      · exact .inr (by rw [← h]; rfl)
  clear HX HT
  go_region_law
    (refine step_append_lies _ rfl _ _ 29 rfl B 31 i0 (.agg #[.int .i64 0, .int .i64 0, .int .i64 0]) 3 24 Tryz.underlying29 HI.out.1 HI.out.2.1 HI.out.2.2.1 HI.out.2.2.2 rfl (by decide) (.slice pa N pcap) N (plc P) rfl (HOW.out _).1 ⟨w2.heap.size, 0, none⟩ 1 1 [.int .i64 (po : Nat), .int .i64 (pb : Nat), .int .i64 (pc : Nat)] rfl rfl HNW.out (one3 _ _ _) (by decide) (by unfold maxLen; omega) (by omega) (HOW.out _).2 _ rfl ?_; intro g7 cap7 w7 hown hgrow hat hgl; have hk7 := HK.out w7 g7 cap7 ⟨hgrow.os, hgrow.tape, hgrow.output, hgrow.size, hgrow.block⟩ hat; have e4 : w7.cell? ⟨s, 4, none⟩ = some (.slice pa N pcap) := (by simp [World.cell?, hk7.1]); have f4 := frozen0 hk7.1 4; have HGR := hide (And.intro hown hk7); clear hown hgrow hat hgl hk7)
  all_goals
    have HS8 : Hid ((w7.setCell ⟨s, 4, none⟩ (.slice (some ⟨g7, 0, none⟩) (N + 1) cap7)).heap[s]? = some (.cells #[.pointer (some ⟨s, 0, none⟩), .pointer (some ⟨d, 0, none⟩), .string nm, .int .i64 (base : Nat), .slice (some ⟨g7, 0, none⟩) (N + 1) cap7, .int .i64 (po : Nat), .int .i64 (pb : Nat), .int .i64 (pc : Nat)] 33 (0, 0)) ∧ (w7.setCell ⟨s, 4, none⟩ (.slice (some ⟨g7, 0, none⟩) (N + 1) cap7)).heap[U]? = some (.cells #[.int .i64 (xb : Nat), .int .i64 (xc : Nat), .int .i64 (xv : Nat), .int .i64 (xp : Nat), .int .i64 (xs : Nat), .slice ao ln cp] 62 (0, 0)) ∧ TK B s w (w7.setCell ⟨s, 4, none⟩ (.slice (some ⟨g7, 0, none⟩) (N + 1) cap7)) ∧ B ≤ (w7.setCell ⟨s, 4, none⟩ (.slice (some ⟨g7, 0, none⟩) (N + 1) cap7)).heap.size ∧ (w7.setCell ⟨s, 4, none⟩ (.slice (some ⟨g7, 0, none⟩) (N + 1) cap7)).ownsRow B 31 3 (.slice (some ⟨g7, 0, none⟩) (N + 1) cap7) (N + 1) (plc (P ++ [⟨po, pb, pc⟩]))) := by
      obtain ⟨ho, h1, h2, h3, h4⟩ := HGR.out
      have hne : ∀ k, k ≠ s → (w7.setCell ⟨s, 4, none⟩ (.slice (some ⟨g7, 0, none⟩) (N + 1) cap7)).heap[k]? = w7.heap[k]? := fun k hk => Below.heap_setCell _ _ _ _ (by simpa using hk)
      refine ⟨block_set h1, (hne U (by rintro rfl; rw [h1] at h2; cases h2)).trans h2, h3, by simpa [World.setCell] using h4, ?_⟩
      rw [plc_append]
      exact rowKeep ho fun g cs e => hne g (by rintro rfl; rw [h1] at e; cases e)
    clear HGR HOW HNW HK e4 f4 d4 d5 d6 d7 d41 d51 d61 d71 d42 HX2
    go_upto_region 4 with fail
    generalize (w7.setCell ⟨s, 4, none⟩ (.slice (some ⟨g7, 0, none⟩) (N + 1) cap7)) = w8 at HS8
    have HC8 := hide (And.intro (cells6 HS8.out.2.1) (And.intro (show w8.cell? ⟨s, 5, none⟩ = some (.int .i64 (po : Nat)) by simp [World.cell?, HS8.out.1]) (And.intro (show w8.cell? ⟨s, 6, none⟩ = some (.int .i64 (pb : Nat)) by simp [World.cell?, HS8.out.1]) (show w8.cell? ⟨s, 7, none⟩ = some (.int .i64 (pc : Nat)) by simp [World.cell?, HS8.out.1]))))
    obtain ⟨⟨z0, z1, z2, z3, z4, z5⟩, y5, y6, y7⟩ := HC8.out
    have z01 := cellB (belD w8) z0
    have z11 := cellB (belD w8) z1
    have z21 := cellB (belD w8) z2
    have z31 := cellB (belD w8) z3
    have z41 := cellB (belD w8) z4
    have z51 := cellB (belD w8) z5
    have y51 := cellB (belD w8) y5
    have y61 := cellB (belD w8) y6
    have y71 := cellB (belD w8) y7
    clear z0 z1 z2 z3 z4 z5 y5 y6 y7 HC8
    go_region_with (go_at_call 42; refine (HA.out _).mono ?_; rintro e w9 ⟨rfl, hb9⟩; have hb9s : w9.heap[s]? = some (.cells #[.pointer (some ⟨s, 0, none⟩), .pointer (some ⟨d, 0, none⟩), .string nm, .int .i64 (base : Nat), .slice (some ⟨g7, 0, none⟩) (N + 1) cap7, .int .i64 (po : Nat), .int .i64 (pb : Nat), .int .i64 (pc : Nat)] 33 (0, 0)) := (hb9.block s (lt_of_block HS8.out.1)).trans HS8.out.1; have k5 : w9.cell? ⟨s, 5, none⟩ = some (.int .i64 (po : Nat)) := (by simp [World.cell?, hb9s]); have k6 : w9.cell? ⟨s, 6, none⟩ = some (.int .i64 (pb : Nat)) := (by simp [World.cell?, hb9s]); have k7 : w9.cell? ⟨s, 7, none⟩ = some (.int .i64 (pc : Nat)) := (by simp [World.cell?, hb9s]); have ff := frozen0 hb9s; have HB9 := hide (And.intro hb9 hb9s); clear hb9 hb9s)
    all_goals
      go_end0
      obtain ⟨hb9, hs9⟩ := HB9.out
      obtain ⟨h1, h2, h3, h4, h5⟩ := HS8.out
      have hb : Below w8.heap.size w8 w9 := (belD w8).trans hb9
      have s5 := block_set (i := 5) (u := .int .i64 (q1 : Nat)) hs9
      have s6 := block_set (i := 6) (u := .int .i64 (q2 : Nat)) s5
      have s7 := block_set (i := 7) (u := .int .i64 (q3 : Nat)) s6
      refine ⟨rfl, ?_, P ++ [⟨po, pb, pc⟩], ⟨⟨.slice (some ⟨g7, 0, none⟩) (N + 1) cap7, ?_, rowKeep (w := w9) ?_ fun g cs e => ?_⟩, HBs.out⟩, .inl rfl⟩
      · exact (((h3.trans (TK.of hb h4 (lt_of_block h1))).trans (TK.set _ HBs.out hs9 (by decide))).trans (TK.set _ HBs.out s5 (by decide))).trans (TK.set _ HBs.out s6 (by decide))
      · exact s7
      · rw [show (P ++ [(⟨po, pb, pc⟩ : Pl)]).length = N + 1 by rw [List.length_append, HN.out]; rfl]; exact owns_below h5 hb
      · have hg : g ≠ s := by rintro rfl; rw [hs9] at e; cases e
        rw [Below.heap_setCell _ _ _ _ (by simpa using hg), Below.heap_setCell _ _ _ _ (by simpa using hg), Below.heap_setCell _ _ _ _ (by simpa using hg)]
set_option maxHeartbeats 8000000 in
theorem take_near (w : World) (B s d base : Nat) (nm : ByteArray) (P : List Pl) (bh : Pl) (h : SG w B s d nm base P bh) (x : HN) (ok : x.OK) (ao : Option Addr) (ln cp n : Nat) (hn : n ≤ 1048576) (hp : bh.byt ≤ 1073741824) (hc : bh.cnt ≤ 1073741824) (hBw : B ≤ w.heap.size) (hPl : P.length ≤ 1073741824) (M : Nat) (hM : P.length = M + 1) (last : Pl) (hl : P[M]? = some last) (hlb : last.byt ≤ bh.byt) (hfar : bh.byt - last.byt < 4096) :
    Calls Tryz.prog 29 #[.pointer (some ⟨s, 0, none⟩), x.bv (.slice ao ln cp), .int .i64 (n : Nat)] w (TakeEnd w B s d base nm P bh ⟨x.base + x.cnt, bh.byt + n, bh.cnt + 1⟩) := by
  have hslt := h.lt
  obtain ⟨i0, hi, hz0, hz1, hz2⟩ := info_split plInfo
  have HI : Hid (Tryz.prog.info? 31 = some i0 ∧ i0.zero = some (.agg #[.int .i64 0, .int .i64 0, .int .i64 0]) ∧ i0.size = 3 ∧ i0.bytes = 24) := ⟨hi, hz0, hz1, hz2⟩
  clear hi hz0 hz1 hz2
  obtain ⟨po, pb, pc⟩ := bh
  have HA := hide (fun W => after_ok ⟨po, pb, pc⟩ x ok ao ln cp n W (by show pb ≤ _; simp only at hp; omega) (by show pc ≤ _; simp only at hc; omega) hn)
  obtain ⟨xb, xc, xv, xp, xs, xn⟩ := x
  unfold TakeEnd
  unfold HN.bv at HA ⊢
  simp only [Pl.v] at HA ⊢
  obtain ⟨q1, hq1⟩ : ∃ q, xb + xc = q := ⟨_, rfl⟩
  obtain ⟨q2, hq2⟩ : ∃ q, pb + n = q := ⟨_, rfl⟩
  obtain ⟨q3, hq3⟩ : ∃ q, pc + 1 = q := ⟨_, rfl⟩
  rw [hq1, hq2, hq3] at HA ⊢
  have hpb : pb ≤ 1073741824 := hp
  clear hq1 hq2 hq3 hp hc hn ok
  obtain ⟨U, hU⟩ : ∃ U, w.heap.size = U := ⟨_, rfl⟩
  have hba := below_a w (.cells #[.int .i64 (xb : Nat), .int .i64 (xc : Nat), .int .i64 (xv : Nat), .int .i64 (xp : Nat), .int .i64 (xs : Nat), .slice ao ln cp] 62)
  have HT := hide (And.intro (h.below hba) (And.intro (TK.of (s := s) hba hBw hslt) (And.intro (heap_alloc_new w (.cells #[.int .i64 (xb : Nat), .int .i64 (xc : Nat), .int .i64 (xv : Nat), .int .i64 (xp : Nat), .int .i64 (xs : Nat), .slice ao ln cp] 62)) (Nat.le_trans hBw hba.size))))
  rw [hU] at HT
  have HBs := hide h.hB
  obtain ⟨N, hN⟩ : ∃ N, P.length = N := ⟨_, rfl⟩
  have HN := hide hN
  rw [hN] at hPl
  obtain ⟨lo, lb, lc⟩ := last
  have hNM : N = M + 1 := by rw [← hN, hM]
  have hM1 : (N : Int) - 1 = (M : Int) := by omega
  have hMN : (M : Int) < (N : Int) := by omega
  have hMn : M < N := by omega
  have hM0 : ¬ (M : Int) < 0 := by omega
  obtain ⟨df, hdf⟩ : ∃ df, pb - lb = df := ⟨_, rfl⟩
  have hds : (pb : Int) - (lb : Int) = (df : Int) := by simp only at hlb; omega
  have hdb : df ≤ 1073741824 := by omega
  clear hNM hM
  have hdf4 : ¬ (4096 : Int) ≤ (df : Int) := by simp only at hfar; omega
  clear hfar
  clear h hba hBw hslt
  go_enter Tryz.func29, Tryz.ntmps29
  go_upto_region 1 with fail
  try rw [hU]
  generalize (w.alloc (.cells #[.int .i64 (xb : Nat), .int .i64 (xc : Nat), .int .i64 (xv : Nat), .int .i64 (xp : Nat), .int .i64 (xs : Nat), .slice ao ln cp] 62)) = w1 at HT
  clear hU
  obtain ⟨pv, hblk, hrow⟩ := HT.out.1.blk
  obtain ⟨pa, pcap, rfl⟩ := rowForm hrow
  rw [hN] at hblk hrow
  have c4 : w1.cell? ⟨s, 4, none⟩ = some (.slice pa N pcap) := by simp [World.cell?, hblk]
  have HX := hide (And.intro hblk hrow)
  obtain ⟨g0, rfl, hcap0⟩ : ∃ g, pa = some ⟨g, 0, none⟩ ∧ N ≤ pcap := by
    rcases hrow.2 with ⟨e, h0⟩ | ⟨g, cap, cur, e, _, _, h3, _⟩
    · exact absurd h0 (by omega)
    · cases e; exact ⟨g, rfl, h3⟩
  have cb : w1.cell? ⟨g0, M * 3 + 1, none⟩ = some (.int .i64 (lb : Nat)) := by
    have := hrow.cells (g := g0) rfl (M * 3 + 1) _ (plc_get P M _ hl).2.1
    rw [add_zero_addr] at this
    exact this
  have c6 : w1.cell? ⟨s, 6, none⟩ = some (.int .i64 (pb : Nat)) := by simp [World.cell?, hblk]
  clear hblk hrow hN
  go_upto_region 2 with fail
  clear hMn hcap0
  go_region
  have HS8 : Hid (w1.drew.heap[s]? = some (.cells #[.pointer (some ⟨s, 0, none⟩), .pointer (some ⟨d, 0, none⟩), .string nm, .int .i64 (base : Nat), .slice (some ⟨g0, 0, none⟩) N pcap, .int .i64 (po : Nat), .int .i64 (pb : Nat), .int .i64 (pc : Nat)] 33 (0, 0)) ∧ w1.drew.heap[U]? = some (.cells #[.int .i64 (xb : Nat), .int .i64 (xc : Nat), .int .i64 (xv : Nat), .int .i64 (xp : Nat), .int .i64 (xs : Nat), .slice ao ln cp] 62 (0, 0)) ∧ TK B s w w1.drew ∧ B ≤ w1.drew.heap.size ∧ w1.drew.ownsRow B 31 3 (.slice (some ⟨g0, 0, none⟩) N pcap) N (plc P)) :=
    ⟨HX.out.1, HT.out.2.2.1, HT.out.2.1.trans (TK.of (belD w1) HT.out.2.2.2 (lt_of_block HX.out.1)), HT.out.2.2.2, owns_below HX.out.2 (belD w1)⟩
  clear c4 HX HT
  go_upto_region 4 with fail
  generalize w1.drew = w8 at HS8
  have HC8 := hide (And.intro (cells6 HS8.out.2.1) (And.intro (show w8.cell? ⟨s, 5, none⟩ = some (.int .i64 (po : Nat)) by simp [World.cell?, HS8.out.1]) (And.intro (show w8.cell? ⟨s, 6, none⟩ = some (.int .i64 (pb : Nat)) by simp [World.cell?, HS8.out.1]) (show w8.cell? ⟨s, 7, none⟩ = some (.int .i64 (pc : Nat)) by simp [World.cell?, HS8.out.1]))))
  obtain ⟨⟨z0, z1, z2, z3, z4, z5⟩, y5, y6, y7⟩ := HC8.out
  have z01 := cellB (belD w8) z0
  have z11 := cellB (belD w8) z1
  have z21 := cellB (belD w8) z2
  have z31 := cellB (belD w8) z3
  have z41 := cellB (belD w8) z4
  have z51 := cellB (belD w8) z5
  have y51 := cellB (belD w8) y5
  have y61 := cellB (belD w8) y6
  have y71 := cellB (belD w8) y7
  clear z0 z1 z2 z3 z4 z5 y5 y6 y7 HC8
  go_region_with (go_at_call 42; refine (HA.out _).mono ?_; rintro e w9 ⟨rfl, hb9⟩; have hb9s : w9.heap[s]? = some (.cells #[.pointer (some ⟨s, 0, none⟩), .pointer (some ⟨d, 0, none⟩), .string nm, .int .i64 (base : Nat), .slice (some ⟨g0, 0, none⟩) N pcap, .int .i64 (po : Nat), .int .i64 (pb : Nat), .int .i64 (pc : Nat)] 33 (0, 0)) := (hb9.block s (lt_of_block HS8.out.1)).trans HS8.out.1; have k5 : w9.cell? ⟨s, 5, none⟩ = some (.int .i64 (po : Nat)) := (by simp [World.cell?, hb9s]); have k6 : w9.cell? ⟨s, 6, none⟩ = some (.int .i64 (pb : Nat)) := (by simp [World.cell?, hb9s]); have k7 : w9.cell? ⟨s, 7, none⟩ = some (.int .i64 (pc : Nat)) := (by simp [World.cell?, hb9s]); have ff := frozen0 hb9s; have HB9 := hide (And.intro hb9 hb9s); clear hb9 hb9s)
  all_goals
    go_end0
    obtain ⟨hb9, hs9⟩ := HB9.out
    obtain ⟨h1, h2, h3, h4, h5⟩ := HS8.out
    have hb : Below w8.heap.size w8 w9 := (belD w8).trans hb9
    have s5 := block_set (i := 5) (u := .int .i64 (q1 : Nat)) hs9
    have s6 := block_set (i := 6) (u := .int .i64 (q2 : Nat)) s5
    have s7 := block_set (i := 7) (u := .int .i64 (q3 : Nat)) s6
    refine ⟨rfl, ?_, P, ⟨⟨.slice (some ⟨g0, 0, none⟩) N pcap, ?_, rowKeep (w := w9) ?_ fun g cs e => ?_⟩, HBs.out⟩, .inr ⟨rfl, by rintro rfl; simp at hl⟩⟩
    · exact (((h3.trans (TK.of hb h4 (lt_of_block h1))).trans (TK.set _ HBs.out hs9 (by decide))).trans (TK.set _ HBs.out s5 (by decide))).trans (TK.set _ HBs.out s6 (by decide))
    · exact s7
    · rw [HN.out]
      exact owns_below h5 hb
    · have hg : g ≠ s := by rintro rfl; rw [hs9] at e; cases e
      rw [Below.heap_setCell _ _ _ _ (by simpa using hg), Below.heap_setCell _ _ _ _ (by simpa using hg), Below.heap_setCell _ _ _ _ (by simpa using hg)]
set_option maxHeartbeats 8000000 in
theorem take_far (w : World) (B s d base : Nat) (nm : ByteArray) (P : List Pl) (bh : Pl) (h : SG w B s d nm base P bh) (x : HN) (ok : x.OK) (ao : Option Addr) (ln cp n : Nat) (hn : n ≤ 1048576) (hp : bh.byt ≤ 1073741824) (hc : bh.cnt ≤ 1073741824) (hBw : B ≤ w.heap.size) (hPl : P.length ≤ 1073741824) (M : Nat) (hM : P.length = M + 1) (last : Pl) (hl : P[M]? = some last) (hlb : last.byt ≤ bh.byt) (hfar : 4096 ≤ bh.byt - last.byt) :
    Calls Tryz.prog 29 #[.pointer (some ⟨s, 0, none⟩), x.bv (.slice ao ln cp), .int .i64 (n : Nat)] w (TakeEnd w B s d base nm P bh ⟨x.base + x.cnt, bh.byt + n, bh.cnt + 1⟩) := by
  have hslt := h.lt
  obtain ⟨i0, hi, hz0, hz1, hz2⟩ := info_split plInfo
  have HI : Hid (Tryz.prog.info? 31 = some i0 ∧ i0.zero = some (.agg #[.int .i64 0, .int .i64 0, .int .i64 0]) ∧ i0.size = 3 ∧ i0.bytes = 24) := ⟨hi, hz0, hz1, hz2⟩
  clear hi hz0 hz1 hz2
  obtain ⟨po, pb, pc⟩ := bh
  have HA := hide (fun W => after_ok ⟨po, pb, pc⟩ x ok ao ln cp n W (by show pb ≤ _; simp only at hp; omega) (by show pc ≤ _; simp only at hc; omega) hn)
  obtain ⟨xb, xc, xv, xp, xs, xn⟩ := x
  unfold TakeEnd
  unfold HN.bv at HA ⊢
  simp only [Pl.v] at HA ⊢
  obtain ⟨q1, hq1⟩ : ∃ q, xb + xc = q := ⟨_, rfl⟩
  obtain ⟨q2, hq2⟩ : ∃ q, pb + n = q := ⟨_, rfl⟩
  obtain ⟨q3, hq3⟩ : ∃ q, pc + 1 = q := ⟨_, rfl⟩
  rw [hq1, hq2, hq3] at HA ⊢
  have hpb : pb ≤ 1073741824 := hp
  clear hq1 hq2 hq3 hp hc hn ok
  obtain ⟨U, hU⟩ : ∃ U, w.heap.size = U := ⟨_, rfl⟩
  have hba := below_a w (.cells #[.int .i64 (xb : Nat), .int .i64 (xc : Nat), .int .i64 (xv : Nat), .int .i64 (xp : Nat), .int .i64 (xs : Nat), .slice ao ln cp] 62)
  have HT := hide (And.intro (h.below hba) (And.intro (TK.of (s := s) hba hBw hslt) (And.intro (heap_alloc_new w (.cells #[.int .i64 (xb : Nat), .int .i64 (xc : Nat), .int .i64 (xv : Nat), .int .i64 (xp : Nat), .int .i64 (xs : Nat), .slice ao ln cp] 62)) (Nat.le_trans hBw hba.size))))
  rw [hU] at HT
  have HBs := hide h.hB
  obtain ⟨N, hN⟩ : ∃ N, P.length = N := ⟨_, rfl⟩
  have HN := hide hN
  rw [hN] at hPl
  obtain ⟨lo, lb, lc⟩ := last
  have hNM : N = M + 1 := by rw [← hN, hM]
  have hM1 : (N : Int) - 1 = (M : Int) := by omega
  have hMN : (M : Int) < (N : Int) := by omega
  have hMn : M < N := by omega
  have hM0 : ¬ (M : Int) < 0 := by omega
  obtain ⟨df, hdf⟩ : ∃ df, pb - lb = df := ⟨_, rfl⟩
  have hds : (pb : Int) - (lb : Int) = (df : Int) := by simp only at hlb; omega
  have hdb : df ≤ 1073741824 := by omega
  clear hNM hM
  have hdf4 : (4096 : Int) ≤ (df : Int) := by simp only at hfar; omega
  clear hfar
  clear h hba hBw hslt
  go_enter Tryz.func29, Tryz.ntmps29
  go_upto_region 1 with fail
  try rw [hU]
  generalize (w.alloc (.cells #[.int .i64 (xb : Nat), .int .i64 (xc : Nat), .int .i64 (xv : Nat), .int .i64 (xp : Nat), .int .i64 (xs : Nat), .slice ao ln cp] 62)) = w1 at HT
  clear hU
  obtain ⟨pv, hblk, hrow⟩ := HT.out.1.blk
  obtain ⟨pa, pcap, rfl⟩ := rowForm hrow
  rw [hN] at hblk hrow
  have c4 : w1.cell? ⟨s, 4, none⟩ = some (.slice pa N pcap) := by simp [World.cell?, hblk]
  have HX := hide (And.intro hblk hrow)
  obtain ⟨g0, rfl, hcap0⟩ : ∃ g, pa = some ⟨g, 0, none⟩ ∧ N ≤ pcap := by
    rcases hrow.2 with ⟨e, h0⟩ | ⟨g, cap, cur, e, _, _, h3, _⟩
    · exact absurd h0 (by omega)
    · cases e; exact ⟨g, rfl, h3⟩
  have cb : w1.cell? ⟨g0, M * 3 + 1, none⟩ = some (.int .i64 (lb : Nat)) := by
    have := hrow.cells (g := g0) rfl (M * 3 + 1) _ (plc_get P M _ hl).2.1
    rw [add_zero_addr] at this
    exact this
  have c6 : w1.cell? ⟨s, 6, none⟩ = some (.int .i64 (pb : Nat)) := by simp [World.cell?, hblk]
  clear hblk hrow hN
  go_upto_region 2 with fail
  go_region
  clear cb c6
  have HX2 : Hid (w1.drew.heap[s]? = some (.cells #[.pointer (some ⟨s, 0, none⟩), .pointer (some ⟨d, 0, none⟩), .string nm, .int .i64 (base : Nat), .slice (some ⟨g0, 0, none⟩) N pcap, .int .i64 (po : Nat), .int .i64 (pb : Nat), .int .i64 (pc : Nat)] 33 (0, 0)) ∧ w1.drew.ownsRow B 31 3 (.slice (some ⟨g0, 0, none⟩) N pcap) N (plc P) ∧ TK B s w w1.drew ∧ w1.drew.heap[U]? = some (.cells #[.int .i64 (xb : Nat), .int .i64 (xc : Nat), .int .i64 (xv : Nat), .int .i64 (xp : Nat), .int .i64 (xs : Nat), .slice ao ln cp] 62 (0, 0)) ∧ B ≤ w1.drew.heap.size) :=
    ⟨HX.out.1, owns_below HX.out.2 (belD w1), HT.out.2.1.trans (TK.of (belD w1) HT.out.2.2.2 (lt_of_block HX.out.1)), HT.out.2.2.1, HT.out.2.2.2⟩
  clear c4
  go_upto_region 3 with fail
  generalize w1.drew = w2 at HX2
  have d4 : w2.cell? ⟨s, 4, none⟩ = some (.slice (some ⟨g0, 0, none⟩) N pcap) := by simp [World.cell?, HX2.out.1]
  have d5 : w2.cell? ⟨s, 5, none⟩ = some (.int .i64 (po : Nat)) := by simp [World.cell?, HX2.out.1]
  have d6 : w2.cell? ⟨s, 6, none⟩ = some (.int .i64 (pb : Nat)) := by simp [World.cell?, HX2.out.1]
  have d7 : w2.cell? ⟨s, 7, none⟩ = some (.int .i64 (pc : Nat)) := by simp [World.cell?, HX2.out.1]
  have d41 := cellB (belD w2) d4
  have d51 := cellB (belD w2) d5
  have d61 := cellB (belD w2) d6
  have d71 := cellB (belD w2) d7
  have d42 := fun o => cellB (below_ad w2 o) d4
  have HOW : Hid (∀ o, (w2.alloc o).drew.ownsRow B 31 3 (.slice (some ⟨g0, 0, none⟩) N pcap) N (plc P) ∧ B ≤ (w2.alloc o).drew.heap.size) := fun o => ⟨owns_below HX2.out.2.1 (below_ad w2 o), Nat.le_trans HX2.out.2.2.2.2 (below_ad w2 o).size⟩
  have HNW := hide (news3 w2 (.int .i64 (po : Nat)) (.int .i64 (pb : Nat)) (.int .i64 (pc : Nat)) 31)
  have HK : Hid (∀ w7 g c, (w2.alloc (.cells #[.int .i64 (po : Nat), .int .i64 (pb : Nat), .int .i64 (pc : Nat)] 31)).grownBy w7 (Value.slice (some ⟨g0, 0, none⟩) N pcap).ownBlock → ((Value.slice (some ⟨g0, 0, none⟩) N pcap).ownBlock = some g ∨ g = (w2.alloc (.cells #[.int .i64 (po : Nat), .int .i64 (pb : Nat), .int .i64 (pc : Nat)] 31)).heap.size) → w7.heap[s]? = some (.cells #[.pointer (some ⟨s, 0, none⟩), .pointer (some ⟨d, 0, none⟩), .string nm, .int .i64 (base : Nat), .slice (some ⟨g0, 0, none⟩) N pcap, .int .i64 (po : Nat), .int .i64 (pb : Nat), .int .i64 (pc : Nat)] 33 (0, 0)) ∧ w7.heap[U]? = some (.cells #[.int .i64 (xb : Nat), .int .i64 (xc : Nat), .int .i64 (xv : Nat), .int .i64 (xp : Nat), .int .i64 (xs : Nat), .slice ao ln cp] 62 (0, 0)) ∧ TK B s w (w7.setCell ⟨s, 4, none⟩ (.slice (some ⟨g, 0, none⟩) (N + 1) c)) ∧ B ≤ w7.heap.size) := fun w7 g c hg hat => by
    have hbe := below_a w2 (.cells #[.int .i64 (po : Nat), .int .i64 (pb : Nat), .int .i64 (pc : Nat)] 31)
    have hr := owns_below HX2.out.2.1 hbe
    have hs1 := (hbe.block s (lt_of_block HX2.out.1)).trans HX2.out.1
    have hu1 := (hbe.block U (lt_of_block HX2.out.2.2.2.1)).trans HX2.out.2.2.2.1
    have hns : (Value.slice (some ⟨g0, 0, none⟩) N pcap).ownBlock ≠ some s := fun e => by
      obtain ⟨_, cs, e'⟩ := rowBlk hr e
      rw [hs1] at e'; cases e'
    refine ⟨(hg.block s (lt_of_block hs1) (fun e => hns e.symm)).trans hs1, (hg.block U (lt_of_block hu1) (fun e => ?_)).trans hu1, (HX2.out.2.2.1.trans (TK.of hbe HX2.out.2.2.2.2 (lt_of_block HX2.out.1))).trans (TK.push hs1 rfl hg hns (fun k hk => (rowBlk hr hk).1) (Nat.le_trans HX2.out.2.2.2.2 hbe.size) HBs.out ?_), Nat.le_trans (Nat.le_trans HX2.out.2.2.2.2 hbe.size) hg.size⟩
    · obtain ⟨_, cs, e'⟩ := rowBlk hr e.symm
      rw [hu1] at e'; cases e'
    · rcases hat with h | h
      · exact .inl h.symm
      · exact .inr (by rw [← h]; rfl)
  clear HX HT
  go_region_law
    (refine step_append_lies _ rfl _ _ 29 rfl B 31 i0 (.agg #[.int .i64 0, .int .i64 0, .int .i64 0]) 3 24 Tryz.underlying29 HI.out.1 HI.out.2.1 HI.out.2.2.1 HI.out.2.2.2 rfl (by decide) (.slice (some ⟨g0, 0, none⟩) N pcap) N (plc P) rfl (HOW.out _).1 ⟨w2.heap.size, 0, none⟩ 1 1 [.int .i64 (po : Nat), .int .i64 (pb : Nat), .int .i64 (pc : Nat)] rfl rfl HNW.out (one3 _ _ _) (by decide) (by unfold maxLen; omega) (by omega) (HOW.out _).2 _ rfl ?_; intro g7 cap7 w7 hown hgrow hat hgl; have hk7 := HK.out w7 g7 cap7 ⟨hgrow.os, hgrow.tape, hgrow.output, hgrow.size, hgrow.block⟩ hat; have e4 : w7.cell? ⟨s, 4, none⟩ = some (.slice (some ⟨g0, 0, none⟩) N pcap) := (by simp [World.cell?, hk7.1]); have f4 := frozen0 hk7.1 4; have HGR := hide (And.intro hown hk7); clear hown hgrow hat hgl hk7)
  all_goals
    have HS8 : Hid ((w7.setCell ⟨s, 4, none⟩ (.slice (some ⟨g7, 0, none⟩) (N + 1) cap7)).heap[s]? = some (.cells #[.pointer (some ⟨s, 0, none⟩), .pointer (some ⟨d, 0, none⟩), .string nm, .int .i64 (base : Nat), .slice (some ⟨g7, 0, none⟩) (N + 1) cap7, .int .i64 (po : Nat), .int .i64 (pb : Nat), .int .i64 (pc : Nat)] 33 (0, 0)) ∧ (w7.setCell ⟨s, 4, none⟩ (.slice (some ⟨g7, 0, none⟩) (N + 1) cap7)).heap[U]? = some (.cells #[.int .i64 (xb : Nat), .int .i64 (xc : Nat), .int .i64 (xv : Nat), .int .i64 (xp : Nat), .int .i64 (xs : Nat), .slice ao ln cp] 62 (0, 0)) ∧ TK B s w (w7.setCell ⟨s, 4, none⟩ (.slice (some ⟨g7, 0, none⟩) (N + 1) cap7)) ∧ B ≤ (w7.setCell ⟨s, 4, none⟩ (.slice (some ⟨g7, 0, none⟩) (N + 1) cap7)).heap.size ∧ (w7.setCell ⟨s, 4, none⟩ (.slice (some ⟨g7, 0, none⟩) (N + 1) cap7)).ownsRow B 31 3 (.slice (some ⟨g7, 0, none⟩) (N + 1) cap7) (N + 1) (plc (P ++ [⟨po, pb, pc⟩]))) := by
      obtain ⟨ho, h1, h2, h3, h4⟩ := HGR.out
      have hne : ∀ k, k ≠ s → (w7.setCell ⟨s, 4, none⟩ (.slice (some ⟨g7, 0, none⟩) (N + 1) cap7)).heap[k]? = w7.heap[k]? := fun k hk => Below.heap_setCell _ _ _ _ (by simpa using hk)
      refine ⟨block_set h1, (hne U (by rintro rfl; rw [h1] at h2; cases h2)).trans h2, h3, by simpa [World.setCell] using h4, ?_⟩
      rw [plc_append]
      exact rowKeep ho fun g cs e => hne g (by rintro rfl; rw [h1] at e; cases e)
    clear HGR HOW HNW HK e4 f4 d4 d5 d6 d7 d41 d51 d61 d71 d42 HX2
    go_upto_region 4 with fail
    generalize (w7.setCell ⟨s, 4, none⟩ (.slice (some ⟨g7, 0, none⟩) (N + 1) cap7)) = w8 at HS8
    have HC8 := hide (And.intro (cells6 HS8.out.2.1) (And.intro (show w8.cell? ⟨s, 5, none⟩ = some (.int .i64 (po : Nat)) by simp [World.cell?, HS8.out.1]) (And.intro (show w8.cell? ⟨s, 6, none⟩ = some (.int .i64 (pb : Nat)) by simp [World.cell?, HS8.out.1]) (show w8.cell? ⟨s, 7, none⟩ = some (.int .i64 (pc : Nat)) by simp [World.cell?, HS8.out.1]))))
    obtain ⟨⟨z0, z1, z2, z3, z4, z5⟩, y5, y6, y7⟩ := HC8.out
    have z01 := cellB (belD w8) z0
    have z11 := cellB (belD w8) z1
    have z21 := cellB (belD w8) z2
    have z31 := cellB (belD w8) z3
    have z41 := cellB (belD w8) z4
    have z51 := cellB (belD w8) z5
    have y51 := cellB (belD w8) y5
    have y61 := cellB (belD w8) y6
    have y71 := cellB (belD w8) y7
    clear z0 z1 z2 z3 z4 z5 y5 y6 y7 HC8
    go_region_with (go_at_call 42; refine (HA.out _).mono ?_; rintro e w9 ⟨rfl, hb9⟩; have hb9s : w9.heap[s]? = some (.cells #[.pointer (some ⟨s, 0, none⟩), .pointer (some ⟨d, 0, none⟩), .string nm, .int .i64 (base : Nat), .slice (some ⟨g7, 0, none⟩) (N + 1) cap7, .int .i64 (po : Nat), .int .i64 (pb : Nat), .int .i64 (pc : Nat)] 33 (0, 0)) := (hb9.block s (lt_of_block HS8.out.1)).trans HS8.out.1; have k5 : w9.cell? ⟨s, 5, none⟩ = some (.int .i64 (po : Nat)) := (by simp [World.cell?, hb9s]); have k6 : w9.cell? ⟨s, 6, none⟩ = some (.int .i64 (pb : Nat)) := (by simp [World.cell?, hb9s]); have k7 : w9.cell? ⟨s, 7, none⟩ = some (.int .i64 (pc : Nat)) := (by simp [World.cell?, hb9s]); have ff := frozen0 hb9s; have HB9 := hide (And.intro hb9 hb9s); clear hb9 hb9s)
    all_goals
      go_end0
      obtain ⟨hb9, hs9⟩ := HB9.out
      obtain ⟨h1, h2, h3, h4, h5⟩ := HS8.out
      have hb : Below w8.heap.size w8 w9 := (belD w8).trans hb9
      have s5 := block_set (i := 5) (u := .int .i64 (q1 : Nat)) hs9
      have s6 := block_set (i := 6) (u := .int .i64 (q2 : Nat)) s5
      have s7 := block_set (i := 7) (u := .int .i64 (q3 : Nat)) s6
      refine ⟨rfl, ?_, P ++ [⟨po, pb, pc⟩], ⟨⟨.slice (some ⟨g7, 0, none⟩) (N + 1) cap7, ?_, rowKeep (w := w9) ?_ fun g cs e => ?_⟩, HBs.out⟩, .inl rfl⟩
      · exact (((h3.trans (TK.of hb h4 (lt_of_block h1))).trans (TK.set _ HBs.out hs9 (by decide))).trans (TK.set _ HBs.out s5 (by decide))).trans (TK.set _ HBs.out s6 (by decide))
      · exact s7
      · rw [show (P ++ [(⟨po, pb, pc⟩ : Pl)]).length = N + 1 by rw [List.length_append, HN.out]; rfl]; exact owns_below h5 hb
      · have hg : g ≠ s := by rintro rfl; rw [hs9] at e; cases e
        rw [Below.heap_setCell _ _ _ _ (by simpa using hg), Below.heap_setCell _ _ _ _ (by simpa using hg), Below.heap_setCell _ _ _ _ (by simpa using hg)]
theorem take_ok (w : World) (B s d base : Nat) (nm : ByteArray) (P : List Pl) (bh : Pl) (h : SG w B s d nm base P bh) (x : HN) (ok : x.OK) (ao : Option Addr) (ln cp n : Nat) (hn : n ≤ 1048576) (hp : bh.byt ≤ 1073741824) (hc : bh.cnt ≤ 1073741824) (hBw : B ≤ w.heap.size) (hPl : P.length ≤ 1073741824) (hlb : ∀ p ∈ P, p.byt ≤ bh.byt) :
    Calls Tryz.prog 29 #[.pointer (some ⟨s, 0, none⟩), x.bv (.slice ao ln cp), .int .i64 (n : Nat)] w (TakeEnd w B s d base nm P bh ⟨x.base + x.cnt, bh.byt + n, bh.cnt + 1⟩) := by
  by_cases hP : P = []
  · exact take_empty w B s d base nm P bh h x ok ao ln cp n hn hp hc hBw hPl hP
  · have hl : P.length ≠ 0 := fun e => hP (List.length_eq_zero_iff.1 e)
    have hlt : P.length - 1 < P.length := by omega
    have hg := List.getElem?_eq_getElem hlt
    have hle := hlb _ (List.getElem_mem hlt)
    by_cases hfar : 4096 ≤ bh.byt - (P[P.length - 1]).byt
    · exact take_far w B s d base nm P bh h x ok ao ln cp n hn hp hc hBw hPl (P.length - 1) (by omega) _ hg hle hfar
    · exact take_near w B s d base nm P bh h x ok ao ln cp n hn hp hc hBw hPl (P.length - 1) (by omega) _ hg hle (by omega)
end Go.Proofs.YtmokjopffgmfjaaGreatDoor
