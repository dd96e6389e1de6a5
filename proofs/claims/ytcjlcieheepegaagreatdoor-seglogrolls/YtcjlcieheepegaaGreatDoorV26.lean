/- Layer 11: take of any segment. -/
/- Layer 11: Append of any segment. -/
import Derived.Test.YtcjlcieheepegaaGreatDoorV25
namespace Go.Proofs.YtcjlcieheepegaaGreatDoor
open Go.RowKit
set_option linter.unusedVariables false
set_option maxRecDepth 20000
set_option maxRecDepth 20000

/-- What take leaves. -/
def TakeEnd (w : World) (B s d base : Nat) (nm : ByteArray) (P : List Pl) (bh bn : Pl) (e : Ending) (w' : World) : Prop :=
  e = .returned (.tuple #[]) ∧ TK B s w w' ∧ ∃ P', SG w' B s d nm base P' bn ∧ (P' = P ++ [bh] ∨ (P' = P ∧ P ≠ []))
theorem plc_get (P : List Pl) (i : Nat) (x : Pl) (h : P[i]? = some x) : (plc P)[i * 3]? = some (.int .i64 (x.off : Nat)) ∧ (plc P)[i * 3 + 1]? = some (.int .i64 (x.byt : Nat)) ∧ (plc P)[i * 3 + 2]? = some (.int .i64 (x.cnt : Nat)) := by
  induction P generalizing i with
  | nil => simp at h
  | cons p P ih =>
    cases i with
    | zero =>
      simp at h
      subst h
      exact ⟨rfl, rfl, rfl⟩
    | succ i =>
      simp at h
      obtain ⟨h1, h2, h3⟩ := ih i h
      have e : ∀ j, (plc (p :: P))[(i + 1) * 3 + j]? = (plc P)[i * 3 + j]? := fun j => by
        have e1 : plc (p :: P) = [.int .i64 (p.off : Nat), .int .i64 (p.byt : Nat), .int .i64 (p.cnt : Nat)] ++ plc P := rfl
        rw [e1, List.getElem?_append_right (by show 3 ≤ _; omega)]
        congr 1
        show (i + 1) * 3 + j - 3 = _
        omega
      exact ⟨(e 0).trans h1, (e 1).trans h2, (e 2).trans h3⟩
set_option maxHeartbeats 8000000 in
theorem take_empty (w : World) (B s d base : Nat) (nm : ByteArray) (P : List Pl) (bh : Pl) (h : SG w B s d nm base P bh) (x : HN) (ok : x.OK) (ao : Option Addr) (ln cp n : Nat) (hn : n ≤ 1048576) (hp : bh.byt ≤ 1073741824) (hc : bh.cnt ≤ 1073741824) (hBw : B ≤ w.heap.size) (hPl : P.length ≤ 1073741824) (hP : P = []) :
    Calls Tryz.prog 33 #[.pointer (some ⟨s, 0, none⟩), x.bv (.slice ao ln cp), .int .i64 (n : Nat)] w (TakeEnd w B s d base nm P bh ⟨x.base + x.cnt, bh.byt + n, bh.cnt + 1⟩) := by
  have hslt := h.lt
  obtain ⟨i0, hi, hz0, hz1, hz2⟩ := info_split plInfo
  have HI : Hid (Tryz.prog.info? 68 = some i0 ∧ i0.zero = some (.agg #[.int .i64 0, .int .i64 0, .int .i64 0]) ∧ i0.size = 3 ∧ i0.bytes = 24) := ⟨hi, hz0, hz1, hz2⟩
  clear hi hz0 hz1 hz2
  obtain ⟨po, pb, pc⟩ := bh
  have HA := hide (fun W => after_ok ⟨po, pb, pc⟩ x ok ao ln cp n W (by show pb ≤ _; simp only at hp; omega) (by show pc ≤ _; simp only at hc; omega) hn)
  obtain ⟨xb, xc, xv, xp, xs, xn⟩ := x
  unfold TakeEnd
  unfold HN.bv at HA ⊢
  simp only [Pl.v] at HA ⊢
  obtain ⟨q1, hq1⟩ : ∃ q, xb + xc = q := ⟨_, rfl⟩
  obtain ⟨q2, hq2⟩ : ∃ q, pb + n = q := ⟨_, rfl⟩
  obtain ⟨q3, hq3⟩ : ∃ q, pc + 1 = q := ⟨_, rfl⟩
  rw [hq1, hq2, hq3] at HA ⊢
  have hpb : pb ≤ 1073741824 := hp
  clear hq1 hq2 hq3 hp hc hn ok
  obtain ⟨U, hU⟩ : ∃ U, w.heap.size = U := ⟨_, rfl⟩
  have hba := below_a w (.cells #[.int .i64 (xb : Nat), .int .i64 (xc : Nat), .int .i64 (xv : Nat), .int .i64 (xp : Nat), .int .i64 (xs : Nat), .slice ao ln cp] 46)
  have HT := hide (And.intro (h.below hba) (And.intro (TK.of (s := s) hba hBw hslt) (And.intro (heap_alloc_new w (.cells #[.int .i64 (xb : Nat), .int .i64 (xc : Nat), .int .i64 (xv : Nat), .int .i64 (xp : Nat), .int .i64 (xs : Nat), .slice ao ln cp] 46)) (Nat.le_trans hBw hba.size))))
  rw [hU] at HT
  have HBs := hide h.hB
  obtain ⟨N, hN⟩ : ∃ N, P.length = N := ⟨_, rfl⟩
  have HN := hide hN
  rw [hN] at hPl
  have hM1 : (N : Int) - 1 = -1 := by rw [← hN, hP]; rfl
  clear h hba hBw hslt
  go_enter Tryz.func33, Tryz.ntmps33
  go_upto_region 1 with fail
  try rw [hU]
  generalize (w.alloc (.cells #[.int .i64 (xb : Nat), .int .i64 (xc : Nat), .int .i64 (xv : Nat), .int .i64 (xp : Nat), .int .i64 (xs : Nat), .slice ao ln cp] 46)) = w1 at HT
  clear hU
  obtain ⟨pv, hblk, hrow⟩ := HT.out.1.blk
  obtain ⟨pa, pcap, rfl⟩ := rowForm hrow
  rw [hN] at hblk hrow
  have c4 : w1.cell? ⟨s, 4, none⟩ = some (.slice pa N pcap) := by simp [World.cell?, hblk]
  have HX := hide (And.intro hblk hrow)
  clear hblk hrow hN
  go_upto_region 2 with fail
  go_region
  have HX2 : Hid (w1.drew.heap[s]? = some (.cells #[.pointer (some ⟨s, 0, none⟩), .pointer (some ⟨d, 0, none⟩), .string nm, .int .i64 (base : Nat), .slice pa N pcap, .int .i64 (po : Nat), .int .i64 (pb : Nat), .int .i64 (pc : Nat)] 71 (0, 0)) ∧ w1.drew.ownsRow B 68 3 (.slice pa N pcap) N (plc P) ∧ TK B s w w1.drew ∧ w1.drew.heap[U]? = some (.cells #[.int .i64 (xb : Nat), .int .i64 (xc : Nat), .int .i64 (xv : Nat), .int .i64 (xp : Nat), .int .i64 (xs : Nat), .slice ao ln cp] 46 (0, 0)) ∧ B ≤ w1.drew.heap.size) :=
    ⟨HX.out.1, owns_below HX.out.2 (belD w1), HT.out.2.1.trans (TK.of (belD w1) HT.out.2.2.2 (lt_of_block HX.out.1)), HT.out.2.2.1, HT.out.2.2.2⟩
  clear c4
  go_upto_region 3 with fail
  generalize w1.drew = w2 at HX2
  have d4 : w2.cell? ⟨s, 4, none⟩ = some (.slice pa N pcap) := by simp [World.cell?, HX2.out.1]
  have d5 : w2.cell? ⟨s, 5, none⟩ = some (.int .i64 (po : Nat)) := by simp [World.cell?, HX2.out.1]
  have d6 : w2.cell? ⟨s, 6, none⟩ = some (.int .i64 (pb : Nat)) := by simp [World.cell?, HX2.out.1]
  have d7 : w2.cell? ⟨s, 7, none⟩ = some (.int .i64 (pc : Nat)) := by simp [World.cell?, HX2.out.1]
  have d41 := cellB (belD w2) d4
  have d51 := cellB (belD w2) d5
  have d61 := cellB (belD w2) d6
  have d71 := cellB (belD w2) d7
  have d42 := fun o => cellB (below_ad w2 o) d4
  have HOW : Hid (∀ o, (w2.alloc o).drew.ownsRow B 68 3 (.slice pa N pcap) N (plc P) ∧ B ≤ (w2.alloc o).drew.heap.size) := fun o => ⟨owns_below HX2.out.2.1 (below_ad w2 o), Nat.le_trans HX2.out.2.2.2.2 (below_ad w2 o).size⟩
  have HNW := hide (news3 w2 (.int .i64 (po : Nat)) (.int .i64 (pb : Nat)) (.int .i64 (pc : Nat)) 68)
  have HK : Hid (∀ w7 g c, (w2.alloc (.cells #[.int .i64 (po : Nat), .int .i64 (pb : Nat), .int .i64 (pc : Nat)] 68)).grownBy w7 (Value.slice pa N pcap).ownBlock → ((Value.slice pa N pcap).ownBlock = some g ∨ g = (w2.alloc (.cells #[.int .i64 (po : Nat), .int .i64 (pb : Nat), .int .i64 (pc : Nat)] 68)).heap.size) → w7.heap[s]? = some (.cells #[.pointer (some ⟨s, 0, none⟩), .pointer (some ⟨d, 0, none⟩), .string nm, .int .i64 (base : Nat), .slice pa N pcap, .int .i64 (po : Nat), .int .i64 (pb : Nat), .int .i64 (pc : Nat)] 71 (0, 0)) ∧ w7.heap[U]? = some (.cells #[.int .i64 (xb : Nat), .int .i64 (xc : Nat), .int .i64 (xv : Nat), .int .i64 (xp : Nat), .int .i64 (xs : Nat), .slice ao ln cp] 46 (0, 0)) ∧ TK B s w (w7.setCell ⟨s, 4, none⟩ (.slice (some ⟨g, 0, none⟩) (N + 1) c)) ∧ B ≤ w7.heap.size) := fun w7 g c hg hat => by
    have hbe := below_a w2 (.cells #[.int .i64 (po : Nat), .int .i64 (pb : Nat), .int .i64 (pc : Nat)] 68)
    have hr := owns_below HX2.out.2.1 hbe
    have hs1 := (hbe.block s (lt_of_block HX2.out.1)).trans HX2.out.1
    have hu1 := (hbe.block U (lt_of_block HX2.out.2.2.2.1)).trans HX2.out.2.2.2.1
    have hns : (Value.slice pa N pcap).ownBlock ≠ some s := fun e => by
      obtain ⟨_, cs, e'⟩ := rowBlk hr e
      rw [hs1] at e'; cases e'
    refine ⟨(hg.block s (lt_of_block hs1) (fun e => hns e.symm)).trans hs1, (hg.block U (lt_of_block hu1) (fun e => ?_)).trans hu1, (HX2.out.2.2.1.trans (TK.of hbe HX2.out.2.2.2.2 (lt_of_block HX2.out.1))).trans (TK.push hs1 rfl hg hns (fun k hk => (rowBlk hr hk).1) (Nat.le_trans HX2.out.2.2.2.2 hbe.size) HBs.out ?_), Nat.le_trans (Nat.le_trans HX2.out.2.2.2.2 hbe.size) hg.size⟩
    · obtain ⟨_, cs, e'⟩ := rowBlk hr e.symm
      rw [hu1] at e'; cases e'
    · rcases hat with h | h
      · exact .inl h.symm
      · exact .inr (by rw [← h]; rfl)
  clear HX HT
  go_region_law
    (refine step_append_lies _ rfl _ _ 69 rfl B 68 i0 (.agg #[.int .i64 0, .int .i64 0, .int .i64 0]) 3 24 Tryz.underlying69 HI.out.1 HI.out.2.1 HI.out.2.2.1 HI.out.2.2.2 rfl (by decide) (.slice pa N pcap) N (plc P) rfl (HOW.out _).1 ⟨w2.heap.size, 0, none⟩ 1 1 [.int .i64 (po : Nat), .int .i64 (pb : Nat), .int .i64 (pc : Nat)] rfl rfl HNW.out (one3 _ _ _) (by decide) (by unfold maxLen; omega) (by omega) (HOW.out _).2 _ rfl ?_; intro g7 cap7 w7 hown hgrow hat hgl; have hk7 := HK.out w7 g7 cap7 ⟨hgrow.os, hgrow.tape, hgrow.output, hgrow.size, hgrow.block⟩ hat; have e4 : w7.cell? ⟨s, 4, none⟩ = some (.slice pa N pcap) := (by simp [World.cell?, hk7.1]); have f4 := frozen0 hk7.1 4; have HGR := hide (And.intro hown hk7); clear hown hgrow hat hgl hk7)
  all_goals
    have HS8 : Hid ((w7.setCell ⟨s, 4, none⟩ (.slice (some ⟨g7, 0, none⟩) (N + 1) cap7)).heap[s]? = some (.cells #[.pointer (some ⟨s, 0, none⟩), .pointer (some ⟨d, 0, none⟩), .string nm, .int .i64 (base : Nat), .slice (some ⟨g7, 0, none⟩) (N + 1) cap7, .int .i64 (po : Nat), .int .i64 (pb : Nat), .int .i64 (pc : Nat)] 71 (0, 0)) ∧ (w7.setCell ⟨s, 4, none⟩ (.slice (some ⟨g7, 0, none⟩) (N + 1) cap7)).heap[U]? = some (.cells #[.int .i64 (xb : Nat), .int .i64 (xc : Nat), .int .i64 (xv : Nat), .int .i64 (xp : Nat), .int .i64 (xs : Nat), .slice ao ln cp] 46 (0, 0)) ∧ TK B s w (w7.setCell ⟨s, 4, none⟩ (.slice (some ⟨g7, 0, none⟩) (N + 1) cap7)) ∧ B ≤ (w7.setCell ⟨s, 4, none⟩ (.slice (some ⟨g7, 0, none⟩) (N + 1) cap7)).heap.size ∧ (w7.setCell ⟨s, 4, none⟩ (.slice (some ⟨g7, 0, none⟩) (N + 1) cap7)).ownsRow B 68 3 (.slice (some ⟨g7, 0, none⟩) (N + 1) cap7) (N + 1) (plc (P ++ [⟨po, pb, pc⟩]))) := by
      obtain ⟨ho, h1, h2, h3, h4⟩ := HGR.out
      have hne : ∀ k, k ≠ s → (w7.setCell ⟨s, 4, none⟩ (.slice (some ⟨g7, 0, none⟩) (N + 1) cap7)).heap[k]? = w7.heap[k]? := fun k hk => Below.heap_setCell _ _ _ _ (by simpa using hk)
      refine ⟨block_set h1, (hne U (by rintro rfl; rw [h1] at h2; cases h2)).trans h2, h3, by simpa [World.setCell] using h4, ?_⟩
      rw [plc_append]
      exact rowKeep ho fun g cs e => hne g (by rintro rfl; rw [h1] at e; cases e)
    clear HGR HOW HNW HK e4 f4 d4 d5 d6 d7 d41 d51 d61 d71 d42 HX2
    go_upto_region 4 with fail
    generalize (w7.setCell ⟨s, 4, none⟩ (.slice (some ⟨g7, 0, none⟩) (N + 1) cap7)) = w8 at HS8
    have HC8 := hide (And.intro (cells6 HS8.out.2.1) (And.intro (show w8.cell? ⟨s, 5, none⟩ = some (.int .i64 (po : Nat)) by simp [World.cell?, HS8.out.1]) (And.intro (show w8.cell? ⟨s, 6, none⟩ = some (.int .i64 (pb : Nat)) by simp [World.cell?, HS8.out.1]) (show w8.cell? ⟨s, 7, none⟩ = some (.int .i64 (pc : Nat)) by simp [World.cell?, HS8.out.1]))))
    obtain ⟨⟨z0, z1, z2, z3, z4, z5⟩, y5, y6, y7⟩ := HC8.out
    have z01 := cellB (belD w8) z0
    have z11 := cellB (belD w8) z1
    have z21 := cellB (belD w8) z2
    have z31 := cellB (belD w8) z3
    have z41 := cellB (belD w8) z4
    have z51 := cellB (belD w8) z5
    have y51 := cellB (belD w8) y5
    have y61 := cellB (belD w8) y6
    have y71 := cellB (belD w8) y7
    clear z0 z1 z2 z3 z4 z5 y5 y6 y7 HC8
    go_region_with (go_at_call 56; refine (HA.out _).mono ?_; rintro e w9 ⟨rfl, hb9⟩; have hb9s : w9.heap[s]? = some (.cells #[.pointer (some ⟨s, 0, none⟩), .pointer (some ⟨d, 0, none⟩), .string nm, .int .i64 (base : Nat), .slice (some ⟨g7, 0, none⟩) (N + 1) cap7, .int .i64 (po : Nat), .int .i64 (pb : Nat), .int .i64 (pc : Nat)] 71 (0, 0)) := (hb9.block s (lt_of_block HS8.out.1)).trans HS8.out.1; have k5 : w9.cell? ⟨s, 5, none⟩ = some (.int .i64 (po : Nat)) := (by simp [World.cell?, hb9s]); have k6 : w9.cell? ⟨s, 6, none⟩ = some (.int .i64 (pb : Nat)) := (by simp [World.cell?, hb9s]); have k7 : w9.cell? ⟨s, 7, none⟩ = some (.int .i64 (pc : Nat)) := (by simp [World.cell?, hb9s]); have ff := frozen0 hb9s; have HB9 := hide (And.intro hb9 hb9s); clear hb9 hb9s)
    all_goals
      go_end0
      obtain ⟨hb9, hs9⟩ := HB9.out
      obtain ⟨h1, h2, h3, h4, h5⟩ := HS8.out
      have hb : Below w8.heap.size w8 w9 := (belD w8).trans hb9
      have s5 := block_set (i := 5) (u := .int .i64 (q1 : Nat)) hs9
      have s6 := block_set (i := 6) (u := .int .i64 (q2 : Nat)) s5
      have s7 := block_set (i := 7) (u := .int .i64 (q3 : Nat)) s6
      refine ⟨rfl, ?_, P ++ [⟨po, pb, pc⟩], ⟨⟨.slice (some ⟨g7, 0, none⟩) (N + 1) cap7, ?_, rowKeep (w := w9) ?_ fun g cs e => ?_⟩, HBs.out⟩, .inl rfl⟩
      · exact (((h3.trans (TK.of hb h4 (lt_of_block h1))).trans (TK.set _ HBs.out hs9 (by decide))).trans (TK.set _ HBs.out s5 (by decide))).trans (TK.set _ HBs.out s6 (by decide))
      · exact s7
      · rw [show (P ++ [(⟨po, pb, pc⟩ : Pl)]).length = N + 1 by rw [List.length_append, HN.out]; rfl]; exact owns_below h5 hb
      · have hg : g ≠ s := by rintro rfl; rw [hs9] at e; cases e
        rw [Below.heap_setCell _ _ _ _ (by simpa using hg), Below.heap_setCell _ _ _ _ (by simpa using hg), Below.heap_setCell _ _ _ _ (by simpa using hg)]
set_option maxHeartbeats 8000000 in
theorem take_near (w : World) (B s d base : Nat) (nm : ByteArray) (P : List Pl) (bh : Pl) (h : SG w B s d nm base P bh) (x : HN) (ok : x.OK) (ao : Option Addr) (ln cp n : Nat) (hn : n ≤ 1048576) (hp : bh.byt ≤ 1073741824) (hc : bh.cnt ≤ 1073741824) (hBw : B ≤ w.heap.size) (hPl : P.length ≤ 1073741824) (M : Nat) (hM : P.length = M + 1) (last : Pl) (hl : P[M]? = some last) (hlb : last.byt ≤ bh.byt) (hfar : bh.byt - last.byt < 4096) :
    Calls Tryz.prog 33 #[.pointer (some ⟨s, 0, none⟩), x.bv (.slice ao ln cp), .int .i64 (n : Nat)] w (TakeEnd w B s d base nm P bh ⟨x.base + x.cnt, bh.byt + n, bh.cnt + 1⟩) := by
  have hslt := h.lt
  obtain ⟨i0, hi, hz0, hz1, hz2⟩ := info_split plInfo
  have HI : Hid (Tryz.prog.info? 68 = some i0 ∧ i0.zero = some (.agg #[.int .i64 0, .int .i64 0, .int .i64 0]) ∧ i0.size = 3 ∧ i0.bytes = 24) := ⟨hi, hz0, hz1, hz2⟩
  clear hi hz0 hz1 hz2
  obtain ⟨po, pb, pc⟩ := bh
  have HA := hide (fun W => after_ok ⟨po, pb, pc⟩ x ok ao ln cp n W (by show pb ≤ _; simp only at hp; omega) (by show pc ≤ _; simp only at hc; omega) hn)
  obtain ⟨xb, xc, xv, xp, xs, xn⟩ := x
  unfold TakeEnd
  unfold HN.bv at HA ⊢
  simp only [Pl.v] at HA ⊢
  obtain ⟨q1, hq1⟩ : ∃ q, xb + xc = q := ⟨_, rfl⟩
  obtain ⟨q2, hq2⟩ : ∃ q, pb + n = q := ⟨_, rfl⟩
  obtain ⟨q3, hq3⟩ : ∃ q, pc + 1 = q := ⟨_, rfl⟩
  rw [hq1, hq2, hq3] at HA ⊢
  have hpb : pb ≤ 1073741824 := hp
  clear hq1 hq2 hq3 hp hc hn ok
  obtain ⟨U, hU⟩ : ∃ U, w.heap.size = U := ⟨_, rfl⟩
  have hba := below_a w (.cells #[.int .i64 (xb : Nat), .int .i64 (xc : Nat), .int .i64 (xv : Nat), .int .i64 (xp : Nat), .int .i64 (xs : Nat), .slice ao ln cp] 46)
  have HT := hide (And.intro (h.below hba) (And.intro (TK.of (s := s) hba hBw hslt) (And.intro (heap_alloc_new w (.cells #[.int .i64 (xb : Nat), .int .i64 (xc : Nat), .int .i64 (xv : Nat), .int .i64 (xp : Nat), .int .i64 (xs : Nat), .slice ao ln cp] 46)) (Nat.le_trans hBw hba.size))))
  rw [hU] at HT
  have HBs := hide h.hB
  obtain ⟨N, hN⟩ : ∃ N, P.length = N := ⟨_, rfl⟩
  have HN := hide hN
  rw [hN] at hPl
  obtain ⟨lo, lb, lc⟩ := last
  have hNM : N = M + 1 := by rw [← hN, hM]
  have hM1 : (N : Int) - 1 = (M : Int) := by omega
  have hMN : (M : Int) < (N : Int) := by omega
  have hMn : M < N := by omega
  have hM0 : ¬ (M : Int) < 0 := by omega
  obtain ⟨df, hdf⟩ : ∃ df, pb - lb = df := ⟨_, rfl⟩
  have hds : (pb : Int) - (lb : Int) = (df : Int) := by simp only at hlb; omega
  have hdb : df ≤ 1073741824 := by omega
  clear hNM hM
  have hdf4 : ¬ (4096 : Int) ≤ (df : Int) := by simp only at hfar; omega
  clear hfar
  clear h hba hBw hslt
  go_enter Tryz.func33, Tryz.ntmps33
  go_upto_region 1 with fail
  try rw [hU]
  generalize (w.alloc (.cells #[.int .i64 (xb : Nat), .int .i64 (xc : Nat), .int .i64 (xv : Nat), .int .i64 (xp : Nat), .int .i64 (xs : Nat), .slice ao ln cp] 46)) = w1 at HT
  clear hU
  obtain ⟨pv, hblk, hrow⟩ := HT.out.1.blk
  obtain ⟨pa, pcap, rfl⟩ := rowForm hrow
  rw [hN] at hblk hrow
  have c4 : w1.cell? ⟨s, 4, none⟩ = some (.slice pa N pcap) := by simp [World.cell?, hblk]
  have HX := hide (And.intro hblk hrow)
  obtain ⟨g0, rfl, hcap0⟩ : ∃ g, pa = some ⟨g, 0, none⟩ ∧ N ≤ pcap := by
    rcases hrow.2 with ⟨e, h0⟩ | ⟨g, cap, cur, e, _, _, h3, _⟩
    · exact absurd h0 (by omega)
    · cases e; exact ⟨g, rfl, h3⟩
  have cb : w1.cell? ⟨g0, M * 3 + 1, none⟩ = some (.int .i64 (lb : Nat)) := by
    have := hrow.cells (g := g0) rfl (M * 3 + 1) _ (plc_get P M _ hl).2.1
    rw [add_zero_addr] at this
    exact this
  have c6 : w1.cell? ⟨s, 6, none⟩ = some (.int .i64 (pb : Nat)) := by simp [World.cell?, hblk]
  clear hblk hrow hN
  go_upto_region 2 with fail
  clear hMn hcap0
  go_region
  have HS8 : Hid (w1.drew.heap[s]? = some (.cells #[.pointer (some ⟨s, 0, none⟩), .pointer (some ⟨d, 0, none⟩), .string nm, .int .i64 (base : Nat), .slice (some ⟨g0, 0, none⟩) N pcap, .int .i64 (po : Nat), .int .i64 (pb : Nat), .int .i64 (pc : Nat)] 71 (0, 0)) ∧ w1.drew.heap[U]? = some (.cells #[.int .i64 (xb : Nat), .int .i64 (xc : Nat), .int .i64 (xv : Nat), .int .i64 (xp : Nat), .int .i64 (xs : Nat), .slice ao ln cp] 46 (0, 0)) ∧ TK B s w w1.drew ∧ B ≤ w1.drew.heap.size ∧ w1.drew.ownsRow B 68 3 (.slice (some ⟨g0, 0, none⟩) N pcap) N (plc P)) :=
    ⟨HX.out.1, HT.out.2.2.1, HT.out.2.1.trans (TK.of (belD w1) HT.out.2.2.2 (lt_of_block HX.out.1)), HT.out.2.2.2, owns_below HX.out.2 (belD w1)⟩
  clear c4 HX HT
  go_upto_region 4 with fail
  generalize w1.drew = w8 at HS8
  have HC8 := hide (And.intro (cells6 HS8.out.2.1) (And.intro (show w8.cell? ⟨s, 5, none⟩ = some (.int .i64 (po : Nat)) by simp [World.cell?, HS8.out.1]) (And.intro (show w8.cell? ⟨s, 6, none⟩ = some (.int .i64 (pb : Nat)) by simp [World.cell?, HS8.out.1]) (show w8.cell? ⟨s, 7, none⟩ = some (.int .i64 (pc : Nat)) by simp [World.cell?, HS8.out.1]))))
  obtain ⟨⟨z0, z1, z2, z3, z4, z5⟩, y5, y6, y7⟩ := HC8.out
  have z01 := cellB (belD w8) z0
  have z11 := cellB (belD w8) z1
  have z21 := cellB (belD w8) z2
  have z31 := cellB (belD w8) z3
  have z41 := cellB (belD w8) z4
  have z51 := cellB (belD w8) z5
  have y51 := cellB (belD w8) y5
  have y61 := cellB (belD w8) y6
  have y71 := cellB (belD w8) y7
  clear z0 z1 z2 z3 z4 z5 y5 y6 y7 HC8
  go_region_with (go_at_call 56; refine (HA.out _).mono ?_; rintro e w9 ⟨rfl, hb9⟩; have hb9s : w9.heap[s]? = some (.cells #[.pointer (some ⟨s, 0, none⟩), .pointer (some ⟨d, 0, none⟩), .string nm, .int .i64 (base : Nat), .slice (some ⟨g0, 0, none⟩) N pcap, .int .i64 (po : Nat), .int .i64 (pb : Nat), .int .i64 (pc : Nat)] 71 (0, 0)) := (hb9.block s (lt_of_block HS8.out.1)).trans HS8.out.1; have k5 : w9.cell? ⟨s, 5, none⟩ = some (.int .i64 (po : Nat)) := (by simp [World.cell?, hb9s]); have k6 : w9.cell? ⟨s, 6, none⟩ = some (.int .i64 (pb : Nat)) := (by simp [World.cell?, hb9s]); have k7 : w9.cell? ⟨s, 7, none⟩ = some (.int .i64 (pc : Nat)) := (by simp [World.cell?, hb9s]); have ff := frozen0 hb9s; have HB9 := hide (And.intro hb9 hb9s); clear hb9 hb9s)
  all_goals
    go_end0
    obtain ⟨hb9, hs9⟩ := HB9.out
    obtain ⟨h1, h2, h3, h4, h5⟩ := HS8.out
    have hb : Below w8.heap.size w8 w9 := (belD w8).trans hb9
    have s5 := block_set (i := 5) (u := .int .i64 (q1 : Nat)) hs9
    have s6 := block_set (i := 6) (u := .int .i64 (q2 : Nat)) s5
    have s7 := block_set (i := 7) (u := .int .i64 (q3 : Nat)) s6
    refine ⟨rfl, ?_, P, ⟨⟨.slice (some ⟨g0, 0, none⟩) N pcap, ?_, rowKeep (w := w9) ?_ fun g cs e => ?_⟩, HBs.out⟩, .inr ⟨rfl, by rintro rfl; simp at hl⟩⟩
    · exact (((h3.trans (TK.of hb h4 (lt_of_block h1))).trans (TK.set _ HBs.out hs9 (by decide))).trans (TK.set _ HBs.out s5 (by decide))).trans (TK.set _ HBs.out s6 (by decide))
    · exact s7
    · rw [HN.out]
      exact owns_below h5 hb
    · have hg : g ≠ s := by rintro rfl; rw [hs9] at e; cases e
      rw [Below.heap_setCell _ _ _ _ (by simpa using hg), Below.heap_setCell _ _ _ _ (by simpa using hg), Below.heap_setCell _ _ _ _ (by simpa using hg)]
set_option maxHeartbeats 8000000 in
theorem take_far (w : World) (B s d base : Nat) (nm : ByteArray) (P : List Pl) (bh : Pl) (h : SG w B s d nm base P bh) (x : HN) (ok : x.OK) (ao : Option Addr) (ln cp n : Nat) (hn : n ≤ 1048576) (hp : bh.byt ≤ 1073741824) (hc : bh.cnt ≤ 1073741824) (hBw : B ≤ w.heap.size) (hPl : P.length ≤ 1073741824) (M : Nat) (hM : P.length = M + 1) (last : Pl) (hl : P[M]? = some last) (hlb : last.byt ≤ bh.byt) (hfar : 4096 ≤ bh.byt - last.byt) :
    Calls Tryz.prog 33 #[.pointer (some ⟨s, 0, none⟩), x.bv (.slice ao ln cp), .int .i64 (n : Nat)] w (TakeEnd w B s d base nm P bh ⟨x.base + x.cnt, bh.byt + n, bh.cnt + 1⟩) := by
  have hslt := h.lt
  obtain ⟨i0, hi, hz0, hz1, hz2⟩ := info_split plInfo
  have HI : Hid (Tryz.prog.info? 68 = some i0 ∧ i0.zero = some (.agg #[.int .i64 0, .int .i64 0, .int .i64 0]) ∧ i0.size = 3 ∧ i0.bytes = 24) := ⟨hi, hz0, hz1, hz2⟩
  clear hi hz0 hz1 hz2
  obtain ⟨po, pb, pc⟩ := bh
  have HA := hide (fun W => after_ok ⟨po, pb, pc⟩ x ok ao ln cp n W (by show pb ≤ _; simp only at hp; omega) (by show pc ≤ _; simp only at hc; omega) hn)
  obtain ⟨xb, xc, xv, xp, xs, xn⟩ := x
  unfold TakeEnd
  unfold HN.bv at HA ⊢
  simp only [Pl.v] at HA ⊢
  obtain ⟨q1, hq1⟩ : ∃ q, xb + xc = q := ⟨_, rfl⟩
  obtain ⟨q2, hq2⟩ : ∃ q, pb + n = q := ⟨_, rfl⟩
  obtain ⟨q3, hq3⟩ : ∃ q, pc + 1 = q := ⟨_, rfl⟩
  rw [hq1, hq2, hq3] at HA ⊢
  have hpb : pb ≤ 1073741824 := hp
  clear hq1 hq2 hq3 hp hc hn ok
  obtain ⟨U, hU⟩ : ∃ U, w.heap.size = U := ⟨_, rfl⟩
  have hba := below_a w (.cells #[.int .i64 (xb : Nat), .int .i64 (xc : Nat), .int .i64 (xv : Nat), .int .i64 (xp : Nat), .int .i64 (xs : Nat), .slice ao ln cp] 46)
  have HT := hide (And.intro (h.below hba) (And.intro (TK.of (s := s) hba hBw hslt) (And.intro (heap_alloc_new w (.cells #[.int .i64 (xb : Nat), .int .i64 (xc : Nat), .int .i64 (xv : Nat), .int .i64 (xp : Nat), .int .i64 (xs : Nat), .slice ao ln cp] 46)) (Nat.le_trans hBw hba.size))))
  rw [hU] at HT
  have HBs := hide h.hB
  obtain ⟨N, hN⟩ : ∃ N, P.length = N := ⟨_, rfl⟩
  have HN := hide hN
  rw [hN] at hPl
  obtain ⟨lo, lb, lc⟩ := last
  have hNM : N = M + 1 := by rw [← hN, hM]
  have hM1 : (N : Int) - 1 = (M : Int) := by omega
  have hMN : (M : Int) < (N : Int) := by omega
  have hMn : M < N := by omega
  have hM0 : ¬ (M : Int) < 0 := by omega
  obtain ⟨df, hdf⟩ : ∃ df, pb - lb = df := ⟨_, rfl⟩
  have hds : (pb : Int) - (lb : Int) = (df : Int) := by simp only at hlb; omega
  have hdb : df ≤ 1073741824 := by omega
  clear hNM hM
  have hdf4 : (4096 : Int) ≤ (df : Int) := by simp only at hfar; omega
  clear hfar
  clear h hba hBw hslt
  go_enter Tryz.func33, Tryz.ntmps33
  go_upto_region 1 with fail
  try rw [hU]
  generalize (w.alloc (.cells #[.int .i64 (xb : Nat), .int .i64 (xc : Nat), .int .i64 (xv : Nat), .int .i64 (xp : Nat), .int .i64 (xs : Nat), .slice ao ln cp] 46)) = w1 at HT
  clear hU
  obtain ⟨pv, hblk, hrow⟩ := HT.out.1.blk
  obtain ⟨pa, pcap, rfl⟩ := rowForm hrow
  rw [hN] at hblk hrow
  have c4 : w1.cell? ⟨s, 4, none⟩ = some (.slice pa N pcap) := by simp [World.cell?, hblk]
  have HX := hide (And.intro hblk hrow)
  obtain ⟨g0, rfl, hcap0⟩ : ∃ g, pa = some ⟨g, 0, none⟩ ∧ N ≤ pcap := by
    rcases hrow.2 with ⟨e, h0⟩ | ⟨g, cap, cur, e, _, _, h3, _⟩
    · exact absurd h0 (by omega)
    · cases e; exact ⟨g, rfl, h3⟩
  have cb : w1.cell? ⟨g0, M * 3 + 1, none⟩ = some (.int .i64 (lb : Nat)) := by
    have := hrow.cells (g := g0) rfl (M * 3 + 1) _ (plc_get P M _ hl).2.1
    rw [add_zero_addr] at this
    exact this
  have c6 : w1.cell? ⟨s, 6, none⟩ = some (.int .i64 (pb : Nat)) := by simp [World.cell?, hblk]
  clear hblk hrow hN
  go_upto_region 2 with fail
  go_region
  clear cb c6
  have HX2 : Hid (w1.drew.heap[s]? = some (.cells #[.pointer (some ⟨s, 0, none⟩), .pointer (some ⟨d, 0, none⟩), .string nm, .int .i64 (base : Nat), .slice (some ⟨g0, 0, none⟩) N pcap, .int .i64 (po : Nat), .int .i64 (pb : Nat), .int .i64 (pc : Nat)] 71 (0, 0)) ∧ w1.drew.ownsRow B 68 3 (.slice (some ⟨g0, 0, none⟩) N pcap) N (plc P) ∧ TK B s w w1.drew ∧ w1.drew.heap[U]? = some (.cells #[.int .i64 (xb : Nat), .int .i64 (xc : Nat), .int .i64 (xv : Nat), .int .i64 (xp : Nat), .int .i64 (xs : Nat), .slice ao ln cp] 46 (0, 0)) ∧ B ≤ w1.drew.heap.size) :=
    ⟨HX.out.1, owns_below HX.out.2 (belD w1), HT.out.2.1.trans (TK.of (belD w1) HT.out.2.2.2 (lt_of_block HX.out.1)), HT.out.2.2.1, HT.out.2.2.2⟩
  clear c4
  go_upto_region 3 with fail
  generalize w1.drew = w2 at HX2
  have d4 : w2.cell? ⟨s, 4, none⟩ = some (.slice (some ⟨g0, 0, none⟩) N pcap) := by simp [World.cell?, HX2.out.1]
  have d5 : w2.cell? ⟨s, 5, none⟩ = some (.int .i64 (po : Nat)) := by simp [World.cell?, HX2.out.1]
  have d6 : w2.cell? ⟨s, 6, none⟩ = some (.int .i64 (pb : Nat)) := by simp [World.cell?, HX2.out.1]
  have d7 : w2.cell? ⟨s, 7, none⟩ = some (.int .i64 (pc : Nat)) := by simp [World.cell?, HX2.out.1]
  have d41 := cellB (belD w2) d4
  have d51 := cellB (belD w2) d5
  have d61 := cellB (belD w2) d6
  have d71 := cellB (belD w2) d7
  have d42 := fun o => cellB (below_ad w2 o) d4
  have HOW : Hid (∀ o, (w2.alloc o).drew.ownsRow B 68 3 (.slice (some ⟨g0, 0, none⟩) N pcap) N (plc P) ∧ B ≤ (w2.alloc o).drew.heap.size) := fun o => ⟨owns_below HX2.out.2.1 (below_ad w2 o), Nat.le_trans HX2.out.2.2.2.2 (below_ad w2 o).size⟩
  have HNW := hide (news3 w2 (.int .i64 (po : Nat)) (.int .i64 (pb : Nat)) (.int .i64 (pc : Nat)) 68)
  have HK : Hid (∀ w7 g c, (w2.alloc (.cells #[.int .i64 (po : Nat), .int .i64 (pb : Nat), .int .i64 (pc : Nat)] 68)).grownBy w7 (Value.slice (some ⟨g0, 0, none⟩) N pcap).ownBlock → ((Value.slice (some ⟨g0, 0, none⟩) N pcap).ownBlock = some g ∨ g = (w2.alloc (.cells #[.int .i64 (po : Nat), .int .i64 (pb : Nat), .int .i64 (pc : Nat)] 68)).heap.size) → w7.heap[s]? = some (.cells #[.pointer (some ⟨s, 0, none⟩), .pointer (some ⟨d, 0, none⟩), .string nm, .int .i64 (base : Nat), .slice (some ⟨g0, 0, none⟩) N pcap, .int .i64 (po : Nat), .int .i64 (pb : Nat), .int .i64 (pc : Nat)] 71 (0, 0)) ∧ w7.heap[U]? = some (.cells #[.int .i64 (xb : Nat), .int .i64 (xc : Nat), .int .i64 (xv : Nat), .int .i64 (xp : Nat), .int .i64 (xs : Nat), .slice ao ln cp] 46 (0, 0)) ∧ TK B s w (w7.setCell ⟨s, 4, none⟩ (.slice (some ⟨g, 0, none⟩) (N + 1) c)) ∧ B ≤ w7.heap.size) := fun w7 g c hg hat => by
    have hbe := below_a w2 (.cells #[.int .i64 (po : Nat), .int .i64 (pb : Nat), .int .i64 (pc : Nat)] 68)
    have hr := owns_below HX2.out.2.1 hbe
    have hs1 := (hbe.block s (lt_of_block HX2.out.1)).trans HX2.out.1
    have hu1 := (hbe.block U (lt_of_block HX2.out.2.2.2.1)).trans HX2.out.2.2.2.1
    have hns : (Value.slice (some ⟨g0, 0, none⟩) N pcap).ownBlock ≠ some s := fun e => by
      obtain ⟨_, cs, e'⟩ := rowBlk hr e
      rw [hs1] at e'; cases e'
    refine ⟨(hg.block s (lt_of_block hs1) (fun e => hns e.symm)).trans hs1, (hg.block U (lt_of_block hu1) (fun e => ?_)).trans hu1, (HX2.out.2.2.1.trans (TK.of hbe HX2.out.2.2.2.2 (lt_of_block HX2.out.1))).trans (TK.push hs1 rfl hg hns (fun k hk => (rowBlk hr hk).1) (Nat.le_trans HX2.out.2.2.2.2 hbe.size) HBs.out ?_), Nat.le_trans (Nat.le_trans HX2.out.2.2.2.2 hbe.size) hg.size⟩
    · obtain ⟨_, cs, e'⟩ := rowBlk hr e.symm
      rw [hu1] at e'; cases e'
    · rcases hat with h | h
      · exact .inl h.symm
      · exact .inr (by rw [← h]; rfl)
  clear HX HT
  go_region_law
    (refine step_append_lies _ rfl _ _ 69 rfl B 68 i0 (.agg #[.int .i64 0, .int .i64 0, .int .i64 0]) 3 24 Tryz.underlying69 HI.out.1 HI.out.2.1 HI.out.2.2.1 HI.out.2.2.2 rfl (by decide) (.slice (some ⟨g0, 0, none⟩) N pcap) N (plc P) rfl (HOW.out _).1 ⟨w2.heap.size, 0, none⟩ 1 1 [.int .i64 (po : Nat), .int .i64 (pb : Nat), .int .i64 (pc : Nat)] rfl rfl HNW.out (one3 _ _ _) (by decide) (by unfold maxLen; omega) (by omega) (HOW.out _).2 _ rfl ?_; intro g7 cap7 w7 hown hgrow hat hgl; have hk7 := HK.out w7 g7 cap7 ⟨hgrow.os, hgrow.tape, hgrow.output, hgrow.size, hgrow.block⟩ hat; have e4 : w7.cell? ⟨s, 4, none⟩ = some (.slice (some ⟨g0, 0, none⟩) N pcap) := (by simp [World.cell?, hk7.1]); have f4 := frozen0 hk7.1 4; have HGR := hide (And.intro hown hk7); clear hown hgrow hat hgl hk7)
  all_goals
    have HS8 : Hid ((w7.setCell ⟨s, 4, none⟩ (.slice (some ⟨g7, 0, none⟩) (N + 1) cap7)).heap[s]? = some (.cells #[.pointer (some ⟨s, 0, none⟩), .pointer (some ⟨d, 0, none⟩), .string nm, .int .i64 (base : Nat), .slice (some ⟨g7, 0, none⟩) (N + 1) cap7, .int .i64 (po : Nat), .int .i64 (pb : Nat), .int .i64 (pc : Nat)] 71 (0, 0)) ∧ (w7.setCell ⟨s, 4, none⟩ (.slice (some ⟨g7, 0, none⟩) (N + 1) cap7)).heap[U]? = some (.cells #[.int .i64 (xb : Nat), .int .i64 (xc : Nat), .int .i64 (xv : Nat), .int .i64 (xp : Nat), .int .i64 (xs : Nat), .slice ao ln cp] 46 (0, 0)) ∧ TK B s w (w7.setCell ⟨s, 4, none⟩ (.slice (some ⟨g7, 0, none⟩) (N + 1) cap7)) ∧ B ≤ (w7.setCell ⟨s, 4, none⟩ (.slice (some ⟨g7, 0, none⟩) (N + 1) cap7)).heap.size ∧ (w7.setCell ⟨s, 4, none⟩ (.slice (some ⟨g7, 0, none⟩) (N + 1) cap7)).ownsRow B 68 3 (.slice (some ⟨g7, 0, none⟩) (N + 1) cap7) (N + 1) (plc (P ++ [⟨po, pb, pc⟩]))) := by
      obtain ⟨ho, h1, h2, h3, h4⟩ := HGR.out
      have hne : ∀ k, k ≠ s → (w7.setCell ⟨s, 4, none⟩ (.slice (some ⟨g7, 0, none⟩) (N + 1) cap7)).heap[k]? = w7.heap[k]? := fun k hk => Below.heap_setCell _ _ _ _ (by simpa using hk)
      refine ⟨block_set h1, (hne U (by rintro rfl; rw [h1] at h2; cases h2)).trans h2, h3, by simpa [World.setCell] using h4, ?_⟩
      rw [plc_append]
      exact rowKeep ho fun g cs e => hne g (by rintro rfl; rw [h1] at e; cases e)
    clear HGR HOW HNW HK e4 f4 d4 d5 d6 d7 d41 d51 d61 d71 d42 HX2
    go_upto_region 4 with fail
    generalize (w7.setCell ⟨s, 4, none⟩ (.slice (some ⟨g7, 0, none⟩) (N + 1) cap7)) = w8 at HS8
    have HC8 := hide (And.intro (cells6 HS8.out.2.1) (And.intro (show w8.cell? ⟨s, 5, none⟩ = some (.int .i64 (po : Nat)) by simp [World.cell?, HS8.out.1]) (And.intro (show w8.cell? ⟨s, 6, none⟩ = some (.int .i64 (pb : Nat)) by simp [World.cell?, HS8.out.1]) (show w8.cell? ⟨s, 7, none⟩ = some (.int .i64 (pc : Nat)) by simp [World.cell?, HS8.out.1]))))
    obtain ⟨⟨z0, z1, z2, z3, z4, z5⟩, y5, y6, y7⟩ := HC8.out
    have z01 := cellB (belD w8) z0
    have z11 := cellB (belD w8) z1
    have z21 := cellB (belD w8) z2
    have z31 := cellB (belD w8) z3
    have z41 := cellB (belD w8) z4
    have z51 := cellB (belD w8) z5
    have y51 := cellB (belD w8) y5
    have y61 := cellB (belD w8) y6
    have y71 := cellB (belD w8) y7
    clear z0 z1 z2 z3 z4 z5 y5 y6 y7 HC8
    go_region_with (go_at_call 56; refine (HA.out _).mono ?_; rintro e w9 ⟨rfl, hb9⟩; have hb9s : w9.heap[s]? = some (.cells #[.pointer (some ⟨s, 0, none⟩), .pointer (some ⟨d, 0, none⟩), .string nm, .int .i64 (base : Nat), .slice (some ⟨g7, 0, none⟩) (N + 1) cap7, .int .i64 (po : Nat), .int .i64 (pb : Nat), .int .i64 (pc : Nat)] 71 (0, 0)) := (hb9.block s (lt_of_block HS8.out.1)).trans HS8.out.1; have k5 : w9.cell? ⟨s, 5, none⟩ = some (.int .i64 (po : Nat)) := (by simp [World.cell?, hb9s]); have k6 : w9.cell? ⟨s, 6, none⟩ = some (.int .i64 (pb : Nat)) := (by simp [World.cell?, hb9s]); have k7 : w9.cell? ⟨s, 7, none⟩ = some (.int .i64 (pc : Nat)) := (by simp [World.cell?, hb9s]); have ff := frozen0 hb9s; have HB9 := hide (And.intro hb9 hb9s); clear hb9 hb9s)
    all_goals
      go_end0
      obtain ⟨hb9, hs9⟩ := HB9.out
      obtain ⟨h1, h2, h3, h4, h5⟩ := HS8.out
      have hb : Below w8.heap.size w8 w9 := (belD w8).trans hb9
      have s5 := block_set (i := 5) (u := .int .i64 (q1 : Nat)) hs9
      have s6 := block_set (i := 6) (u := .int .i64 (q2 : Nat)) s5
      have s7 := block_set (i := 7) (u := .int .i64 (q3 : Nat)) s6
      refine ⟨rfl, ?_, P ++ [⟨po, pb, pc⟩], ⟨⟨.slice (some ⟨g7, 0, none⟩) (N + 1) cap7, ?_, rowKeep (w := w9) ?_ fun g cs e => ?_⟩, HBs.out⟩, .inl rfl⟩
      · exact (((h3.trans (TK.of hb h4 (lt_of_block h1))).trans (TK.set _ HBs.out hs9 (by decide))).trans (TK.set _ HBs.out s5 (by decide))).trans (TK.set _ HBs.out s6 (by decide))
      · exact s7
      · rw [show (P ++ [(⟨po, pb, pc⟩ : Pl)]).length = N + 1 by rw [List.length_append, HN.out]; rfl]; exact owns_below h5 hb
      · have hg : g ≠ s := by rintro rfl; rw [hs9] at e; cases e
        rw [Below.heap_setCell _ _ _ _ (by simpa using hg), Below.heap_setCell _ _ _ _ (by simpa using hg), Below.heap_setCell _ _ _ _ (by simpa using hg)]
theorem take_ok (w : World) (B s d base : Nat) (nm : ByteArray) (P : List Pl) (bh : Pl) (h : SG w B s d nm base P bh) (x : HN) (ok : x.OK) (ao : Option Addr) (ln cp n : Nat) (hn : n ≤ 1048576) (hp : bh.byt ≤ 1073741824) (hc : bh.cnt ≤ 1073741824) (hBw : B ≤ w.heap.size) (hPl : P.length ≤ 1073741824) (hlb : ∀ p ∈ P, p.byt ≤ bh.byt) :
    Calls Tryz.prog 33 #[.pointer (some ⟨s, 0, none⟩), x.bv (.slice ao ln cp), .int .i64 (n : Nat)] w (TakeEnd w B s d base nm P bh ⟨x.base + x.cnt, bh.byt + n, bh.cnt + 1⟩) := by
  by_cases hP : P = []
  · exact take_empty w B s d base nm P bh h x ok ao ln cp n hn hp hc hBw hPl hP
  · have hl : P.length ≠ 0 := fun e => hP (List.length_eq_zero_iff.1 e)
    have hlt : P.length - 1 < P.length := by omega
    have hg := List.getElem?_eq_getElem hlt
    have hle := hlb _ (List.getElem_mem hlt)
    by_cases hfar : 4096 ≤ bh.byt - (P[P.length - 1]).byt
    · exact take_far w B s d base nm P bh h x ok ao ln cp n hn hp hc hBw hPl (P.length - 1) (by omega) _ hg hle hfar
    · exact take_near w B s d base nm P bh h x ok ao ln cp n hn hp hc hBw hPl (P.length - 1) (by omega) _ hg hle (by omega)
end Go.Proofs.YtcjlcieheepegaaGreatDoor
namespace Go.Proofs.YtcjlcieheepegaaGreatDoor
open Go.RowKit
set_option linter.unusedVariables false
set_option maxRecDepth 20000
set_option maxRecDepth 20000

/-- What Append turns: the segment's own block and row, and its disk. -/
structure AF (C s : Nat) (w w' : World) : Prop where
  below : Below C w w'
  kept : ∀ (i : Nat) (cs : Array Value) (t : TypeId) (m : Nat × Nat), w.heap[i]? = some (Obj.cells cs t m) → t ≠ 79 → t ≠ 105 → t ≠ 5 → i ≠ s → rowOf w s ≠ some i → w'.heap[i]? = w.heap[i]?
  row : rowOf w' s = rowOf w s ∨ ∀ j, rowOf w' s = some j → w.heap.size ≤ j
theorem AF.trans {C s : Nat} {a b c : World} (h : AF C s a b) (k : AF C s b c) : AF C s a c := by
  refine ⟨h.below.trans k.below, fun i cs t m hi h1 h2 h3 h4 h5 => ?_, ?_⟩
  · have e := h.kept i cs t m hi h1 h2 h3 h4 h5
    refine (k.kept i cs t m (e.trans hi) h1 h2 h3 h4 ?_).trans e
    rcases h.row with r | r
    · rw [r]; exact h5
    · intro e'
      have := r i e'
      have := lt_of_block hi
      omega
  · rcases k.row with r | r
    · rw [r]; exact h.row
    · exact .inr fun j hj => Nat.le_trans h.below.size (r j hj)
theorem AF.of {C s : Nat} {w w' : World} (h : Below w.heap.size w w') (hC : C ≤ w.heap.size) (hs : s < w.heap.size) : AF C s w w' :=
  ⟨h.mono hC, fun i cs t m hi _ _ _ _ _ => h.block i (lt_of_block hi), .inl (rowOf_same (h.block s hs))⟩
theorem AF.tk {B C s : Nat} {w w' : World} (h : TK B s w w') (hC : C ≤ B) : AF C s w w' :=
  ⟨h.below.mono hC, fun i cs t m hi _ _ _ h4 h5 => h.kept i (lt_of_block hi) h4 h5, h.row⟩
theorem AF.vf {B C s d base : Nat} {nm : ByteArray} {P : List Pl} {bh : Pl} {D : Nat} {w w' : World} (h : V8.VF D w w') (hC : C ≤ D) (hS : SG w B s d nm base P bh) : AF C s w w' := by
  obtain ⟨pv, h1, _⟩ := hS.blk
  exact ⟨h.below.mono hC, fun i cs t m hi a b c _ _ => h.kept i cs t m hi a b c, .inl (rowOf_same (h.kept s _ _ _ h1 (by decide) (by decide) (by decide)))⟩
set_option maxHeartbeats 4000000 in
theorem sappend_gen (w : World) (B Bd C s d base room cnt us cnt' us' : Nat) (nm : ByteArray) (F F' : List UInt8 → Option (List Nat × Nat)) (P : List Pl) (bh : Pl) (bt : BT) (hS : SG w B s d nm base P bh) (hD : V8.VD w Bd d room F cnt us) (hb : bt.ok) (hT : TabF w) (hbase : bt.h.base = bh.off) (hCB : C ≤ B) (hCd : C ≤ Bd) (hBw : B ≤ w.heap.size)
    (hp : bh.byt ≤ 1073741824) (hc : bh.cnt ≤ 1073741824) (hPl : P.length ≤ 1073741824) (hlb : ∀ p ∈ P, p.byt ≤ bh.byt)
    (HDA : ∀ W, V8.VD W Bd d room F cnt us → Calls Tryz.prog 32 #[.pointer (some ⟨d, 0, none⟩), .string nm, .string bt.s] W fun e w' => e = .returned (.int .i64 0) ∧ V8.VD w' Bd d room F' cnt' us' ∧ V8.VF Bd W w') :
    Calls Tryz.prog 18 #[.pointer (some ⟨s, 0, none⟩), .string bt.s] w fun e w' => e = .returned (.int .i64 0) ∧ (∃ P', SG w' B s d nm base P' ⟨bt.h.base + bt.h.cnt, bh.byt + bt.sz, bh.cnt + 1⟩ ∧ (P' = P ++ [bh] ∨ (P' = P ∧ P ≠ []))) ∧ V8.VD w' Bd d room F' cnt' us' ∧ AF C s w w' := by
  have HG := hide (sgiven_yes s w hS.cells.1)
  have HO := hide (bof_ok bt.h hb.ok bt.p [] bt.L w hT hb.hp (by simp) hb.of hb.len hb.within)
  rw [List.append_nil] at HO
  have HH := hide (And.intro hS (And.intro hD (And.intro hb.ok (And.intro hCB (And.intro hCd hBw)))))
  have HX := hide (And.intro hp (And.intro hc (And.intro hPl hlb)))
  have hsz := bt.size
  have hN1 : bt.sz ≤ 1048576 := by have := BT.sz_le hb; omega
  have HDA' := hide HDA
  obtain ⟨N, hN⟩ : ∃ N, bt.sz = N := ⟨_, rfl⟩
  have hN' : 39 + bt.p.length = N := hN
  obtain ⟨b, hbb⟩ : ∃ b, bt.s = b := ⟨_, rfl⟩
  have hbb' : mk (batL bt.h bt.p) = b := hbb
  rw [hN'] at HO
  rw [hN] at hsz hN1 ⊢
  rw [hbb'] at HO
  rw [hbb] at hsz HDA' ⊢
  clear hS hD hb hT hCB hCd hBw hbb hN hN' hbb' hp hc hPl hlb HDA
  go_enter Tryz.func18, Tryz.ntmps18
  go_wp2_with fail
  refine HG.out.mono ?_
  rintro e W ⟨rfl, hW⟩
  obtain rfl := hW.symm
  clear HG hW
  go_wp2_with fail
  refine HO.out.mono ?_
  rintro e w1 ⟨a1, cap1, rfl, hb1⟩
  clear HO
  obtain ⟨⟨xb, xc, xv, xp, xs, xn⟩, L⟩ := bt
  obtain ⟨bo, bb, bc⟩ := bh
  unfold HN.bv
  simp only at HH hbase ⊢
  subst hbase
  obtain ⟨U, hU⟩ : ∃ U, w1.heap.size = U := ⟨_, rfl⟩
  obtain ⟨LL, hLL⟩ : ∃ LL, L.length = LL := ⟨_, rfl⟩
  rw [hLL]
  have hba := below_a w1 (.cells #[.int .i64 (xb : Nat), .int .i64 (xc : Nat), .int .i64 (xv : Nat), .int .i64 (xp : Nat), .int .i64 (xs : Nat), .slice a1 LL cap1] 46)
  have H1 := hide (And.intro (hb1.trans (hba.mono hb1.size)) (heap_alloc_new w1 (.cells #[.int .i64 (xb : Nat), .int .i64 (xc : Nat), .int .i64 (xv : Nat), .int .i64 (xp : Nat), .int .i64 (xs : Nat), .slice a1 LL cap1] 46)))
  rw [hU] at H1
  clear hb1 hba hLL
  have hne : (((N : Nat) : Int) != (b.size : Int)) = false := by rw [hsz]; simp
  clear hsz
  go_upto_region 4 with fail
  try rw [hU]
  generalize (w1.alloc (.cells #[.int .i64 (xb : Nat), .int .i64 (xc : Nat), .int .i64 (xv : Nat), .int .i64 (xp : Nat), .int .i64 (xs : Nat), .slice a1 LL cap1] 46)) = w2 at H1
  clear hU
  have hS2 := HH.out.1.below H1.out.1
  obtain ⟨c0, c1, c2, c3, c5, c6, c7⟩ := hS2.cells
  obtain ⟨z0, z1, z2, z3, z4, z5⟩ := cells6 H1.out.2
  simp only at c5 c6 c7
  clear c0 c3 c6 c7 z1 z2 z3 z4 z5
  have HS2 := hide hS2
  clear hS2
  go_upto_region 6 with fail
  clear hne
  go_region
  go_upto_region 8 with fail
  have H3 : Hid (SG w2.drew B s d nm base P ⟨xb, bb, bc⟩ ∧ Below w.heap.size w w2.drew ∧ w2.drew.heap[U]? = some (.cells #[.int .i64 (xb : Nat), .int .i64 (xc : Nat), .int .i64 (xv : Nat), .int .i64 (xp : Nat), .int .i64 (xs : Nat), .slice a1 LL cap1] 46 (0, 0))) := ⟨HS2.out.below (belD w2), H1.out.1.trans ((belD w2).mono H1.out.1.size), H1.out.2⟩
  clear c1 c2 c5 z0 HS2 H1
  generalize w2.drew = w3 at H3
  obtain ⟨c0, c1, c2, c3, c5, c6, c7⟩ := H3.out.1.cells
  have e1 : w3.drew.cell? ⟨s, 1, none⟩ = some (.pointer (some ⟨d, 0, none⟩)) := c1
  have e2 : w3.drew.cell? ⟨s, 2, none⟩ = some (.string nm) := c2
  have HDA := hide (HDA'.out w3.drew (HH.out.2.1.below (H3.out.2.1.trans ((belD w3).mono H3.out.2.1.size))))
  clear c0 c1 c2 c3 c5 c6 c7
  go_region_held_law (fun w' => w'.cell? ⟨s, 1, none⟩ = some (.pointer (some ⟨d, 0, none⟩)) ∧ w'.cell? ⟨s, 2, none⟩ = some (.string nm))
    (first | exact ⟨e1, e2⟩ | go_keep)
    (first
      | (go_at_call 32; refine HDA.out.mono ?_; rintro e w4 ⟨rfl, hD4, hV4⟩; have H4 := hide (And.intro hD4 hV4); have hk4 : w4.cell? ⟨s, 1, none⟩ = some (.pointer (some ⟨d, 0, none⟩)) ∧ w4.cell? ⟨s, 2, none⟩ = some (.string nm) := ⟨((H3.out.1.below (belD w3)).vf hV4).cells.2.1, ((H3.out.1.below (belD w3)).vf hV4).cells.2.2.1⟩; clear hD4 hV4))
  have hV4 := H4.out.2
  have hU4 := (hV4.kept U _ _ _ H3.out.2.2 (by decide) (by decide) (by decide)).trans H3.out.2.2
  have HS4 := hide ((H3.out.1.below (belD w3)).vf hV4)
  obtain ⟨z0, z1, z2, z3, z4, z5⟩ := cells6 hU4
  have HTK := hide (take_ok w4 B s d base nm P ⟨xb, bb, bc⟩ HS4.out ⟨xb, xc, xv, xp, xs, xn⟩ HH.out.2.2.1 a1 LL cap1 N hN1 HX.out.1 HX.out.2.1 (Nat.le_trans (Nat.le_trans HH.out.2.2.2.2.2 H3.out.2.1.size) hV4.below.size) HX.out.2.2.1 HX.out.2.2.2)
  unfold HN.bv at HTK
  simp only at HTK
  clear hV4 hU4 e1 e2 hk4 HDA
  go_wp2_with fail
  refine HTK.out.mono ?_
  rintro e w5 ⟨rfl, hT5, hP5⟩
  have hD5 := hT5.vd HS4.out H4.out.1
  have hsl := HH.out.1.lt
  have H5 : Hid (_ ∧ _ ∧ AF C s w w5) := ⟨hP5, hD5, ((AF.of (H3.out.2.1.trans ((belD w3).mono H3.out.2.1.size)) (Nat.le_trans HH.out.2.2.2.1 HH.out.2.2.2.2.2) hsl).trans (AF.vf H4.out.2 HH.out.2.2.2.2.1 (H3.out.1.below (belD w3)))).trans (AF.tk hT5 HH.out.2.2.2.1)⟩
  clear hP5 hT5 hD5 hsl HTK z0 z1 z2 z3 z4 z5
  go_wp2
  go_ret
  exact ⟨rfl, H5.out.1, H5.out.2.1, H5.out.2.2⟩
set_option maxHeartbeats 4000000 in
/-- The disk refuses. -/
theorem sappend_disk (w : World) (B Bd s d base room cnt us : Nat) (nm : ByteArray) (F : List UInt8 → Option (List Nat × Nat)) (P : List Pl) (bh : Pl) (bt : BT) (hS : SG w B s d nm base P bh) (hD : V8.VD w Bd d room F cnt us) (hb : bt.ok) (hT : TabF w) (hbase : bt.h.base = bh.off)
    (HDA : ∀ W, V8.VD W Bd d room F cnt us → Calls Tryz.prog 32 #[.pointer (some ⟨d, 0, none⟩), .string nm, .string bt.s] W fun e w' => e = .returned (.int .i64 80) ∧ Below W.heap.size W w') :
    Calls Tryz.prog 18 #[.pointer (some ⟨s, 0, none⟩), .string bt.s] w fun e w' => e = .returned (.int .i64 80) ∧ Below w.heap.size w w' := by
  have HG := hide (sgiven_yes s w hS.cells.1)
  have HO := hide (bof_ok bt.h hb.ok bt.p [] bt.L w hT hb.hp (by simp) hb.of hb.len hb.within)
  rw [List.append_nil] at HO
  have HH := hide (And.intro hS hD)
  have hsz := bt.size
  have HDA' := hide HDA
  obtain ⟨N, hN⟩ : ∃ N, bt.sz = N := ⟨_, rfl⟩
  have hN' : 39 + bt.p.length = N := hN
  obtain ⟨b, hbb⟩ : ∃ b, bt.s = b := ⟨_, rfl⟩
  have hbb' : mk (batL bt.h bt.p) = b := hbb
  rw [hN'] at HO
  rw [hN] at hsz
  rw [hbb'] at HO
  rw [hbb] at hsz HDA' ⊢
  clear hS hD hb hT hbb hN hN' hbb' HDA
  go_enter Tryz.func18, Tryz.ntmps18
  go_wp2_with fail
  refine HG.out.mono ?_
  rintro e W ⟨rfl, hW⟩
  obtain rfl := hW.symm
  clear HG hW
  go_wp2_with fail
  refine HO.out.mono ?_
  rintro e w1 ⟨a1, cap1, rfl, hb1⟩
  clear HO
  obtain ⟨⟨xb, xc, xv, xp, xs, xn⟩, L⟩ := bt
  obtain ⟨bo, bb, bc⟩ := bh
  unfold HN.bv
  simp only at HH hbase ⊢
  subst hbase
  obtain ⟨U, hU⟩ : ∃ U, w1.heap.size = U := ⟨_, rfl⟩
  obtain ⟨LL, hLL⟩ : ∃ LL, L.length = LL := ⟨_, rfl⟩
  rw [hLL]
  have hba := below_a w1 (.cells #[.int .i64 (xb : Nat), .int .i64 (xc : Nat), .int .i64 (xv : Nat), .int .i64 (xp : Nat), .int .i64 (xs : Nat), .slice a1 LL cap1] 46)
  have H1 := hide (And.intro (hb1.trans (hba.mono hb1.size)) (heap_alloc_new w1 (.cells #[.int .i64 (xb : Nat), .int .i64 (xc : Nat), .int .i64 (xv : Nat), .int .i64 (xp : Nat), .int .i64 (xs : Nat), .slice a1 LL cap1] 46)))
  rw [hU] at H1
  clear hb1 hba hLL
  have hne : (((N : Nat) : Int) != (b.size : Int)) = false := by rw [hsz]; simp
  clear hsz
  go_upto_region 4 with fail
  try rw [hU]
  generalize (w1.alloc (.cells #[.int .i64 (xb : Nat), .int .i64 (xc : Nat), .int .i64 (xv : Nat), .int .i64 (xp : Nat), .int .i64 (xs : Nat), .slice a1 LL cap1] 46)) = w2 at H1
  clear hU
  have hS2 := HH.out.1.below H1.out.1
  obtain ⟨c0, c1, c2, c3, c5, c6, c7⟩ := hS2.cells
  obtain ⟨z0, z1, z2, z3, z4, z5⟩ := cells6 H1.out.2
  simp only at c5 c6 c7
  clear c0 c3 c6 c7 z1 z2 z3 z4 z5
  have HS2 := hide hS2
  clear hS2
  go_upto_region 6 with fail
  clear hne
  go_region
  go_upto_region 8 with fail
  have H3 : Hid (SG w2.drew B s d nm base P ⟨xb, bb, bc⟩ ∧ Below w.heap.size w w2.drew) := ⟨HS2.out.below (belD w2), H1.out.1.trans ((belD w2).mono H1.out.1.size)⟩
  clear c1 c2 c5 z0 HS2 H1
  generalize w2.drew = w3 at H3
  obtain ⟨c0, c1, c2, c3, c5, c6, c7⟩ := H3.out.1.cells
  have e1 : w3.drew.cell? ⟨s, 1, none⟩ = some (.pointer (some ⟨d, 0, none⟩)) := c1
  have e2 : w3.drew.cell? ⟨s, 2, none⟩ = some (.string nm) := c2
  have HDA := hide (HDA'.out w3.drew (HH.out.2.below (H3.out.2.trans ((belD w3).mono H3.out.2.size))))
  clear c0 c1 c2 c3 c5 c6 c7
  go_region_held_law (fun w' => w'.cell? ⟨s, 1, none⟩ = some (.pointer (some ⟨d, 0, none⟩)) ∧ w'.cell? ⟨s, 2, none⟩ = some (.string nm))
    (first | exact ⟨e1, e2⟩ | go_keep)
    (first
      | (go_at_call 32; refine HDA.out.mono ?_; rintro e w4 ⟨rfl, hV4⟩; have H4 := hide hV4; have hk4 : w4.cell? ⟨s, 1, none⟩ = some (.pointer (some ⟨d, 0, none⟩)) ∧ w4.cell? ⟨s, 2, none⟩ = some (.string nm) := ⟨((H3.out.1.below (belD w3)).below hV4).cells.2.1, ((H3.out.1.below (belD w3)).below hV4).cells.2.2.1⟩; clear hV4))
  have HF := hide ((H3.out.2.trans ((belD w3).mono H3.out.2.size)).trans (H4.out.mono (show w.heap.size ≤ w3.drew.heap.size from H3.out.2.size)))
  clear e1 e2 hk4 HDA H4
  go_wp2
  go_ret
  exact ⟨rfl, HF.out⟩
set_option maxHeartbeats 2000000 in
/-- A batch with more behind it. -/
theorem sappend_more (w : World) (B s d base : Nat) (nm : ByteArray) (P : List Pl) (bh : Pl) (bt : BT) (t : List UInt8) (hS : SG w B s d nm base P bh) (hb : bt.ok) (hT : TabF w) (ht : t ≠ []) (htl : t.length ≤ 1048576) :
    Calls Tryz.prog 18 #[.pointer (some ⟨s, 0, none⟩), .string (mk (bt.z ++ t))] w fun e w' => e = .returned (.int .i64 100) ∧ Below w.heap.size w w' := by
  have HG := hide (sgiven_yes s w hS.cells.1)
  have HO := hide (bof_ok bt.h hb.ok bt.p t bt.L w hT hb.hp (by omega) hb.of hb.len hb.within)
  have hsz : (mk (bt.z ++ t)).size = bt.sz + t.length := by rw [mk_size, List.length_append, bt.z_length]
  have htp : 0 < t.length := List.length_pos_iff.2 ht
  obtain ⟨N, hN⟩ : ∃ N, bt.sz = N := ⟨_, rfl⟩
  have hN' : 39 + bt.p.length = N := hN
  obtain ⟨b, hbb⟩ : ∃ b, mk (bt.z ++ t) = b := ⟨_, rfl⟩
  have hbb' : mk (batL bt.h bt.p ++ t) = b := hbb
  rw [hN'] at HO
  rw [hbb'] at HO
  rw [hN] at hsz
  rw [hbb] at hsz ⊢
  have hne : (((N : Nat) : Int) != (b.size : Int)) = true := by rw [hsz]; simp; omega
  clear hS hb hT hbb hbb' hN hN' hsz htp ht htl
  go_enter Tryz.func18, Tryz.ntmps18
  go_wp2_with fail
  refine HG.out.mono ?_
  rintro e W ⟨rfl, hW⟩
  obtain rfl := hW.symm
  clear HG hW
  go_wp2_with fail
  refine HO.out.mono ?_
  rintro e w1 ⟨a1, cap1, rfl, hb1⟩
  clear HO
  obtain ⟨⟨xb, xc, xv, xp, xs, xn⟩, L⟩ := bt
  unfold HN.bv
  obtain ⟨LL, hLL⟩ : ∃ LL, L.length = LL := ⟨_, rfl⟩
  simp only
  rw [hLL]
  have hba := below_a w1 (.cells #[.int .i64 (xb : Nat), .int .i64 (xc : Nat), .int .i64 (xv : Nat), .int .i64 (xp : Nat), .int .i64 (xs : Nat), .slice a1 LL cap1] 46)
  have H1 := hide (hb1.trans (hba.mono hb1.size))
  clear hb1 hba hLL
  go_upto_region 4 with fail
  generalize (w1.alloc (.cells #[.int .i64 (xb : Nat), .int .i64 (xc : Nat), .int .i64 (xv : Nat), .int .i64 (xp : Nat), .int .i64 (xs : Nat), .slice a1 LL cap1] 46)) = w2 at H1
  go_wp2
  go_ret
  exact ⟨rfl, H1.out⟩
set_option maxHeartbeats 2000000 in
/-- What is too short for a batch. -/
theorem sappend_short (w : World) (B s d base : Nat) (nm : ByteArray) (P : List Pl) (bh : Pl) (b : ByteArray) (hS : SG w B s d nm base P bh) (hb : Short b) :
    Calls Tryz.prog 18 #[.pointer (some ⟨s, 0, none⟩), .string b] w fun e w' => e = .returned (.int .i64 100) ∧ Below w.heap.size w w' := by
  have HG := hide (sgiven_yes s w hS.cells.1)
  have HO := hide (bof_short b w hb)
  unfold bv0 at HO
  clear hS hb
  go_enter Tryz.func18, Tryz.ntmps18
  go_wp2_with fail
  refine HG.out.mono ?_
  rintro e W ⟨rfl, hW⟩
  obtain rfl := hW.symm
  clear HG hW
  go_wp2_with fail
  refine HO.out.mono ?_
  rintro e w1 ⟨rfl, hb1⟩
  clear HO
  have hba := below_a w1 (.cells #[.int .i64 0, .int .i64 0, .int .i64 0, .int .i64 0, .int .i64 0, .slice none 0 0] 46)
  have H1 := hide (hb1.trans (hba.mono hb1.size))
  clear hb1 hba
  go_upto_region 4 with fail
  generalize (w1.alloc (.cells #[.int .i64 0, .int .i64 0, .int .i64 0, .int .i64 0, .int .i64 0, .slice none 0 0] 46)) = w2 at H1
  go_wp2
  go_ret
  exact ⟨rfl, H1.out⟩
set_option maxHeartbeats 2000000 in
/-- A batch's bytes that lack some. -/
theorem short_cut (bt : BT) (hb : bt.ok) (k : Nat) (hk : k < bt.sz) : Short (mk (bt.z.take k)) := by
  by_cases h10 : k < 10
  · exact short_few _ (by rw [mk_size, List.length_take]; omega)
  intro W
  have hle := BT.sz_le hb
  have hl : (bt.z.take k).length = k := by rw [List.length_take, bt.z_length]; omega
  have hz : bt.z = [80, 66] ++ (fxL (29 + bt.p.length) 4 ++ (fxL (crcL (sumL bt.h bt.p)) 4 ++ sumL bt.h bt.p)) := rfl
  have hz2 : bt.z.take k = [80, 66] ++ (fxL (29 + bt.p.length) 4 ++ (fxL (crcL (sumL bt.h bt.p)) 4 ++ sumL bt.h bt.p).take (k - 6)) := by
    rw [hz, List.take_append, List.take_of_length_le (by simp; omega), List.take_append, List.take_of_length_le (by rw [fxL_length]; simp; omega)]
    rw [fxL_length]
    simp only [List.length_cons, List.length_nil]
    congr 3
  obtain ⟨s, hs⟩ : ∃ s, mk (bt.z.take k) = s := ⟨_, rfl⟩
  have hsz : s.size = k := by rw [← hs, mk_size, hl]
  have hx : s.extract 0 2 = ⟨#[80, 66]⟩ := by rw [← hs, extract_take, hz2]; rfl
  have hN : bt.sz = 10 + (29 + bt.p.length) := by unfold BT.sz; omega
  have HF1 : Hid (Calls Tryz.prog 92 #[.string (s.extract 2 s.size), .int .i64 4] W fun e w' => e = .returned (.tuple #[.int .i64 ((29 + bt.p.length : Nat) : Int), .int .i64 0]) ∧ w' = W) := by
    have e2 : s.extract 2 s.size = mk (fxL (29 + bt.p.length) 4 ++ (fxL (crcL (sumL bt.h bt.p)) 4 ++ sumL bt.h bt.p).take (k - 6)) := by
      rw [← hs, extract_drop, hz2]; congr 1
    rw [e2]
    have hf := fixN_fx (29 + bt.p.length) 4 ((fxL (crcL (sumL bt.h bt.p)) 4 ++ sumL bt.h bt.p).take (k - 6)) (by omega)
    have := fixed (mk (fxL (29 + bt.p.length) 4 ++ (fxL (crcL (sumL bt.h bt.p)) 4 ++ sumL bt.h bt.p).take (k - 6))) 4 W (by omega) (by omega) (by rw [mk_size]; simp [fxL_length]) (by rw [hf]; omega)
    rw [hf] at this
    exact this
  obtain ⟨n, hn⟩ : ∃ n, 29 + bt.p.length = n := ⟨_, rfl⟩
  rw [hn] at HF1
  have HP : Hid (∀ W, Calls Tryz.prog 80 #[.string s, .string ⟨#[80, 66]⟩] W fun e w' => e = .returned (.bool true) ∧ w' = W) := fun W => hasPB s W (by omega) hx
  have HW : Hid (∀ W, Calls Tryz.prog 76 #[.int .i64 (n : Nat), .int .i64 29, .int .i64 262144] W fun e w' => e = .returned (.bool true) ∧ w' = W) := fun W => isWithin_yes _ _ _ W (by omega) (by omega)
  have hs1 : ¬ (s.size : Int) < 10 := by omega
  have hs2 : (s.size : Int) < 10 + (n : Int) := by omega
  have hs3 : 2 ≤ s.size := by omega
  have hnb : n ≤ 262144 := by omega
  rw [hs]
  clear hs hl hz hz2 hx hN hn hk hle hb h10 hsz
  go_enter Tryz.func72, Tryz.ntmps72
  go_wp2_with fail
  refine HF1.out.mono ?_
  rintro e W ⟨rfl, hW⟩
  obtain rfl := hW.symm
  clear hW
  go_wp2_with fail
  refine (HP.out _).mono ?_
  rintro e W ⟨rfl, hW⟩
  obtain rfl := hW.symm
  clear hW
  go_wp2_with fail
  refine (HW.out _).mono ?_
  rintro e W ⟨rfl, hW⟩
  obtain rfl := hW.symm
  clear hW
  go_wp2
  go_ret2
  exact ⟨rfl, rfl⟩
end Go.Proofs.YtcjlcieheepegaaGreatDoor
