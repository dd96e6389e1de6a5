/- Layer 11: SegmentFull: the walk. -/
import Derived.Test.YtmokjopffgmfjaaGreatDoorEKtn
import Derived.Test.YtmokjopffgmfjaaGreatDoorEKtl
import Derived.Test.YtmokjopffgmfjaaGreatDoorEKtc
import Derived.Test.YtmokjopffgmfjaaGreatDoorEKtm
namespace Go.Proofs.YtmokjopffgmfjaaGreatDoor
open Go.RowKit
set_option linter.unusedVariables false
set_option maxRecDepth 20000
set_option maxRecDepth 20000

/-- What SegmentFull's loop keeps. -/
structure FU (W wr : World) (B s d room : Nat) (v : Value) (l : List BT) (k : Nat) : Prop where
  bel : Below W.heap.size W wr
  ss : ∃ K cnt F, SS wr B W.heap.size s d 0 room cnt segN F l K
  own : OwnS wr W.heap.size v l
  len : l.length ≤ k
  hB : W.heap.size ≤ B
  hBw : B ≤ wr.heap.size
theorem FU.below {W w w' : World} {B s d room : Nat} {v : Value} {l : List BT} {k : Nat} (h : FU W w B s d room v l k) (hb : Below w.heap.size w w') : FU W w' B s d room v l k := by
  obtain ⟨K, cnt, F, hs⟩ := h.ss
  exact ⟨h.bel.trans (hb.mono h.bel.size), ⟨K, cnt, F, hs.below hb⟩, h.own.below hb, h.len, h.hB, Nat.le_trans h.hBw hb.size⟩
theorem cnts_le : ∀ (m : List BT), allOK m → cnts m ≤ 256 * m.length
  | [], _ => Nat.zero_le _
  | b :: m, h => by
    have h1 := cnts_le m (fun x hx => h x (List.mem_cons_of_mem _ hx))
    have h2 := (h b List.mem_cons_self).ok.cnt
    have e : cnts (b :: m) = b.h.cnt + cnts m := by simp [cnts]
    rw [e, List.length_cons]
    omega
set_option maxHeartbeats 8000000 in
theorem full_walk (a : Int) (ao : Option Addr) (n c : Nat) (L : List RP) (W : World) (hL : L.length = n) (hR : RIs W ao L) (hV : ∀ r ∈ L, r.val.size ≤ 9223372036854775807) (hn : n ≤ 9223372036854775807) (hT : TabF W) :
    Calls Tryz.prog 4 #[.int .i64 a, .slice ao n c] W fun e w' => e = .returned (.bool true) ∧ Below W.heap.size W w' := by
  obtain ⟨q1, q1'⟩ := and2047n a
  obtain ⟨room, hroom⟩ : ∃ r, (a % 2048).toNat = r := ⟨_, rfl⟩
  rw [hroom] at q1 q1'
  have HA := hide (And.intro hL (And.intro hR (And.intro hV hT)))
  have HN : Hid (Calls Tryz.prog 7 #[.int .i64 (room : Nat)] W fun e w' => e = .returned (.tuple #[.pointer (some ⟨W.heap.size + 1, 0, none⟩), .int .i64 0]) ∧ V8.VD w' W.heap.size (W.heap.size + 1) room (fun _ => none) 0 0 ∧ Below W.heap.size W w') := V8.new_ok W room (by omega)
  obtain ⟨C, hC⟩ : ∃ C, W.heap.size = C := ⟨_, rfl⟩
  have HC := hide hC
  have HRB := hide q1'
  rw [hC] at HN ⊢
  clear hL hR hV hT hroom q1' hC
  obtain ⟨D, hD⟩ : ∃ D, C + 1 = D := ⟨_, rfl⟩
  rw [hD] at HN
  clear hD
  go_enter Tryz.func4, Tryz.ntmps4
  go_wp2_with fail
  refine HN.out.mono ?_
  rintro e w1 ⟨rfl, hd1, hb1⟩
  have H1 := hide (And.intro hd1 hb1)
  clear hd1 hb1 HN
  have HO : Hid (Calls Tryz.prog 6 #[.pointer (some ⟨D, 0, none⟩), .string segN, .int .i64 0] w1 fun e w' => ∃ s, e = .returned (.tuple #[.pointer (some ⟨s, 0, none⟩), .int .i64 0, .int .i64 0]) ∧ SG w' w1.heap.size s D segN 0 [] ⟨0, 0, 0⟩ ∧ Below w1.heap.size w1 w') := open_none w1 D 0 segN C room 0 0 (fun _ => none) H1.out.1 segN_may rfl (by decide)
  go_wp2_with fail
  refine HO.out.mono ?_
  rintro e w2 ⟨s, rfl, hs2, hb2⟩
  have H2 : Hid (FU W w2 w1.heap.size s D room (.slice none 0 0) [] 0) := by
    have hbw := H1.out.2.trans (hb2.mono (by rw [← HC.out]; exact H1.out.2.size))
    rw [← HC.out] at hbw
    have hvd : V8.VD w2 W.heap.size D room (fun _ => none) 0 (szs []) := by
      rw [HC.out]; exact H1.out.1.below hb2
    refine ⟨hbw, ⟨[], 0, fun _ => none, ⟨?_, hvd, segN_may, .inl ⟨rfl, rfl, rfl⟩, trivial, fun b hb => (by cases hb), ⟨List.Pairwise.nil, fun k hk => (by cases hk), fun h => absurd rfl h⟩, by decide⟩⟩, ⟨rfl, .inl ⟨rfl, rfl⟩⟩, Nat.le_refl _, H1.out.2.size, hb2.size⟩
    exact hs2
  obtain ⟨B, hB⟩ : ∃ B, w1.heap.size = B := ⟨_, rfl⟩
  rw [hB] at H2
  clear hs2 hb2 HO H1 hB
  go_wp2
  go_loopw [10, 11] (fun hv i wr => ∃ (k : Nat) (l : List BT), i = .int .i64 (k : Nat) ∧ k ≤ n ∧ k ≤ 100 ∧ FU W wr B s D room hv l k) (fun _ i _ => n - (intOf i).toNat)
  case atStart => exact ⟨0, [], rfl, Nat.zero_le _, Nat.zero_le _, H2.out⟩
  case round =>
    obtain ⟨k, l, rfl, hk, hk100, hfu⟩ := hrel
    have HF := hide hfu
    obtain ⟨va, vc, rfl⟩ := hfu.own.form
    have hTr := HA.out.2.2.2.new HF.out.bel
    have HAw := hide (awake11 wr hTr)
    have hCw : C ≤ wr.heap.size := by rw [← HC.out]; exact HF.out.bel.size
    have HCw := hide hCw
    clear hfu H2 hCw
    by_cases hkn : k < n ∧ k < 100
    · obtain ⟨hkn, hkh⟩ := hkn
      have hkni : (k : Int) < (n : Int) := by omega
      have hkhi : (k : Int) < 100 := by omega
      obtain ⟨x, hx⟩ : ∃ x, L[k]? = some x := ⟨_, List.getElem?_eq_getElem (by rw [HA.out.1]; exact hkn)⟩
      obtain ⟨b, off, hao, hblt, r0, r1, r2, r3, r4⟩ := (HA.out.2.1.below HF.out.bel (Nat.le_refl _)) k x hx
      subst hao
      have hxv := HA.out.2.2.1 x (List.mem_of_getElem? hx)
      have HX := hide hx
      clear hx
      by_cases hlong : 200 < x.val.size
      · have hlongi : (200 : Int) < (x.val.size : Int) := by omega
        clear hblt r0 r1 r2 r3 hlong
        go_wp2_with fail
        refine HAw.out.mono ?_
        rintro e w9 ⟨rfl, hb9⟩
        have H9 := hide (HF.out.bel.trans (hb9.mono HF.out.bel.size))
        rw [HC.out] at H9
        clear hb9 HAw
        go_wp2
        go_ret
        exact ⟨rfl, H9.out⟩
      · have hlongi : ¬ (200 : Int) < (x.val.size : Int) := by omega
        obtain ⟨K, cnt, F, hss⟩ := HF.out.ss
        have HS := hide hss
        have hEk : endB 0 l ≤ 25600 := by
          have h1 := cnts_le l hss.ok
          have h2 := HF.out.len
          unfold endB
          omega
        obtain ⟨E, hE⟩ : ∃ E, endB 0 l = E := ⟨_, rfl⟩
        have HE := hide hE
        rw [hE] at hEk
        have HEn := hide (rend_ok wr.drew W.heap.size 0 (.slice va l.length vc) l (HF.out.own.below (belD wr)) hss.ch hss.ok (by have := HF.out.len; omega) (by decide))
        rw [hE] at HEn
        have HMd := hide (fun W' => made_ok x E W' (by omega) (by omega))
        have hbok := x.ok E (by omega) (show x.val.size ≤ 4096 by omega)
        have HBO := hide (And.intro hbok hEk)
        obtain ⟨bs, hbs⟩ : ∃ bs, (x.b E).s = bs := ⟨_, rfl⟩
        rw [hbs] at HMd
        have HBS := hide hbs
        obtain ⟨ln, hln⟩ : ∃ ln, l.length = ln := ⟨_, rfl⟩
        rw [hln] at HEn
        have HLN := hide hln
        rw [hln]
        have d0 := cellB (belD wr) r0
        have d1 := cellB (belD wr) r1
        have d2 := cellB (belD wr) r2
        have d3 := cellB (belD wr) r3
        have d4 := cellB (belD wr) r4
        clear hss hE hbok hEk hbs hln hblt hlong hxv
        go_upto_region 13 with fail
        go_region_held_law (fun w' => w'.cell? ⟨b, off + k * 5, none⟩ = some (.int .i64 x.cnt) ∧ w'.cell? ⟨b, off + k * 5 + 1, none⟩ = some (.int .i64 x.key) ∧ w'.cell? ⟨b, off + k * 5 + 2, none⟩ = some (.int .i64 x.prod) ∧ w'.cell? ⟨b, off + k * 5 + 3, none⟩ = some (.int .i64 x.seq) ∧ w'.cell? ⟨b, off + k * 5 + 4, none⟩ = some (.string x.val))
          (first | exact ⟨d0, d1, d2, d3, d4⟩ | go_keep)
          (first
            | (go_at_call 18; refine HEn.out.mono ?_; rintro e w4 ⟨rfl, hb4⟩; have hk4 : w4.cell? ⟨b, off + k * 5, none⟩ = some (.int .i64 x.cnt) ∧ w4.cell? ⟨b, off + k * 5 + 1, none⟩ = some (.int .i64 x.key) ∧ w4.cell? ⟨b, off + k * 5 + 2, none⟩ = some (.int .i64 x.prod) ∧ w4.cell? ⟨b, off + k * 5 + 3, none⟩ = some (.int .i64 x.seq) ∧ w4.cell? ⟨b, off + k * 5 + 4, none⟩ = some (.string x.val) := ⟨cellB hb4 d0, cellB hb4 d1, cellB hb4 d2, cellB hb4 d3, cellB hb4 d4⟩; have H4 := hide hb4; clear hb4)
            | (go_at_call 17; refine (HMd.out w4).mono ?_; rintro e w5 ⟨rfl, hb5⟩; have hk5 : w5.cell? ⟨b, off + k * 5, none⟩ = some (.int .i64 x.cnt) ∧ w5.cell? ⟨b, off + k * 5 + 1, none⟩ = some (.int .i64 x.key) ∧ w5.cell? ⟨b, off + k * 5 + 2, none⟩ = some (.int .i64 x.prod) ∧ w5.cell? ⟨b, off + k * 5 + 3, none⟩ = some (.int .i64 x.seq) ∧ w5.cell? ⟨b, off + k * 5 + 4, none⟩ = some (.string x.val) := ⟨cellB hb5 hk4.1, cellB hb5 hk4.2.1, cellB hb5 hk4.2.2.1, cellB hb5 hk4.2.2.2.1, cellB hb5 hk4.2.2.2.2⟩; have H5 := hide hb5; clear hb5))
        have H6 := hide (HF.out.below ((belD wr).trans ((H4.out.mono (Nat.le_refl _)).trans (H5.out.mono H4.out.size))))
        clear hk4 hk5 H4 H5 d0 d1 d2 d3 d4 r4 HEn HMd HS HF
        obtain ⟨K, cnt, F, hss⟩ := H6.out.ss
        have HS := hide hss
        have hpf := plAt_full 0 l
        have hsg := hss.sg
        rw [hpf] at hsg
        obtain ⟨S0, hS0⟩ : ∃ S, szs l = S := ⟨_, rfl⟩
        rw [hS0] at hsg
        have HSz : Hid (Calls Tryz.prog 14 #[.pointer (some ⟨s, 0, none⟩)] w5 fun e w' => e = .returned (.int .i64 (S0 : Nat)) ∧ w' = w5) := sSize_ok w5 B s D 0 segN _ _ hsg
        have hS0b : S0 ≤ 16777216 := by rw [← hS0]; exact hss.len.2
        have HS0 := hide hS0
        have hbz : bs.size = (x.b E).sz := by rw [← HBS.out]; exact (x.b E).size
        have hbz2 := BT.sz_le HBO.out.1
        obtain ⟨y, hy⟩ : ∃ y, S0 + bs.size = y := ⟨_, rfl⟩
        have hyi : (S0 : Int) + (bs.size : Int) = (y : Int) := by omega
        have hyb : y ≤ 33554432 := by omega
        have hybi : (y : Int) ≤ 33554432 := by omega
        have HY := hide (And.intro hy hbz)
        have hT5 := HA.out.2.2.2.new H6.out.bel
        have HT5 := hide hT5
        have hbase : (x.b E).h.base = endB 0 l := by rw [HE.out]; rfl
        have HBa := hide hbase
        clear hss hpf hsg hS0 hS0b hbz hbz2 hy hT5 hbase
        go_wp2_with fail
        refine HSz.out.mono ?_
        rintro e Wx ⟨rfl, hW⟩
        obtain rfl := hW.symm
        clear hW HSz
        by_cases hfit : y ≤ room
        · have hfiti : (y : Int) ≤ (room : Int) := by omega
          have HAp := hide (ss_append w5 B W.heap.size W.heap.size s D 0 room cnt segN F l K (x.b E) HS.out HBO.out.1 HBa.out HT5.out H6.out.hB (Nat.le_refl _) H6.out.hBw (by rw [HS0.out]; have := HY.out; omega))
          rw [HBS.out] at HAp
          have HFI := hide hfit
          clear hfit
          go_wp2_with fail
          refine HAp.out.mono ?_
          rintro e w6 ⟨rfl, ⟨F', K', cnt', hss6⟩, haf⟩
          have hown6 : OwnS w6 W.heap.size (.slice va ln vc) l := by have := H6.out.own.af haf HS.out.sg; rw [HLN.out] at this; exact this
          have H7 := hide (And.intro hss6 (And.intro hown6 (H6.out.bel.trans haf.below)))
          have HWS := hide haf.below.size
          clear hss6 hown6 haf HAp
          have hlnb : ln ≤ 100 := by have := H6.out.len; rw [HLN.out] at this; omega
          have hba6 := below_a w6 (.cells #[.string bs] 9)
          have HOW : Hid (OwnS (w6.alloc (.cells #[.string bs] 9)) W.heap.size (.slice va ln vc) l ∧ W.heap.size ≤ (w6.alloc (.cells #[.string bs] 9)).heap.size) := ⟨H7.out.2.1.below hba6, Nat.le_trans H7.out.2.2.size hba6.size⟩
          have HOW2 : Hid ((w6.alloc (.cells #[.string bs] 9)).ownsRow W.heap.size 9 1 (.slice va ln vc) ln (strs l)) := by
            have := HOW.out.1
            unfold OwnS at this
            rw [HLN.out] at this
            exact this
          have HNW := hide (news1 w6 (.string bs) 9)
          obtain ⟨i0, hi, hz0, hz1, hz2⟩ := info_split strInfo
          have HI : Hid (Tryz.prog.info? 9 = some i0 ∧ i0.zero = some (.string ⟨#[]⟩) ∧ i0.size = 1 ∧ i0.bytes = 16) := ⟨hi, hz0, hz1, hz2⟩
          clear hi hz0 hz1 hz2 hba6
          go_wp2_with (at_builtin; (refine wpList_append_lies _ rfl _ _ 44 rfl W.heap.size 9 i0 (.string ⟨#[]⟩) 1 16 Tryz.underlying44 HI.out.1 HI.out.2.1 HI.out.2.2.1 HI.out.2.2.2 rfl (by decide) (.slice va ln vc) ln (strs l) rfl HOW2.out ⟨w6.heap.size, 0, none⟩ 1 1 [.string bs] rfl rfl HNW.out (one1 _) (by decide) (by unfold maxLen; omega) (by omega) HOW.out.2 _ rfl ?_); intro g7 cap7 w7 hown hgrow hat hgl; have hg7 : (w6.alloc (.cells #[.string bs] 9)).grownBy w7 (Value.slice va ln vc).ownBlock := ⟨hgrow.os, hgrow.tape, hgrow.output, hgrow.size, hgrow.block⟩; have HGR := hide (And.intro hown hg7); clear hown hgrow hat hgl hg7)
          have H8 : Hid (FU W w7 B s D room (.slice (some ⟨g7, 0, none⟩) (ln + 1) cap7) (l ++ [x.b E]) (k + 1)) := by
            have hba6 := below_a w6 (.cells #[.string bs] 9)
            have hown7 : OwnS w7 W.heap.size (.slice (some ⟨g7, 0, none⟩) (ln + 1) cap7) (l ++ [x.b E]) := by
              unfold OwnS
              have e1 : (l ++ [x.b E]).length = ln + 1 := by rw [List.length_append, HLN.out]; rfl
              have e2 : strs (l ++ [x.b E]) = strs l ++ [.string bs] := by unfold strs; rw [List.map_append, ← HBS.out]; rfl
              rw [e1, e2]
              exact HGR.out.1
            refine ⟨(H7.out.2.2.trans (hba6.mono H7.out.2.2.size)).trans (below_grown HOW2.out HGR.out.2 HOW.out.2), ⟨K', cnt', F', (H7.out.1.below hba6).grown HOW.out.1 HGR.out.2⟩, hown7, ?_, H6.out.hB, ?_⟩
            · rw [List.length_append]; have := H6.out.len; show l.length + 1 ≤ k + 1; omega
            · exact Nat.le_trans H6.out.hBw (Nat.le_trans (by
                have h1 : w5.heap.size ≤ w6.heap.size := HWS.out
                exact h1) (Nat.le_trans hba6.size HGR.out.2.size))
          clear HGR HOW HOW2 HNW H7
          have HTd : Hid (Calls Tryz.prog 19 #[.pointer (some ⟨s, 0, none⟩), .slice (some ⟨g7, 0, none⟩) (ln + 1) cap7, .int .i64 0] w7 fun e w' => e = .returned (.bool true) ∧ Below w7.heap.size w7 w') := by
            obtain ⟨K8, c8, F8, hs8⟩ := H8.out.ss
            exact told_ok w7 B W.heap.size W.heap.size s D 0 room c8 segN F8 (l ++ [x.b E]) K8 _ hs8 H8.out.own (HA.out.2.2.2.new H8.out.bel)
          go_wp2_with fail
          refine HTd.out.mono ?_
          rintro e w8 ⟨rfl, hb8⟩
          have H9 := hide (H8.out.below hb8)
          clear hb8 HTd H8
          go_wp2
          refine ⟨⟨k + 1, l ++ [x.b E], by first | rfl | simp, by omega, by omega, H9.out⟩, ?_⟩
          simp [intOf]; omega
        · have hfiti : ¬ (y : Int) ≤ (room : Int) := by omega
          have HAp := hide (ss_disk w5 B W.heap.size s D 0 room cnt segN F l K (x.b E) HS.out HBO.out.1 HBa.out HT5.out (by rw [HS0.out]; have := HY.out; omega))
          rw [HBS.out] at HAp
          clear hfit
          go_wp2_with fail
          refine HAp.out.mono ?_
          rintro e w6 ⟨rfl, hb6⟩
          have H8 := hide (H6.out.below hb6)
          clear hb6 HAp
          have HTd : Hid (Calls Tryz.prog 19 #[.pointer (some ⟨s, 0, none⟩), .slice va ln vc, .int .i64 0] w6 fun e w' => e = .returned (.bool true) ∧ Below w6.heap.size w6 w') := by
            obtain ⟨K8, c8, F8, hs8⟩ := H8.out.ss
            have ho8 := H8.out.own
            rw [HLN.out] at ho8
            exact told_ok w6 B W.heap.size W.heap.size s D 0 room c8 segN F8 l K8 _ hs8 ho8 (HA.out.2.2.2.new H8.out.bel)
          go_wp2_with fail
          refine HTd.out.mono ?_
          rintro e w8 ⟨rfl, hb8⟩
          have H9 := hide (H8.out.below hb8)
          clear hb8 HTd H8
          go_wp2
          refine ⟨⟨k + 1, l, by first | rfl | simp, by omega, by omega, ?_⟩, ?_⟩
          · have h := H9.out
            rw [HLN.out] at h
            exact ⟨h.bel, h.ss, h.own, Nat.le_succ_of_le h.len, h.hB, h.hBw⟩
          · simp [intOf]; omega
    · have hend : ¬ (k : Int) < (n : Int) ∨ ((k : Int) < (n : Int) ∧ ¬ (k : Int) < 100) := by omega
      clear hkn hk hk100
      rcases hend with h1 | ⟨h1, h2⟩
      · go_wp2_with fail
        refine HAw.out.mono ?_
        rintro e w9 ⟨rfl, hb9⟩
        have H9 := hide (HF.out.bel.trans (hb9.mono HF.out.bel.size))
        rw [HC.out] at H9
        clear hb9 HAw
        go_wp2
        go_ret
        exact ⟨rfl, H9.out⟩
      · go_wp2_with fail
        refine HAw.out.mono ?_
        rintro e w9 ⟨rfl, hb9⟩
        have H9 := hide (HF.out.bel.trans (hb9.mono HF.out.bel.size))
        rw [HC.out] at H9
        clear hb9 HAw
        go_wp2
        go_ret
        exact ⟨rfl, H9.out⟩
end Go.Proofs.YtmokjopffgmfjaaGreatDoor
