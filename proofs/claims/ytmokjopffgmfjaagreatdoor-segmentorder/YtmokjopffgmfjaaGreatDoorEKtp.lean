/- Layer 11: SegmentOrder: the walk. -/
import Derived.Test.YtmokjopffgmfjaaGreatDoorEKto
namespace Go.Proofs.YtmokjopffgmfjaaGreatDoor
open Go.RowKit
set_option linter.unusedVariables false
set_option maxRecDepth 20000
set_option maxRecDepth 20000

set_option maxHeartbeats 1000000 in
theorem begun0 (w : World) : Calls Tryz.prog 20 #[.int .i64 0] w fun e w' => ∃ s B, e = .returned (.tuple #[.pointer (some ⟨w.heap.size + 1, 0, none⟩), .pointer (some ⟨s, 0, none⟩), .bool true]) ∧ V8.VD w' w.heap.size (w.heap.size + 1) 4194304 (fun _ => none) 0 0 ∧ SG w' B s (w.heap.size + 1) segN 0 [] ⟨0, 0, 0⟩ ∧ w.heap.size ≤ B ∧ B ≤ w'.heap.size ∧ Below w.heap.size w w' := by
  have HN : Hid (Calls Tryz.prog 7 #[.int .i64 4194304] w fun e w' => e = .returned (.tuple #[.pointer (some ⟨w.heap.size + 1, 0, none⟩), .int .i64 0]) ∧ V8.VD w' w.heap.size (w.heap.size + 1) 4194304 (fun _ => none) 0 0 ∧ Below w.heap.size w w') := V8.new_ok w 4194304 (by decide)
  obtain ⟨D, hD⟩ : ∃ D, w.heap.size + 1 = D := ⟨_, rfl⟩
  rw [hD] at HN ⊢
  clear hD
  go_enter Tryz.func20, Tryz.ntmps20
  go_wp2_with fail
  refine HN.out.mono ?_
  rintro e w1 ⟨rfl, hd1, hb1⟩
  have H1 := hide (And.intro hd1 hb1)
  clear hd1 hb1 HN
  have HO : Hid (Calls Tryz.prog 6 #[.pointer (some ⟨D, 0, none⟩), .string segN, .int .i64 0] w1 fun e w' => ∃ s, e = .returned (.tuple #[.pointer (some ⟨s, 0, none⟩), .int .i64 0, .int .i64 0]) ∧ SG w' w1.heap.size s D segN 0 [] ⟨0, 0, 0⟩ ∧ Below w1.heap.size w1 w') := open_none w1 D 0 segN w.heap.size 4194304 0 0 (fun _ => none) H1.out.1 segN_may rfl (by decide)
  go_wp2_with fail
  refine HO.out.mono ?_
  rintro e w2 ⟨s, rfl, hs2, hb2⟩
  have H2 : Hid (V8.VD w2 w.heap.size D 4194304 (fun _ => none) 0 0 ∧ SG w2 w1.heap.size s D segN 0 [] ⟨0, 0, 0⟩ ∧ w.heap.size ≤ w1.heap.size ∧ w1.heap.size ≤ w2.heap.size ∧ Below w.heap.size w w2) := ⟨H1.out.1.below hb2, hs2, H1.out.2.size, hb2.size, H1.out.2.trans (hb2.mono H1.out.2.size)⟩
  clear hs2 hb2 HO
  go_wp2
  go_ret3
  exact ⟨s, w1.heap.size, rfl, H2.out⟩
theorem RP.sz_le (x : RP) (E : Nat) (hb : E ≤ 1099511627520) (hv : x.val.size ≤ 4096) : (x.b E).sz ≤ 33559 := by
  have := x.b_len E hb hv
  show 39 + (recsL E (x.L E)).length ≤ _
  omega
set_option maxHeartbeats 8000000 in
theorem order_walk (ao : Option Addr) (n c : Nat) (L : List RP) (W : World) (hL : L.length = n) (hR : RIs W ao L) (hV : ∀ r ∈ L, r.val.size ≤ 9223372036854775807) (hn : n ≤ 9223372036854775807) (x : RP) (hx : x.val.size ≤ 9223372036854775807) (by_ : Int) (hT : TabF W) :
    Calls Tryz.prog 5 #[.slice ao n c, x.v, .int .i64 by_] W fun e w' => e = .returned (.bool true) ∧ Below W.heap.size W w' := by
  obtain ⟨q1, q1'⟩ := and65535n by_
  obtain ⟨o2, ho2⟩ : ∃ r, (by_ % 65536).toNat = r := ⟨_, rfl⟩
  rw [ho2] at q1 q1'
  have HO2 := hide q1'
  have hba := below_a W (.cells #[.int .i64 x.cnt, .int .i64 x.key, .int .i64 x.prod, .int .i64 x.seq, .string x.val] 46)
  have HA := hide (And.intro hL (And.intro (hR.below hba (Nat.le_refl _)) (And.intro hV (And.intro (hT.new hba) (And.intro hba (heap_alloc_new W (.cells #[.int .i64 x.cnt, .int .i64 x.key, .int .i64 x.prod, .int .i64 x.seq, .string x.val] 46)))))))
  obtain ⟨X, hX⟩ : ∃ X, W.heap.size = X := ⟨_, rfl⟩
  rw [hX] at HA
  have HX := hide hX
  clear hL hR hV hT ho2 q1' hba
  show Calls Tryz.prog 5 #[.slice ao n c, .agg #[.int .i64 x.cnt, .int .i64 x.key, .int .i64 x.prod, .int .i64 x.seq, .string x.val], .int .i64 by_] W _
  rw [hX]
  go_enter Tryz.func5, Tryz.ntmps5
  go_upto_region 1 with fail
  try rw [hX]
  generalize (W.alloc (.cells #[.int .i64 x.cnt, .int .i64 x.key, .int .i64 x.prod, .int .i64 x.seq, .string x.val] 46)) = w1 at HA
  clear hX
  have HB := hide (begun0 w1)
  obtain ⟨D, hD⟩ : ∃ D, w1.heap.size + 1 = D := ⟨_, rfl⟩
  rw [hD] at HB
  clear hD
  go_wp2_with fail
  refine HB.out.mono ?_
  rintro e w2 ⟨s, B, rfl, hvd2, hs2, hB1, hB2, hb2⟩
  have H2 : Hid (FU w1 w2 B s D 4194304 (.slice none 0 0) [] 0) :=
    ⟨hb2, ⟨[], 0, fun _ => none, ⟨hs2, hvd2, segN_may, .inl ⟨rfl, rfl, rfl⟩, trivial, fun b hb => (by cases hb), ⟨List.Pairwise.nil, fun k hk => (by cases hk), fun h => absurd rfl h⟩, by decide⟩⟩, ⟨rfl, .inl ⟨rfl, rfl⟩⟩, Nat.le_refl _, hB1, hB2⟩
  have hx2 := cells5 ((hb2.block X (lt_of_block HA.out.2.2.2.2.2)).trans HA.out.2.2.2.2.2)
  have HAw := hide (awake11 w2 (HA.out.2.2.2.1.new hb2))
  have HE2 := hide (And.intro hb2 (Nat.le_of_lt (lt_of_block HA.out.2.2.2.2.2)))
  obtain ⟨z0, z1, z2, z3, z4⟩ := hx2
  clear hvd2 hs2 hB1 hB2 hb2 HB z0 z1 z2 z3
  by_cases hshort : n ≤ 40 ∧ x.val.size ≤ 200
  · obtain ⟨hn40, hx200⟩ := hshort
    have hn40i : ¬ (40 : Int) < (n : Int) := by omega
    have hx200i : ¬ (200 : Int) < (x.val.size : Int) := by omega
    have HS := hide (And.intro hn40 hx200)
    clear HAw HE2
    go_upto_region 4 with fail
    clear hn40i hx200i z4 hx200
    go_wp2
    go_loopw [10, 11] (fun hv i wr => ∃ (k : Nat) (l : List BT), i = .int .i64 (k : Nat) ∧ k ≤ n ∧ szs l ≤ 33559 * k ∧ FU w1 wr B s D 4194304 hv l k) (fun _ i _ => n - (intOf i).toNat)
    case atStart => exact ⟨0, [], rfl, Nat.zero_le _, Nat.zero_le _, H2.out⟩
    case round =>
      obtain ⟨k, l, rfl, hk, hszl, hfu⟩ := hrel
      have HF := hide hfu
      have HZ := hide hszl
      obtain ⟨va, vc, rfl⟩ := hfu.own.form
      have hTr := HA.out.2.2.2.1.new HF.out.bel
      have HT := hide hTr
      have HAw := hide (awake11 wr hTr)
      have HWX : Hid (Below X W wr ∧ X ≤ wr.heap.size) := by
        have h1 := Nat.le_of_lt (lt_of_block HA.out.2.2.2.2.2)
        exact ⟨HA.out.2.2.2.2.1.trans (HF.out.bel.mono h1), Nat.le_trans h1 HF.out.bel.size⟩
      obtain ⟨K, cnt, F, hss⟩ := HF.out.ss
      have HSS := hide hss
      have hpf := plAt_full 0 l
      have hEk : endB 0 l ≤ 25600 := by
        have h1 := cnts_le l hss.ok
        have h2 := HF.out.len
        have h3 := HS.out.1
        unfold endB
        omega
      obtain ⟨E, hE⟩ : ∃ E, endB 0 l = E := ⟨_, rfl⟩
      rw [hE] at hpf hEk
      have hsg := hss.sg
      rw [hpf] at hsg
      have HE := hide (And.intro hE hEk)
      have hEk2 := hEk
      obtain ⟨ln, hln⟩ : ∃ ln, l.length = ln := ⟨_, rfl⟩
      have HLN := hide hln
      rw [hln]
      clear hfu hszl H2 hTr hE
      by_cases hkn : k < n
      · have hkni : (k : Int) < (n : Int) := by omega
        obtain ⟨y, hy⟩ : ∃ y, L[k]? = some y := ⟨_, List.getElem?_eq_getElem (by rw [HA.out.1]; exact hkn)⟩
        obtain ⟨b, off, hao, hblt, r0, r1, r2, r3, r4⟩ := (HA.out.2.1.below HF.out.bel (Nat.le_refl _)) k y hy
        subst hao
        have hyv := HA.out.2.2.1 y (List.mem_of_getElem? hy)
        clear hy
        by_cases hlong : 200 < y.val.size
        · have hlongi : (200 : Int) < (y.val.size : Int) := by omega
          clear hblt r0 r1 r2 r3 hlong hss hpf hsg hln hEk hEk2
          go_wp2_with fail
          refine HAw.out.mono ?_
          rintro e w9 ⟨rfl, hb9⟩
          have H9 := hide (HWX.out.1.trans (hb9.mono HWX.out.2))
          clear hb9 HAw
          go_wp2
          go_ret
          exact ⟨rfl, H9.out⟩
        · have hlongi : ¬ (200 : Int) < (y.val.size : Int) := by omega
          have HEn : Hid (Calls Tryz.prog 13 #[.pointer (some ⟨s, 0, none⟩)] wr.drew fun e w' => e = .returned (.int .i64 (E : Nat)) ∧ w' = wr.drew) := sEnd_ok wr.drew B s D 0 segN _ _ (hsg.below (belD wr))
          have HMd := hide (made_ok y E wr.drew (by omega) (by omega))
          have hbok := y.ok E (by omega) (show y.val.size ≤ 4096 by omega)
          have hbz := y.sz_le E (by omega) (show y.val.size ≤ 4096 by omega)
          have HBO := hide (And.intro hbok hbz)
          obtain ⟨bs, hbs⟩ : ∃ bs, (y.b E).s = bs := ⟨_, rfl⟩
          rw [hbs] at HMd
          have HBS := hide hbs
          have d0 := cellB (belD wr) r0
          have d1 := cellB (belD wr) r1
          have d2 := cellB (belD wr) r2
          have d3 := cellB (belD wr) r3
          have d4 := cellB (belD wr) r4
          clear hss hpf hsg hEk hEk2 hbok hbz hbs hln hblt hlong hyv HAw
          go_upto_region 10 with fail
          go_region_held_law (fun w' => w'.cell? ⟨b, off + k * 5, none⟩ = some (.int .i64 y.cnt) ∧ w'.cell? ⟨b, off + k * 5 + 1, none⟩ = some (.int .i64 y.key) ∧ w'.cell? ⟨b, off + k * 5 + 2, none⟩ = some (.int .i64 y.prod) ∧ w'.cell? ⟨b, off + k * 5 + 3, none⟩ = some (.int .i64 y.seq) ∧ w'.cell? ⟨b, off + k * 5 + 4, none⟩ = some (.string y.val))
            (first | exact ⟨d0, d1, d2, d3, d4⟩ | go_keep)
            (first
              | (go_at_call 13; refine HEn.out.mono ?_; rintro e Wz ⟨rfl, rfl⟩)
              | (go_at_call 17; refine HMd.out.mono ?_; rintro e w5 ⟨rfl, hb5⟩; have hk5 : w5.cell? ⟨b, off + k * 5, none⟩ = some (.int .i64 y.cnt) ∧ w5.cell? ⟨b, off + k * 5 + 1, none⟩ = some (.int .i64 y.key) ∧ w5.cell? ⟨b, off + k * 5 + 2, none⟩ = some (.int .i64 y.prod) ∧ w5.cell? ⟨b, off + k * 5 + 3, none⟩ = some (.int .i64 y.seq) ∧ w5.cell? ⟨b, off + k * 5 + 4, none⟩ = some (.string y.val) := ⟨cellB hb5 d0, cellB hb5 d1, cellB hb5 d2, cellB hb5 d3, cellB hb5 d4⟩; have H5 := hide hb5; clear hb5))
          have H6 := hide (HF.out.below ((belD wr).trans (H5.out.mono (Nat.le_refl _))))
          clear hk5 H5 d0 d1 d2 d3 d4 r4 HEn HMd HSS HF
          obtain ⟨K5, cnt5, F5, hs5⟩ := H6.out.ss
          have HAp := hide (ss_append w5 B w1.heap.size w1.heap.size s D 0 4194304 cnt5 segN F5 l K5 (y.b E) hs5 HBO.out.1 (by rw [HE.out.1]; rfl) (HA.out.2.2.2.1.new H6.out.bel) H6.out.hB (Nat.le_refl _) H6.out.hBw (by have := HZ.out; have := HBO.out.2; have := HS.out.1; omega))
          rw [HBS.out] at HAp
          have HS5 := hide hs5.sg
          clear hs5
          go_wp2_with fail
          refine HAp.out.mono ?_
          rintro e w6 ⟨rfl, ⟨F', K', cnt', hss6⟩, haf⟩
          have hown6 : OwnS w6 w1.heap.size (.slice va ln vc) l := by have := H6.out.own.af haf HS5.out; rw [HLN.out] at this; exact this
          have H7 := hide (And.intro hss6 (And.intro hown6 (H6.out.bel.trans haf.below)))
          have HWS := hide haf.below.size
          clear hss6 hown6 haf HAp
          have hlnb : ln ≤ 100 := by have h9 := H6.out.len; rw [HLN.out] at h9; have := HS.out.1; omega
          have hba6 := below_a w6 (.cells #[.string bs] 9)
          have HOW : Hid (OwnS (w6.alloc (.cells #[.string bs] 9)) w1.heap.size (.slice va ln vc) l ∧ w1.heap.size ≤ (w6.alloc (.cells #[.string bs] 9)).heap.size) := ⟨H7.out.2.1.below hba6, Nat.le_trans H7.out.2.2.size hba6.size⟩
          have HOW2 : Hid ((w6.alloc (.cells #[.string bs] 9)).ownsRow w1.heap.size 9 1 (.slice va ln vc) ln (strs l)) := by
            have := HOW.out.1
            unfold OwnS at this
            rw [HLN.out] at this
            exact this
          have HNW := hide (news1 w6 (.string bs) 9)
          obtain ⟨i0, hi, hz0, hz1, hz2⟩ := info_split strInfo
          have HI : Hid (Tryz.prog.info? 9 = some i0 ∧ i0.zero = some (.string ⟨#[]⟩) ∧ i0.size = 1 ∧ i0.bytes = 16) := ⟨hi, hz0, hz1, hz2⟩
          clear hi hz0 hz1 hz2 hba6
          go_wp2_with (at_builtin; (refine wpList_append_lies _ rfl _ _ 44 rfl w1.heap.size 9 i0 (.string ⟨#[]⟩) 1 16 Tryz.underlying44 HI.out.1 HI.out.2.1 HI.out.2.2.1 HI.out.2.2.2 rfl (by decide) (.slice va ln vc) ln (strs l) rfl HOW2.out ⟨w6.heap.size, 0, none⟩ 1 1 [.string bs] rfl rfl HNW.out (one1 _) (by decide) (by unfold maxLen; omega) (by omega) HOW.out.2 _ rfl ?_); intro g7 cap7 w7 hown hgrow hat hgl; have hg7 : (w6.alloc (.cells #[.string bs] 9)).grownBy w7 (Value.slice va ln vc).ownBlock := ⟨hgrow.os, hgrow.tape, hgrow.output, hgrow.size, hgrow.block⟩; have HGR := hide (And.intro hown hg7); clear hown hgrow hat hgl hg7)
          have H8 : Hid (FU w1 w7 B s D 4194304 (.slice (some ⟨g7, 0, none⟩) (ln + 1) cap7) (l ++ [y.b E]) (k + 1)) := by
            have hba6 := below_a w6 (.cells #[.string bs] 9)
            have hown7 : OwnS w7 w1.heap.size (.slice (some ⟨g7, 0, none⟩) (ln + 1) cap7) (l ++ [y.b E]) := by
              unfold OwnS
              have e1 : (l ++ [y.b E]).length = ln + 1 := by rw [List.length_append, HLN.out]; rfl
              have e2 : strs (l ++ [y.b E]) = strs l ++ [.string bs] := by unfold strs; rw [List.map_append, ← HBS.out]; rfl
              rw [e1, e2]
              exact HGR.out.1
            refine ⟨(H7.out.2.2.trans (hba6.mono H7.out.2.2.size)).trans (below_grown HOW2.out HGR.out.2 HOW.out.2), ⟨K', cnt', F', (H7.out.1.below hba6).grown HOW.out.1 HGR.out.2⟩, hown7, ?_, H6.out.hB, ?_⟩
            · rw [List.length_append]; have := H6.out.len; show l.length + 1 ≤ k + 1; omega
            · exact Nat.le_trans H6.out.hBw (Nat.le_trans HWS.out (Nat.le_trans hba6.size HGR.out.2.size))
          clear HGR HOW HOW2 HNW H7
          go_wp2
          refine ⟨⟨k + 1, l ++ [y.b E], by first | rfl | simp, by omega, ?_, H8.out⟩, ?_⟩
          · rw [szs_append, szs_one]; have := HZ.out; have := HBO.out.2; omega
          · simp [intOf]; omega
      · have hke : k = n := by omega
        have hkni : ¬ (k : Int) < (n : Int) := by omega
        have HEn : Hid (Calls Tryz.prog 13 #[.pointer (some ⟨s, 0, none⟩)] wr fun e w' => e = .returned (.int .i64 (E : Nat)) ∧ w' = wr) := sEnd_ok wr B s D 0 segN _ _ hsg
        obtain ⟨z0, z1, z2, z3, z4⟩ := cells5 ((HF.out.bel.block X (lt_of_block HA.out.2.2.2.2.2)).trans HA.out.2.2.2.2.2)
        have HM1 := hide (made_ok x o2 wr (by have := HO2.out; omega) (by have := HS.out.2; omega))
        have HM2 := hide (fun W' => made_ok x E W' (by omega) (by have := HS.out.2; omega))
        have hok1 := x.ok o2 (by have := HO2.out; omega) (by have := HS.out.2; omega)
        have hok2 := x.ok E (by omega) (by have := HS.out.2; omega)
        have hzz := x.sz_le E (by omega) (by have := HS.out.2; omega)
        have hb39 := BT.sz_le hok2
        have hszc := (x.b E).size
        have HCZ := hide hzz
        obtain ⟨bo, hbo⟩ : ∃ b, (x.b o2).s = b := ⟨_, rfl⟩
        obtain ⟨cs, hcs⟩ : ∃ b, (x.b E).s = b := ⟨_, rfl⟩
        rw [hbo] at HM1
        rw [hcs] at HM2 hszc
        obtain ⟨cc, hcc⟩ : ∃ b, cs ++ cs = b := ⟨_, rfl⟩
        obtain ⟨cx, hcx⟩ : ∃ b, cs ++ ⟨#[120]⟩ = b := ⟨_, rfl⟩
        obtain ⟨m, hm⟩ : ∃ m, cs.size - 1 = m := ⟨_, rfl⟩
        obtain ⟨cm, hcm⟩ : ∃ b, cs.extract 0 m = b := ⟨_, rfl⟩
        have HCB : Hid ((x.b E).ok ∧ (x.b E).s = cs ∧ mk ((x.b E).z ++ (x.b E).z) = cc ∧ mk ((x.b E).z ++ [120]) = cx ∧ Short cm ∧ (x.b E).z ≠ [] ∧ (x.b E).z.length ≤ 1048576) := by
          have hcs' : mk (x.b E).z = cs := hcs
          refine ⟨hok2, hcs, ?_, ?_, ?_, ?_, ?_⟩
          · rw [← hcc, ← hcs', mk_app]
          · rw [← hcx, ← hcs', show (⟨#[120]⟩ : ByteArray) = mk [120] from rfl, mk_app]
          · have h := short_cut (x.b E) hok2 m (by omega)
            have e : mk ((x.b E).z.take m) = cm := by rw [← hcm, ← hcs', extract_take]
            rw [e] at h
            exact h
          · intro h
            have h2 := (x.b E).z_length
            rw [h] at h2
            simp only [List.length_nil] at h2
            omega
          · rw [(x.b E).z_length]; omega
        have HB1 := hide (And.intro hok1 hbo)
        have hN1 : 39 ≤ cs.size := by omega
        have hN2 : cs.size ≤ 262154 := by omega
        have hmi : (cs.size : Int) - 1 = (m : Int) := by omega
        have hmle : (m : Int) ≤ (cs.size : Int) := by omega
        have hmle2 : m ≤ cs.size := by omega
        have hN2i : (cs.size : Int) ≤ 262154 := by omega
        have HFk := hide HF.out
        clear hss hpf hsg hEk hEk2 hln hok1 hok2 hzz hb39 hszc hbo hcs hm HAw HF hke HSS
        go_wp2_with fail
        refine HEn.out.mono ?_
        rintro e Wz ⟨rfl, hW⟩
        obtain rfl := hW.symm
        clear hW HEn
        go_wp2_with fail
        refine HM1.out.mono ?_
        rintro e w3 ⟨rfl, hb3⟩
        have H3 := hide (HFk.out.below hb3)
        have y0 := cellB hb3 z0
        have y1 := cellB hb3 z1
        have y2 := cellB hb3 z2
        have y3 := cellB hb3 z3
        have y4 := cellB hb3 z4
        clear hb3 HM1 z0 z1 z2 z3 z4 HFk
        go_wp2_with fail
        refine (HM2.out w3).mono ?_
        rintro e w4 ⟨rfl, hb4⟩
        have H0 := hide (H3.out.below hb4)
        clear hb4 HM2 y0 y1 y2 y3 y4 H3
        by_cases hoe : o2 = E
        · have hoei : ((o2 : Int) != (E : Int)) = false := by rw [hoe]; simp
          clear hoe
          have A1 : Hid (Calls Tryz.prog 9 #[.pointer (some ⟨s, 0, none⟩), .string cc] w4 fun e w' => e = .returned (.int .i64 100) ∧ Below w4.heap.size w4 w') := by
            obtain ⟨K8, c8, F8, hs8⟩ := H0.out.ss
            have h := sappend_more w4 B s D 0 segN _ _ (x.b E) (x.b E).z hs8.sg HCB.out.1 (HA.out.2.2.2.1.new H0.out.bel) HCB.out.2.2.2.2.2.1 HCB.out.2.2.2.2.2.2
            rw [HCB.out.2.2.1] at h
            exact h
          go_wp2_with fail
          refine A1.out.mono ?_
          rintro e wa1 ⟨rfl, hba1⟩
          have H1a := hide (H0.out.below hba1)
          clear hba1 A1 H0
          have A2 : Hid (Calls Tryz.prog 9 #[.pointer (some ⟨s, 0, none⟩), .string cx] wa1 fun e w' => e = .returned (.int .i64 100) ∧ Below wa1.heap.size wa1 w') := by
            obtain ⟨K8, c8, F8, hs8⟩ := H1a.out.ss
            have h := sappend_more wa1 B s D 0 segN _ _ (x.b E) [120] hs8.sg HCB.out.1 (HA.out.2.2.2.1.new H1a.out.bel) (by simp) (by simp)
            rw [HCB.out.2.2.2.1] at h
            exact h
          go_wp2_with fail
          refine A2.out.mono ?_
          rintro e wa2 ⟨rfl, hba2⟩
          have H2a := hide (H1a.out.below hba2)
          clear hba2 A2 H1a
          have A3 : Hid (Calls Tryz.prog 9 #[.pointer (some ⟨s, 0, none⟩), .string cm] wa2 fun e w' => e = .returned (.int .i64 100) ∧ Below wa2.heap.size wa2 w') := by
            obtain ⟨K8, c8, F8, hs8⟩ := H2a.out.ss
            have h := sappend_short wa2 B s D 0 segN _ _ cm hs8.sg HCB.out.2.2.2.2.1
            exact h
          go_wp2_with fail
          refine A3.out.mono ?_
          rintro e wa3 ⟨rfl, hba3⟩
          have H3a := hide (H2a.out.below hba3)
          clear hba3 A3 H2a
          have A4 : Hid (Calls Tryz.prog 9 #[.pointer (some ⟨s, 0, none⟩), .string ⟨#[]⟩] wa3 fun e w' => e = .returned (.int .i64 100) ∧ Below wa3.heap.size wa3 w') := by
            obtain ⟨K8, c8, F8, hs8⟩ := H3a.out.ss
            exact sappend_short wa3 B s D 0 segN _ _ ⟨#[]⟩ hs8.sg (short_few _ (by decide))
          go_wp2_with fail
          refine A4.out.mono ?_
          rintro e wa4 ⟨rfl, hba4⟩
          have H4a := hide (H3a.out.below hba4)
          clear hba4 A4 H3a
          have HTd : Hid (Calls Tryz.prog 19 #[.pointer (some ⟨s, 0, none⟩), .slice va ln vc, .int .i64 0] wa4 fun e w' => e = .returned (.bool true) ∧ Below wa4.heap.size wa4 w') := by
            obtain ⟨K8, c8, F8, hs8⟩ := H4a.out.ss
            have ho8 := H4a.out.own
            rw [HLN.out] at ho8
            exact told_ok wa4 B w1.heap.size w1.heap.size s D 0 4194304 c8 segN F8 l K8 _ hs8 ho8 (HA.out.2.2.2.1.new H4a.out.bel)
          go_wp2_with fail
          refine HTd.out.mono ?_
          rintro e wa5 ⟨rfl, hba5⟩
          have H5a := hide (H4a.out.below hba5)
          clear hba5 HTd H4a
          have HAp : Hid (Calls Tryz.prog 9 #[.pointer (some ⟨s, 0, none⟩), .string cs] wa5 fun e w' => e = .returned (.int .i64 0) ∧ Below w1.heap.size wa5 w') := by
            obtain ⟨K8, c8, F8, hs8⟩ := H5a.out.ss
            have h := ss_append wa5 B w1.heap.size w1.heap.size s D 0 4194304 c8 segN F8 l K8 (x.b E) hs8 HCB.out.1 (by rw [HE.out.1]; rfl) (HA.out.2.2.2.1.new H5a.out.bel) H5a.out.hB (Nat.le_refl _) H5a.out.hBw (by have := HZ.out; have := HCZ.out; have := HS.out.1; omega)
            rw [HCB.out.2.1] at h
            exact h.mono fun e w' ⟨h1, _, h3⟩ => ⟨h1, h3.below⟩
          go_wp2_with fail
          refine HAp.out.mono ?_
          rintro e wa6 ⟨rfl, hba6⟩
          have H6a := hide (H5a.out.bel.trans hba6)
          clear hba6 HAp H5a
          have HAk := hide (awake11 wa6 (HA.out.2.2.2.1.new H6a.out))
          go_wp2_with fail
          refine HAk.out.mono ?_
          rintro e wa7 ⟨rfl, hba7⟩
          have H7a := hide (HA.out.2.2.2.2.1.trans (((H6a.out.trans (hba7.mono H6a.out.size))).mono (Nat.le_of_lt (lt_of_block HA.out.2.2.2.2.2))))
          clear hba7 HAk H6a
          go_wp2
          go_ret
          exact ⟨rfl, H7a.out⟩
        · have hoei : ((o2 : Int) != (E : Int)) = true := by simp; omega
          have A0 : Hid (Calls Tryz.prog 9 #[.pointer (some ⟨s, 0, none⟩), .string bo] w4 fun e w' => e = .returned (.int .i64 110) ∧ Below w4.heap.size w4 w') := by
            obtain ⟨K8, c8, F8, hs8⟩ := H0.out.ss
            have hpf := plAt_full 0 l
            have h := sappend_order w4 B s D 0 segN _ _ (x.b o2).h (x.b o2).p (x.b o2).L hs8.sg HB1.out.1 (HA.out.2.2.2.1.new H0.out.bel) (by rw [hpf, HE.out.1]; exact hoe)
            rw [← HB1.out.2]
            exact h
          clear hoe
          go_wp2_with fail
          refine A0.out.mono ?_
          rintro e wa0 ⟨rfl, hba0⟩
          have H00 := hide (H0.out.below hba0)
          clear hba0 A0 H0
          have H0 := H00
          clear H00
          have A1 : Hid (Calls Tryz.prog 9 #[.pointer (some ⟨s, 0, none⟩), .string cc] wa0 fun e w' => e = .returned (.int .i64 100) ∧ Below wa0.heap.size wa0 w') := by
            obtain ⟨K8, c8, F8, hs8⟩ := H0.out.ss
            have h := sappend_more wa0 B s D 0 segN _ _ (x.b E) (x.b E).z hs8.sg HCB.out.1 (HA.out.2.2.2.1.new H0.out.bel) HCB.out.2.2.2.2.2.1 HCB.out.2.2.2.2.2.2
            rw [HCB.out.2.2.1] at h
            exact h
          go_wp2_with fail
          refine A1.out.mono ?_
          rintro e wa1 ⟨rfl, hba1⟩
          have H1a := hide (H0.out.below hba1)
          clear hba1 A1 H0
          have A2 : Hid (Calls Tryz.prog 9 #[.pointer (some ⟨s, 0, none⟩), .string cx] wa1 fun e w' => e = .returned (.int .i64 100) ∧ Below wa1.heap.size wa1 w') := by
            obtain ⟨K8, c8, F8, hs8⟩ := H1a.out.ss
            have h := sappend_more wa1 B s D 0 segN _ _ (x.b E) [120] hs8.sg HCB.out.1 (HA.out.2.2.2.1.new H1a.out.bel) (by simp) (by simp)
            rw [HCB.out.2.2.2.1] at h
            exact h
          go_wp2_with fail
          refine A2.out.mono ?_
          rintro e wa2 ⟨rfl, hba2⟩
          have H2a := hide (H1a.out.below hba2)
          clear hba2 A2 H1a
          have A3 : Hid (Calls Tryz.prog 9 #[.pointer (some ⟨s, 0, none⟩), .string cm] wa2 fun e w' => e = .returned (.int .i64 100) ∧ Below wa2.heap.size wa2 w') := by
            obtain ⟨K8, c8, F8, hs8⟩ := H2a.out.ss
            have h := sappend_short wa2 B s D 0 segN _ _ cm hs8.sg HCB.out.2.2.2.2.1
            exact h
          go_wp2_with fail
          refine A3.out.mono ?_
          rintro e wa3 ⟨rfl, hba3⟩
          have H3a := hide (H2a.out.below hba3)
          clear hba3 A3 H2a
          have A4 : Hid (Calls Tryz.prog 9 #[.pointer (some ⟨s, 0, none⟩), .string ⟨#[]⟩] wa3 fun e w' => e = .returned (.int .i64 100) ∧ Below wa3.heap.size wa3 w') := by
            obtain ⟨K8, c8, F8, hs8⟩ := H3a.out.ss
            exact sappend_short wa3 B s D 0 segN _ _ ⟨#[]⟩ hs8.sg (short_few _ (by decide))
          go_wp2_with fail
          refine A4.out.mono ?_
          rintro e wa4 ⟨rfl, hba4⟩
          have H4a := hide (H3a.out.below hba4)
          clear hba4 A4 H3a
          have HTd : Hid (Calls Tryz.prog 19 #[.pointer (some ⟨s, 0, none⟩), .slice va ln vc, .int .i64 0] wa4 fun e w' => e = .returned (.bool true) ∧ Below wa4.heap.size wa4 w') := by
            obtain ⟨K8, c8, F8, hs8⟩ := H4a.out.ss
            have ho8 := H4a.out.own
            rw [HLN.out] at ho8
            exact told_ok wa4 B w1.heap.size w1.heap.size s D 0 4194304 c8 segN F8 l K8 _ hs8 ho8 (HA.out.2.2.2.1.new H4a.out.bel)
          go_wp2_with fail
          refine HTd.out.mono ?_
          rintro e wa5 ⟨rfl, hba5⟩
          have H5a := hide (H4a.out.below hba5)
          clear hba5 HTd H4a
          have HAp : Hid (Calls Tryz.prog 9 #[.pointer (some ⟨s, 0, none⟩), .string cs] wa5 fun e w' => e = .returned (.int .i64 0) ∧ Below w1.heap.size wa5 w') := by
            obtain ⟨K8, c8, F8, hs8⟩ := H5a.out.ss
            have h := ss_append wa5 B w1.heap.size w1.heap.size s D 0 4194304 c8 segN F8 l K8 (x.b E) hs8 HCB.out.1 (by rw [HE.out.1]; rfl) (HA.out.2.2.2.1.new H5a.out.bel) H5a.out.hB (Nat.le_refl _) H5a.out.hBw (by have := HZ.out; have := HCZ.out; have := HS.out.1; omega)
            rw [HCB.out.2.1] at h
            exact h.mono fun e w' ⟨h1, _, h3⟩ => ⟨h1, h3.below⟩
          go_wp2_with fail
          refine HAp.out.mono ?_
          rintro e wa6 ⟨rfl, hba6⟩
          have H6a := hide (H5a.out.bel.trans hba6)
          clear hba6 HAp H5a
          have HAk := hide (awake11 wa6 (HA.out.2.2.2.1.new H6a.out))
          go_wp2_with fail
          refine HAk.out.mono ?_
          rintro e wa7 ⟨rfl, hba7⟩
          have H7a := hide (HA.out.2.2.2.2.1.trans (((H6a.out.trans (hba7.mono H6a.out.size))).mono (Nat.le_of_lt (lt_of_block HA.out.2.2.2.2.2))))
          clear hba7 HAk H6a
          go_wp2
          go_ret
          exact ⟨rfl, H7a.out⟩
  · have hend : (40 : Int) < (n : Int) ∨ (¬ (40 : Int) < (n : Int) ∧ (200 : Int) < (x.val.size : Int)) := by omega
    clear hshort H2
    rcases hend with h1 | ⟨h1, h2⟩
    · go_wp2_with fail
      refine HAw.out.mono ?_
      rintro e w9 ⟨rfl, hb9⟩
      have H9 := hide (HA.out.2.2.2.2.1.trans ((HE2.out.1.trans (hb9.mono HE2.out.1.size)).mono HE2.out.2))
      clear hb9 HAw
      go_wp2
      go_ret
      exact ⟨rfl, H9.out⟩
    · go_wp2_with fail
      refine HAw.out.mono ?_
      rintro e w9 ⟨rfl, hb9⟩
      have H9 := hide (HA.out.2.2.2.2.1.trans ((HE2.out.1.trans (hb9.mono HE2.out.1.size)).mono HE2.out.2))
      clear hb9 HAw
      go_wp2
      go_ret
      exact ⟨rfl, H9.out⟩
end Go.Proofs.YtmokjopffgmfjaaGreatDoor
