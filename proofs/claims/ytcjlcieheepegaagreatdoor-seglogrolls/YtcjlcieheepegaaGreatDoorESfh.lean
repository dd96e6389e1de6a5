/- Layer 12: SeglogRolls: the walk. -/
import Derived.Test.YtcjlcieheepegaaGreatDoorV33
import Derived.Test.YtcjlcieheepegaaGreatDoorV29
namespace Go.Proofs.YtcjlcieheepegaaGreatDoor
open Go.RowKit
open V8 (VX KO Zn)
set_option linter.unusedVariables false
set_option maxRecDepth 20000
set_option maxRecDepth 20000

theorem inInfoS : (Tryz.prog.info? 3).map (fun i => (i.zero, i.size, i.bytes)) = some (some (.int .i64 0), 1, 8) := by kernel_rfl
theorem bas_get {l : List BT} {j : Nat} (h : j < l.length) : (bas l)[j]? = some (.int .i64 (endB 0 (l.take j) : Nat)) := by
  simp [bas, h]
/-- Two logs that were begun one behind the other. -/
theorem ro_begun {W w1 w2 : World} {B1 B2 da ga db gb : Nat} {x1 x2 : Prt} (h1 : LZ w1 B1 W.heap.size da ga 1 4194304 0 0 (fun _ => none) ([] ++ [x1]) (fun i => W.heap.size ≤ i ∧ i < w1.heap.size)) (hx1 : x1.l = []) (hy1 : x1.base = 0) (hB1 : W.heap.size ≤ B1) (hB1' : B1 ≤ w1.heap.size) (hb1 : Below W.heap.size W w1)
    (h2 : LZ w2 B2 w1.heap.size db gb 16777216 4194304 0 0 (fun _ => none) ([] ++ [x2]) (fun i => w1.heap.size ≤ i ∧ i < w2.heap.size)) (hx2 : x2.l = []) (hy2 : x2.base = 0) (hB2 : w1.heap.size ≤ B2) (hB2' : B2 ≤ w2.heap.size) (hb2 : Below w1.heap.size w1 w2) :
    RO W w2 B1 B2 w1.heap.size da ga db gb (.slice none 0 0) [] [] [] := by
  obtain ⟨p2, s2, b2, l2, K2⟩ := x2
  simp only at hx2 hy2
  subst hx2 hy2
  have hs := hb2.size
  have hs1 := hb1.size
  refine ⟨hb1.trans (hb2.mono hb1.size), ⟨_, _, _, _, 0, 0, _, p2, s2, K2, h1.below hb2, .inl ⟨rfl, x1, rfl, hx1, hy1⟩, Nat.le_refl _, h2, Nat.le_refl _, fun i hi => ⟨by have := hi.2; omega, fun hz => by have := hi.2; have := hz.1; omega⟩, fun i hi => hi.2, fun j hj => by simp [Value.ownBlock] at hj⟩, World.ownsRow_nil _ _ _ _, ⟨(fun x hx => by cases hx), (fun x hx => by cases hx)⟩, ⟨Nat.zero_le _, Nat.zero_le _⟩, ⟨hB1, by omega⟩, ⟨by omega, hB2'⟩, hs1⟩
set_option maxHeartbeats 8000000 in
theorem rolls_walk (ao : Option Addr) (n c : Nat) (L : List RP) (W : World) (hL : L.length = n) (hR : RIs W ao L) (hV : ∀ r ∈ L, r.val.size ≤ 9223372036854775807) (hn : n ≤ 9223372036854775807) (hT : TabF W) (hP : TabP W) :
    Calls Tryz.prog 3 #[.slice ao n c] W fun e w' => e = .returned (.bool true) ∧ Below W.heap.size W w' := by
  have HA := hide (And.intro hL (And.intro hR (And.intro hV (And.intro hT hP))))
  have HB1 : Hid (Calls Tryz.prog 4 #[.int .i64 1] W _) := lbegun_z W 1 (by decide) (by decide) hP
  have HAw : Hid (∀ W', Below W.heap.size W W' → Calls Tryz.prog 5 #[] W' fun e w' => e = .returned (.bool true) ∧ Below W'.heap.size W' w') := fun W' h => awake12 W' (hT.new h) (hP.low h hP.lt)
  have HN := hide hn
  clear hL hR hV hn hT hP
  go_enter Tryz.func3, Tryz.ntmps3
  go_wp2_with fail
  refine HB1.out.mono ?_
  rintro e w1 ⟨da, ga, x1, B1, rfl, a1, a2, a3, a4, a5, a6⟩
  have H1 := hide (And.intro a1 (And.intro a2 (And.intro a3 (And.intro a4 (And.intro a5 a6)))))
  clear a1 a2 a3 a4 a5 a6 HB1
  have HB2 : Hid (Calls Tryz.prog 4 #[.int .i64 16777216] w1 _) := lbegun_z w1 16777216 (by decide) (by decide) (HA.out.2.2.2.2.low H1.out.2.2.2.2.2 HA.out.2.2.2.2.lt)
  go_wp2_with fail
  refine HB2.out.mono ?_
  rintro e w2 ⟨db, gb, x2, B2, rfl, b1, b2, b3, b4, b5, b6⟩
  have H2 : Hid (RO W w2 B1 B2 w1.heap.size da ga db gb (.slice none 0 0) [] [] []) := ro_begun H1.out.1 H1.out.2.1 H1.out.2.2.1 H1.out.2.2.2.1 H1.out.2.2.2.2.1 H1.out.2.2.2.2.2 b1 b2 b3 b4 b5 b6
  clear b1 b2 b3 b4 b5 b6 HB2 H1
  by_cases h60 : 60 < n
  · have h60i : (60 : Int) < (n : Int) := by omega
    have HA2 := hide (HAw.out w2 H2.out.bel)
    clear h60
    go_wp2_with fail
    refine HA2.out.mono ?_
    rintro e w3 ⟨rfl, hb3⟩
    have H3 := hide (H2.out.bel.trans (hb3.mono H2.out.bel.size))
    clear hb3 HA2
    go_wp2
    go_ret
    exact ⟨rfl, H3.out⟩
  have h60i : ¬ (60 : Int) < (n : Int) := by omega
  have H60 : Hid (n ≤ 60) := (Nat.le_of_not_lt h60 : n ≤ 60)
  clear h60
  obtain ⟨Cb, hCb⟩ : ∃ q, w1.heap.size = q := ⟨_, rfl⟩
  rw [hCb] at H2
  clear hCb
  go_upto_region 5 with fail
  clear h60i
  go_wp2_with fail
  go_loopw [9, 10] (fun hv i wr => ∃ (k : Nat) (l : List BT), i = .int .i64 (k : Nat) ∧ k ≤ n ∧ Hid (RO W wr B1 B2 Cb da ga db gb hv (bas l) l l ∧ l.length = k)) (fun _ i _ => n - (intOf i).toNat)
  case atStart => exact ⟨0, [], rfl, Nat.zero_le _, H2.out, rfl⟩
  case round =>
    obtain ⟨k, l, rfl, hk, HR⟩ := hrel
    obtain ⟨va, vc, rfl⟩ := rowForm HR.out.1.own
    have HLk : Hid (l.length = k) := HR.out.2
    rw [bas_length, HLk.out] at HR ⊢
    have HK := hide hk
    by_cases hlt : k < n
    · have hki : (k : Int) < (n : Int) := by omega
      obtain ⟨x, hx⟩ : ∃ x, L[k]? = some x := ⟨_, List.getElem?_eq_getElem (by rw [HA.out.1]; exact hlt)⟩
      obtain ⟨b, off, hao, hblt, q0, q1, q2, q3, q4⟩ := HA.out.2.1 k x hx
      subst hao
      have HLT := hide hlt
      have hbw := HR.out.1.bel
      have r0 := cellB hbw q0
      have r1 := cellB hbw q1
      have r2 := cellB hbw q2
      have r3 := cellB hbw q3
      have r4 := cellB hbw q4
      clear q0 q1 q2 q3 q4 hblt hx hk hbw hlt
      by_cases hlong : 200 < x.val.size
      · have hlongi : (200 : Int) < (x.val.size : Int) := by omega
        have HA2 := hide (HAw.out wr HR.out.1.bel)
        have HB2 := hide HR.out.1.bel
        clear r0 r1 r2 r3 hlong HR
        go_wp2_with fail
        refine HA2.out.mono ?_
        rintro e w9 ⟨rfl, hb9⟩
        have H9 := hide (HB2.out.trans (hb9.mono HB2.out.size))
        clear hb9 HA2
        go_wp2
        go_ret
        exact ⟨rfl, H9.out⟩
      · have hlongi : ¬ (200 : Int) < (x.val.size : Int) := by omega
        have hl60 : l.length ≤ 60 := by rw [HLk.out]; exact Nat.le_trans (Nat.le_of_lt HLT.out) H60.out
        have hEk : endB 0 l ≤ 1099511627520 := end_small HR.out.1.ok.1 (by omega)
        obtain ⟨E, hE⟩ : ∃ E, endB 0 l = E := ⟨_, rfl⟩
        have HE := hide hE
        rw [hE] at hEk
        have HMd := hide (fun W' => made_ok x E W' hEk (by omega))
        have HBO := hide (And.intro (x.ok E hEk (show x.val.size ≤ 4096 by omega)) (And.intro (x.sz_most E hEk (by omega)) (And.intro (show (x.b E).h.base = endB 0 l by rw [hE]; rfl) hl60)))
        obtain ⟨bs, hbs⟩ : ∃ bs, (x.b E).s = bs := ⟨_, rfl⟩
        rw [hbs] at HMd
        have HBS := hide hbs
        have HRd := hide (HR.out.1.below (belD wr))
        have HEn := hide (ro_enda HRd.out)
        rw [hE] at HEn
        have d0 := cellB (belD wr) r0
        have d1 := cellB (belD wr) r1
        have d2 := cellB (belD wr) r2
        have d3 := cellB (belD wr) r3
        have d4 := cellB (belD wr) r4
        clear hE hEk hbs hl60 hlong HR
        go_upto_region 11 with fail
        clear hlongi hki r0 r1 r2 r3
        go_cut [11, 12] (fun v11 v12 wc => v11 = .string bs ∧ v12 = .bool true ∧ Hid (RO W wc B1 B2 Cb da ga db gb (.slice va k vc) (bas l) l l))
        case first =>
          go_region_held_law (fun w' => w'.cell? ⟨b, off + k * 5, none⟩ = some (.int .i64 x.cnt) ∧ w'.cell? ⟨b, off + k * 5 + 1, none⟩ = some (.int .i64 x.key) ∧ w'.cell? ⟨b, off + k * 5 + 2, none⟩ = some (.int .i64 x.prod) ∧ w'.cell? ⟨b, off + k * 5 + 3, none⟩ = some (.int .i64 x.seq) ∧ w'.cell? ⟨b, off + k * 5 + 4, none⟩ = some (.string x.val))
            (first | exact ⟨d0, d1, d2, d3, d4⟩ | go_keep)
            (first
              | (go_at_call 7; refine HEn.out.mono ?_; rintro e w4 ⟨rfl, hw4⟩; have hb4 : Below wr.drew.heap.size wr.drew w4 := (by rw [hw4]; exact belD _); have hk4 : w4.cell? ⟨b, off + k * 5, none⟩ = some (.int .i64 x.cnt) ∧ w4.cell? ⟨b, off + k * 5 + 1, none⟩ = some (.int .i64 x.key) ∧ w4.cell? ⟨b, off + k * 5 + 2, none⟩ = some (.int .i64 x.prod) ∧ w4.cell? ⟨b, off + k * 5 + 3, none⟩ = some (.int .i64 x.seq) ∧ w4.cell? ⟨b, off + k * 5 + 4, none⟩ = some (.string x.val) := ⟨cellB hb4 d0, cellB hb4 d1, cellB hb4 d2, cellB hb4 d3, cellB hb4 d4⟩; have H4 := hide hb4; clear hb4 hw4)
              | (go_at_call 6; refine (HMd.out w4).mono ?_; rintro e w5 ⟨rfl, hb5⟩; have hk5 : w5.cell? ⟨b, off + k * 5, none⟩ = some (.int .i64 x.cnt) ∧ w5.cell? ⟨b, off + k * 5 + 1, none⟩ = some (.int .i64 x.key) ∧ w5.cell? ⟨b, off + k * 5 + 2, none⟩ = some (.int .i64 x.prod) ∧ w5.cell? ⟨b, off + k * 5 + 3, none⟩ = some (.int .i64 x.seq) ∧ w5.cell? ⟨b, off + k * 5 + 4, none⟩ = some (.string x.val) := ⟨cellB hb5 hk4.1, cellB hb5 hk4.2.1, cellB hb5 hk4.2.2.1, cellB hb5 hk4.2.2.2.1, cellB hb5 hk4.2.2.2.2⟩; have H5 := hide hb5; clear hb5))
          all_goals
            have H6 := hide ((HRd.out.below H4.out).below H5.out)
            clear hk4 hk5 H4 H5 HEn HMd HRd
            go_wp2_with fail
            go_meet
            case rel => exact ⟨rfl, rfl, H6.out⟩
        case rest =>
        obtain ⟨rfl, rfl, H6⟩ := hcut
        clear d0 d1 d2 d3 d4 r4 HEn HMd HRd
        have HE6 := hide (ro_enda H6.out)
        rw [HE.out] at HE6
        go_wp2_with fail
        refine HE6.out.mono ?_
        rintro e w6 ⟨rfl, hw6⟩
        have H7 : Hid (RO W w6 B1 B2 Cb da ga db gb (.slice va k vc) (bas l) l l) := by rw [hw6]; exact H6.out.below (belD _)
        clear hw6 HE6 H6
        have hba := below_a w6 (.cells #[.int .i64 (E : Nat)] 3)
        have H8 := hide (H7.out.below hba)
        have HOW : Hid ((w6.alloc (.cells #[.int .i64 (E : Nat)] 3)).ownsRow W.heap.size 3 1 (.slice va k vc) k (bas l) ∧ W.heap.size ≤ (w6.alloc (.cells #[.int .i64 (E : Nat)] 3)).heap.size) := ⟨by have := H8.out.own; rw [bas_length, HLk.out] at this; exact this, H8.out.bel.size⟩
        have HNW := hide (news1 w6 (.int .i64 (E : Nat)) 3)
        obtain ⟨i0, hi, hz0, hz1, hz2⟩ := info_split inInfoS
        have HI : Hid (Tryz.prog.info? 3 = some i0 ∧ i0.zero = some (.int .i64 0) ∧ i0.size = 1 ∧ i0.bytes = 8) := ⟨hi, hz0, hz1, hz2⟩
        have HLN : Hid (k + 1 ≤ maxLen ∧ (k + 1) * 8 ≤ 140737488355328) := by
          have h1 := HLT.out
          have h2 := H60.out
          exact ⟨by unfold maxLen; omega, by omega⟩
        clear hi hz0 hz1 hz2 hba H7
        go_wp2_with (at_builtin; (refine wpList_append_lies _ rfl _ _ 28 rfl W.heap.size 3 i0 (.int .i64 0) 1 8 Tryz.underlying28 HI.out.1 HI.out.2.1 HI.out.2.2.1 HI.out.2.2.2 rfl (by decide) (.slice va k vc) k (bas l) rfl HOW.out.1 ⟨w6.heap.size, 0, none⟩ 1 1 [.int .i64 (E : Nat)] rfl rfl HNW.out (fun u hu => by rw [List.mem_singleton] at hu; subst hu; rfl) (by decide) HLN.out.1 HLN.out.2 HOW.out.2 _ rfl ?_); intro g7 cap7 w7 hown hgrow hat hgl; have HGR := hide (And.intro hown (And.intro hgrow hat)); clear hown hgrow hat hgl)
        have H9 : Hid (RO W w7 B1 B2 Cb da ga db gb (.slice (some ⟨g7, 0, none⟩) (k + 1) cap7) (bas (l ++ [x.b E])) l l) := by
          have hk' : (bas l).length = k := by rw [bas_length]; exact HLk.out
          have := H8.out.push (g' := g7) (cap' := cap7) (v := .int .i64 (E : Nat)) HGR.out.2.1 (by rw [hk']; exact HGR.out.1) (HGR.out.2.2.imp id fun h => h.trans (by simp))
          rw [hk'] at this
          rw [bas_snoc, HE.out]
          exact this
        clear HGR HOW HNW H8 HLN HI
        have HPa := hide (ro_appa (x.b E) H9.out HBO.out.1 HBO.out.2.1 HBO.out.2.2.1 HA.out.2.2.2.1 HA.out.2.2.2.2 HBO.out.2.2.2)
        rw [HBS.out] at HPa
        go_wp2_with fail
        refine HPa.out.mono ?_
        rintro e w8 ⟨rfl, h8⟩
        have H10 := hide h8
        clear h8 HPa H9
        have HPb := hide (ro_appb (x.b E) H10.out HBO.out.1 HBO.out.2.1 HBO.out.2.2.1 HA.out.2.2.2.1 HBO.out.2.2.2)
        rw [HBS.out] at HPb
        go_wp2_with fail
        refine HPb.out.mono ?_
        rintro e w9 ⟨rfl, h9⟩
        have H11 : Hid (RO W w9 B1 B2 Cb da ga db gb (.slice (some ⟨g7, 0, none⟩) (k + 1) cap7) (bas (l ++ [x.b E])) (l ++ [x.b E]) (l ++ [x.b E]) ∧ (l ++ [x.b E]).length = k + 1) := ⟨h9, by rw [List.length_append, HLk.out]; rfl⟩
        clear h9 HPb H10
        go_wp2
        have hkw : wrap64 ((k : Int) + 1) = ((k + 1 : Nat) : Int) := by
          have h1 := HLT.out
          have h2 := H60.out
          unfold wrap64
          omega
        refine ⟨⟨k + 1, l ++ [x.b E], congrArg (Value.int .i64) hkw, HLT.out, H11.out⟩, ?_⟩
        show n - (intOf (.int .i64 (wrap64 ((k : Int) + 1)))).toNat < n - (intOf (.int .i64 (k : Int))).toNat
        rw [hkw]
        have := HLT.out
        simp [intOf]
        omega
    · have hki : ¬ (k : Int) < (n : Int) := by omega
      obtain rfl : n = k := by omega
      clear hlt hk
      have HSa := hide (ro_segs HR.out.1 (by rw [HLk.out]; exact Nat.le_trans H60.out (by decide)))
      go_wp2_with fail
      refine HSa.out.mono ?_
      rintro e w3 ⟨R, np, rfl, hnp, hb3, hcp, hRl⟩
      have H3 := hide (HR.out.1.below hb3)
      have HNP := hide hnp
      have HCP := hide (And.intro hcp hRl)
      clear hnp hb3 hcp hRl HSa
      have HSb := hide (ro_segsb H3.out)
      go_wp2_with fail
      refine HSb.out.mono ?_
      rintro e w4 ⟨R2, rfl, hb4⟩
      have H4 := hide (H3.out.below hb4)
      have HC4 : Hid (l ≠ [] → ∀ j, j < l.length → w4.cell? ⟨R, j, none⟩ = some (.int .i64 (endB 0 (l.take j) : Nat))) := fun h j hj => cellB hb4 (HCP.out.1 h j hj)
      have HA4 := hide (HAw.out w4 H4.out.bel)
      clear hb4 HSb H3 HCP
      by_cases h0 : n = 0
      · subst h0
        have hl0 : l = [] := List.eq_nil_of_length_eq_zero HLk.out
        obtain rfl : np = 1 := by
          rcases HNP.out with ⟨_, h⟩ | ⟨h, _⟩
          · exact h
          · exact absurd hl0 h
        clear hl0
        go_wp2_with fail
        refine HA4.out.mono ?_
        rintro e w5 ⟨rfl, hb5⟩
        have H5 := hide (H4.out.bel.trans (hb5.mono H4.out.bel.size))
        clear hb5 HA4
        go_wp2
        go_ret
        exact ⟨rfl, H5.out⟩
      · have hl0 : l ≠ [] := fun e => by
          have := HLk.out
          rw [e] at this
          exact h0 this.symm
        obtain rfl : np = n := by
          rcases HNP.out with ⟨h, _⟩ | ⟨_, h⟩
          · exact absurd h hl0
          · exact h.trans HLk.out
        have hn0 : ((np : Int) == 0) = false := by simp only [beq_eq_false_iff_ne, ne_eq]; omega
        obtain ⟨g, hvg⟩ : ∃ g, va = some ⟨g, 0, none⟩ := by
          have ho := H4.out.own
          obtain ⟨g, c', e, _⟩ := ho.form (by rw [bas_length, HLk.out]; omega)
          exact ⟨g, by simp only [Value.slice.injEq] at e; exact e.1⟩
        subst hvg
        have HCb : Hid (∀ j, j < np → w4.cell? ⟨R, j, none⟩ = some (.int .i64 (endB 0 (l.take j) : Nat)) ∧ w4.cell? ⟨g, j, none⟩ = some (.int .i64 (endB 0 (l.take j) : Nat))) := fun j hj => by
          refine ⟨HC4.out hl0 j (by rw [HLk.out]; exact hj), ?_⟩
          have := H4.out.own.cells (g := g) rfl j (.int .i64 (endB 0 (l.take j) : Nat)) (bas_get (by rw [HLk.out]; exact hj))
          rw [add_zero_addr] at this
          exact this
        clear h0 hl0 hki HC4
        go_wp2_with fail
        go_loopw [15] (fun i wr' => ∃ j : Nat, i = .int .i64 (j : Nat) ∧ j ≤ np ∧ ∃ q, wr' = w4.drewN q) (fun i _ => np - (intOf i).toNat)
        case atStart => exact ⟨0, rfl, Nat.zero_le _, 0, rfl⟩
        case round =>
          obtain ⟨j, rfl, hj, q, rfl⟩ := hrel
          by_cases hjl : j < np
          · have hji : (j : Int) < (np : Int) := by omega
            obtain ⟨c1, c2⟩ := HCb.out j hjl
            obtain ⟨v, hv⟩ : ∃ v, endB 0 (l.take j) = v := ⟨_, rfl⟩
            rw [hv] at c1 c2
            have HJ := hide hjl
            clear hv hjl hj
            go_upto_region 23 with fail
            go_region
            go_wp2
            refine ⟨⟨j + 1, by first | rfl | simp, HJ.out, q + 1, rfl⟩, ?_⟩
            have := HJ.out
            simp [intOf]
            omega
          · have hji : ¬ (j : Int) < (np : Int) := by omega
            have H5 := hide (H4.out.below (V8.Below.drewN' w4.heap.size w4 q))
            have HEa := hide (ro_enda H5.out)
            obtain ⟨E, hE⟩ : ∃ E, endB 0 l = E := ⟨_, rfl⟩
            have HE := hide hE
            rw [hE] at HEa
            clear hjl hj hE HA4
            go_wp2_with fail
            refine HEa.out.mono ?_
            rintro e w6 ⟨rfl, hw6⟩
            have H6 : Hid (RO W w6 B1 B2 Cb da ga db gb (.slice (some ⟨g, 0, none⟩) np vc) (bas l) l l) := by rw [hw6]; exact H5.out.below (belD _)
            clear hw6 HEa H5
            have HEb := hide (ro_endb H6.out)
            rw [HE.out] at HEb
            go_wp2_with fail
            refine HEb.out.mono ?_
            rintro e w7 ⟨rfl, hw7⟩
            have H7 : Hid (Below W.heap.size W w7) := by rw [hw7]; exact H6.out.bel.trans ((belD _).mono H6.out.bel.size)
            clear hw7 HEb H6
            have HA7 := hide (HAw.out w7 H7.out)
            go_wp2_with fail
            refine HA7.out.mono ?_
            rintro e w8 ⟨rfl, hb8⟩
            have H8 := hide (H7.out.trans (hb8.mono H7.out.size))
            clear hb8 HA7
            go_wp2
            go_ret
            exact ⟨rfl, H8.out⟩
end Go.Proofs.YtcjlcieheepegaaGreatDoor
