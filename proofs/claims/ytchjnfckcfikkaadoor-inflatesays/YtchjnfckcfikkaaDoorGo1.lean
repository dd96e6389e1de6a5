/- The canonical words: the function itself. -/
import Derived.Test.YtchjnfckcfikkaaDoorGn
namespace Go.Proofs.YtchjnfckcfikkaaDoor
open Go.RowKit
set_option linter.unusedVariables false

theorem nx0_last (ns : List Nat) : lcells 16 (nx0 ns 16) = lcells 16 (nxt ns 0) := lcells_congr (fun i hi => by
  unfold nx0 nxt
  rw [if_pos hi]
  split
  · subst_vars; rfl
  · simp [lcnt])
theorem nx0_step (ns : List Nat) (k : Nat) : (lcells 16 (nx0 ns k)).setIfInBounds k (.int .i64 ((fstW ns k : Nat) : Int)) = lcells 16 (nx0 ns (k + 1)) := by
  rw [lcells_set]
  refine lcells_congr (fun i _ => ?_)
  unfold nx0
  by_cases e : i = k
  · subst e; rw [if_pos rfl, if_pos (by omega)]
  · rw [if_neg e]
    by_cases e2 : i < k
    · rw [if_pos e2, if_pos (by omega)]
    · rw [if_neg e2, if_neg (by omega)]
theorem nxt_step (ns : List Nat) (i l : Nat) (hl : 0 < l) (hg : ns.getD i 0 = l) : (lcells 16 (nxt ns i)).setIfInBounds l (.int .i64 ((nxt ns i l + 1 : Nat) : Int)) = lcells 16 (nxt ns (i + 1)) := by
  rw [lcells_set]
  refine lcells_congr (fun k _ => ?_)
  unfold nxt
  simp only [lcnt, hg]
  by_cases e : k = l
  · subst e; rw [if_pos rfl, if_neg (by omega), if_neg (by omega), if_pos rfl]; omega
  · rw [if_neg e, if_neg (Ne.symm e)]; simp
theorem nxt_skip (ns : List Nat) (i : Nat) (hg : ns.getD i 0 = 0) : lcells 16 (nxt ns i) = lcells 16 (nxt ns (i + 1)) := lcells_congr (fun k _ => by
  unfold nxt
  simp only [lcnt, hg]
  by_cases e : k = 0
  · rw [if_pos e, if_pos e]
  · rw [if_neg e, if_neg e, if_neg (Ne.symm e)]; rfl)
theorem wds_step (ns : List Nat) (N i l : Nat) (hl : 0 < l) (hg : ns.getD i 0 = l) : (lcells N (wds ns i)).setIfInBounds i (.int .i64 ((nxt ns i l : Nat) : Int)) = lcells N (wds ns (i + 1)) := by
  rw [lcells_set]
  refine lcells_congr (fun k _ => ?_)
  unfold wds
  by_cases e : k = i
  · subst e
    rw [if_pos rfl, if_pos (by omega)]
    unfold cw nxt codeW
    rw [if_neg (by omega), if_neg (by omega), hg]
  · rw [if_neg e]
    by_cases e2 : k < i
    · rw [if_pos e2, if_pos (by omega)]
    · rw [if_neg e2, if_neg (by omega)]
theorem wds_skip (ns : List Nat) (N i : Nat) (hg : ns.getD i 0 = 0) : lcells N (wds ns i) = lcells N (wds ns (i + 1)) := lcells_congr (fun k _ => by
  unfold wds
  by_cases e : k = i
  · subst e; rw [if_neg (by omega), if_pos (by omega)]; unfold cw; rw [if_pos hg]
  · by_cases e2 : k < i
    · rw [if_pos e2, if_pos (by omega)]
    · rw [if_neg e2, if_neg (by omega)])
theorem wds_all (ns : List Nat) (N : Nat) : lcells N (wds ns N) = lcells N (cw ns) := lcells_congr (fun k hk => by unfold wds; rw [if_pos hk])
theorem nxt_small (ns : List Nat) (h : ns.length ≤ 288) (i l : Nat) (hi : i ≤ 288) (hl : l ≤ 15) : nxt ns i l ≤ 18874656 := by
  unfold nxt
  split
  · omega
  · rw [fstW_ew ns l (by omega)]
    have h1 := ew_small ns h (l - 1) (by omega)
    have h2 := lcnt_le ns l i
    omega
theorem made_lcells (N : Nat) : madeCells #[.int .i64 0] N = lcells N (fun _ => 0) := by
  apply Array.ext'
  rw [toList_madeCells_one]
  unfold lcells
  apply List.ext_getElem
  · simp
  · intro i h1 h2; simp

set_option maxRecDepth 20000 in
set_option maxHeartbeats 4000000 in
theorem codes_ok (xs : List Int) (a : Option Addr) (c N : Nat) (w : World) (hN : xs.length = N) (hrow : IRow w a xs) (hlen : N ≤ 9223372036854775807) :
    Calls Tryd.prog 74 #[.slice a N c] w fun e w' => CodesEnd w xs e w' := by
  have HE : Hid (Calls Tryd.prog 73 #[.slice a N c] w fun e w' => EndsEnd w xs e w') := wordEnds_ok xs a c N w hN hrow hlen
  have HR : Hid (IRow w a xs) := hrow
  have HN : Hid (xs.length = N) := hN
  clear hN hrow
  go_enter Tryd.func74, Tryd.ntmps74
  go_wp2_with fail
  refine Calls.mono HE.out ?_
  rintro e w1 ⟨hcase, hb1⟩
  have HB : Hid (Below w.heap.size w w1) := hb1
  have hgen : ∃ (g : Nat → Nat) (q : Int), e = .returned (.tuple #[.agg (lcells 16 g), .int .i64 q]) ∧ Hid ((may xs = true ∧ ew (nsOf xs) 15 ≤ 32768 ∧ g = ew (nsOf xs) ∧ q = 0) ∨ (¬ (may xs = true ∧ ew (nsOf xs) 15 ≤ 32768) ∧ q = 30)) := by
    rcases hcase with ⟨h1, h2, rfl⟩ | ⟨h1, rfl⟩
    · exact ⟨_, _, rfl, .inl ⟨h1, h2, rfl, rfl⟩⟩
    · exact ⟨_, _, rfl, .inr ⟨h1, rfl⟩⟩
  obtain ⟨g, q, rfl, HG⟩ := hgen
  have hAg : ∀ i, i < 16 → (lcells 16 g)[i]? = some (.int .i64 (g i : Nat)) := fun i hi => lcells_get 16 g i hi
  have hsv := run_storeCells_blk (P := Tryd.prog) (w1.alloc (.cells #[.int .i64 0, .int .i64 0, .int .i64 0, .int .i64 0, .int .i64 0, .int .i64 0, .int .i64 0, .int .i64 0, .int .i64 0, .int .i64 0, .int .i64 0, .int .i64 0, .int .i64 0, .int .i64 0, .int .i64 0, .int .i64 0] 108)) w1.heap.size 108 108 _ (lcells 16 g) (heap_alloc_last _ _) (by rw [lcells_size]; exact perSize) (by rw [lcells_size]; rfl) (lcells_one _ _)
  rw [setRow_last] at hsv
  have hAs := lcells_size 16 g
  obtain ⟨A, hA⟩ : ∃ A, lcells 16 g = A := ⟨_, rfl⟩
  rw [hA] at hAg hsv hAs
  rw [hA]
  have HSV : Hid _ := hsv
  clear hcase hb1 hsv hA
  go_wp2
  simp only [HSV.out, Result.andThen]
  rw [Oper.upon_skip]
  clear hAs HSV
  rcases HG.out with ⟨hmay, hfit, rfl, rfl⟩ | ⟨hno, rfl⟩
  · have HM : Hid (may xs = true ∧ ew (nsOf xs) 15 ≤ 32768) := ⟨hmay, hfit⟩
    have hN288 : N ≤ 288 := by rw [← HN.out]; exact may_len hmay
    have HSM : Hid (∀ l, l ≤ 15 → ew (nsOf xs) l ≤ 9437184) := fun l hl => ew_small _ (by rw [nsOf_length, HN.out]; exact hN288) l hl
    obtain ⟨i0, hi, hz0, hz1, hz2⟩ := info_split intInfo
    have HI : Hid (Tryd.prog.info? 3 = some i0 ∧ i0.zero = some (.int .i64 0) ∧ i0.size = 1 ∧ i0.bytes = 8) := ⟨hi, hz0, hz1, hz2⟩
    clear hi hz0 hz1 hz2 hmay hfit HG HE
    go_wp2
    go_loopw [7] (fun v7 wr => ∃ l : Nat, v7 = .int .i64 l ∧ 1 ≤ l ∧ l ≤ 16 ∧ wr = (w1.alloc (.cells A 108)).alloc (.cells (lcells 16 (nx0 (nsOf xs) l)) 108)) (fun v7 _ => 17 - (intOf v7).toNat)
    case atStart =>
      refine ⟨1, rfl, by omega, by omega, ?_⟩
      have e : lcells 16 (nx0 (nsOf xs) 1) = lcells 16 (fun _ => 0) := lcells_congr (fun i _ => by
        unfold nx0; split
        · rw [show i = 0 by omega]; rfl
        · rfl)
      rw [e, ← z16]
    case round =>
      obtain ⟨l, rfl, hl1, hl2, rfl⟩ := hrel
      by_cases hll : l ≤ 15
      · have hlli : (l : Int) ≤ 15 := by omega
        have k1 := hAg (l - 1) (by omega)
        obtain ⟨v, hv⟩ : ∃ v, ew (nsOf xs) (l - 1) = v := ⟨_, rfl⟩
        have hvb : v ≤ 9437184 := by rw [← hv]; exact HSM.out _ (by omega)
        have HST : Hid ((lcells 16 (nx0 (nsOf xs) l)).setIfInBounds l (.int .i64 (2 * (v : Int))) = lcells 16 (nx0 (nsOf xs) (l + 1))) := by
          show _ = _
          rw [← nx0_step, fstW_ew _ _ hl1, hv]
          congr 2
        rw [hv] at k1
        have hBg := lcells_get 16 (nx0 (nsOf xs) l) l (by omega)
        obtain ⟨B, hBB⟩ : ∃ B, lcells 16 (nx0 (nsOf xs) l) = B := ⟨_, rfl⟩
        rw [hBB] at HST hBg
        rw [hBB]
        have p0 : (0 : Int) ≤ (l : Int) := by omega
        have p1 : (l : Int) < 16 := by omega
        have p2 : ((l : Int)).toNat = l := by simp
        have q0 : (0 : Int) ≤ (l : Int) - 1 := by omega
        have q1 : (l : Int) - 1 < 16 := by omega
        have q2 : ((l : Int) - 1).toNat = l - 1 := by omega
        have q3 : IntKind.i64.wrap ((l : Int) - 1) = (l : Int) - 1 := by rw [IntKind.wrap_i64]; omega
        have r1 : IntKind.i64.wrap (2 * (v : Int)) = 2 * (v : Int) := by rw [IntKind.wrap_i64]; omega
        clear hv hBB
        go_wp2
        refine ⟨⟨l + 1, by go_num, by omega, by omega, ?_⟩, by simp [intOf]; omega⟩
        rw [← HST.out]
      · have hlli : ¬ (l : Int) ≤ 15 := by omega
        obtain rfl : l = 16 := by omega
        rw [nx0_last]
        have HMK := made_lcells N
        clear hll hl1 hl2
        go_wp2_with (at_make; refine wpList_make_row _ rfl _ _ 29 rfl 3 i0 (.int .i64 0) Tryd.underlying29 HI.out.1 HI.out.2.1 HI.out.2.2.1 rfl .i64 .i64 N rfl rfl (by rw [HI.out.2.2.2]; omega) (by omega) ?_; rw [HMK])
        go_loopw [9, 10, 35] (fun _ _ v35 wr => ∃ i : Nat, v35 = .int .i64 i ∧ i ≤ N ∧ wr = ((w1.alloc (.cells A 108)).alloc (.cells (lcells 16 (nxt (nsOf xs) i)) 108)).alloc (.cells (lcells N (wds (nsOf xs) i)) 3)) (fun _ _ v35 _ => N - (intOf v35).toNat)
        case atStart =>
          refine ⟨0, rfl, by omega, ?_⟩
          rw [show lcells N (wds (nsOf xs) 0) = lcells N (fun _ => 0) from lcells_congr (fun i _ => by unfold wds; rw [if_neg (by omega)])]
        case round =>
          obtain ⟨i, rfl, hi, rfl⟩ := hrel
          by_cases hlt : i < N
          · have hlti : (i : Int) < (N : Int) := by omega
            obtain ⟨b, off, rfl, hcell, hb⟩ := (HR.out.below HB.out).at (show i < xs.length by rw [HN.out]; exact hlt)
            obtain ⟨f, hf⟩ : ∃ f : Nat, xs.getD i 0 = (f : Int) := ⟨(xs.getD i 0).toNat, by have := (may_get HM.out.1 i).1; omega⟩
            have hf15 : f ≤ 15 := by have := (may_get HM.out.1 i).2; omega
            have hfn : (nsOf xs).getD i 0 = f := by rw [nsOf_get, hf]; simp
            rw [hf] at hcell
            have hcell2 : ∀ o1 o2 o3, (((w1.alloc o1).alloc o2).alloc o3).cell? ⟨b, off + i, none⟩ = some (.int .i64 (f : Int)) := fun o1 o2 o3 => by
              rw [World.cell?_alloc_past _ _ _ (by simp; omega), World.cell?_alloc_past _ _ _ (by simp; omega), World.cell?_alloc_past _ _ _ hb]; exact hcell
            have HFN : Hid ((nsOf xs).getD i 0 = f) := hfn
            clear hcell hf hfn hb
            by_cases hp : 0 < f
            · have hpi : (0 : Int) < (f : Int) := by omega
              have hBg := lcells_get 16 (nxt (nsOf xs) i) f (by omega)
              have hCg := lcells_get N (wds (nsOf xs) i) i hlt
              have hvb := nxt_small (nsOf xs) (by rw [nsOf_length, HN.out]; exact hN288) i f (by omega) hf15
              have hs1 := nxt_step (nsOf xs) i f hp HFN.out
              have hs2 := wds_step (nsOf xs) N i f hp HFN.out
              obtain ⟨v, hv⟩ : ∃ v, nxt (nsOf xs) i f = v := ⟨_, rfl⟩
              obtain ⟨B, hBB⟩ : ∃ B, lcells 16 (nxt (nsOf xs) i) = B := ⟨_, rfl⟩
              obtain ⟨C, hCC⟩ : ∃ C, lcells N (wds (nsOf xs) i) = C := ⟨_, rfl⟩
              rw [hBB, hv] at hs1 hBg
              rw [hCC, hv] at hs2
              rw [hCC] at hCg
              rw [hv] at hvb
              rw [hBB, hCC]
              have HS : Hid (B.setIfInBounds f (.int .i64 ((v : Int) + 1)) = lcells 16 (nxt (nsOf xs) (i + 1)) ∧ C.setIfInBounds i (.int .i64 (v : Int)) = lcells N (wds (nsOf xs) (i + 1))) := ⟨hs1, hs2⟩
              have p1 : (f : Int) < 16 := by omega
              clear hs1 hs2 hv hBB hCC
              go_wp2
              refine ⟨⟨i + 1, by go_num, by omega, ?_⟩, by simp [intOf]; omega⟩
              rw [← HS.out.1, ← HS.out.2]
            · have hpi : ¬ (0 : Int) < (f : Int) := by omega
              have hs1 := nxt_skip (nsOf xs) i (by rw [HFN.out]; omega)
              have hs2 := wds_skip (nsOf xs) N i (by rw [HFN.out]; omega)
              rw [hs1, hs2]
              clear hs1 hs2
              go_wp2
              exact ⟨⟨i + 1, by go_num, by omega, rfl⟩, by simp [intOf]; omega⟩
          · obtain rfl : i = N := by omega
            rw [wds_all]
            go_wp2
            go_ret2
            have hbel : ∀ o1 o2 o3, Below w1.heap.size w1 (((w1.alloc o1).alloc o2).alloc o3) := fun o1 o2 o3 => (((Below.refl _ _).alloc (Nat.le_refl _) _).alloc (by simp) _).alloc (by simp; omega) _
            refine ⟨.inl ⟨HM.out.1, HM.out.2, w1.heap.size + 1 + 1, by rw [HN.out]; rfl, ?_, by have := HB.out.size; omega⟩, HB.out.trans ((hbel _ _ _).mono HB.out.size)⟩
            rw [HN.out]
            have := heap_alloc_last ((w1.alloc (.cells A 108)).alloc (.cells (lcells 16 (nxt (nsOf xs) i)) 108)) (.cells (lcells i (cw (nsOf xs))) 3)
            simpa [LB] using this
  · go_wp2
    go_ret2
    exact ⟨.inr ⟨hno, rfl⟩, HB.out.trans ((Below.refl _ _).alloc HB.out.size _)⟩
end Go.Proofs.YtchjnfckcfikkaaDoor
