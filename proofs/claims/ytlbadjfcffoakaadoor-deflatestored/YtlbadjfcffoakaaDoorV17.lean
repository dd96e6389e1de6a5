/- The document's Codes (layer 4's seat: no Cost). -/
/- What symbols cost: the program's and the document's. -/
/- What the best lengths are: a whole code, in the order of weights, and what it costs. -/
import Derived.Test.YtlbadjfcffoakaaDoorV16
import Derived.Test.YtlbadjfcffoakaaDoorV15
import Derived.BigQuiet
import Derived.Deep.QuietTactic
import Derived.Test.YtlbadjfcffoakaaDoorV14
import Derived.Test.YtlbadjfcffoakaaDoorV01
namespace Go.Proofs.YtlbadjfcffoakaaDoor
open Go.RowKit
set_option linter.unusedVariables false
set_option maxRecDepth 20000

def rw1 (ns : List Nat) (l i s : Nat) : Nat := if ns.getD s 0 = 0 then 0 else if ns.getD s 0 < l ∨ (ns.getD s 0 = l ∧ s < i) then codeW ns s else 0
theorem rw1_step (ns : List Nat) (N l i : Nat) (hl : 1 ≤ l) (hg : ns.getD i 0 = l) : (lcells N (rw1 ns l i)).setIfInBounds i (.int .i64 ((fstW ns l + lcnt ns l i : Nat) : Int)) = lcells N (rw1 ns l (i + 1)) := by
  rw [lcells_set]
  refine lcells_congr (fun s _ => ?_)
  unfold rw1
  by_cases e : s = i
  · subst e
    rw [if_pos rfl, if_neg (by omega), if_pos (by omega)]
    unfold codeW; rw [hg]
  · rw [if_neg e]
    by_cases e0 : ns.getD s 0 = 0
    · rw [if_pos e0, if_pos e0]
    · rw [if_neg e0, if_neg e0]
      by_cases e2 : ns.getD s 0 < l ∨ (ns.getD s 0 = l ∧ s < i)
      · rw [if_pos e2, if_pos (by omega)]
      · rw [if_neg e2, if_neg (by omega)]
theorem rw1_skip (ns : List Nat) (N l i : Nat) (hg : ns.getD i 0 ≠ l) : lcells N (rw1 ns l i) = lcells N (rw1 ns l (i + 1)) := lcells_congr (fun s _ => by
  unfold rw1
  by_cases e0 : ns.getD s 0 = 0
  · rw [if_pos e0, if_pos e0]
  · rw [if_neg e0, if_neg e0]
    by_cases e2 : ns.getD s 0 < l ∨ (ns.getD s 0 = l ∧ s < i)
    · rw [if_pos e2, if_pos (by omega)]
    · rw [if_neg e2, if_neg (by
        intro h
        rcases h with h | ⟨h1, h2⟩
        · exact e2 (.inl h)
        · rcases Nat.lt_or_ge s i with h3 | h3
          · exact e2 (.inr ⟨h1, h3⟩)
          · have : s = i := by omega
            subst this; exact hg h1)])
theorem rw1_next (ns : List Nat) (l : Nat) : lcells ns.length (rw1 ns l ns.length) = lcells ns.length (rw1 ns (l + 1) 0) := lcells_congr (fun s hs => by
  unfold rw1
  by_cases e0 : ns.getD s 0 = 0
  · rw [if_pos e0, if_pos e0]
  · rw [if_neg e0, if_neg e0]
    by_cases e2 : ns.getD s 0 < l ∨ (ns.getD s 0 = l ∧ s < ns.length)
    · rw [if_pos e2, if_pos (by omega)]
    · rw [if_neg e2, if_neg (by omega)])
theorem rw1_start (ns : List Nat) (N : Nat) : lcells N (rw1 ns 1 0) = lcells N (fun _ => 0) := lcells_congr (fun s _ => by
  unfold rw1
  split
  · rfl
  · rw [if_neg (by omega)])
theorem rw1_end (ns : List Nat) (N : Nat) (h : ∀ i, ns.getD i 0 ≤ 15) : lcells N (rw1 ns 16 0) = lcells N (cw ns) := lcells_congr (fun s _ => by
  unfold rw1 cw
  by_cases e0 : ns.getD s 0 = 0
  · rw [if_pos e0, if_pos e0]
  · rw [if_neg e0, if_neg e0, if_pos (by have := h s; omega)])

set_option maxRecDepth 20000 in
set_option maxHeartbeats 4000000 in
theorem refCodes_ok (xs : List Int) (a : Option Addr) (c N : Nat) (w : World) (hN : xs.length = N) (hrow : IRow w a xs) (hlen : N ≤ 9223372036854775807) :
    Calls Tryd.prog 51 #[.slice a N c] w fun e w' => CodesEnd w xs e w' := by
  have HR : Hid (IRow w a xs) := hrow
  have HN : Hid (xs.length = N) := hN
  obtain ⟨q, hq⟩ : ∃ q, isCode xs = q := ⟨_, rfl⟩
  have hiff := isCode_iff xs
  rw [hq] at hiff
  have HM : Hid (∀ _ : Unit, Calls Tryd.prog 67 #[.slice a N c] w fun e w' => e = .returned (.bool q) ∧ w' = w) := fun _ => by rw [← hq]; exact may_ok xs a c N w hN hrow hlen
  have HIF : Hid (q = true ↔ (may xs = true ∧ ew (nsOf xs) 15 ≤ 32768)) := hiff
  clear hrow hN hq hiff
  go_enter Tryd.func51, Tryd.ntmps51
  cases q with
  | false =>
    go_wp2_with (go_at_call 67; refine (HM.out ()).mono ?_; rintro e w1 ⟨rfl, hw⟩; obtain rfl := hw.symm)
    go_ret2
    exact ⟨.inr ⟨(fun h => by have := HIF.out.2 h; cases this), rfl⟩, Below.refl _ _⟩
  | true =>
    have hMM := HIF.out.1 rfl
    have HOK : Hid (may xs = true ∧ ew (nsOf xs) 15 ≤ 32768) := hMM
    have hN288 : N ≤ 288 := by rw [← HN.out]; exact may_len hMM.1
    have HSM : Hid (∀ i l, i ≤ 288 → l ≤ 15 → nxt (nsOf xs) i l ≤ 18874656) := fun i l hi hl => nxt_small _ (by rw [nsOf_length, HN.out]; exact hN288) i l hi hl
    have H15 : Hid (∀ i, (nsOf xs).getD i 0 ≤ 15) := fun i => by rw [nsOf_get]; have := may_get hMM.1 i; omega
    obtain ⟨i0, hi, hz0, hz1, hz2⟩ := info_split intInfo
    have HI : Hid (Tryd.prog.info? 3 = some i0 ∧ i0.zero = some (.int .i64 0) ∧ i0.size = 1 ∧ i0.bytes = 8) := ⟨hi, hz0, hz1, hz2⟩
    have HMK := made_lcells N
    clear hi hz0 hz1 hz2 hMM
    go_wp2_with (first
      | (go_at_call 67; refine (HM.out ()).mono ?_; rintro e w1 ⟨rfl, hw⟩; obtain rfl := hw.symm)
      | (at_make; refine wpList_make_row _ rfl _ _ 41 rfl 3 i0 (.int .i64 0) Tryd.underlying41 HI.out.1 HI.out.2.1 HI.out.2.2.1 rfl .i64 .i64 N rfl rfl (by rw [HI.out.2.2.2]; omega) (by omega) ?_; rw [HMK]))
    go_loopw [5, 6, 7] (fun v5 v6 _ wr => ∃ (l E : Nat), v6 = .int .i64 l ∧ 1 ≤ l ∧ l ≤ 16 ∧ v5 = .int .i64 (E : Int) ∧ wr = w.alloc (.cells (lcells N (rw1 (nsOf xs) l 0)) 3) ∧ Hid (E = ew (nsOf xs) (l - 1))) (fun _ v6 _ _ => 17 - (intOf v6).toNat)
    case atStart => exact ⟨1, 0, rfl, by omega, by omega, rfl, by rw [rw1_start], rfl⟩
    case round =>
      obtain ⟨l, E, rfl, hl1, hl2, rfl, rfl, HE⟩ := hrel
      by_cases hll : l ≤ 15
      · have hlli : (l : Int) ≤ 15 := by omega
        have hEb : E ≤ 9437184 := by
          rw [HE.out]
          exact ew_small _ (by rw [nsOf_length, HN.out]; exact hN288) _ (by omega)
        have hfw : Hid (2 * E = fstW (nsOf xs) l) := by show _ = _; rw [fstW_ew _ _ hl1, HE.out]
        go_wp2
        go_loopw [5, 7] (fun v5 v7 wr => ∃ (i V : Nat), v7 = .int .i64 i ∧ i ≤ N ∧ v5 = .int .i64 (V : Int) ∧ wr = w.alloc (.cells (lcells N (rw1 (nsOf xs) l i)) 3) ∧ Hid (V = fstW (nsOf xs) l + lcnt (nsOf xs) l i)) (fun _ v7 _ => N - (intOf v7).toNat)
        case atStart => exact ⟨0, 2 * E, rfl, by omega, by go_num, rfl, by show _ = _; rw [hfw.out]; rfl⟩
        case round =>
          obtain ⟨i, V, rfl, hi, rfl, rfl, HV⟩ := hrel
          have hVb : V ≤ 18874656 := by
            have := HSM.out i l (by omega) hll
            unfold nxt at this
            rw [if_neg (by omega)] at this
            rw [HV.out]; exact this
          by_cases hlt : i < N
          · have hlti : (i : Int) < (N : Int) := by omega
            obtain ⟨b, off, rfl, hcell, hb⟩ := HR.out.at (show i < xs.length by rw [HN.out]; exact hlt)
            obtain ⟨f, hf⟩ : ∃ f : Nat, xs.getD i 0 = (f : Int) := ⟨(xs.getD i 0).toNat, by have := (may_get HOK.out.1 i).1; omega⟩
            have hfn : (nsOf xs).getD i 0 = f := by rw [nsOf_get, hf]; simp
            rw [hf] at hcell
            have hcell2 : ∀ o1, (w.alloc o1).cell? ⟨b, off + i, none⟩ = some (.int .i64 (f : Int)) := fun o1 => by rw [World.cell?_alloc_past _ _ _ hb]; exact hcell
            have HFN : Hid ((nsOf xs).getD i 0 = f) := hfn
            clear hcell hf hfn hb
            by_cases he : f = l
            · subst he
              have hCg := lcells_get N (rw1 (nsOf xs) f i) i hlt
              have hs := rw1_step (nsOf xs) N f i hl1 HFN.out
              rw [← HV.out] at hs
              obtain ⟨C, hCC⟩ : ∃ C, lcells N (rw1 (nsOf xs) f i) = C := ⟨_, rfl⟩
              rw [hCC] at hs hCg
              rw [hCC]
              have HS : Hid (C.setIfInBounds i (.int .i64 (V : Int)) = lcells N (rw1 (nsOf xs) f (i + 1))) := hs
              have H2 : Hid (V + 1 = fstW (nsOf xs) f + lcnt (nsOf xs) f (i + 1)) := by
                show _ = _
                simp only [lcnt]
                rw [if_pos HFN.out, HV.out]; omega
              clear hs hCC
              go_wp2
              refine ⟨⟨i + 1, V + 1, by go_num, by omega, by go_num, ?_, H2⟩, by simp [intOf]; omega⟩
              rw [← HS.out]
            · have hei : ¬ (f : Int) = (l : Int) := by omega
              have heb : ((f : Int) == (l : Int)) = false := by simpa using hei
              have hs := rw1_skip (nsOf xs) N l i (by rw [HFN.out]; exact he)
              have H2 : Hid (V = fstW (nsOf xs) l + lcnt (nsOf xs) l (i + 1)) := by
                show _ = _
                simp only [lcnt]
                rw [if_neg (by rw [HFN.out]; exact he), HV.out]; rfl
              rw [hs]
              clear hs
              go_wp2
              exact ⟨⟨i + 1, V, by go_num, by omega, rfl, rfl, H2⟩, by simp [intOf]; omega⟩
          · obtain rfl : i = N := by omega
            have hnx : lcells i (rw1 (nsOf xs) l i) = lcells i (rw1 (nsOf xs) (l + 1) 0) := by
              have := rw1_next (nsOf xs) l
              rw [nsOf_length, HN.out] at this
              exact this
            have H2 : Hid (V = ew (nsOf xs) (l + 1 - 1)) := by
              show _ = _
              rw [HV.out, Nat.add_sub_cancel]
              obtain ⟨k, rfl⟩ : ∃ k, l = k + 1 := ⟨l - 1, by omega⟩
              rw [show i = (nsOf xs).length by rw [nsOf_length, HN.out]]
              rfl
            rw [hnx]
            clear hnx
            go_wp2
            exact ⟨⟨l + 1, V, by go_num, by omega, by omega, rfl, rfl, H2⟩, by simp [intOf]; omega⟩
      · obtain rfl : l = 16 := by omega
        rw [rw1_end _ _ H15.out]
        go_wp2
        go_ret2
        refine ⟨.inl ⟨HOK.out.1, HOK.out.2, w.heap.size, by rw [HN.out]; rfl, ?_, Nat.le_refl _⟩, (Below.refl _ _).alloc (Nat.le_refl _) _⟩
        rw [HN.out]
        exact heap_alloc_last w (.cells (lcells N (cw (nsOf xs))) 3)
end Go.Proofs.YtlbadjfcffoakaaDoor
namespace Go.Proofs.YtlbadjfcffoakaaDoor
open Go.RowKit
set_option linter.unusedVariables false
set_option maxRecDepth 20000

def costTo (fs xs : List Int) : Nat → Nat
  | 0 => 0
  | j + 1 => costTo fs xs j + frq fs j * (xs.getD j 0).toNat
def lacks (fs xs : List Int) : Nat → Bool
  | 0 => false
  | j + 1 => lacks fs xs j || (decide (0 < fs.getD j 0) && decide (xs.getD j 0 = 0))
theorem lacks_mono {fs xs : List Int} {j n : Nat} (h : lacks fs xs j = true) (hn : j ≤ n) : lacks fs xs n = true := by
  induction hn with
  | refl => exact h
  | step _ ih => simp only [lacks, ih, Bool.true_or]
def costR (fs xs : List Int) : Int × Int :=
  if fs.length = xs.length ∧ okF fs = true then (if isCode xs = true then (if lacks fs xs fs.length = true then (0, 30) else ((costTo fs xs fs.length : Nat), 0)) else (0, 30)) else (0, 1)
theorem costR_arg {fs xs : List Int} (h : ¬ (fs.length = xs.length ∧ okF fs = true)) : costR fs xs = (0, 1) := by unfold costR; rw [if_neg h]
theorem costR_code {fs xs : List Int} (h : fs.length = xs.length ∧ okF fs = true) (h2 : isCode xs = false) : costR fs xs = (0, 30) := by unfold costR; rw [if_pos h, if_neg (by rw [h2]; simp)]
theorem costR_lack {fs xs : List Int} (h : fs.length = xs.length ∧ okF fs = true) (h2 : isCode xs = true) (h3 : lacks fs xs fs.length = true) : costR fs xs = (0, 30) := by unfold costR; rw [if_pos h, if_pos h2, if_pos h3]
theorem costR_ok {fs xs : List Int} (h : fs.length = xs.length ∧ okF fs = true) (h2 : isCode xs = true) (h3 : lacks fs xs fs.length = false) : costR fs xs = (((costTo fs xs fs.length : Nat) : Int), 0) := by unfold costR; rw [if_pos h, if_pos h2, if_neg (by rw [h3]; simp)]
theorem costTo_bound {fs xs : List Int} (hf : okF fs = true) (hx : may xs = true) : ∀ j, costTo fs xs j ≤ j * 16492674416640
  | 0 => by simp [costTo]
  | j + 1 => by
    have h1 := costTo_bound hf hx j
    have h2 : frq fs j ≤ 1099511627776 := by have := okF_get hf j; unfold frq; omega
    have h3 : (xs.getD j 0).toNat ≤ 15 := by have := may_get hx j; omega
    have h4 : frq fs j * (xs.getD j 0).toNat ≤ 1099511627776 * 15 := Nat.mul_le_mul h2 h3
    simp only [costTo]; omega

set_option maxRecDepth 20000 in
set_option maxHeartbeats 1000000 in
theorem full_ok (xs : List Int) (a : Option Addr) (c N : Nat) (w : World) (hN : xs.length = N) (hrow : IRow w a xs) (hlen : N ≤ 9223372036854775807) :
    Calls Tryd.prog 33 #[.slice a N c] w fun e w' => e = .returned (.bool (decide (shareV xs = 32768))) ∧ w' = w := by
  have hs := fun _ : Unit => share_ok xs a c N w hN hrow hlen
  obtain ⟨V, hV⟩ : ∃ V, shareV xs = V := ⟨_, rfl⟩
  rw [hV] at hs ⊢
  have HS : Hid _ := hs
  clear hs hV hN hrow
  go_enter Tryd.func33, Tryd.ntmps33
  go_wp2_with fail
  refine (HS.out ()).mono ?_
  rintro e w1 ⟨rfl, hw⟩
  obtain rfl := hw.symm
  go_wp2
  go_ret
  exact ⟨rfl, rfl⟩

set_option maxRecDepth 20000 in
set_option maxHeartbeats 4000000 in
theorem cost_ok (fs xs : List Int) (a b : Option Addr) (c d N M : Nat) (w : World) (hN : fs.length = N) (hM : xs.length = M) (ha : IRow w a fs) (hb : IRow w b xs) (hlen : N ≤ 9223372036854775807) (hlen2 : M ≤ 9223372036854775807) :
    Calls Tryd.prog 65 #[.slice a N c, .slice b M d] w fun e w' => e = .returned (.tuple #[.int .i64 (costR fs xs).1, .int .i64 (costR fs xs).2]) ∧ Below w.heap.size w w' := by
  have HA : Hid (IRow w a fs) := ha
  have HB : Hid (IRow w b xs) := hb
  have HN : Hid (fs.length = N ∧ xs.length = M) := ⟨hN, hM⟩
  have HAF : Hid (∀ _ : Unit, Calls Tryd.prog 73 #[.slice a N c] w fun e w' => e = .returned (.bool (okF fs)) ∧ w' = w) := fun _ => areFreqs_ok fs a c N w hN ha hlen
  have HE : Hid (∀ _ : Unit, Calls Tryd.prog 68 #[.slice b M d] w fun e w' => EndsEnd w xs e w') := fun _ => wordEnds_ok xs b d M w hM hb hlen2
  clear ha hb hN hM
  obtain ⟨R, hR⟩ : ∃ R, costR fs xs = R := ⟨_, rfl⟩
  have HRR : Hid (costR fs xs = R) := hR
  rw [hR]
  clear hR
  go_enter Tryd.func65, Tryd.ntmps65
  by_cases hne : N = M
  · subst hne
    obtain ⟨q, hq⟩ : ∃ q, okF fs = q := ⟨_, rfl⟩
    have HQ : Hid (okF fs = q) := hq
    have HAF2 : Hid (∀ _ : Unit, Calls Tryd.prog 73 #[.slice a N c] w fun e w' => e = .returned (.bool q) ∧ w' = w) := fun _ => by rw [← hq]; exact HAF.out ()
    clear hq HAF
    cases q with
    | false =>
      have HR1 : Hid (R = (0, 1)) := by
        show _ = _
        rw [← HRR.out, costR_arg (by rw [HQ.out]; simp)]
      go_wp2_with (go_at_call 73; refine (HAF2.out ()).mono ?_; rintro e w1 ⟨rfl, hw⟩; obtain rfl := hw.symm)
      go_ret2
      exact ⟨by rw [HR1.out]; rfl, Below.refl _ _⟩
    | true =>
      have hboth : fs.length = xs.length ∧ okF fs = true := ⟨by rw [HN.out.1, HN.out.2], HQ.out⟩
      have HBO : Hid (fs.length = xs.length ∧ okF fs = true) := hboth
      clear hboth
      go_wp2_with (go_at_call 73; refine (HAF2.out ()).mono ?_; rintro e w1 ⟨rfl, hw⟩; obtain rfl := hw.symm)
      refine (HE.out ()).mono ?_
      rintro e w1 ⟨hcase, hb1⟩
      have HB1 : Hid (Below w.heap.size w w1) := hb1
      have hgen : ∃ (g : Nat → Nat) (q : Int), e = .returned (.tuple #[.agg (lcells 16 g), .int .i64 q]) ∧ Hid ((isCode xs = true ∧ q = 0) ∨ (isCode xs = false ∧ q = 30)) := by
        rcases hcase with ⟨h1, h2, rfl⟩ | ⟨h1, rfl⟩
        · exact ⟨_, _, rfl, .inl ⟨(isCode_iff xs).2 ⟨h1, h2⟩, rfl⟩⟩
        · refine ⟨_, _, rfl, .inr ⟨?_, rfl⟩⟩
          cases e : isCode xs with
          | false => rfl
          | true => exact absurd ((isCode_iff xs).1 e) h1
      obtain ⟨g, q, rfl, HG⟩ := hgen
      have hsv := run_storeCells_blk (P := Tryd.prog) (w1.alloc (.cells #[.int .i64 0, .int .i64 0, .int .i64 0, .int .i64 0, .int .i64 0, .int .i64 0, .int .i64 0, .int .i64 0, .int .i64 0, .int .i64 0, .int .i64 0, .int .i64 0, .int .i64 0, .int .i64 0, .int .i64 0, .int .i64 0] 126)) w1.heap.size 126 126 _ (lcells 16 g) (heap_alloc_last _ _) (by rw [lcells_size]; exact perSize) (by rw [lcells_size]; rfl) (lcells_one _ _)
      rw [setRow_last] at hsv
      have hAs := lcells_size 16 g
      obtain ⟨A, hA⟩ : ∃ A, lcells 16 g = A := ⟨_, rfl⟩
      rw [hA] at hsv hAs
      rw [hA]
      have HSV : Hid _ := hsv
      clear hcase hb1 hsv hA
      go_wp2
      simp only [HSV.out, Result.andThen]
      rw [Oper.upon_skip]
      clear hAs HSV
      have hbl : Below w.heap.size w (w1.alloc (.cells A 126)) := HB1.out.alloc HB1.out.size _
      obtain ⟨W, hW⟩ : ∃ W, w1.alloc (.cells A 126) = W := ⟨_, rfl⟩
      rw [hW] at hbl ⊢
      have HBL : Hid (Below w.heap.size w W) := hbl
      clear hW hbl
      rcases HG.out with ⟨hcode, rfl⟩ | ⟨hcode, rfl⟩
      · have HCD : Hid (isCode xs = true) := hcode
        have hN288 : N ≤ 288 := by rw [← HN.out.2]; exact may_len ((isCode_iff xs).1 hcode).1
        clear hcode HG
        go_wp2
        go_loop [8, 9, 10, 31] (fun v8 _ _ v31 => ∃ (j : Nat) (S : Nat), v31 = .int .i64 j ∧ j ≤ N ∧ v8 = .int .i64 (S : Int) ∧ Hid (S = costTo fs xs j ∧ lacks fs xs j = false)) (fun _ _ _ v31 => N - (intOf v31).toNat)
        case atStart => exact ⟨0, 0, rfl, by omega, rfl, rfl, rfl⟩
        case round =>
          obtain ⟨j, S, rfl, hj, rfl, HS⟩ := hrel
          have hm := ((isCode_iff xs).1 HCD.out).1
          have hSb : S ≤ 4749890231992320 := by rw [HS.out.1]; exact Nat.le_trans (costTo_bound HQ.out hm j) (by omega)
          by_cases hlt : j < N
          · have hlti : (j : Int) < (N : Int) := by omega
            obtain ⟨b1, o1, rfl, c1, _⟩ := (HA.out.below HBL.out).at (show j < fs.length by rw [HN.out.1]; exact hlt)
            obtain ⟨b2, o2, rfl, c2, _⟩ := (HB.out.below HBL.out).at (show j < xs.length by rw [HN.out.2]; exact hlt)
            obtain ⟨F, hF⟩ : ∃ F : Nat, fs.getD j 0 = (F : Int) := ⟨(fs.getD j 0).toNat, by have := (okF_get HQ.out j).1; omega⟩
            obtain ⟨l, hl⟩ : ∃ l : Nat, xs.getD j 0 = (l : Int) := ⟨(xs.getD j 0).toNat, by have := (may_get hm j).1; omega⟩
            have hFb : F ≤ 1099511627776 := by have := (okF_get HQ.out j).2; omega
            have hlb : l ≤ 15 := by have := (may_get hm j).2; omega
            have hmul : F * l ≤ 16492674416640 := Nat.mul_le_mul hFb hlb
            obtain ⟨T, hT⟩ : ∃ T, F * l = T := ⟨_, rfl⟩
            have hTi : (F : Int) * (l : Int) = (T : Int) := by rw [← hT]; simp
            have HX : Hid (S + T = costTo fs xs (j + 1) ∧ lacks fs xs (j + 1) = (decide (0 < F) && decide (l = 0))) := by
              refine ⟨?_, ?_⟩
              · simp only [costTo, frq]
                rw [hF, hl, ← HS.out.1, ← hT]; simp
              · simp only [lacks]
                rw [hF, hl, HS.out.2]
                simp
            have HJ : Hid (j + 1 ≤ fs.length) := by show _ ≤ _; rw [HN.out.1]; exact hlt
            rw [hF] at c1
            rw [hl] at c2
            rw [hT] at hmul
            have w1' : IntKind.i64.wrap ((F : Int) * (l : Int)) = (T : Int) := by rw [hTi, IntKind.wrap_i64]; omega
            clear hF hl hT hm
            by_cases hp : 0 < F
            · have hpi : (0 : Int) < (F : Int) := by omega
              by_cases hl0 : l = 0
              · subst hl0
                have HR1 : Hid (R = (0, 30)) := by
                  show _ = _
                  rw [← HRR.out]
                  refine costR_lack HBO.out HCD.out (lacks_mono ?_ HJ.out)
                  rw [HX.out.2, decide_eq_true hp]; rfl
                go_wp2
                go_ret2
                exact ⟨by rw [HR1.out]; rfl, HBL.out⟩
              · have hl0i : ¬ (l : Int) = 0 := by omega
                have hl0b : ((l : Int) == 0) = false := by simpa using hl0
                have H2 : Hid (S + T = costTo fs xs (j + 1) ∧ lacks fs xs (j + 1) = false) := ⟨HX.out.1, by rw [HX.out.2, decide_eq_false hl0]; simp⟩
                go_wp2
                exact ⟨⟨j + 1, S + T, by go_num, by omega, by go_num, H2⟩, by simp [intOf]; omega⟩
            · have hpi : ¬ (0 : Int) < (F : Int) := by omega
              have H2 : Hid (S + T = costTo fs xs (j + 1) ∧ lacks fs xs (j + 1) = false) := ⟨HX.out.1, by rw [HX.out.2, decide_eq_false hp]; rfl⟩
              go_wp2
              exact ⟨⟨j + 1, S + T, by go_num, by omega, by go_num, H2⟩, by simp [intOf]; omega⟩
          · obtain rfl : j = N := by omega
            have HR1 : Hid (R = ((S : Int), 0)) := by
              show _ = _
              rw [← HRR.out, costR_ok HBO.out HCD.out (by rw [HN.out.1]; exact HS.out.2), HN.out.1, ← HS.out.1]
            clear hm
            go_wp2
            go_ret2
            exact ⟨by rw [HR1.out]; rfl, HBL.out⟩
      · have HR1 : Hid (R = (0, 30)) := by
          show _ = _
          rw [← HRR.out, costR_code HBO.out hcode]
        clear hcode HG
        go_wp2
        go_ret2
        exact ⟨by rw [HR1.out]; rfl, HBL.out⟩
  · have hni : ¬ (N : Int) = (M : Int) := by omega
    have hnb : ((N : Int) != (M : Int)) = true := by simpa using hni
    have HR1 : Hid (R = (0, 1)) := by
      show _ = _
      rw [← HRR.out, costR_arg (by rw [HN.out.1, HN.out.2]; simp [hne])]
    go_wp2
    go_ret2
    exact ⟨by rw [HR1.out]; rfl, Below.refl _ _⟩
end Go.Proofs.YtlbadjfcffoakaaDoor
namespace Go.Proofs.YtlbadjfcffoakaaDoor
open Go.RowKit PT
set_option linter.unusedVariables false
set_option maxRecDepth 20000

def lensOf (c : Nat → Nat) (N : Nat) : List Int := (List.range N).map fun i => ((c i : Nat) : Int)
theorem lensOf_length (c : Nat → Nat) (N : Nat) : (lensOf c N).length = N := by simp [lensOf]
theorem lensOf_get (c : Nat → Nat) {N i : Nat} (h : i < N) : (lensOf c N).getD i 0 = ((c i : Nat) : Int) := by
  rw [getD_in (by rw [lensOf_length]; exact h)]
  simp [lensOf]
theorem lensOf_out (c : Nat → Nat) {N i : Nat} (h : N ≤ i) : (lensOf c N).getD i 0 = 0 := by
  rw [List.getD_eq_getElem?_getD, List.getElem?_eq_none (by rw [lensOf_length]; exact h)]; rfl
theorem LB.rowL {w : World} {L N : Nat} {c : Nat → Nat} (h : LB w L N c) : IRow w (some ⟨L, 0, none⟩) (lensOf c N) := by
  refine .inr ⟨L, 0, rfl, lt_heap h, fun i hi => ?_⟩
  rw [lensOf_length] at hi
  rw [lensOf_get c hi, Nat.zero_add]
  exact (h.cell hi).1
theorem sum_mul {L : List Nat} {f : Nat → Nat} (K : Nat) : (L.map fun s => K * f s).sum = K * (L.map f).sum := by
  induction L with
  | nil => simp
  | cons t r ih => simp only [List.map_cons, List.sum_cons, ih, Nat.mul_add]
theorem sum_more {L : List Nat} {f : Nat → Nat} (hf : ∀ s, 1 ≤ f s) {s : Nat} (hs : s ∈ L) : f s + (L.length - 1) ≤ (L.map f).sum := by
  have hlen : ∀ M : List Nat, M.length ≤ (M.map f).sum := by
    intro M
    induction M with
    | nil => simp
    | cons t r ih => have := hf t; simp only [List.map_cons, List.sum_cons, List.length_cons]; omega
  induction L with
  | nil => simp at hs
  | cons t r ih =>
    simp only [List.map_cons, List.sum_cons, List.length_cons]
    rcases List.mem_cons.1 hs with rfl | hs
    · have := hlen r; omega
    · have := ih hs
      have := hf t
      have : 0 < r.length := List.length_pos_of_mem hs
      omega
theorem Leaves.sys {fs : List Int} : ∀ {ss : List Nat} {l : List PT}, Leaves fs ss l → l.map sy = ss
  | [], [], _ => rfl
  | [], t :: l, h => by simp [Leaves] at h
  | s :: ss, [], h => by simp [Leaves] at h
  | s :: ss, t :: l, h => by
    simp only [Leaves, List.map_cons, List.cons.injEq] at h
    have ih := Leaves.sys (fs := fs) (ss := ss) (l := l) h.2
    rw [List.map_cons, ih]
    have : t.syms = [s] := by have := h.1; simp only [Prod.mk.injEq] at this; exact this.1
    unfold sy
    rw [this]; rfl
theorem sing_of {fs : List Int} {n : Nat} {S l : List PT} (h : Leaves fs (comes fs n) l) (hp : S.Perm l) : Sing (frq fs) S := by
  refine ⟨fun t ht => ?_, ?_⟩
  · obtain ⟨s, hs, e1, e2, _⟩ := h.at (hp.mem_iff.1 ht)
    have : sy t = s := by unfold sy; rw [e1]; rfl
    rw [this]
    refine ⟨e1, e2, ?_⟩
    have := (comes_lt hs).2
    unfold frq; omega
  · refine (hp.map sy).nodup_iff.2 ?_
    rw [h.sys]
    exact List.nodup_range.sublist List.filter_sublist
theorem mem_comes {fs : List Int} {n s : Nat} : s ∈ comes fs n ↔ s < n ∧ 0 < fs.getD s 0 := by
  unfold comes
  simp only [List.mem_filter, List.mem_range, decide_eq_true_eq]
theorem shr_comes {fs : List Int} {ns : List Nat} : ∀ {j : Nat}, (∀ i, i < j → (0 < fs.getD i 0 ↔ ns.getD i 0 ≠ 0)) → shr ns j = ((comes fs j).map fun s => 2 ^ (15 - ns.getD s 0)).sum
  | 0, _ => rfl
  | j + 1, h => by
    have ih := shr_comes (fs := fs) (ns := ns) (j := j) (fun i hi => h i (by omega))
    have hj := h j (by omega)
    rw [comes_succ]
    simp only [shr, ih]
    by_cases e : 0 < fs.getD j 0
    · rw [if_pos e, if_neg (hj.1 e), List.map_append, List.sum_append]; simp
    · have : ns.getD j 0 = 0 := by
        rcases Nat.eq_zero_or_pos (ns.getD j 0) with h0 | h0
        · exact h0
        · exact absurd (hj.2 (by omega)) e
      rw [if_neg e, if_pos this]; rfl
theorem costTo_wsum {fs : List Int} {c : Nat → Nat} {N : Nat} : ∀ {j : Nat}, j ≤ N → costTo fs (lensOf c N) j = wsum (frq fs) c j
  | 0, _ => rfl
  | j + 1, h => by
    have ih := costTo_wsum (fs := fs) (c := c) (N := N) (j := j) (by omega)
    simp only [costTo, wsum, ih]
    rw [lensOf_get c (show j < N by omega)]; simp

structure BestL (fs : List Int) (mo : Nat) (c : Nat → Nat) (W : List Nat) : Prop where
  top : ∀ i, i < fs.length → c i ≤ mo
  has : ∀ i, i < fs.length → (0 < fs.getD i 0 ↔ 0 < c i)
  order : ∀ i k, i < fs.length → k < fs.length → fs.getD k 0 < fs.getD i 0 → 0 < fs.getD k 0 → c i ≤ c k
  code : isCode (lensOf c fs.length) = true
  whole : 2 ≤ (comes fs fs.length).length → shareV (lensOf c fs.length) = 32768
  up : Up W
  perm : W.Perm ((comes fs fs.length).map (frq fs))
  cost1 : W.length ≤ 1 → costTo fs (lensOf c fs.length) fs.length = W.sum
  cost : 2 ≤ W.length → costTo fs (lensOf c fs.length) fs.length = ((LW W (mo - 1)).take (2 * W.length - 2)).sum
  wide : 2 ≤ W.length → ∀ k d, k + d = mo - 1 → ((LW W (mo - 1)).take (2 * W.length - 2)).sum ≤ ((LW W k).take (2 * W.length - 2)).sum ∨ (LW W k).length < 2 * W.length - 2
theorem BestL.lacks {fs : List Int} {mo : Nat} {c : Nat → Nat} {W : List Nat} (h : BestL fs mo c W) : ∀ {j : Nat}, j ≤ fs.length → Go.Proofs.YtlbadjfcffoakaaDoor.lacks fs (lensOf c fs.length) j = false
  | 0, _ => rfl
  | j + 1, hj => by
    simp only [Go.Proofs.YtlbadjfcffoakaaDoor.lacks, h.lacks (j := j) (by omega), Bool.false_or]
    rw [lensOf_get c (by omega)]
    have := h.has j (by omega)
    by_cases e : 0 < fs.getD j 0
    · have := this.1 e
      rw [decide_eq_false (p := ((c j : Nat) : Int) = 0) (by omega)]; simp
    · rw [decide_eq_false e]; rfl
theorem nsOf_lens (c : Nat → Nat) {N i : Nat} (h : i < N) : (nsOf (lensOf c N)).getD i 0 = c i := by rw [nsOf_get, lensOf_get c h]; simp
theorem may_lens {c : Nat → Nat} {N : Nat} (hN : N ≤ 288) (h : ∀ i, i < N → c i ≤ 15) : may (lensOf c N) = true := by
  refine may_yes (by rw [lensOf_length]; exact hN) (fun i hi => ?_)
  rw [lensOf_length] at hi
  rw [lensOf_get c hi]
  have := h i hi
  omega
theorem share_lens {c : Nat → Nat} {fs : List Int} (h : ∀ i, i < fs.length → c i ≤ 15) (hh : ∀ i, i < fs.length → (0 < fs.getD i 0 ↔ 0 < c i)) : ew (nsOf (lensOf c fs.length)) 15 = ((comes fs fs.length).map fun s => 2 ^ (15 - c s)).sum := by
  have hl : (nsOf (lensOf c fs.length)).length = fs.length := by rw [nsOf_length, lensOf_length]
  rw [← shr_ew, hl, shr_comes (fs := fs)]
  · refine sum_congr (fun s hs => ?_)
    rw [nsOf_lens c (comes_lt hs).1]
  · intro i hi
    rw [nsOf_lens c hi, hh i hi]; omega
  · intro i
    by_cases hi : i < fs.length
    · rw [nsOf_lens c hi]; exact h i hi
    · rw [nsOf_get, lensOf_out c (by omega)]; simp
theorem best_of {fs : List Int} {mo : Nat} {c : Nat → Nat} {S l : List PT} (hN : fs.length ≤ 288) (h1 : 1 ≤ mo) (h2 : mo ≤ 15) (hasc : Asc S) (hlv : Leaves fs (comes fs fs.length) l) (hp : S.Perm l)
    (hc : (S.length ≤ 1 ∧ c = fun i => cntL i S) ∨ (2 ≤ S.length ∧ ∃ r, Lev S (mo - 1) r ∧ 2 * S.length - 2 ≤ r.length ∧ c = fun i => cntL i (r.take (2 * S.length - 2)))) : BestL fs mo c (S.map PT.wt) := by
  have hsg := sing_of hlv hp
  have hpm : (S.map sy).Perm (comes fs fs.length) := by rw [← hlv.sys]; exact hp.map sy
  have hsm : ∀ {s}, s ∈ S.map sy ↔ s < fs.length ∧ 0 < fs.getD s 0 := fun {s} => by rw [hpm.mem_iff, mem_comes]
  have hlen : S.length = (comes fs fs.length).length := by have := hpm.length_eq; simpa using this
  have hup : Up (S.map PT.wt) := asc_up hasc
  have hwp : (S.map PT.wt).Perm ((comes fs fs.length).map (frq fs)) := by
    have e : S.map PT.wt = (S.map sy).map (frq fs) := by
      rw [List.map_map]
      exact List.map_congr_left (fun t ht => (hsg.1 t ht).2.1)
    rw [e]
    exact hpm.map _
  have hsy : ∀ t ∈ S, ∀ s ∈ t.syms, s < fs.length := fun t ht s hs => by
    rw [(hsg.1 t ht).1] at hs
    simp at hs
    subst hs
    exact (hsm.1 (List.mem_map_of_mem ht)).1
  rcases hc with ⟨hS1, rfl⟩ | ⟨hS2, r, hr, hrl, rfl⟩
  · have hcnt : ∀ i, cntL i S = if i ∈ S.map sy then 1 else 0 := fun i => by
      have := cnt_take hsg i S.length
      rw [List.take_length, ← List.length_map (f := sy), List.take_length] at this
      exact this
    have htop : ∀ i, cntL i S ≤ 1 := fun i => by rw [hcnt]; split <;> omega
    have hhas : ∀ i, i < fs.length → (0 < fs.getD i 0 ↔ 0 < cntL i S) := fun i hi => by
      rw [hcnt]
      by_cases e : 0 < fs.getD i 0
      · rw [if_pos (hsm.2 ⟨hi, e⟩)]; exact ⟨fun _ => by omega, fun _ => e⟩
      · rw [if_neg (fun h => e (hsm.1 h).2)]; exact ⟨fun h => absurd h e, fun h => by omega⟩
    refine ⟨fun i _ => Nat.le_trans (htop i) h1, hhas, fun i k hi hk h3 h4 => ?_, ?_, fun h => by omega, hup, hwp, fun _ => ?_, fun h => by simp at h; omega, fun h => by simp at h; omega⟩
    · exfalso
      have m1 : i ∈ S.map sy := hsm.2 ⟨hi, by omega⟩
      have m2 : k ∈ S.map sy := hsm.2 ⟨hk, h4⟩
      obtain ⟨t, ht⟩ : ∃ t, S = [t] := List.length_eq_one_iff.1 (by
        have : 0 < (S.map sy).length := List.length_pos_of_mem m1
        rw [List.length_map] at this; omega)
      rw [ht] at m1 m2
      simp at m1 m2
      rw [← m1] at m2
      subst m2
      omega
    · rw [isCode_iff]
      refine ⟨may_lens hN (fun i _ => Nat.le_trans (htop i) (by omega)), ?_⟩
      rw [share_lens (fun i _ => Nat.le_trans (htop i) (by omega)) hhas]
      have h3 : ((comes fs fs.length).map fun s => 2 ^ (15 - cntL s S)).sum ≤ (comes fs fs.length).length * 16384 := by
        rw [sum_same (d := 16384)]
        · exact Nat.le_refl _
        · intro s hs
          rw [hcnt, if_pos (hpm.mem_iff.2 hs)]
      omega
    · rw [costTo_wsum (Nat.le_refl _), ← wtL_wsum hsg.ok hsy, wtL_sum]
  · have hk := Lev.kraft hsg hasc (2 * S.length - 2) hr hrl
    have e1 : mo - 1 + 1 = mo := by omega
    rw [e1] at hk
    have hK : (((S.map sy).map fun s => 2 ^ (mo - cntL s (r.take (2 * S.length - 2)))).sum) = 2 ^ mo := by
      have h := hk.2
      have e2 : 2 ^ mo = 2 * 2 ^ (mo - 1) := by rw [← e1, Nat.pow_succ, Nat.add_sub_cancel]; omega
      rw [e2] at h ⊢
      obtain ⟨P, hP⟩ : ∃ P, 2 ^ (mo - 1) = P := ⟨_, rfl⟩
      rw [hP] at h ⊢
      have e3 : (2 * S.length - 2) * P = 2 * (S.length * P) - 2 * P := by rw [Nat.sub_mul, Nat.mul_assoc]
      have e4 : S.length * (2 * P) = 2 * (S.length * P) := by rw [Nat.mul_left_comm]
      have e5 : 2 * P ≤ S.length * P := Nat.mul_le_mul_right P hS2
      rw [e3, e4] at h
      omega
    have htop : ∀ i, cntL i (r.take (2 * S.length - 2)) ≤ mo := hk.1
    have hone : ∀ i, i ∈ S.map sy → 0 < cntL i (r.take (2 * S.length - 2)) := fun i hi => by
      rcases Nat.eq_zero_or_pos (cntL i (r.take (2 * S.length - 2))) with h0 | h0
      · exfalso
        have := sum_more (f := fun s => 2 ^ (mo - cntL s (r.take (2 * S.length - 2)))) (fun s => Nat.pos_of_ne_zero (by simp)) hi
        rw [hK, h0, List.length_map] at this
        simp at this
        omega
      · exact h0
    have hnone : ∀ i, 0 < cntL i (r.take (2 * S.length - 2)) → i ∈ S.map sy := fun i h0 => Lev.mem hsg hr (Nat.lt_of_lt_of_le h0 (cntL_take_le i r _))
    have hhas : ∀ i, i < fs.length → (0 < fs.getD i 0 ↔ 0 < cntL i (r.take (2 * S.length - 2))) := fun i hi =>
      ⟨fun h => hone i (hsm.2 ⟨hi, h⟩), fun h => (hsm.1 (hnone i h)).2⟩
    have hshare : ew (nsOf (lensOf (fun i => cntL i (r.take (2 * S.length - 2))) fs.length)) 15 = 32768 := by
      rw [share_lens (fun i _ => Nat.le_trans (htop i) h2) hhas]
      have h3 : ((comes fs fs.length).map fun s => 2 ^ (15 - cntL s (r.take (2 * S.length - 2)))).sum = ((S.map sy).map fun s => 2 ^ (15 - cntL s (r.take (2 * S.length - 2)))).sum := (hpm.map _).sum_nat.symm
      rw [h3, sum_congr (g := fun s => 2 ^ (15 - mo) * 2 ^ (mo - cntL s (r.take (2 * S.length - 2)))) (fun s _ => by
        have := htop s
        rw [← Nat.pow_add]; congr 1; omega), sum_mul, hK, ← Nat.pow_add, show 15 - mo + mo = 15 by omega]
    have hmay := may_lens hN (fun i (_ : i < fs.length) => Nat.le_trans (htop i) h2)
    refine ⟨fun i _ => htop i, hhas, fun i k hi hk h3 h4 => ?_, ?_, fun _ => ?_, hup, hwp, fun h => by simp at h; omega, fun _ => ?_, fun _ k d hkd => ?_⟩
    · have m1 : i ∈ S.map sy := hsm.2 ⟨hi, by omega⟩
      have m2 : k ∈ S.map sy := hsm.2 ⟨hk, h4⟩
      obtain ⟨q, hq, rfl⟩ := List.getElem_of_mem m1
      obtain ⟨p, hpp, rfl⟩ := List.getElem_of_mem m2
      by_cases hpq : p ≤ q
      · exact Lev.falls hsg hasc hpq hq _ hr hrl
      · exfalso
        have hq' : q < S.length := by simpa using hq
        have hp' : p < S.length := by simpa using hpp
        have hw := List.pairwise_iff_getElem.1 hasc q p hq' hp' (by omega)
        have a1 := (hsg.1 S[q] (List.getElem_mem _)).2.1
        have a2 := (hsg.1 S[p] (List.getElem_mem _)).2.1
        have b1 : (S.map sy)[q] = sy S[q] := by simp
        have b2 : (S.map sy)[p] = sy S[p] := by simp
        rw [a1, a2] at hw
        rw [b1, b2] at h3
        unfold frq at hw
        rw [b2] at h4
        omega
    · rw [isCode_iff]
      exact ⟨hmay, by rw [hshare]; omega⟩
    · unfold shareV
      rw [if_pos hmay, hshare]; rfl
    · rw [costTo_wsum (Nat.le_refl _), ← wtL_wsum (fun t ht => Lev.ok hsg.ok hr t (List.mem_of_mem_take ht)) (fun t ht => Lev.syms hsy hr t (List.mem_of_mem_take ht)), wtL_sum, List.map_take, Lev.weights hasc hr, List.length_map]
    · rw [← hkd] at hr ⊢
      obtain ⟨l0, hl0, hpd⟩ := Lev.wider hasc d hr
      rw [← Lev.weights hasc hr, ← Lev.weights hasc hl0, List.length_map, List.length_map, ← List.map_take, ← List.map_take, ← wtL_sum, ← wtL_sum]
      by_cases hle : 2 * S.length - 2 ≤ l0.length
      · exact .inl (hpd.2 _ hle)
      · exact .inr (by omega)
end Go.Proofs.YtlbadjfcffoakaaDoor
