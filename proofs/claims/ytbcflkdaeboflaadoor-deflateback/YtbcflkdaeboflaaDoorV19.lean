/- The document's Codes (layer 4's seat: no Cost). -/
/- The document's reader: Full, made, the fixed codes. -/
import Derived.Test.YtbcflkdaeboflaaDoorV14
import Derived.Test.YtbcflkdaeboflaaDoorV06
import Derived.BigQuiet
import Derived.Deep.QuietTactic
import Derived.Test.YtbcflkdaeboflaaDoorV18
namespace Go.Proofs.YtbcflkdaeboflaaDoor
open Go.RowKit
set_option linter.unusedVariables false
set_option maxRecDepth 20000

def rw1 (ns : List Nat) (l i s : Nat) : Nat := if ns.getD s 0 = 0 then 0 else if ns.getD s 0 < l ∨ (ns.getD s 0 = l ∧ s < i) then codeW ns s else 0
theorem rw1_step (ns : List Nat) (N l i : Nat) (hl : 1 ≤ l) (hg : ns.getD i 0 = l) : (lcells N (rw1 ns l i)).setIfInBounds i (.int .i64 ((fstW ns l + lcnt ns l i : Nat) : Int)) = lcells N (rw1 ns l (i + 1)) := by
  rw [lcells_set]
  refine lcells_congr (fun s _ => ?_)
  unfold rw1
  by_cases e : s = i
  · subst e
    rw [if_pos rfl, if_neg (by omega), if_pos (by omega)]
    unfold codeW; rw [hg]
  · rw [if_neg e]
    by_cases e0 : ns.getD s 0 = 0
    · rw [if_pos e0, if_pos e0]
    · rw [if_neg e0, if_neg e0]
      by_cases e2 : ns.getD s 0 < l ∨ (ns.getD s 0 = l ∧ s < i)
      · rw [if_pos e2, if_pos (by omega)]
      · rw [if_neg e2, if_neg (by omega)]
theorem rw1_skip (ns : List Nat) (N l i : Nat) (hg : ns.getD i 0 ≠ l) : lcells N (rw1 ns l i) = lcells N (rw1 ns l (i + 1)) := lcells_congr (fun s _ => by
  unfold rw1
  by_cases e0 : ns.getD s 0 = 0
  · rw [if_pos e0, if_pos e0]
  · rw [if_neg e0, if_neg e0]
    by_cases e2 : ns.getD s 0 < l ∨ (ns.getD s 0 = l ∧ s < i)
    · rw [if_pos e2, if_pos (by omega)]
    · rw [if_neg e2, if_neg (by
        intro h
        rcases h with h | ⟨h1, h2⟩
        · exact e2 (.inl h)
        · rcases Nat.lt_or_ge s i with h3 | h3
          · exact e2 (.inr ⟨h1, h3⟩)
          · have : s = i := by omega
            subst this; exact hg h1)])
theorem rw1_next (ns : List Nat) (l : Nat) : lcells ns.length (rw1 ns l ns.length) = lcells ns.length (rw1 ns (l + 1) 0) := lcells_congr (fun s hs => by
  unfold rw1
  by_cases e0 : ns.getD s 0 = 0
  · rw [if_pos e0, if_pos e0]
  · rw [if_neg e0, if_neg e0]
    by_cases e2 : ns.getD s 0 < l ∨ (ns.getD s 0 = l ∧ s < ns.length)
    · rw [if_pos e2, if_pos (by omega)]
    · rw [if_neg e2, if_neg (by omega)])
theorem rw1_start (ns : List Nat) (N : Nat) : lcells N (rw1 ns 1 0) = lcells N (fun _ => 0) := lcells_congr (fun s _ => by
  unfold rw1
  split
  · rfl
  · rw [if_neg (by omega)])
theorem rw1_end (ns : List Nat) (N : Nat) (h : ∀ i, ns.getD i 0 ≤ 15) : lcells N (rw1 ns 16 0) = lcells N (cw ns) := lcells_congr (fun s _ => by
  unfold rw1 cw
  by_cases e0 : ns.getD s 0 = 0
  · rw [if_pos e0, if_pos e0]
  · rw [if_neg e0, if_neg e0, if_pos (by have := h s; omega)])

set_option maxRecDepth 20000 in
set_option maxHeartbeats 4000000 in
theorem refCodes_ok (xs : List Int) (a : Option Addr) (c N : Nat) (w : World) (hN : xs.length = N) (hrow : IRow w a xs) (hlen : N ≤ 9223372036854775807) :
    Calls Tryd.prog 57 #[.slice a N c] w fun e w' => CodesEnd w xs e w' := by
  have HR : Hid (IRow w a xs) := hrow
  have HN : Hid (xs.length = N) := hN
  obtain ⟨q, hq⟩ : ∃ q, isCode xs = q := ⟨_, rfl⟩
  have hiff := isCode_iff xs
  rw [hq] at hiff
  have HM : Hid (∀ _ : Unit, Calls Tryd.prog 73 #[.slice a N c] w fun e w' => e = .returned (.bool q) ∧ w' = w) := fun _ => by rw [← hq]; exact may_ok xs a c N w hN hrow hlen
  have HIF : Hid (q = true ↔ (may xs = true ∧ ew (nsOf xs) 15 ≤ 32768)) := hiff
  clear hrow hN hq hiff
  go_enter Tryd.func57, Tryd.ntmps57
  cases q with
  | false =>
    go_wp2_with (go_at_call 73; refine (HM.out ()).mono ?_; rintro e w1 ⟨rfl, hw⟩; obtain rfl := hw.symm)
    go_ret2
    exact ⟨.inr ⟨(fun h => by have := HIF.out.2 h; cases this), rfl⟩, Below.refl _ _⟩
  | true =>
    have hMM := HIF.out.1 rfl
    have HOK : Hid (may xs = true ∧ ew (nsOf xs) 15 ≤ 32768) := hMM
    have hN288 : N ≤ 288 := by rw [← HN.out]; exact may_len hMM.1
    have HSM : Hid (∀ i l, i ≤ 288 → l ≤ 15 → nxt (nsOf xs) i l ≤ 18874656) := fun i l hi hl => nxt_small _ (by rw [nsOf_length, HN.out]; exact hN288) i l hi hl
    have H15 : Hid (∀ i, (nsOf xs).getD i 0 ≤ 15) := fun i => by rw [nsOf_get]; have := may_get hMM.1 i; omega
    obtain ⟨i0, hi, hz0, hz1, hz2⟩ := info_split intInfo
    have HI : Hid (Tryd.prog.info? 3 = some i0 ∧ i0.zero = some (.int .i64 0) ∧ i0.size = 1 ∧ i0.bytes = 8) := ⟨hi, hz0, hz1, hz2⟩
    have HMK := made_lcells N
    clear hi hz0 hz1 hz2 hMM
    go_wp2_with (first
      | (go_at_call 73; refine (HM.out ()).mono ?_; rintro e w1 ⟨rfl, hw⟩; obtain rfl := hw.symm)
      | (at_make; refine wpList_make_row _ rfl _ _ 44 rfl 3 i0 (.int .i64 0) Tryd.underlying44 HI.out.1 HI.out.2.1 HI.out.2.2.1 rfl .i64 .i64 N rfl rfl (by rw [HI.out.2.2.2]; omega) (by omega) ?_; rw [HMK]))
    go_loopw [5, 6, 7] (fun v5 v6 _ wr => ∃ (l E : Nat), v6 = .int .i64 l ∧ 1 ≤ l ∧ l ≤ 16 ∧ v5 = .int .i64 (E : Int) ∧ wr = w.alloc (.cells (lcells N (rw1 (nsOf xs) l 0)) 3) ∧ Hid (E = ew (nsOf xs) (l - 1))) (fun _ v6 _ _ => 17 - (intOf v6).toNat)
    case atStart => exact ⟨1, 0, rfl, by omega, by omega, rfl, by rw [rw1_start], rfl⟩
    case round =>
      obtain ⟨l, E, rfl, hl1, hl2, rfl, rfl, HE⟩ := hrel
      by_cases hll : l ≤ 15
      · have hlli : (l : Int) ≤ 15 := by omega
        have hEb : E ≤ 9437184 := by
          rw [HE.out]
          exact ew_small _ (by rw [nsOf_length, HN.out]; exact hN288) _ (by omega)
        have hfw : Hid (2 * E = fstW (nsOf xs) l) := by show _ = _; rw [fstW_ew _ _ hl1, HE.out]
        go_wp2
        go_loopw [5, 7] (fun v5 v7 wr => ∃ (i V : Nat), v7 = .int .i64 i ∧ i ≤ N ∧ v5 = .int .i64 (V : Int) ∧ wr = w.alloc (.cells (lcells N (rw1 (nsOf xs) l i)) 3) ∧ Hid (V = fstW (nsOf xs) l + lcnt (nsOf xs) l i)) (fun _ v7 _ => N - (intOf v7).toNat)
        case atStart => exact ⟨0, 2 * E, rfl, by omega, by go_num, rfl, by show _ = _; rw [hfw.out]; rfl⟩
        case round =>
          obtain ⟨i, V, rfl, hi, rfl, rfl, HV⟩ := hrel
          have hVb : V ≤ 18874656 := by
            have := HSM.out i l (by omega) hll
            unfold nxt at this
            rw [if_neg (by omega)] at this
            rw [HV.out]; exact this
          by_cases hlt : i < N
          · have hlti : (i : Int) < (N : Int) := by omega
            obtain ⟨b, off, rfl, hcell, hb⟩ := HR.out.at (show i < xs.length by rw [HN.out]; exact hlt)
            obtain ⟨f, hf⟩ : ∃ f : Nat, xs.getD i 0 = (f : Int) := ⟨(xs.getD i 0).toNat, by have := (may_get HOK.out.1 i).1; omega⟩
            have hfn : (nsOf xs).getD i 0 = f := by rw [nsOf_get, hf]; simp
            rw [hf] at hcell
            have hcell2 : ∀ o1, (w.alloc o1).cell? ⟨b, off + i, none⟩ = some (.int .i64 (f : Int)) := fun o1 => by rw [World.cell?_alloc_past _ _ _ hb]; exact hcell
            have HFN : Hid ((nsOf xs).getD i 0 = f) := hfn
            clear hcell hf hfn hb
            by_cases he : f = l
            · subst he
              have hCg := lcells_get N (rw1 (nsOf xs) f i) i hlt
              have hs := rw1_step (nsOf xs) N f i hl1 HFN.out
              rw [← HV.out] at hs
              obtain ⟨C, hCC⟩ : ∃ C, lcells N (rw1 (nsOf xs) f i) = C := ⟨_, rfl⟩
              rw [hCC] at hs hCg
              rw [hCC]
              have HS : Hid (C.setIfInBounds i (.int .i64 (V : Int)) = lcells N (rw1 (nsOf xs) f (i + 1))) := hs
              have H2 : Hid (V + 1 = fstW (nsOf xs) f + lcnt (nsOf xs) f (i + 1)) := by
                show _ = _
                simp only [lcnt]
                rw [if_pos HFN.out, HV.out]; omega
              clear hs hCC
              go_wp2
              refine ⟨⟨i + 1, V + 1, by go_num, by omega, by go_num, ?_, H2⟩, by simp [intOf]; omega⟩
              rw [← HS.out]
            · have hei : ¬ (f : Int) = (l : Int) := by omega
              have heb : ((f : Int) == (l : Int)) = false := by simpa using hei
              have hs := rw1_skip (nsOf xs) N l i (by rw [HFN.out]; exact he)
              have H2 : Hid (V = fstW (nsOf xs) l + lcnt (nsOf xs) l (i + 1)) := by
                show _ = _
                simp only [lcnt]
                rw [if_neg (by rw [HFN.out]; exact he), HV.out]; rfl
              rw [hs]
              clear hs
              go_wp2
              exact ⟨⟨i + 1, V, by go_num, by omega, rfl, rfl, H2⟩, by simp [intOf]; omega⟩
          · obtain rfl : i = N := by omega
            have hnx : lcells i (rw1 (nsOf xs) l i) = lcells i (rw1 (nsOf xs) (l + 1) 0) := by
              have := rw1_next (nsOf xs) l
              rw [nsOf_length, HN.out] at this
              exact this
            have H2 : Hid (V = ew (nsOf xs) (l + 1 - 1)) := by
              show _ = _
              rw [HV.out, Nat.add_sub_cancel]
              obtain ⟨k, rfl⟩ : ∃ k, l = k + 1 := ⟨l - 1, by omega⟩
              rw [show i = (nsOf xs).length by rw [nsOf_length, HN.out]]
              rfl
            rw [hnx]
            clear hnx
            go_wp2
            exact ⟨⟨l + 1, V, by go_num, by omega, by omega, rfl, rfl, H2⟩, by simp [intOf]; omega⟩
      · obtain rfl : l = 16 := by omega
        rw [rw1_end _ _ H15.out]
        go_wp2
        go_ret2
        refine ⟨.inl ⟨HOK.out.1, HOK.out.2, w.heap.size, by rw [HN.out]; rfl, ?_, Nat.le_refl _⟩, (Below.refl _ _).alloc (Nat.le_refl _) _⟩
        rw [HN.out]
        exact heap_alloc_last w (.cells (lcells N (cw (nsOf xs))) 3)
end Go.Proofs.YtbcflkdaeboflaaDoor
namespace Go.Proofs.YtbcflkdaeboflaaDoor
open Go.RowKit
set_option linter.unusedVariables false
set_option maxRecDepth 20000

theorem nsOf_inN (ns : List Nat) : nsOf (inN ns) = ns := nsOf_ints ns
theorem wholeB_share (xs : List Int) : wholeB xs = decide (shareV xs = 32768) := by
  unfold wholeB shareV
  cases may xs with
  | true =>
    simp only [if_true, Bool.true_and]
    by_cases e : ew (nsOf xs) 15 = 32768
    · rw [decide_eq_true e, decide_eq_true (by omega)]
    · rw [decide_eq_false e, decide_eq_false (by omega)]
  | false => rfl
set_option maxRecDepth 20000 in
theorem rfull_ok (xs : List Int) (a : Option Addr) (c N : Nat) (w : World) (hN : xs.length = N) (hrow : IRow w a xs) (hlen : N ≤ 9223372036854775807) :
    Calls Tryd.prog 39 #[.slice a N c] w fun e w' => e = .returned (.bool (wholeB xs)) ∧ w' = w := by
  have hs := share_ok xs a c N w hN hrow hlen
  have hc := wholeB_share xs
  obtain ⟨V, hV⟩ : ∃ V, shareV xs = V := ⟨_, rfl⟩
  rw [hV] at hs hc
  have HS : Hid (∀ _ : Unit, Calls Tryd.prog 60 #[.slice a N c] w fun e w' => e = .returned (.int .i64 V) ∧ w' = w) := fun _ => hs
  have HC : Hid (wholeB xs = decide (V = 32768)) := hc
  clear hs hV hN hrow hc
  go_enter Tryd.func39, Tryd.ntmps39
  by_cases h0 : V = 32768
  · subst h0
    go_wp2_with (go_at_call 60; refine (HS.out ()).mono ?_; rintro e w1 ⟨rfl, hw⟩; obtain rfl := hw.symm)
    go_ret
    exact ⟨by rw [HC.out]; rfl, rfl⟩
  · have hb : (V == 32768) = false := by simpa using h0
    go_wp2_with (go_at_call 60; refine (HS.out ()).mono ?_; rintro e w1 ⟨rfl, hw⟩; obtain rfl := hw.symm)
    go_ret
    exact ⟨by rw [HC.out]; simp [h0], rfl⟩
/-- What made tells: the lengths' row, and the words' where it is a code. -/
def MadeEnd (w : World) (a : Option Addr) (N c : Nat) (xs : List Int) (en : Ending) (w' : World) : Prop :=
  Below w.heap.size w w' ∧ ∃ ya yn yc, en = .returned (.agg #[.slice a N c, .slice ya yn yc]) ∧ (may xs = true → ew (nsOf xs) 15 ≤ 32768 → ∃ L, ya = some ⟨L, 0, none⟩ ∧ yn = N ∧ yc = N ∧ LB w' L N (cw (nsOf xs)) ∧ w.heap.size ≤ L)
theorem results_two {fn : Func} {p q : Tmp} {ty : TypeId} (h : fn.results = #[.cell p ty, .cell q ty]) (tmps : Array Value) (P : Program) (w : World) :
    (results fn tmps).run P w = ((asAddr (tmps.getD p undef)).run P w).andThen fun a w₁ => ((loadVar ty a).run P w₁).andThen fun v w₂ => ((asAddr (tmps.getD q undef)).run P w₂).andThen fun b w₃ => ((loadVar ty b).run P w₃).andThen fun u w₄ => .ok (.tuple #[v, u]) w₄ := by
  simp only [results, h]
  simp [Sem.run_bind, Result.andThen]
theorem code_blk {w : World} {g : Nat} {x y : Value} (h : w.heap[g]? = some (.cells #[x, y] 46 (0, 0))) : w.cell? ⟨g, 0, none⟩ = some x ∧ w.cell? ⟨g, 1, none⟩ = some y ∧ w.frozen? ⟨g, 0, none⟩ = false ∧ w.frozen? ⟨g, 1, none⟩ = false := by
  exact ⟨by simp [World.cell?, h], by simp [World.cell?, h], by simp [World.frozen?, h], by simp [World.frozen?, h]⟩
theorem LB.away {w w' : World} {L n g : Nat} {f : Nat → Nat} (h : LB w L n f) (ho : Only g w w') (hg : L ≠ g) : LB w' L n f := (ho.block L (lt_of_block h) hg).trans h
set_option maxRecDepth 20000 in
set_option maxHeartbeats 1000000 in
theorem rmade_ok (xs : List Int) (a : Option Addr) (c N : Nat) (w : World) (hN : xs.length = N) (hrow : IRow w a xs) (hlen : N ≤ 9223372036854775807) :
    Calls Tryd.prog 36 #[.slice a N c] w fun e w' => MadeEnd w a N c xs e w' := by
  obtain ⟨o, hoo⟩ : ∃ o, Obj.cells #[Value.slice none 0 0, Value.slice none 0 0] 46 = o := ⟨_, rfl⟩
  have hrow0 : IRow (w.alloc o) a xs := by
    rcases hrow with e | ⟨b, off, e, hlt, h⟩
    · exact .inl e
    · exact .inr ⟨b, off, e, by simp; omega, fun i hi => by rw [World.cell?_alloc_past _ _ _ hlt]; exact h i hi⟩
  have HC : Hid (∀ _ : Unit, Calls Tryd.prog 57 #[.slice a N c] (w.alloc o) fun e w' => CodesEnd (w.alloc o) xs e w') := fun _ => refCodes_ok xs a c N (w.alloc o) hN hrow0 hlen
  have HN : Hid (xs.length = N) := hN
  have HB0 : Hid (Below w.heap.size w (w.alloc o) ∧ (w.alloc o).heap[w.heap.size]? = some o ∧ (w.alloc o).heap.size = w.heap.size + 1) := ⟨(Below.refl _ _).alloc (Nat.le_refl _) _, heap_alloc_new w o, by simp⟩
  obtain ⟨W0, hW0⟩ : ∃ W, w.alloc o = W := ⟨_, rfl⟩
  rw [hW0] at HC HB0
  clear hN hrow hrow0
  go_enter Tryd.func36, Tryd.ntmps36
  go_wp2_with fail
  try rw [hoo]
  try rw [hW0]
  have HOO : Hid (Obj.cells #[Value.slice none 0 0, Value.slice none 0 0] 46 = o) := hoo
  clear hW0 hoo
  refine (HC.out ()).mono ?_
  rintro e w1 ⟨⟨h1, h2, L, rfl, h3, h4⟩ | ⟨h1, rfl⟩, hb⟩
  · rw [HN.out] at h3 ⊢
    have hblk : w1.heap[w.heap.size]? = some (.cells #[Value.slice none 0 0, Value.slice none 0 0] 46) := by
      rw [hb.block _ (by rw [HB0.out.2.2]; omega), HB0.out.2.1, HOO.out]
    obtain ⟨c0, c1, f0, f1⟩ := code_blk hblk
    have HE : Hid (LB w1 L N (cw (nsOf xs)) ∧ W0.heap.size ≤ L ∧ Below w.heap.size w w1) := ⟨h3, h4, HB0.out.1.trans (hb.mono HB0.out.1.size)⟩
    have HEND : Hid (∀ x y, MadeEnd w a N c xs (.returned (.agg #[.slice a N c, .slice (some ⟨L, 0, none⟩) N N])) ((w1.setCell ⟨w.heap.size, 0, none⟩ x).setCell ⟨w.heap.size, 1, none⟩ y)) := fun x y => by
      have hon : Only w.heap.size w1 ((w1.setCell ⟨w.heap.size, 0, none⟩ x).setCell ⟨w.heap.size, 1, none⟩ y) := (Only.setCell _ 0 w1 _).trans (Only.setCell _ 1 _ _)
      have hLn : w.heap.size < L := by have := HE.out.2.1; have := HB0.out.2.2; omega
      refine ⟨HE.out.2.2.trans ⟨hon.os, hon.tape, hon.output, hon.size, fun k hk => hon.block k (Nat.lt_of_lt_of_le hk HE.out.2.2.size) (by omega)⟩, _, _, _, rfl, fun _ _ => ⟨L, rfl, rfl, rfl, HE.out.1.away hon (by omega), by omega⟩⟩
    clear h1 h2 h3 h4 hb HC hblk
    go_wp2
    refine bodyPost_ret (v := .agg #[.slice a N c, .slice (some ⟨L, 0, none⟩) N N]) ?_ rfl ?_
    · rw [results_cell rfl]
      go_simp
    exact HEND.out _ _
  · have hblk : w1.heap[w.heap.size]? = some (.cells #[Value.slice none 0 0, Value.slice none 0 0] 46) := by
      rw [hb.block _ (by rw [HB0.out.2.2]; omega), HB0.out.2.1, HOO.out]
    obtain ⟨c0, c1, f0, f1⟩ := code_blk hblk
    have HE : Hid (¬ (may xs = true ∧ ew (nsOf xs) 15 ≤ 32768) ∧ Below w.heap.size w w1) := ⟨h1, HB0.out.1.trans (hb.mono HB0.out.1.size)⟩
    have HEND : Hid (∀ x y, MadeEnd w a N c xs (.returned (.agg #[.slice a N c, .slice none 0 0])) ((w1.setCell ⟨w.heap.size, 0, none⟩ x).setCell ⟨w.heap.size, 1, none⟩ y)) := fun x y => by
      have hon : Only w.heap.size w1 ((w1.setCell ⟨w.heap.size, 0, none⟩ x).setCell ⟨w.heap.size, 1, none⟩ y) := (Only.setCell _ 0 w1 _).trans (Only.setCell _ 1 _ _)
      exact ⟨HE.out.2.trans ⟨hon.os, hon.tape, hon.output, hon.size, fun k hk => hon.block k (Nat.lt_of_lt_of_le hk HE.out.2.size) (by omega)⟩, _, _, _, rfl, fun a b => (HE.out.1 ⟨a, b⟩).elim⟩
    clear h1 hb HC hblk
    go_wp2
    refine bodyPost_ret (v := .agg #[.slice a N c, .slice none 0 0]) ?_ rfl ?_
    · rw [results_cell rfl]
      go_simp
    exact HEND.out _ _
theorem cw_le {ns : List Nat} (h15 : ∀ i, ns.getD i 0 ≤ 15) (hl : ns.length ≤ 288) (hf : ew ns 15 ≤ 32768) (i : Nat) (hi : i < ns.length) : cw ns i ≤ 32768 := by
  have hm : may (inN ns) = true := may_yes (by rw [inN_length]; exact hl) (fun j hj => by rw [inN_get]; have := h15 j; omega)
  have := cw_fits hm (by rw [nsOf_inN]; exact hf) i (by rw [inN_length]; exact hi)
  rw [nsOf_inN] at this
  have h2 : 2 ^ ns.getD i 0 ≤ 2 ^ 15 := Nat.pow_le_pow_right (by decide) (h15 i)
  omega
theorem may_inN {ns : List Nat} (h15 : ∀ i, ns.getD i 0 ≤ 15) (hl : ns.length ≤ 288) : may (inN ns) = true := may_yes (by rw [inN_length]; exact hl) (fun j hj => by rw [inN_get]; have := h15 j; omega)
/-- What was made of a code's lengths is a code. -/
theorem MadeEnd.code {w w' : World} {K : Nat → Prop} {a : Option Addr} {c : Nat} {ns : List Nat} {en : Ending} (h : MadeEnd w a ns.length c (inN ns) en w') (hrow : IRow w a (inN ns)) (ha : ∀ b o, a = some ⟨b, o, none⟩ → K b) (h15 : ∀ i, ns.getD i 0 ≤ 15) (hl : ns.length ≤ 288) (hf : ew ns 15 ≤ 32768) (hn : ∀ k, w.heap.size ≤ k → k < w'.heap.size → K k) :
    Below w.heap.size w w' ∧ ∃ cv, en = .returned cv ∧ CodeAt w' K cv ns := by
  obtain ⟨hb, ya, yn, yc, rfl, hy⟩ := h
  obtain ⟨L, rfl, rfl, rfl, hL, hLw⟩ := hy (may_inN h15 hl) (by rw [nsOf_inN]; exact hf)
  rw [nsOf_inN] at hL
  have hLlt : L < w'.heap.size := lt_of_block hL
  refine ⟨hb, _, rfl, a, c, some ⟨L, 0, none⟩, ns.length, rfl, ?_, ?_, ha, ?_, hl, h15, fun i hi => cw_le h15 hl hf i hi⟩
  · rcases hrow with e | ⟨b, off, e, hlt, hc⟩
    · exact .inl e
    · refine .inr ⟨b, off, e, Nat.lt_of_lt_of_le hlt hb.size, fun i hi => ?_⟩
      rw [← hc i hi]
      simp only [World.cell?, hb.block b hlt]
  · have := hL.row
    have e : inN (cwL ns) = (List.range ns.length).map fun i => ((cw ns i : Nat) : Int) := by
      unfold inN cwL
      rw [List.map_map]; rfl
    rw [e]; exact this
  · intro b o e
    cases e
    exact hn L hLw hLlt
/-- A row of the call's own, as a row of numbers. -/
theorem RI.row {w : World} {K : Nat → Prop} {ao : Option Addr} {n cp : Nat} {xs : List Nat} (h : RI w K (.slice ao n cp) xs) : IRow w ao (inN xs) ∧ (∀ b o, ao = some ⟨b, o, none⟩ → ¬ K b ∧ b < w.heap.size) := by
  rcases h.own.2 with ⟨e, h0⟩ | ⟨g, cap, cur, e1, e2, e3, e4⟩
  · have hx : xs = [] := List.length_eq_zero_iff.1 h0
    subst hx
    cases e
    exact ⟨.inl rfl, fun b o e => by cases e⟩
  · have ex : ao = some ⟨g, 0, none⟩ := by cases e1; rfl
    subst ex
    refine ⟨.inr ⟨g, 0, rfl, lt_of_block e3, fun i hi => ?_⟩, fun b o e => by cases e; exact ⟨h.ko g rfl, lt_of_block e3⟩⟩
    have hi' : i < xs.length := by rw [inN_length] at hi; exact hi
    have hc := h.own.cells (g := g) rfl i (.int .i64 (xs.getD i 0 : Nat)) (by
      unfold icl
      rw [List.getElem?_map, List.getElem?_eq_getElem hi']
      simp [List.getD_eq_getElem?_getD, List.getElem?_eq_getElem hi'])
    rw [add_zero_addr] at hc
    rw [inN_get, Nat.zero_add]
    exact hc
theorem RI.nil (w : World) (K : Nat → Prop) (hk : ∀ k, K k → k < w.heap.size) : RI w K (.slice none 0 0) [] := ⟨⟨rfl, .inl ⟨rfl, rfl⟩⟩, hk, fun g h => by simp [Value.ownBlock] at h⟩
theorem RI.newer {w w' : World} {K K' : Nat → Prop} {v : Value} {xs : List Nat} (h : RI w K v xs) (hb : Below w.heap.size w w') (hk : ∀ k, K' k → k < w'.heap.size) (ho : ∀ g, v.ownBlock = some g → ¬ K' g) : RI w' K' v xs := by
  refine ⟨⟨h.own.1, ?_⟩, hk, ho⟩
  rcases h.own.2 with e | ⟨g, cap, cur, e1, e2, e3, e4⟩
  · exact .inl e
  · exact .inr ⟨g, cap, cur, e1, e2, by rw [hb.block g (lt_of_block e3)]; exact e3, e4⟩
end Go.Proofs.YtbcflkdaeboflaaDoor
