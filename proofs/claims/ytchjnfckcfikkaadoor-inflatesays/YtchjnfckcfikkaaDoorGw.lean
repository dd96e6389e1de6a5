/- The document's Codes (layer 4's seat: no Cost). -/
import Derived.Test.YtchjnfckcfikkaaDoorGs
import Derived.Test.YtchjnfckcfikkaaDoorGo1
import Derived.BigQuiet
import Derived.Deep.QuietTactic
namespace Go.Proofs.YtchjnfckcfikkaaDoor
open Go.RowKit
set_option linter.unusedVariables false

def rw1 (ns : List Nat) (l i s : Nat) : Nat := if ns.getD s 0 = 0 then 0 else if ns.getD s 0 < l ∨ (ns.getD s 0 = l ∧ s < i) then codeW ns s else 0
theorem rw1_step (ns : List Nat) (N l i : Nat) (hl : 1 ≤ l) (hg : ns.getD i 0 = l) : (lcells N (rw1 ns l i)).setIfInBounds i (.int .i64 ((fstW ns l + lcnt ns l i : Nat) : Int)) = lcells N (rw1 ns l (i + 1)) := by
  rw [lcells_set]
  refine lcells_congr (fun s _ => ?_)
  unfold rw1
  by_cases e : s = i
  · subst e
    rw [if_pos rfl, if_neg (by omega), if_pos (by omega)]
    unfold codeW; rw [hg]
  · rw [if_neg e]
    by_cases e0 : ns.getD s 0 = 0
    · rw [if_pos e0, if_pos e0]
    · rw [if_neg e0, if_neg e0]
      by_cases e2 : ns.getD s 0 < l ∨ (ns.getD s 0 = l ∧ s < i)
      · rw [if_pos e2, if_pos (by omega)]
      · rw [if_neg e2, if_neg (by omega)]
theorem rw1_skip (ns : List Nat) (N l i : Nat) (hg : ns.getD i 0 ≠ l) : lcells N (rw1 ns l i) = lcells N (rw1 ns l (i + 1)) := lcells_congr (fun s _ => by
  unfold rw1
  by_cases e0 : ns.getD s 0 = 0
  · rw [if_pos e0, if_pos e0]
  · rw [if_neg e0, if_neg e0]
    by_cases e2 : ns.getD s 0 < l ∨ (ns.getD s 0 = l ∧ s < i)
    · rw [if_pos e2, if_pos (by omega)]
    · rw [if_neg e2, if_neg (by
        intro h
        rcases h with h | ⟨h1, h2⟩
        · exact e2 (.inl h)
        · rcases Nat.lt_or_ge s i with h3 | h3
          · exact e2 (.inr ⟨h1, h3⟩)
          · have : s = i := by omega
            subst this; exact hg h1)])
theorem rw1_next (ns : List Nat) (l : Nat) : lcells ns.length (rw1 ns l ns.length) = lcells ns.length (rw1 ns (l + 1) 0) := lcells_congr (fun s hs => by
  unfold rw1
  by_cases e0 : ns.getD s 0 = 0
  · rw [if_pos e0, if_pos e0]
  · rw [if_neg e0, if_neg e0]
    by_cases e2 : ns.getD s 0 < l ∨ (ns.getD s 0 = l ∧ s < ns.length)
    · rw [if_pos e2, if_pos (by omega)]
    · rw [if_neg e2, if_neg (by omega)])
theorem rw1_start (ns : List Nat) (N : Nat) : lcells N (rw1 ns 1 0) = lcells N (fun _ => 0) := lcells_congr (fun s _ => by
  unfold rw1
  split
  · rfl
  · rw [if_neg (by omega)])
theorem rw1_end (ns : List Nat) (N : Nat) (h : ∀ i, ns.getD i 0 ≤ 15) : lcells N (rw1 ns 16 0) = lcells N (cw ns) := lcells_congr (fun s _ => by
  unfold rw1 cw
  by_cases e0 : ns.getD s 0 = 0
  · rw [if_pos e0, if_pos e0]
  · rw [if_neg e0, if_neg e0, if_pos (by have := h s; omega)])

set_option maxRecDepth 20000 in
set_option maxHeartbeats 4000000 in
theorem refCodes_ok (xs : List Int) (a : Option Addr) (c N : Nat) (w : World) (hN : xs.length = N) (hrow : IRow w a xs) (hlen : N ≤ 9223372036854775807) :
    Calls Tryd.prog 12 #[.slice a N c] w fun e w' => CodesEnd w xs e w' := by
  have HR : Hid (IRow w a xs) := hrow
  have HN : Hid (xs.length = N) := hN
  obtain ⟨q, hq⟩ : ∃ q, isCode xs = q := ⟨_, rfl⟩
  have hiff := isCode_iff xs
  rw [hq] at hiff
  have HM : Hid (∀ _ : Unit, Calls Tryd.prog 28 #[.slice a N c] w fun e w' => e = .returned (.bool q) ∧ w' = w) := fun _ => by rw [← hq]; exact may_ok xs a c N w hN hrow hlen
  have HIF : Hid (q = true ↔ (may xs = true ∧ ew (nsOf xs) 15 ≤ 32768)) := hiff
  clear hrow hN hq hiff
  go_enter Tryd.func12, Tryd.ntmps12
  cases q with
  | false =>
    go_wp2_with (go_at_call 28; refine (HM.out ()).mono ?_; rintro e w1 ⟨rfl, hw⟩; obtain rfl := hw.symm)
    go_ret2
    exact ⟨.inr ⟨(fun h => by have := HIF.out.2 h; cases this), rfl⟩, Below.refl _ _⟩
  | true =>
    have hMM := HIF.out.1 rfl
    have HOK : Hid (may xs = true ∧ ew (nsOf xs) 15 ≤ 32768) := hMM
    have hN288 : N ≤ 288 := by rw [← HN.out]; exact may_len hMM.1
    have HSM : Hid (∀ i l, i ≤ 288 → l ≤ 15 → nxt (nsOf xs) i l ≤ 18874656) := fun i l hi hl => nxt_small _ (by rw [nsOf_length, HN.out]; exact hN288) i l hi hl
    have H15 : Hid (∀ i, (nsOf xs).getD i 0 ≤ 15) := fun i => by rw [nsOf_get]; have := may_get hMM.1 i; omega
    obtain ⟨i0, hi, hz0, hz1, hz2⟩ := info_split intInfo
    have HI : Hid (Tryd.prog.info? 3 = some i0 ∧ i0.zero = some (.int .i64 0) ∧ i0.size = 1 ∧ i0.bytes = 8) := ⟨hi, hz0, hz1, hz2⟩
    have HMK := made_lcells N
    clear hi hz0 hz1 hz2 hMM
    go_wp2_with (first
      | (go_at_call 28; refine (HM.out ()).mono ?_; rintro e w1 ⟨rfl, hw⟩; obtain rfl := hw.symm)
      | (at_make; refine wpList_make_row _ rfl _ _ 29 rfl 3 i0 (.int .i64 0) Tryd.underlying29 HI.out.1 HI.out.2.1 HI.out.2.2.1 rfl .i64 .i64 N rfl rfl (by rw [HI.out.2.2.2]; omega) (by omega) ?_; rw [HMK]))
    go_loopw [5, 6, 7] (fun v5 v6 _ wr => ∃ (l E : Nat), v6 = .int .i64 l ∧ 1 ≤ l ∧ l ≤ 16 ∧ v5 = .int .i64 (E : Int) ∧ wr = w.alloc (.cells (lcells N (rw1 (nsOf xs) l 0)) 3) ∧ Hid (E = ew (nsOf xs) (l - 1))) (fun _ v6 _ _ => 17 - (intOf v6).toNat)
    case atStart => exact ⟨1, 0, rfl, by omega, by omega, rfl, by rw [rw1_start], rfl⟩
    case round =>
      obtain ⟨l, E, rfl, hl1, hl2, rfl, rfl, HE⟩ := hrel
      by_cases hll : l ≤ 15
      · have hlli : (l : Int) ≤ 15 := by omega
        have hEb : E ≤ 9437184 := by
          rw [HE.out]
          exact ew_small _ (by rw [nsOf_length, HN.out]; exact hN288) _ (by omega)
        have hfw : Hid (2 * E = fstW (nsOf xs) l) := by show _ = _; rw [fstW_ew _ _ hl1, HE.out]
        go_wp2
        go_loopw [5, 7] (fun v5 v7 wr => ∃ (i V : Nat), v7 = .int .i64 i ∧ i ≤ N ∧ v5 = .int .i64 (V : Int) ∧ wr = w.alloc (.cells (lcells N (rw1 (nsOf xs) l i)) 3) ∧ Hid (V = fstW (nsOf xs) l + lcnt (nsOf xs) l i)) (fun _ v7 _ => N - (intOf v7).toNat)
        case atStart => exact ⟨0, 2 * E, rfl, by omega, by go_num, rfl, by show _ = _; rw [hfw.out]; rfl⟩
        case round =>
          obtain ⟨i, V, rfl, hi, rfl, rfl, HV⟩ := hrel
          have hVb : V ≤ 18874656 := by
            have := HSM.out i l (by omega) hll
            unfold nxt at this
            rw [if_neg (by omega)] at this
            rw [HV.out]; exact this
          by_cases hlt : i < N
          · have hlti : (i : Int) < (N : Int) := by omega
            obtain ⟨b, off, rfl, hcell, hb⟩ := HR.out.at (show i < xs.length by rw [HN.out]; exact hlt)
            obtain ⟨f, hf⟩ : ∃ f : Nat, xs.getD i 0 = (f : Int) := ⟨(xs.getD i 0).toNat, by have := (may_get HOK.out.1 i).1; omega⟩
            have hfn : (nsOf xs).getD i 0 = f := by rw [nsOf_get, hf]; simp
            rw [hf] at hcell
            have hcell2 : ∀ o1, (w.alloc o1).cell? ⟨b, off + i, none⟩ = some (.int .i64 (f : Int)) := fun o1 => by rw [World.cell?_alloc_past _ _ _ hb]; exact hcell
            have HFN : Hid ((nsOf xs).getD i 0 = f) := hfn
            clear hcell hf hfn hb
            by_cases he : f = l
            · subst he
              have hCg := lcells_get N (rw1 (nsOf xs) f i) i hlt
              have hs := rw1_step (nsOf xs) N f i hl1 HFN.out
              rw [← HV.out] at hs
              obtain ⟨C, hCC⟩ : ∃ C, lcells N (rw1 (nsOf xs) f i) = C := ⟨_, rfl⟩
              rw [hCC] at hs hCg
              rw [hCC]
              have HS : Hid (C.setIfInBounds i (.int .i64 (V : Int)) = lcells N (rw1 (nsOf xs) f (i + 1))) := hs
              have H2 : Hid (V + 1 = fstW (nsOf xs) f + lcnt (nsOf xs) f (i + 1)) := by
                show _ = _
                simp only [lcnt]
                rw [if_pos HFN.out, HV.out]; omega
              clear hs hCC
              go_wp2
              refine ⟨⟨i + 1, V + 1, by go_num, by omega, by go_num, ?_, H2⟩, by simp [intOf]; omega⟩
              rw [← HS.out]
            · have hei : ¬ (f : Int) = (l : Int) := by omega
              have heb : ((f : Int) == (l : Int)) = false := by simpa using hei
              have hs := rw1_skip (nsOf xs) N l i (by rw [HFN.out]; exact he)
              have H2 : Hid (V = fstW (nsOf xs) l + lcnt (nsOf xs) l (i + 1)) := by
                show _ = _
                simp only [lcnt]
                rw [if_neg (by rw [HFN.out]; exact he), HV.out]; rfl
              rw [hs]
              clear hs
              go_wp2
              exact ⟨⟨i + 1, V, by go_num, by omega, rfl, rfl, H2⟩, by simp [intOf]; omega⟩
          · obtain rfl : i = N := by omega
            have hnx : lcells i (rw1 (nsOf xs) l i) = lcells i (rw1 (nsOf xs) (l + 1) 0) := by
              have := rw1_next (nsOf xs) l
              rw [nsOf_length, HN.out] at this
              exact this
            have H2 : Hid (V = ew (nsOf xs) (l + 1 - 1)) := by
              show _ = _
              rw [HV.out, Nat.add_sub_cancel]
              obtain ⟨k, rfl⟩ : ∃ k, l = k + 1 := ⟨l - 1, by omega⟩
              rw [show i = (nsOf xs).length by rw [nsOf_length, HN.out]]
              rfl
            rw [hnx]
            clear hnx
            go_wp2
            exact ⟨⟨l + 1, V, by go_num, by omega, by omega, rfl, rfl, H2⟩, by simp [intOf]; omega⟩
      · obtain rfl : l = 16 := by omega
        rw [rw1_end _ _ H15.out]
        go_wp2
        go_ret2
        refine ⟨.inl ⟨HOK.out.1, HOK.out.2, w.heap.size, by rw [HN.out]; rfl, ?_, Nat.le_refl _⟩, (Below.refl _ _).alloc (Nat.le_refl _) _⟩
        rw [HN.out]
        exact heap_alloc_last w (.cells (lcells N (cw (nsOf xs))) 3)
end Go.Proofs.YtchjnfckcfikkaaDoor
