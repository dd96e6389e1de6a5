/- The document's share of lengths. -/
import Derived.Test.YtchjnfckcfikkaaDoorGm
namespace Go.Proofs.YtchjnfckcfikkaaDoor
open Go.RowKit
set_option linter.unusedVariables false

/-- The share of the first j lengths, in parts of 2^15. -/
def shr (ns : List Nat) : Nat → Nat
  | 0 => 0
  | j + 1 => shr ns j + (if ns.getD j 0 = 0 then 0 else 2 ^ (15 - ns.getD j 0))
/-- .. by lengths. -/
def shT (ns : List Nat) (j : Nat) : Nat → Nat
  | 0 => 0
  | l + 1 => shT ns j l + lcnt ns (l + 1) j * 2 ^ (15 - (l + 1))
theorem shT_succ (ns : List Nat) (j L : Nat) : shT ns (j + 1) L = shT ns j L + (if 1 ≤ ns.getD j 0 ∧ ns.getD j 0 ≤ L then 2 ^ (15 - ns.getD j 0) else 0) := by
  induction L with
  | zero => simp only [shT]; rw [if_neg (by omega)]
  | succ L ih =>
    simp only [shT, ih, lcnt]
    by_cases e : ns.getD j 0 = L + 1
    · rw [if_neg (by omega), if_pos e, if_pos (by omega), e, Nat.add_mul, Nat.one_mul]; omega
    · rw [if_neg e, Nat.add_zero]
      by_cases e2 : 1 ≤ ns.getD j 0 ∧ ns.getD j 0 ≤ L
      · rw [if_pos e2, if_pos (by omega)]; omega
      · rw [if_neg e2, if_neg (by omega)]; omega
theorem shT_zero (ns : List Nat) (L : Nat) : shT ns 0 L = 0 := by
  induction L with
  | zero => rfl
  | succ L ih => simp [shT, ih, lcnt]
theorem shr_eq (ns : List Nat) (h : ∀ i, ns.getD i 0 ≤ 15) : ∀ j, shr ns j = shT ns j 15
  | 0 => (shT_zero ns 15).symm
  | j + 1 => by
    rw [shT_succ, ← shr_eq ns h j]
    simp only [shr]
    have := h j
    by_cases e : ns.getD j 0 = 0
    · rw [if_pos e, if_neg (by omega)]
    · rw [if_neg e, if_pos (by omega)]
theorem shT_share (ns : List Nat) : ∀ l, shT ns ns.length l = shareTo ns l
  | 0 => rfl
  | l + 1 => by simp only [shT, shareTo, shT_share ns l]
theorem shr_ew (ns : List Nat) (h : ∀ i, ns.getD i 0 ≤ 15) : shr ns ns.length = ew ns 15 := by
  rw [shr_eq ns h, shT_share, ← endW_share ns 14 (by omega)]
  simp [ew]
theorem pow15 (d : Nat) : 2 ^ (15 - d) ≤ 32768 := Nat.le_trans (Nat.pow_le_pow_right (by omega) (Nat.sub_le 15 d)) (by decide)
theorem shr_bound (ns : List Nat) : ∀ j, shr ns j ≤ j * 32768
  | 0 => by simp [shr]
  | j + 1 => by
    have h1 := shr_bound ns j
    have h2 := pow15 (ns.getD j 0)
    have h3 : (if ns.getD j 0 = 0 then 0 else 2 ^ (15 - ns.getD j 0)) ≤ 32768 := by
      split
      · exact Nat.zero_le _
      · exact h2
    rw [show shr ns (j + 1) = shr ns j + (if ns.getD j 0 = 0 then 0 else 2 ^ (15 - ns.getD j 0)) from rfl, Nat.add_mul, Nat.one_mul]
    exact Nat.add_le_add h1 h3
theorem shr_small (ns : List Nat) (j : Nat) (hj : j ≤ 288) : shr ns j ≤ 9437184 := Nat.le_trans (shr_bound ns j) (by omega)
/-- The share, -1 of what may not be. -/
def shareV (xs : List Int) : Int := if may xs = true then ((ew (nsOf xs) 15 : Nat) : Int) else -1
theorem shareV_no {xs : List Int} (h : may xs = false) : shareV xs = -1 := by unfold shareV; rw [h]; rfl
set_option maxRecDepth 20000 in
set_option maxHeartbeats 1000000 in
theorem share_ok (xs : List Int) (a : Option Addr) (c N : Nat) (w : World) (hN : xs.length = N) (hrow : IRow w a xs) (hlen : N ≤ 9223372036854775807) :
    Calls Tryd.prog 39 #[.slice a N c] w fun e w' => e = .returned (.int .i64 (shareV xs)) ∧ w' = w := by
  have HR : Hid (IRow w a xs) := hrow
  have HN : Hid (xs.length = N) := hN
  clear hrow hN
  go_enter Tryd.func39, Tryd.ntmps39
  by_cases h1 : 288 < N
  · have h1i : (288 : Int) < (N : Int) := by omega
    have hm : Hid (may xs = false) := by
      show _ = _
      cases e : may xs with
      | false => rfl
      | true => have := may_len e; rw [HN.out] at this; omega
    go_wp2
    go_ret
    exact ⟨by rw [shareV_no hm.out]; rfl, rfl⟩
  · have h1i : ¬ (288 : Int) < (N : Int) := by omega
    go_wp2
    go_loop [3, 4] (fun v3 v4 => ∃ (j : Nat) (S : Nat), v4 = .int .i64 j ∧ j ≤ N ∧ v3 = .int .i64 (S : Int) ∧ Hid (S = shr (nsOf xs) j ∧ ∀ i, i < j → 0 ≤ xs.getD i 0 ∧ xs.getD i 0 ≤ 15)) (fun _ v4 => N - (intOf v4).toNat)
    case atStart => exact ⟨0, 0, rfl, by omega, rfl, rfl, fun i hi => by omega⟩
    case round =>
      obtain ⟨j, S, rfl, hj, rfl, HS⟩ := hrel
      have hSb : S ≤ 9437184 := by rw [HS.out.1]; exact shr_small _ _ (by omega)
      by_cases hlt : j < N
      · have hlti : (j : Int) < (N : Int) := by omega
        obtain ⟨b, off, rfl, hcell, _⟩ := HR.out.at (show j < xs.length by rw [HN.out]; exact hlt)
        obtain ⟨F, hF⟩ : ∃ F, xs.getD j 0 = F := ⟨_, rfl⟩
        rw [hF] at hcell
        have HF : Hid (xs.getD j 0 = F) := hF
        clear hF
        by_cases h0 : F < 0
        · have hm : Hid (may xs = false) := may_no (by rw [HN.out]; exact hlt) (.inl (by rw [HF.out]; exact h0))
          go_wp2
          go_ret
          exact ⟨by rw [shareV_no hm.out]; rfl, rfl⟩
        · by_cases h15 : 15 < F
          · have hm : Hid (may xs = false) := may_no (by rw [HN.out]; exact hlt) (.inr (by rw [HF.out]; exact h15))
            go_wp2
            go_ret
            exact ⟨by rw [shareV_no hm.out]; rfl, rfl⟩
          · obtain ⟨f, rfl⟩ : ∃ f : Nat, F = (f : Int) := ⟨F.toNat, by omega⟩
            have hfn : (nsOf xs).getD j 0 = f := by rw [nsOf_get, HF.out]; simp
            have HS2 : Hid (∀ i, i < j + 1 → 0 ≤ xs.getD i 0 ∧ xs.getD i 0 ≤ 15) := fun i hi => by
              by_cases e : i = j
              · subst e; rw [HF.out]; omega
              · exact HS.out.2 i (by omega)
            by_cases hp : 0 < f
            · have hpi : (0 : Int) < (f : Int) := by omega
              obtain ⟨d, hd⟩ : ∃ d : Nat, 15 - f = d := ⟨_, rfl⟩
              have hdi : (15 : Int) - (f : Int) = (d : Int) := by omega
              obtain ⟨T, hT⟩ : ∃ T, 2 ^ d = T := ⟨_, rfl⟩
              have hTb : T ≤ 32768 := by rw [← hT, ← hd]; exact pow15 f
              have hsh : wrap64 ((2 : Int) ^ d) = (T : Int) := by
                have e : ((2 : Int) ^ d) = ((2 ^ d : Nat) : Int) := by simp
                rw [e, hT]
                unfold wrap64
                omega
              have HX : Hid (S + T = shr (nsOf xs) (j + 1)) := by
                show _ = _
                simp only [shr]
                rw [hfn, if_neg (by omega), hd, hT, ← HS.out.1]
              clear hd hT hfn
              go_wp2
              exact ⟨⟨j + 1, S + T, by go_num, by omega, by go_num, HX.out, HS2.out⟩, by simp [intOf]; omega⟩
            · have hpi : ¬ (0 : Int) < (f : Int) := by omega
              have HX : Hid (S = shr (nsOf xs) (j + 1)) := by
                show _ = _
                simp only [shr]
                rw [hfn, if_pos (by omega), ← HS.out.1]; rfl
              clear hfn
              go_wp2
              exact ⟨⟨j + 1, S, by go_num, by omega, rfl, HX.out, HS2.out⟩, by simp [intOf]; omega⟩
      · obtain rfl : j = N := by omega
        have hmay : may xs = true := may_yes (by rw [HN.out]; omega) (fun i hi => HS.out.2 i (by rw [← HN.out]; exact hi))
        have HE : Hid (shareV xs = (S : Int)) := by
          show _ = _
          unfold shareV
          rw [if_pos hmay, HS.out.1, ← shr_ew, nsOf_length, HN.out]
          intro i
          rw [nsOf_get]
          have := may_get hmay i
          omega
        clear hmay
        go_wp2
        go_ret
        exact ⟨by rw [HE.out]; rfl, rfl⟩
/-- Are lengths those of a code? -/
def isCode (xs : List Int) : Bool := may xs && decide (ew (nsOf xs) 15 ≤ 32768)
theorem isCode_iff (xs : List Int) : isCode xs = true ↔ (may xs = true ∧ ew (nsOf xs) 15 ≤ 32768) := by simp [isCode]
set_option maxRecDepth 20000 in
theorem may_ok (xs : List Int) (a : Option Addr) (c N : Nat) (w : World) (hN : xs.length = N) (hrow : IRow w a xs) (hlen : N ≤ 9223372036854775807) :
    Calls Tryd.prog 28 #[.slice a N c] w fun e w' => e = .returned (.bool (isCode xs)) ∧ w' = w := by
  have hs := share_ok xs a c N w hN hrow hlen
  obtain ⟨V, hV⟩ : ∃ V, shareV xs = V := ⟨_, rfl⟩
  rw [hV] at hs
  have HS : Hid (∀ _ : Unit, Calls Tryd.prog 39 #[.slice a N c] w fun e w' => e = .returned (.int .i64 V) ∧ w' = w) := fun _ => hs
  have HC : Hid (isCode xs = (decide (0 ≤ V) && decide (V ≤ 32768))) := by
    show _ = _
    rw [← hV]
    unfold isCode shareV
    cases may xs with
    | true =>
      simp only [if_true, Bool.true_and]
      by_cases e : ew (nsOf xs) 15 ≤ 32768
      · rw [decide_eq_true e, decide_eq_true (by omega), decide_eq_true (by omega)]; rfl
      · rw [decide_eq_false e, decide_eq_false (p := ((ew (nsOf xs) 15 : Nat) : Int) ≤ 32768) (by omega)]; simp
    | false => rfl
  clear hs hV hN hrow
  go_enter Tryd.func28, Tryd.ntmps28
  by_cases h0 : 0 ≤ V
  · go_wp2_with (go_at_call 39; refine (HS.out ()).mono ?_; rintro e w1 ⟨rfl, hw⟩; obtain rfl := hw.symm)
    go_ret
    exact ⟨by rw [HC.out, decide_eq_true h0]; simp, rfl⟩
  · go_wp2_with (go_at_call 39; refine (HS.out ()).mono ?_; rintro e w1 ⟨rfl, hw⟩; obtain rfl := hw.symm)
    go_ret
    exact ⟨by rw [HC.out, decide_eq_false (p := 0 ≤ V) (by omega)]; rfl, rfl⟩
end Go.Proofs.YtchjnfckcfikkaaDoor
