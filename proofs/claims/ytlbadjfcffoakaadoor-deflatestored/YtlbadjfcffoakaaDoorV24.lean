/- The document's Symbol: the walk. -/
import Derived.Test.YtlbadjfcffoakaaDoorV23
import Derived.Test.YtlbadjfcffoakaaDoorV22
namespace Go.Proofs.YtlbadjfcffoakaaDoor
open Go.RowKit
set_option linter.unusedVariables false
set_option maxRecDepth 20000

def inN (ns : List Nat) : List Int := ns.map fun (n : Nat) => (n : Int)
theorem inN_length (ns : List Nat) : (inN ns).length = ns.length := by simp [inN]
theorem inN_get (ns : List Nat) (i : Nat) : (inN ns).getD i 0 = ((ns.getD i 0 : Nat) : Int) := by
  unfold inN
  rw [List.getD_eq_getElem?_getD, List.getD_eq_getElem?_getD, List.getElem?_map]
  cases ns[i]? <;> rfl
def cwL (ns : List Nat) : List Nat := (List.range ns.length).map (cw ns)
theorem cwL_length (ns : List Nat) : (cwL ns).length = ns.length := by simp [cwL]
theorem cwL_get (ns : List Nat) (i : Nat) (h : i < ns.length) : (cwL ns).getD i 0 = cw ns i := by
  unfold cwL
  rw [List.getD_eq_getElem?_getD, List.getElem?_map, List.getElem?_range h]
  rfl
def begB (ns : List Nat) (l x : Nat) : Nat → Bool
  | 0 => false
  | j + 1 => begB ns l x j || (decide (l < ns.getD j 0) && decide (cw ns j / 2 ^ (ns.getD j 0 - l) = x))
theorem begB_iff (ns : List Nat) (l x : Nat) : ∀ j, begB ns l x j = true ↔ ∃ i, i < j ∧ Beg ns l x i
  | 0 => by simp [begB]
  | j + 1 => by
    simp only [begB, Bool.or_eq_true, Bool.and_eq_true, decide_eq_true_eq, begB_iff ns l x j]
    constructor
    · rintro (⟨i, hi, hb⟩ | hb)
      · exact ⟨i, by omega, hb⟩
      · exact ⟨j, by omega, hb⟩
    · rintro ⟨i, hi, hb⟩
      by_cases e : i = j
      · subst e; exact Or.inr hb
      · exact Or.inl ⟨i, by omega, hb⟩
theorem below_dr' {B : Nat} {w w' : World} (h : Below B w w') (k : Nat) : Below B w (w'.drewN k) := ⟨h.os, h.tape, h.output, h.size, h.block⟩
def symV (r : Nat × Nat × Nat) : Value := .tuple #[.int .i64 (r.1 : Nat), .int .i64 (r.2.1 : Nat), .int .i64 (r.2.2 : Nat)]
set_option maxRecDepth 20000 in
set_option maxHeartbeats 4000000 in
theorem rsym_ok (ns : List Nat) (N : Nat) (a c : Option Addr) (ca cc : Nat) (s : ByteArray) (p : Nat) (w : World) (hN : ns.length = N) (hN2 : N ≤ 288) (h15 : ∀ i, ns.getD i 0 ≤ 15) (hcb : ∀ i, i < ns.length → cw ns i ≤ 32768)
    (ha : IRow w a (inN ns)) (hc : IRow w c (inN (cwL ns))) (hp : p ≤ 8 * s.size) (hs : s.size ≤ 281474976710656) :
    Calls Tryd.prog 52 #[.slice a N ca, .slice c N cc, .string s, .int .i64 p] w fun e w' => e = .returned (symV (rsS ns s p 15 0 0)) ∧ Below w.heap.size w w' := by
  have HA : Hid (IRow w a (inN ns)) := ha
  have HC : Hid (IRow w c (inN (cwL ns))) := hc
  have HN : Hid (ns.length = N) := hN
  have HCB : Hid (∀ i, i < ns.length → cw ns i ≤ 32768) := hcb
  have H15 : Hid (∀ i, ns.getD i 0 ≤ 15) := h15
  obtain ⟨res, hres⟩ : ∃ res, rsS ns s p 15 0 0 = res := ⟨_, rfl⟩
  rw [hres]
  have HR0 : Hid (rsS ns s p 15 0 0 = res) := hres
  obtain ⟨rv, hrv⟩ : ∃ rv, symV res = rv := ⟨_, rfl⟩
  rw [hrv]
  have HRV : Hid (symV res = rv) := hrv
  clear ha hc hN h15 hcb hres hrv
  go_enter Tryd.func52, Tryd.ntmps52
  go_wp2
  go_loopw [11, 12] (fun xv lv wr => ∃ (x l L k : Nat), xv = .int .i64 (x : Nat) ∧ lv = .int .i64 (L : Nat) ∧ l + 1 = L ∧ l + k = 15 ∧ x < 2 ^ l ∧ ew ns l ≤ x ∧ rsS ns s p k l x = res ∧ p + l ≤ 8 * s.size ∧ Below w.heap.size w wr) (fun _ lv _ => 17 - (intOf lv).toNat)
  case atStart => exact ⟨0, 0, 1, 15, rfl, rfl, rfl, rfl, by simp, Nat.le_refl _, HR0.out, by omega, Below.refl _ _⟩
  case round =>
    obtain ⟨x, l, L, k, rfl, rfl, hL, hlk, hx2, hxe, hr, hpl, hbel⟩ := hrel
    have HBE : Hid (Below w.heap.size w wr) := hbel
    have hsw := hbel.size
    cases k with
    | zero =>
      have hl : L = 16 := by omega
      subst hl
      have HE : Hid (res = (0, 0, 30)) := hr.symm
      clear hr hxe hx2 hbel
      go_wp2
      go_ret3
      exact ⟨by rw [← HRV.out, HE.out]; rfl, HBE.out⟩
    | succ k =>
      have hli : (L : Int) ≤ 15 := by omega
      have hl15 : L ≤ 15 := by omega
      have hx15 : x < 32768 := Nat.lt_of_lt_of_le hx2 (Nat.pow_le_pow_right (by decide) (show l ≤ 15 by omega))
      obtain ⟨at_, hat⟩ : ∃ at_, p + l = at_ := ⟨_, rfl⟩
      have hati : (p : Int) + (L : Int) - 1 = (at_ : Nat) := by omega
      by_cases hsh : 8 * s.size ≤ p + l
      · have HB1 : Hid (∀ W, Calls Tryd.prog 28 #[.string s, .int .i64 (at_ : Nat), .int .i64 1] W fun e w' => e = .returned (.tuple #[.int .i64 0, .bool false]) ∧ w' = W) := fun W => refBits_short s at_ 1 W (by omega) (by omega) (by omega) hs
        have HE : Hid (res = (0, 0, 5)) := by
          show res = _
          rw [← hr]; simp only [rsS]; rw [if_pos hsh]
        clear hr hxe hx2 hbel
        go_wp2_with (go_at_call 28; refine (HB1.out _).mono ?_; rintro e w1 ⟨rfl, hw⟩; obtain rfl := hw.symm)
        go_ret3
        exact ⟨by rw [← HRV.out, HE.out]; rfl, HBE.out⟩
      · obtain ⟨bt, hbt⟩ : ∃ bt, bitAt s at_ = bt := ⟨_, rfl⟩
        have hb2 : bt < 2 := by rw [← hbt]; exact bitAt_lt _ _
        have HB1 : Hid (∀ W, Calls Tryd.prog 28 #[.string s, .int .i64 (at_ : Nat), .int .i64 1] W fun e w' => e = .returned (.tuple #[.int .i64 (bt : Nat), .bool true]) ∧ w' = W) := fun W => by
          have h := refBits s at_ 1 W (by omega) (by omega) hs
          rw [show num s at_ 1 = bt by simp [num, hbt]] at h
          exact h
        obtain ⟨y, hy⟩ : ∃ y, 2 * x + bt = y := ⟨_, rfl⟩
        have hyi : 2 * (x : Int) + (bt : Int) = (y : Nat) := by omega
        have hr2 : rsS ns s p (k + 1) l x = if y < ew ns L then (symW ns L y, p + L, 0) else if ew ns 15 ≤ y * 2 ^ (15 - L) then (0, 0, 30) else rsS ns s p k L y := by
          simp only [rsS]
          rw [if_neg hsh, hat, hbt, hy, hL]
        rw [hr] at hr2
        have hxy : 2 * ew ns (L - 1) ≤ y := by rw [← hL, Nat.add_sub_cancel]; omega
        have hy2 : y < 2 ^ L := by rw [← hL, Nat.pow_succ]; omega
        have HR2 : Hid (res = if y < ew ns L then (symW ns L y, p + L, 0) else if ew ns 15 ≤ y * 2 ^ (15 - L) then (0, 0, 30) else rsS ns s p k L y) := hr2
        have HXY : Hid (2 * ew ns (L - 1) ≤ y ∧ y < 2 ^ L) := ⟨hxy, hy2⟩
        have hy15 : y < 65536 := Nat.lt_of_lt_of_le hy2 (Nat.pow_le_pow_right (by decide) (show L ≤ 16 by omega))
        clear hr2 hr hxe hx2 hbel hbt hxy hy2 hy
        go_wp2_with (go_at_call 28; refine (HB1.out _).mono ?_; rintro e w1 ⟨rfl, hw⟩; obtain rfl := hw.symm)
        go_loopw [15, 16] (fun bv iv wq => ∃ (j : Nat), iv = .int .i64 (j : Nat) ∧ bv = .bool (begB ns L y j) ∧ j ≤ N ∧ (∀ i, i < j → ¬ (ns.getD i 0 = L ∧ cw ns i = y)) ∧ Below w.heap.size w wq) (fun _ iv _ => N - (intOf iv).toNat)
        case atStart => exact ⟨0, rfl, rfl, by omega, fun i hi => by omega, HBE.out⟩
        case round =>
          obtain ⟨j, rfl, rfl, hj, hno, hbq⟩ := hrel
          have HBQ : Hid (Below w.heap.size w wr) := hbq
          have HNO : Hid (∀ i, i < j → ¬ (ns.getD i 0 = L ∧ cw ns i = y)) := hno
          by_cases hlt : j < N
          · have hlti : (j : Int) < (N : Int) := by omega
            obtain ⟨b1, o1, rfl, c1, _⟩ := (HA.out.below hbq).at (show j < (inN ns).length by rw [inN_length, HN.out]; exact hlt)
            obtain ⟨b2, o2, rfl, c2, _⟩ := (HC.out.below hbq).at (show j < (inN (cwL ns)).length by rw [inN_length, cwL_length, HN.out]; exact hlt)
            rw [inN_get] at c1
            rw [inN_get, cwL_get ns j (by rw [HN.out]; exact hlt)] at c2
            have ha15 := H15.out j
            have hcb : cw ns j ≤ 32768 := HCB.out j (by rw [HN.out]; exact hlt)
            have HBN : Hid (begB ns L y (j + 1) = (begB ns L y j || (decide (L < ns.getD j 0) && decide (cw ns j / 2 ^ (ns.getD j 0 - L) = y)))) := rfl
            obtain ⟨A, hA⟩ : ∃ A, ns.getD j 0 = A := ⟨_, rfl⟩
            obtain ⟨C, hC⟩ : ∃ C, cw ns j = C := ⟨_, rfl⟩
            obtain ⟨bv, hbv⟩ : ∃ bv, begB ns L y j = bv := ⟨_, rfl⟩
            have HAC : Hid (ns.getD j 0 = A ∧ cw ns j = C) := ⟨hA, hC⟩
            rw [hA, hC, hbv] at HBN
            rw [hA] at c1 ha15
            rw [hC] at c2 hcb
            rw [hbv]
            clear hA hC hno hbq
            have HEND : ∀ (T : Bool), ((begB ns L y (j + 1)) = T) → ¬ (A = L ∧ C = y) → Hid (.bool T = Value.bool (begB ns L y (j + 1)) ∧ (∀ i, i < j + 1 → ¬ (ns.getD i 0 = L ∧ cw ns i = y))) := by
              intro T hT hn
              refine ⟨by rw [hT], fun i hi => ?_⟩
              by_cases e : i = j
              · subst e; rw [HAC.out.1, HAC.out.2]; exact hn
              · exact HNO.out i (by omega)
            by_cases hAL : A = L
            · subst hAL
              by_cases hCy : C = y
              · subst hCy
                have HE : Hid (res = (j, p + A, 0)) := by
                  show res = _
                  have h1 := (hit_iff ns A C (by omega) HXY.out.1).1 ⟨j, by rw [HN.out]; exact hlt, HAC.out⟩
                  rw [HR2.out, if_pos h1, ← hit_sym ns A C j (by omega) HXY.out.1 (by rw [HN.out]; exact hlt) HAC.out.1 HAC.out.2]
                clear HEND
                go_wp2
                go_ret3
                exact ⟨by rw [← HRV.out, HE.out]; simp [symV], HBQ.out⟩
              · have hCb : ((C : Int) == (y : Int)) = false := by simp; omega
                have hCi : ¬ (C : Int) = (y : Int) := by omega
                have hself : ¬ (A : Int) < (A : Int) := by omega
                cases bv with
                | true =>
                  have H2 := HEND true (by rw [HBN.out]; simp) (fun h => hCy h.2)
                  clear HEND
                  go_wp2_with fail
                  go_region
                  all_goals
                    go_wp2
                    exact ⟨⟨j + 1, by go_num, H2.out.1, by omega, H2.out.2, below_dr' HBQ.out 1⟩, by simp [intOf]; omega⟩
                | false =>
                  have H2 := HEND false (by rw [HBN.out]; simp; try omega) (fun h => hCy h.2)
                  clear HEND
                  go_wp2_with fail
                  go_region
                  all_goals
                    go_wp2
                    exact ⟨⟨j + 1, by go_num, H2.out.1, by omega, H2.out.2, below_dr' HBQ.out 1⟩, by simp [intOf]; omega⟩
            · have hALi : ¬ (A : Int) = (L : Int) := by omega
              have hALb : ((A : Int) == (L : Int)) = false := by simp; omega
              by_cases hgt : L < A
              · have hgti : (L : Int) < (A : Int) := by omega
                obtain ⟨d, hd⟩ : ∃ d, A - L = d := ⟨_, rfl⟩
                have hdi : (A : Int) - (L : Int) = (d : Nat) := by omega
                have hd15 : d ≤ 15 := by omega
                obtain ⟨q, hq⟩ : ∃ q, C / 2 ^ d = q := ⟨_, rfl⟩
                have hqi : (C : Int) / 2 ^ d = (q : Nat) := by rw [← hq]; simp
                have hq15 : q ≤ 32768 := by rw [← hq]; exact Nat.le_trans (Nat.div_le_self _ _) hcb
                rw [hd, hq, decide_eq_true hgt] at HBN
                clear hd hq
                by_cases hqy : q = y
                · subst hqy
                  cases bv with
                  | true =>
                    have H2 := HEND true (by rw [HBN.out]; simp) (fun h => hAL h.1)
                    clear HEND
                    go_wp2_with fail
                    go_region
                    all_goals
                      go_wp2
                      exact ⟨⟨j + 1, by go_num, H2.out.1, by omega, H2.out.2, below_dr' HBQ.out 1⟩, by simp [intOf]; omega⟩
                  | false =>
                    have H2 := HEND true (by rw [HBN.out]; simp) (fun h => hAL h.1)
                    clear HEND
                    go_wp2_with fail
                    go_region
                    all_goals
                      go_wp2
                      exact ⟨⟨j + 1, by go_num, H2.out.1, by omega, H2.out.2, below_dr' HBQ.out 1⟩, by simp [intOf]; omega⟩
                · have hqb : ((q : Int) == (y : Int)) = false := by simp; omega
                  have hqn : ¬ (q : Int) = (y : Int) := by omega
                  cases bv with
                  | true =>
                    have H2 := HEND true (by rw [HBN.out]; simp) (fun h => hAL h.1)
                    clear HEND
                    go_wp2_with fail
                    go_region
                    all_goals
                      go_wp2
                      exact ⟨⟨j + 1, by go_num, H2.out.1, by omega, H2.out.2, below_dr' HBQ.out 1⟩, by simp [intOf]; omega⟩
                  | false =>
                    have H2 := HEND false (by rw [HBN.out]; simp; omega) (fun h => hAL h.1)
                    clear HEND
                    go_wp2_with fail
                    go_region
                    all_goals
                      go_wp2
                      exact ⟨⟨j + 1, by go_num, H2.out.1, by omega, H2.out.2, below_dr' HBQ.out 1⟩, by simp [intOf]; omega⟩
              · have hgti : ¬ (L : Int) < (A : Int) := by omega
                rw [decide_eq_false hgt] at HBN
                cases bv with
                | true =>
                  have H2 := HEND true (by rw [HBN.out]; simp) (fun h => hAL h.1)
                  clear HEND
                  go_wp2_with fail
                  go_region
                  all_goals
                    go_wp2
                    exact ⟨⟨j + 1, by go_num, H2.out.1, by omega, H2.out.2, below_dr' HBQ.out 1⟩, by simp [intOf]; omega⟩
                | false =>
                  have H2 := HEND false (by rw [HBN.out]; simp; try omega) (fun h => hAL h.1)
                  clear HEND
                  go_wp2_with fail
                  go_region
                  all_goals
                    go_wp2
                    exact ⟨⟨j + 1, by go_num, H2.out.1, by omega, H2.out.2, below_dr' HBQ.out 1⟩, by simp [intOf]; omega⟩
          · obtain rfl : j = N := by omega
            have hnot : ¬ y < ew ns L := fun h => by
              obtain ⟨i, hi, h1⟩ := (hit_iff ns L y (by omega) HXY.out.1).2 h
              exact HNO.out i (by rw [← HN.out]; exact hi) h1
            have hbg0 := beg_iff ns L y (by omega) H15.out (by omega)
            rw [HN.out] at hbg0
            have hbg := (begB_iff ns L y j).trans hbg0
            clear hbg0
            obtain ⟨bv, hbv⟩ : ∃ bv, begB ns L y j = bv := ⟨_, rfl⟩
            rw [hbv] at hbg ⊢
            cases bv with
            | true =>
              have h3 := hbg.1 rfl
              have HE : Hid (rsS ns s p k L y = res ∧ ew ns L ≤ y ∧ y < 2 ^ L) := by
                refine ⟨?_, by omega, HXY.out.2⟩
                rw [HR2.out, if_neg hnot, if_neg (by omega)]
              clear h3 hbg hnot hno hbq
              go_wp2
              exact ⟨⟨y, L, L + 1, k, rfl, by go_num, rfl, by omega, HE.out.2.2, HE.out.2.1, HE.out.1, by omega, HBQ.out⟩, by simp [intOf]; omega⟩
            | false =>
              have h3 : ew ns 15 ≤ y * 2 ^ (15 - L) := by
                rcases Nat.lt_or_ge (y * 2 ^ (15 - L)) (ew ns 15) with h | h
                · have := hbg.2 h
                  simp at this
                · exact h
              have HE : Hid (res = (0, 0, 30)) := by
                show res = _
                rw [HR2.out, if_neg hnot, if_pos h3]
              clear h3 hbg hnot hno hbq
              go_wp2
              go_ret3
              exact ⟨by rw [← HRV.out, HE.out]; rfl, HBQ.out⟩
end Go.Proofs.YtlbadjfcffoakaaDoor
