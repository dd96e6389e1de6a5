/- HuffLengths' walk: the best code below a limit. -/
import Derived.Test.YtklipommocijaaaVa3
import Derived.Test.YtklipommocijaaaGl3
import Derived.Test.YtklipommocijaaaGw
namespace Go.Proofs.Ytklipommocijaaa
open Go.RowKit PT
set_option linter.unusedVariables false

theorem BestL.least {fs : List Int} {mo N : Nat} {c : Nat → Nat} {W : List Nat} (h : BestL fs mo c W) (hN : fs.length = N) : costTo fs (lensOf c N) N = leastV fs N mo := by
  subst hN
  have hW : W = isort [] (coinsOf fs fs.length) := up_same h.up (isort_up _ List.Pairwise.nil) (h.perm.trans (by
    have := isort_perm (coinsOf fs fs.length) []
    rw [List.nil_append] at this
    exact this.symm))
  have hl : W.length = (coinsOf fs fs.length).length := by rw [hW, isort_len]
  unfold leastV
  by_cases h2 : (coinsOf fs fs.length).length < 2
  · rw [if_pos h2, h.cost1 (by omega), hW, isort_sum]
  · rw [if_neg h2, h.cost (by omega), ← hl, hW]
set_option maxRecDepth 20000 in
set_option maxHeartbeats 8000000 in
theorem huffLengths_walk (hsort : ∀ n, n ≤ 288 → SortsTo n) (fs : List Int) (most : Int) (a : Option Addr) (c N : Nat) (w : World) (hN : fs.length = N) (hrow : IRow w a fs) (hlen : N ≤ 9223372036854775807) :
    Calls Try.prog 3 #[.slice a N c, .int .i64 most] w fun e w' => e = .returned (.bool true) ∧ Below w.heap.size w w' := by
  have HR : Hid (IRow w a fs) := hrow
  have HN : Hid (fs.length = N) := hN
  have HC : Hid (∀ _ : Unit, Calls Try.prog 8 #[.slice a N c, .int .i64 most] w fun e w' => LensEnd w fs most e w') := fun _ => lengths_ok fs a c N most w hN hrow hlen (fun h => hsort _ (Nat.le_trans (comes_length_le fs N) h))
  have HM : Hid (∀ W, Below w.heap.size w W → Calls Try.prog 9 #[.slice a N c, .int .i64 most] W fun e w' => e = .returned (.bool (refF fs most)) ∧ w' = W) := fun W hW => refused_ok fs a c N most W hN (hrow.below hW) hlen
  clear hrow hN hsort
  go_enter Try.func3, Try.ntmps3
  go_wp2_with fail
  refine (HC.out ()).mono ?_
  intro e w1 hE
  obtain ⟨v1, q1, rfl, h1⟩ := hE.came HN.out
  have HB1 : Hid (Below w.heap.size w w1) := h1.bel
  clear hE HC
  rcases h1.or with ⟨n1, rfl, rfl⟩ | ⟨n1, rfl, L, cc, W, rfl, lb, new1, be, lw⟩
  · have HM1 : Hid (∀ _ : Unit, Calls Try.prog 9 #[.slice a N c, .int .i64 most] w1 fun e w' => e = .returned (.bool true) ∧ w' = w1) := fun _ => by
      have := HM.out w1 HB1.out
      rw [refF_yes n1] at this
      exact this
    clear h1 n1
    go_wp2_with fail
    refine (HM1.out ()).mono ?_
    rintro e w2 ⟨rfl, hw⟩
    obtain rfl := hw.symm
    clear hw
    go_wp2_with fail
    refine (awake _).mono ?_
    rintro e w3 ⟨rfl, hb3⟩
    have H3 : Hid (Below w.heap.size w w3) := HB1.out.trans (hb3.mono HB1.out.size)
    clear hb3
    go_wp2
    go_ret
    exact ⟨rfl, H3.out⟩
  · have HM1 : Hid (∀ _ : Unit, Calls Try.prog 9 #[.slice a N c, .int .i64 most] w1 fun e w' => e = .returned (.bool false) ∧ w' = w1) := fun _ => by
      have := HM.out w1 HB1.out
      rw [refF_no n1] at this
      exact this
    obtain ⟨mo, hmo⟩ : ∃ mo : Nat, most = (mo : Int) := ⟨most.toNat, by have := n1.2.2.1; omega⟩
    subst hmo
    have e1 : ((mo : Int)).toNat = mo := by simp
    rw [e1] at be
    have hm1 : 1 ≤ mo := by have := n1.2.2.1; omega
    have hm2 : mo ≤ 15 := by have := n1.2.2.2.1; omega
    have hok : okF fs = true := n1.2.1
    have hN288 : N ≤ 288 := by rw [← HN.out]; exact n1.1
    have HBE : Hid (BestL fs mo cc W) := be
    have HOK : Hid (okF fs = true) := hok
    have H1 : Hid (OrSt w w1 fs a L N cc) := ⟨HR.out.below h1.bel, lb, h1.bel⟩
    clear h1 n1 be lw lb new1 hok e1 HM
    go_wp2_with fail
    refine (HM1.out ()).mono ?_
    rintro e w2 ⟨rfl, hw⟩
    obtain rfl := hw.symm
    clear hw HM1
    go_wp2
    go_loopw [7, 8] (fun v7 v8 wr => ∃ (i n : Nat), v8 = .int .i64 i ∧ i ≤ N ∧ v7 = .int .i64 (n : Int) ∧ n ≤ i ∧ Hid (OrSt w wr fs a L N cc ∧ n = (comes fs i).length)) (fun _ v8 _ => N - (intOf v8).toNat)
    case atStart => exact ⟨0, 0, rfl, by omega, rfl, by omega, H1.out, rfl⟩
    case round =>
      obtain ⟨i, n, rfl, hi, rfl, hni, HS⟩ := hrel
      by_cases hlt : i < N
      · have hlti : (i : Int) < (N : Int) := by omega
        obtain ⟨b, off, rfl, c1, _⟩ := HS.out.1.row.at (show i < fs.length by rw [HN.out]; exact hlt)
        have c2 := (HS.out.1.lb.cell hlt).1
        obtain ⟨F, hF⟩ : ∃ F : Nat, fs.getD i 0 = (F : Int) := ⟨(fs.getD i 0).toNat, by have := (okF_get HOK.out i).1; omega⟩
        have htop := HBE.out.top i (by rw [HN.out]; exact hlt)
        have hhas := HBE.out.has i (by rw [HN.out]; exact hlt)
        obtain ⟨l, hl⟩ : ∃ l, cc i = l := ⟨_, rfl⟩
        have hcs := comes_succ fs i
        rw [hF] at c1 hhas hcs
        rw [hl] at c2 htop hhas
        have HNX : Hid (∀ k, OrSt w (wr.drewN k) fs (some ⟨b, off, none⟩) L N cc) := fun k => HS.out.1.drewN k
        have t1 : ¬ (l : Int) < 0 := by omega
        have t2 : ¬ (mo : Int) < (l : Int) := by omega
        have t1b : decide ((l : Int) < 0) = false := decide_eq_false t1
        have t2b : decide ((mo : Int) < (l : Int)) = false := decide_eq_false t2
        have t2c : decide (mo < l) = false := decide_eq_false (by omega)
        have t2d : (l : Int) ≤ (mo : Int) := by omega
        by_cases hp : 0 < l
        · have hpi : (0 : Int) < (l : Int) := by omega
          have hFi : (0 : Int) < (F : Int) := hhas.2 hp
          have hFn : 0 < F := by omega
          have b1 : decide (0 < l) = true := decide_eq_true hp
          have b2 : decide (0 < F) = true := decide_eq_true hFn
          have b3 : decide ((0 : Int) < (l : Int)) = true := decide_eq_true hpi
          have b4 : decide ((0 : Int) < (F : Int)) = true := decide_eq_true hFi
          have HX : Hid (n + 1 = (comes fs (i + 1)).length) := by
            show _ = _
            rw [hcs, if_pos hFi, List.length_append, ← HS.out.2]; rfl
          clear hF hl hcs hhas htop
          go_wp2_with fail
          go_quiet (fail)
          go_wp2
          exact ⟨⟨i + 1, n + 1, by go_num, by omega, by go_num, by omega, HNX.out nq, HX.out⟩, by simp [intOf]; omega⟩
        · have hpi : ¬ (0 : Int) < (l : Int) := by omega
          have hFi : ¬ (0 : Int) < (F : Int) := fun h => hp (hhas.1 h)
          have hFn : F = 0 := by omega
          have hl0 : l = 0 := by omega
          have b3 : decide ((0 : Int) < (l : Int)) = false := decide_eq_false hpi
          have b4 : decide ((0 : Int) < (F : Int)) = false := decide_eq_false hFi
          have HX : Hid (n = (comes fs (i + 1)).length) := by
            show _ = _
            rw [hcs, if_neg hFi, ← HS.out.2]
          clear hF hl hcs hhas htop
          go_wp2_with fail
          go_quiet (fail)
          go_wp2
          exact ⟨⟨i + 1, n, by go_num, by omega, rfl, by omega, HNX.out nq, HX.out⟩, by simp [intOf]; omega⟩
      · have hlti : ¬ (i : Int) < (N : Int) := by omega
        obtain rfl : i = N := by omega
        by_cases hn0 : n = 0
        · have hn0i : (n : Int) = 0 := by omega
          subst hn0
          go_wp2_with fail
          refine (awake _).mono ?_
          rintro e w3 ⟨rfl, hb3⟩
          have H3 : Hid (Below w.heap.size w w3) := HS.out.1.bel.trans (hb3.mono HS.out.1.bel.size)
          clear hb3
          go_wp2
          go_ret
          exact ⟨rfl, H3.out⟩
        · have hn0i : ¬ (n : Int) = 0 := by omega
          have hn0b : ((n : Int) == 0) = false := by simpa using hn0
          obtain ⟨X, hX⟩ : ∃ X, costTo fs (lensOf cc i) i = X := ⟨_, rfl⟩
          have hcr := HBE.out.costR HOK.out
          rw [HN.out, hX] at hcr
          have HCO : Hid (∀ _ : Unit, Calls Try.prog 11 #[.slice a i c, .slice (some ⟨L, 0, none⟩) i i] wr fun e w' => e = .returned (.tuple #[.int .i64 (X : Nat), .int .i64 0]) ∧ Below wr.heap.size wr w') := fun _ => by
            have := refCost_ok fs (lensOf cc i) a (some ⟨L, 0, none⟩) c i i i wr HN.out (lensOf_length _ _) HS.out.1.row HS.out.1.lb.row hlen hlen
            rw [hcr] at this
            exact this
          have HFU : Hid (2 ≤ n → ∀ W', Below wr.heap.size wr W' → Calls Try.prog 12 #[.slice (some ⟨L, 0, none⟩) i i] W' fun e w' => e = .returned (.bool true) ∧ w' = W') := fun h2 W' hW' => by
            have h := full_ok (lensOf cc i) (some ⟨L, 0, none⟩) i i W' (lensOf_length _ _) (HS.out.1.lb.row.below hW') hlen
            have hw := HBE.out.whole (by rw [HN.out, ← HS.out.2]; exact h2)
            rw [HN.out] at hw
            rw [hw] at h
            exact h
          have HLE : Hid (∀ W', Below w.heap.size w W' → Calls Try.prog 13 #[.slice a i c, .int .i64 (mo : Int)] W' fun e w' => e = .returned (.int .i64 (X : Nat)) ∧ Below W'.heap.size W' w') := fun W' hW' => by
            have h := least_ok fs a c i mo W' HN.out (HR.out.below hW') hN288 HOK.out hm1 hm2
            rw [← HBE.out.least HN.out, hX] at h
            exact h
          clear hcr hX
          go_wp2_with fail
          refine (HCO.out ()).mono ?_
          rintro e w3 ⟨rfl, hb3⟩
          have HB3 : Hid (Below wr.heap.size wr w3) := hb3
          have HBW : Hid (Below w.heap.size w w3) := HS.out.1.bel.trans (hb3.mono HS.out.1.bel.size)
          clear hb3
          by_cases hn1 : n = 1
          · subst hn1
            go_wp2_with fail
            refine (HLE.out w3 HBW.out).mono ?_
            rintro e w4 ⟨rfl, hb4⟩
            have HB4 : Hid (Below w.heap.size w w4) := HBW.out.trans (hb4.mono HBW.out.size)
            clear hb4
            go_wp2_with fail
            refine (awake _).mono ?_
            rintro e w5 ⟨rfl, hb5⟩
            have H5 : Hid (Below w.heap.size w w5) := HB4.out.trans (hb5.mono HB4.out.size)
            clear hb5
            go_wp2
            go_ret
            exact ⟨rfl, H5.out⟩
          · have hn1i : ¬ (n : Int) = 1 := by omega
            have hn1b : ((n : Int) == 1) = false := by simpa using hn1i
            have hn2 : 2 ≤ n := by omega
            go_wp2_with fail
            refine (HFU.out hn2 w3 HB3.out).mono ?_
            rintro e w4 ⟨rfl, hw⟩
            obtain rfl := hw.symm
            clear hw
            go_wp2_with fail
            refine (HLE.out w3 HBW.out).mono ?_
            rintro e w4 ⟨rfl, hb4⟩
            have HB4 : Hid (Below w.heap.size w w4) := HBW.out.trans (hb4.mono HBW.out.size)
            clear hb4
            go_wp2_with fail
            refine (awake _).mono ?_
            rintro e w5 ⟨rfl, hb5⟩
            have H5 : Hid (Below w.heap.size w w5) := HB4.out.trans (hb5.mono HB4.out.size)
            clear hb5
            go_wp2
            go_ret
            exact ⟨rfl, H5.out⟩
end Go.Proofs.Ytklipommocijaaa
