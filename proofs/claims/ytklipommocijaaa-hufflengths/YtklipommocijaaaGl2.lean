/- Frequencies that are refused, by the document. HuffOrder's walk. -/
import Derived.Test.YtklipommocijaaaGl1
import Derived.Test.YtklipommocijaaaGr
import Derived.Deep.QuietTactic
namespace Go.Proofs.Ytklipommocijaaa
open Go.RowKit PT
set_option linter.unusedVariables false

/-- Lengths takes them. -/
def Takes (fs : List Int) (most : Int) : Prop := fs.length ≤ 288 ∧ okF fs = true ∧ 1 ≤ most ∧ most ≤ 15 ∧ (comes fs fs.length).length ≤ 2 ^ most.toNat
def refF (fs : List Int) (most : Int) : Bool := if fs.length ≤ 288 ∧ okF fs = true ∧ 1 ≤ most ∧ most ≤ 15 ∧ (comes fs fs.length).length ≤ 2 ^ most.toNat then false else true
theorem refF_no {fs : List Int} {most : Int} (h : Takes fs most) : refF fs most = false := by unfold refF; exact if_pos h
theorem refF_yes {fs : List Int} {most : Int} (h : ¬ Takes fs most) : refF fs most = true := by unfold refF; exact if_neg h
theorem okF_no {fs : List Int} {i : Nat} (h : okF fs = true) : ¬ (fs.getD i 0 < 0 ∨ 1099511627776 < fs.getD i 0) := by have := okF_get h i; omega

theorem okF_yes {fs : List Int} (h : ∀ i, i < fs.length → 0 ≤ fs.getD i 0 ∧ fs.getD i 0 ≤ 1099511627776) : okF fs = true := by
  unfold okF
  rw [List.all_eq_true]
  intro x hx
  obtain ⟨i, hi, rfl⟩ := List.getElem_of_mem hx
  have := h i hi
  rw [getD_in hi] at this
  simpa using this

set_option maxRecDepth 20000 in
set_option maxHeartbeats 1000000 in
theorem refused_ok (fs : List Int) (a : Option Addr) (c N : Nat) (most : Int) (w : World) (hN : fs.length = N) (hrow : IRow w a fs) (hlen : N ≤ 9223372036854775807) :
    Calls Try.prog 9 #[.slice a N c, .int .i64 most] w fun e w' => e = .returned (.bool (refF fs most)) ∧ w' = w := by
  have HR : Hid (IRow w a fs) := hrow
  have HN : Hid (fs.length = N) := hN
  obtain ⟨Q, hQ⟩ : ∃ Q, refF fs most = Q := ⟨_, rfl⟩
  have HQ : Hid (refF fs most = Q) := hQ
  rw [hQ]
  have refuse : ¬ Takes fs most → Q = true := fun h => by rw [← hQ]; exact refF_yes h
  have HRF : Hid _ := refuse
  clear hrow hN hQ refuse
  go_enter Try.func9, Try.ntmps9
  by_cases h1 : 288 < N
  · have h1i : (288 : Int) < (N : Int) := by omega
    go_wp2
    go_ret
    exact ⟨by rw [HRF.out (fun h => by have := h.1; rw [HN.out] at this; omega)]; rfl, rfl⟩
  · have h1i : ¬ (288 : Int) < (N : Int) := by omega
    by_cases h2 : most < 1
    · go_wp2
      go_ret
      exact ⟨by rw [HRF.out (fun h => by have := h.2.2.1; omega)]; rfl, rfl⟩
    · by_cases h3 : 15 < most
      · go_wp2
        go_ret
        exact ⟨by rw [HRF.out (fun h => by have := h.2.2.2.1; omega)]; rfl, rfl⟩
      · obtain ⟨mo, hmo⟩ : ∃ mo : Nat, most = (mo : Int) := ⟨most.toNat, by omega⟩
        subst hmo
        have hm2 : mo ≤ 15 := by omega
        go_wp2
        go_loop [5, 6] (fun v3 v4 => ∃ (j : Nat) (n : Nat), v4 = .int .i64 j ∧ j ≤ N ∧ v3 = .int .i64 (n : Int) ∧ n ≤ j ∧ Hid (n = (comes fs j).length ∧ ∀ i, i < j → 0 ≤ fs.getD i 0 ∧ fs.getD i 0 ≤ 1099511627776)) (fun _ v4 => N - (intOf v4).toNat)
        case atStart => exact ⟨0, 0, rfl, by omega, rfl, by omega, rfl, fun i hi => by omega⟩
        case round =>
          obtain ⟨j, n, rfl, hj, rfl, hnj, HS⟩ := hrel
          by_cases hlt : j < N
          · have hlti : (j : Int) < (N : Int) := by omega
            obtain ⟨b, off, rfl, hcell, _⟩ := HR.out.at (show j < fs.length by rw [HN.out]; exact hlt)
            obtain ⟨F, hF⟩ : ∃ F, fs.getD j 0 = F := ⟨_, rfl⟩
            rw [hF] at hcell
            have HF : Hid (fs.getD j 0 = F) := hF
            have hcs := comes_succ fs j
            rw [hF] at hcs
            have HCS : Hid (comes fs (j + 1) = if 0 < F then comes fs j ++ [j] else comes fs j) := hcs
            clear hF hcs
            by_cases h0 : F < 0
            · go_wp2
              go_ret
              exact ⟨by rw [HRF.out (fun h => okF_no h.2.1 (i := j) (by rw [HF.out]; omega))]; rfl, rfl⟩
            · by_cases h15 : 1099511627776 < F
              · go_wp2
                go_ret
                exact ⟨by rw [HRF.out (fun h => okF_no h.2.1 (i := j) (by rw [HF.out]; omega))]; rfl, rfl⟩
              · have HS2 : Hid (∀ i, i < j + 1 → 0 ≤ fs.getD i 0 ∧ fs.getD i 0 ≤ 1099511627776) := fun i hi => by
                  by_cases e : i = j
                  · subst e; rw [HF.out]; omega
                  · exact HS.out.2 i (by omega)
                by_cases hp : 0 < F
                · have HX : Hid (n + 1 = (comes fs (j + 1)).length) := by
                    show _ = _
                    rw [HCS.out, if_pos hp, List.length_append, ← HS.out.1]; rfl
                  go_wp2
                  exact ⟨⟨j + 1, n + 1, by go_num, by omega, by go_num, by omega, HX.out, HS2.out⟩, by simp [intOf]; omega⟩
                · have HX : Hid (n = (comes fs (j + 1)).length) := by
                    show _ = _
                    rw [HCS.out, if_neg hp, ← HS.out.1]
                  go_wp2
                  exact ⟨⟨j + 1, n, by go_num, by omega, rfl, by omega, HX.out, HS2.out⟩, by simp [intOf]; omega⟩
          · obtain rfl : j = N := by omega
            have hok := okF_yes (fs := fs) (by rw [HN.out]; exact HS.out.2)
            obtain ⟨T, hT⟩ : ∃ T, 2 ^ mo = T := ⟨_, rfl⟩
            have hTb : T ≤ 32768 := by
              rw [← hT, show 32768 = 2 ^ 15 from rfl]
              exact Nat.pow_le_pow_right (by omega) hm2
            have hsh : wrap64 ((2 : Int) ^ mo) = (T : Int) := by
              rw [← hT]
              have e : ((2 : Int) ^ mo) = ((2 ^ mo : Nat) : Int) := by simp
              rw [e]
              unfold wrap64
              rw [hT]
              omega
            have HE : Hid (Q = decide (T < n)) := by
              show _ = _
              rw [← HQ.out]
              have e1 : ((mo : Int)).toNat = mo := by simp
              by_cases e : n ≤ T
              · rw [decide_eq_false (by omega)]
                exact refF_no ⟨by rw [HN.out]; omega, hok, by omega, by omega, by rw [HN.out, ← HS.out.1, e1, hT]; exact e⟩
              · rw [decide_eq_true (by omega)]
                refine refF_yes (fun h => ?_)
                have := h.2.2.2.2
                rw [HN.out, ← HS.out.1, e1, hT] at this
                exact e this
            clear hok hT
            go_wp2
            go_ret
            exact ⟨by rw [HE.out]; rfl, rfl⟩

structure OrSt (w wr : World) (fs : List Int) (a : Option Addr) (L N : Nat) (cc : Nat → Nat) : Prop where
  row : IRow wr a fs
  lb : LB wr L N cc
  bel : Below w.heap.size w wr
theorem OrSt.drewN {w wr : World} {fs : List Int} {a : Option Addr} {L N : Nat} {cc : Nat → Nat} (h : OrSt w wr fs a L N cc) (k : Nat) : OrSt w (wr.drewN k) fs a L N cc :=
  ⟨h.row.drewN k, h.lb, ⟨h.bel.os, h.bel.tape, h.bel.output, h.bel.size, h.bel.block⟩⟩
set_option maxRecDepth 20000 in
set_option maxHeartbeats 4000000 in
theorem huffOrder_walk (hsort : ∀ n, n ≤ 288 → SortsTo n) (fs : List Int) (most : Int) (a : Option Addr) (c N : Nat) (w : World) (hN : fs.length = N) (hrow : IRow w a fs) (hlen : N ≤ 9223372036854775807) :
    Calls Try.prog 6 #[.slice a N c, .int .i64 most] w fun e w' => e = .returned (.bool true) ∧ Below w.heap.size w w' := by
  have HR : Hid (IRow w a fs) := hrow
  have HN : Hid (fs.length = N) := hN
  have HC : Hid (∀ _ : Unit, Calls Try.prog 8 #[.slice a N c, .int .i64 most] w fun e w' => LensEnd w fs most e w') := fun _ => lengths_ok fs a c N most w hN hrow hlen (fun h => hsort _ (Nat.le_trans (comes_length_le fs N) h))
  have HM : Hid (∀ W, Below w.heap.size w W → Calls Try.prog 9 #[.slice a N c, .int .i64 most] W fun e w' => e = .returned (.bool (refF fs most)) ∧ w' = W) := fun W hW => refused_ok fs a c N most W hN (hrow.below hW) hlen
  clear hrow hN hsort
  go_enter Try.func6, Try.ntmps6
  go_wp2_with fail
  refine (HC.out ()).mono ?_
  rintro e w1 hE
  rcases hE with ⟨t1, t2, t3, t4, t5, L, cc, S, l, rfl, hlb, hnew, hb1, hasc, hlv, hpm, hcc⟩ | ⟨hno, rfl, hb1⟩
  · have hbest := best_of (mo := most.toNat) t1 (by omega) (by omega) hasc hlv hpm hcc
    have HO : Hid (∀ i k, i < N → k < N → fs.getD k 0 < fs.getD i 0 → 0 < fs.getD k 0 → cc i ≤ cc k) := fun i k h1 h2 h3 h4 => hbest.order i k (by rw [HN.out]; exact h1) (by rw [HN.out]; exact h2) h3 h4
    have HT : Hid (∀ i, i < N → cc i ≤ 15) := fun i hi => Nat.le_trans (hbest.top i (by rw [HN.out]; exact hi)) (by omega)
    rw [HN.out] at hlb
    have H1 : Hid (OrSt w w1 fs a L N cc) := ⟨HR.out.below hb1, hlb, hb1⟩
    rw [HN.out]
    clear t1 t2 t3 t4 t5 hlb hnew hb1 hasc hlv hpm hcc hbest HC HM HR
    go_wp2
    go_loopw [7, 8] (fun v5 _ wr => ∃ i : Nat, v5 = .int .i64 i ∧ i ≤ N ∧ Hid (OrSt w wr fs a L N cc)) (fun v5 _ _ => N - (intOf v5).toNat)
    case atStart => exact ⟨0, rfl, by omega, H1⟩
    case round =>
      obtain ⟨i, rfl, hi, HS⟩ := hrel
      by_cases hlt : i < N
      · have hlti : (i : Int) < (N : Int) := by omega
        go_wp2
        go_loopw [8] (fun v6 wr => ∃ k : Nat, v6 = .int .i64 k ∧ k ≤ N ∧ Hid (OrSt w wr fs a L N cc)) (fun v6 _ => N - (intOf v6).toNat)
        case atStart => exact ⟨0, rfl, by omega, HS⟩
        case round =>
          obtain ⟨k, rfl, hk, HS2⟩ := hrel
          by_cases hltk : k < N
          · have hltki : (k : Int) < (N : Int) := by omega
            obtain ⟨b, off, rfl, c1, _⟩ := HS2.out.row.at (show i < fs.length by rw [HN.out]; exact hlt)
            obtain ⟨b', off', hbo, c2, _⟩ := HS2.out.row.at (show k < fs.length by rw [HN.out]; exact hltk)
            cases hbo
            have c3 := (HS2.out.lb.cell hlt).1
            have c4 := (HS2.out.lb.cell hltk).1
            obtain ⟨fi, hfi⟩ : ∃ f, fs.getD i 0 = f := ⟨_, rfl⟩
            obtain ⟨fk, hfk⟩ : ∃ f, fs.getD k 0 = f := ⟨_, rfl⟩
            have hor := HO.out i k hlt hltk
            obtain ⟨ci, hci⟩ : ∃ v, cc i = v := ⟨_, rfl⟩
            obtain ⟨ck, hck⟩ : ∃ v, cc k = v := ⟨_, rfl⟩
            rw [hfi, hfk, hci, hck] at hor
            rw [hfi] at c1
            rw [hfk] at c2
            rw [hci] at c3
            rw [hck] at c4
            have NEXT : Hid (∀ n, OrSt w (wr.drewN n) fs (some ⟨b, off, none⟩) L N cc) := fun n => HS2.out.drewN n
            clear hfi hfk hci hck
            by_cases g1 : fk < fi
            · by_cases g2 : 0 < fk
              · have g3 : ¬ (ck : Int) < (ci : Int) := by have := hor g1 g2; omega
                clear hor
                go_wp2_with fail
                go_quiet (fail)
                go_wp2
                exact ⟨⟨k + 1, by go_num, by omega, NEXT.out nq⟩, by simp [intOf]; omega⟩
              · clear hor
                have g2b : decide (0 < fk) = false := decide_eq_false g2
                have g2c : fk ≤ 0 := by omega
                go_wp2_with fail
                go_quiet (fail)
                go_wp2
                exact ⟨⟨k + 1, by go_num, by omega, NEXT.out nq⟩, by simp [intOf]; omega⟩
            · clear hor
              have g1b : decide (fk < fi) = false := decide_eq_false g1
              have g1c : fi ≤ fk := by omega
              go_wp2_with fail
              go_quiet (fail)
              go_wp2
              exact ⟨⟨k + 1, by go_num, by omega, NEXT.out nq⟩, by simp [intOf]; omega⟩
          · have hltki : ¬ (k : Int) < (N : Int) := by omega
            go_wp2
            exact ⟨⟨i + 1, by go_num, by omega, HS2⟩, by simp [intOf]; omega⟩
      · have hlti : ¬ (i : Int) < (N : Int) := by omega
        go_wp2_with fail
        refine (awake _).mono ?_
        rintro e w3 ⟨rfl, hb3⟩
        have H3 : Hid (Below w.heap.size w w3) := HS.out.bel.trans (hb3.mono HS.out.bel.size)
        clear hb3
        go_wp2
        go_ret
        exact ⟨rfl, H3.out⟩
  · have HB : Hid (Below w.heap.size w w1) := hb1
    have HM1 : Hid (∀ _ : Unit, Calls Try.prog 9 #[.slice a N c, .int .i64 most] w1 fun e w' => e = .returned (.bool true) ∧ w' = w1) := fun _ => by
      have := HM.out w1 hb1
      rw [refF_yes hno] at this
      exact this
    clear hno hb1 HC HM
    go_wp2_with (first
      | (go_at_call 9; refine (HM1.out ()).mono ?_; rintro e w2 ⟨rfl, hw⟩; obtain rfl := hw.symm)
      | (go_at_call 10; refine (awake _).mono ?_; rintro e w3 ⟨rfl, hb3⟩; have H3 : Hid (Below w.heap.size w w3) := HB.out.trans (hb3.mono HB.out.size); clear hb3))
    go_ret
    exact ⟨rfl, H3.out⟩
end Go.Proofs.Ytklipommocijaaa
