/- HuffApart's walk: no word begins another one. -/
import Derived.Test.YtjambofhkophcaaGr
import Derived.Test.YtjambofhkophcaaGs
namespace Go.Proofs.Ytjambofhkophcaa
open Go.RowKit PT
set_option linter.unusedVariables false

theorem cw_fits {xs : List Int} (h : may xs = true) (hf : ew (nsOf xs) 15 ≤ 32768) (i : Nat) (hi : i < xs.length) : cw (nsOf xs) i < 2 ^ (nsOf xs).getD i 0 := by
  unfold cw
  split
  · exact Nat.pos_of_ne_zero (by simp)
  · have h15 : (nsOf xs).getD i 0 ≤ 15 := by rw [nsOf_get]; have := may_get h i; omega
    refine codeW_fits (nsOf xs) i (by rw [nsOf_length]; exact hi) (by omega) h15 ?_
    have e := endW_share (nsOf xs) 14 (by omega)
    have : ew (nsOf xs) 15 = endW (nsOf xs) 15 := rfl
    simp at e
    omega
theorem cw_apart {xs : List Int} (i k : Nat) (hi : i < xs.length) (hk : k < xs.length) (hne : i ≠ k) (h1 : 1 ≤ (nsOf xs).getD i 0) (hle : (nsOf xs).getD i 0 ≤ (nsOf xs).getD k 0) :
    cw (nsOf xs) k / 2 ^ ((nsOf xs).getD k 0 - (nsOf xs).getD i 0) ≠ cw (nsOf xs) i := by
  unfold cw
  rw [if_neg (by omega), if_neg (by omega)]
  exact codeW_apart (nsOf xs) i k (by rw [nsOf_length]; exact hi) (by rw [nsOf_length]; exact hk) hne h1 hle

structure ApSt (w w1 wr : World) (xs : List Int) (a : Option Addr) (L N m : Nat) : Prop where
  eq : wr = w1.drewN m
  row : IRow wr a xs
  lb : LB wr L N (cw (nsOf xs))
  bel : Below w.heap.size w wr
theorem ApSt.drewN {w w1 wr : World} {xs : List Int} {a : Option Addr} {L N m : Nat} (h : ApSt w w1 wr xs a L N m) (k : Nat) : ApSt w w1 (wr.drewN k) xs a L N (m + k) :=
  ⟨by rw [h.eq]; simp [World.drewN, Nat.add_assoc], h.row.drewN k, h.lb, ⟨h.bel.os, h.bel.tape, h.bel.output, h.bel.size, h.bel.block⟩⟩

set_option maxRecDepth 20000 in
set_option maxHeartbeats 4000000 in
theorem huffApart_walk (xs : List Int) (a : Option Addr) (c N : Nat) (w : World) (hN : xs.length = N) (hrow : IRow w a xs) (hlen : N ≤ 9223372036854775807) :
    Calls Try.prog 6 #[.slice a N c] w fun e w' => e = .returned (.bool true) ∧ Below w.heap.size w w' := by
  have HR : Hid (IRow w a xs) := hrow
  have HN : Hid (xs.length = N) := hN
  have HC : Hid (∀ _ : Unit, Calls Try.prog 8 #[.slice a N c] w fun e w' => CodesEnd w xs e w') := fun _ => codes_ok xs a c N w hN hrow hlen
  have HM : Hid (∀ W, Below w.heap.size w W → Calls Try.prog 20 #[.slice a N c] W fun e w' => e = .returned (.bool (isCode xs)) ∧ w' = W) := fun W hW => may_ok xs a c N W hN (hrow.below hW) hlen
  clear hrow hN
  go_enter Try.func6, Try.ntmps6
  go_wp2_with fail
  refine (HC.out ()).mono ?_
  rintro e w1 ⟨hcase, hb1⟩
  have HB : Hid (Below w.heap.size w w1) := hb1
  obtain ⟨q, hq⟩ : ∃ q, isCode xs = q := ⟨_, rfl⟩
  have HM1 : Hid (∀ _ : Unit, Calls Try.prog 20 #[.slice a N c] w1 fun e w' => e = .returned (.bool q) ∧ w' = w1) := fun _ => by rw [← hq]; exact HM.out w1 hb1
  have hiff := isCode_iff xs
  rw [hq] at hiff
  rcases hcase with ⟨hm, hfit, L, rfl, hlb, hnew⟩ | ⟨hno, rfl⟩
  · obtain rfl : q = true := hiff.2 ⟨hm, hfit⟩
    have HOK : Hid (may xs = true ∧ ew (nsOf xs) 15 ≤ 32768) := ⟨hm, hfit⟩
    rw [HN.out] at hlb
    have H1 : Hid (ApSt w w1 w1 xs a L N 0) := ⟨rfl, HR.out.below hb1, hlb, hb1⟩
    rw [HN.out]
    clear hiff hq hm hfit hlb hb1 HC HM HR
    go_wp2_with (go_at_call 20; refine (HM1.out ()).mono ?_; rintro e w2 ⟨rfl, hw⟩; obtain rfl := hw.symm)
    go_loopw [5, 6] (fun v5 _ wr => ∃ i m : Nat, v5 = .int .i64 i ∧ i ≤ N ∧ Hid (ApSt w w1 wr xs a L N m)) (fun v5 _ _ => N - (intOf v5).toNat)
    case atStart => exact ⟨0, 0, rfl, by omega, H1⟩
    case round =>
      obtain ⟨i, m, rfl, hi, HS⟩ := hrel
      by_cases hlt : i < N
      · have hlti : (i : Int) < (N : Int) := by omega
        go_wp2
        go_loopw [6] (fun v6 wr => ∃ k m : Nat, v6 = .int .i64 k ∧ k ≤ N ∧ Hid (ApSt w w1 wr xs a L N m)) (fun v6 _ => N - (intOf v6).toNat)
        case atStart => exact ⟨0, m, rfl, by omega, HS⟩
        case round =>
          obtain ⟨k, m2, rfl, hk, HS2⟩ := hrel
          obtain ⟨b, off, rfl, c1, _⟩ := HS2.out.row.at (show i < xs.length by rw [HN.out]; exact hlt)
          obtain ⟨li, hli⟩ : ∃ f : Nat, xs.getD i 0 = (f : Int) := ⟨(xs.getD i 0).toNat, by have := (may_get HOK.out.1 i).1; omega⟩
          have hli15 : li ≤ 15 := by have := (may_get HOK.out.1 i).2; omega
          have c4 := (HS2.out.lb.cell hlt).1
          have hni : (nsOf xs).getD i 0 = li := by rw [nsOf_get, hli]; simp
          have hfi := cw_fits HOK.out.1 HOK.out.2 i (by rw [HN.out]; exact hlt)
          rw [hni] at hfi
          rw [hli] at c1
          by_cases hltk : k < N
          · have hltki : (k : Int) < (N : Int) := by omega
            obtain ⟨b', off', hbo, c2, _⟩ := HS2.out.row.at (show k < xs.length by rw [HN.out]; exact hltk)
            cases hbo
            obtain ⟨lk, hlk⟩ : ∃ f : Nat, xs.getD k 0 = (f : Int) := ⟨(xs.getD k 0).toNat, by have := (may_get HOK.out.1 k).1; omega⟩
            have hlk15 : lk ≤ 15 := by have := (may_get HOK.out.1 k).2; omega
            have c3 := (HS2.out.lb.cell hltk).1
            have hnk : (nsOf xs).getD k 0 = lk := by rw [nsOf_get, hlk]; simp
            rw [hlk] at c2
            have hfk := cw_fits HOK.out.1 HOK.out.2 k (by rw [HN.out]; exact hltk)
            rw [hnk] at hfk
            have hap : i ≠ k → 1 ≤ li → li ≤ lk → cw (nsOf xs) k / 2 ^ (lk - li) ≠ cw (nsOf xs) i := fun h1 h2 h3 => by
              have := cw_apart (xs := xs) i k (by rw [HN.out]; exact hlt) (by rw [HN.out]; exact hltk) h1 (by rw [hni]; exact h2) (by rw [hni, hnk]; exact h3)
              rw [hni, hnk] at this
              exact this
            obtain ⟨ci, hci⟩ : ∃ v, cw (nsOf xs) i = v := ⟨_, rfl⟩
            obtain ⟨ck, hck⟩ : ∃ v, cw (nsOf xs) k = v := ⟨_, rfl⟩
            rw [hci] at c4 hap
            rw [hck] at c3 hap
            have HAP : Hid (i ≠ k → 1 ≤ li → li ≤ lk → ck / 2 ^ (lk - li) ≠ ci) := hap
            clear hap hci hck hni hnk hli hlk hfi hfk
            have NEXT : Hid (∀ n, ApSt w w1 (wr.drewN n) xs (some ⟨b, off, none⟩) L N (m2 + n)) := fun n => HS2.out.drewN n
            by_cases hik : i = k
            · subst hik
              go_wp2_with fail
              go_quiet (fail)
              go_wp2
              exact ⟨⟨i + 1, m2 + nq, by go_num, by omega, NEXT.out nq⟩, by simp [intOf]; omega⟩
            · have hiki : ¬ (i : Int) = (k : Int) := by omega
              have hikb : ((i : Int) != (k : Int)) = true := by simpa using hiki
              by_cases hl0 : 0 < li
              · have hl0i : (0 : Int) < (li : Int) := by omega
                by_cases hle : li ≤ lk
                · have hlei : (li : Int) ≤ (lk : Int) := by omega
                  obtain ⟨d, hd⟩ : ∃ d, lk - li = d := ⟨_, rfl⟩
                  have hdi : (lk : Int) - (li : Int) = (d : Int) := by omega
                  have hdw : IntKind.i64.wrap ((lk : Int) - (li : Int)) = (d : Int) := by rw [IntKind.wrap_i64]; omega
                  have hne : ¬ ((ck : Int) / 2 ^ d = (ci : Int)) := by
                    have h := HAP.out hik (by omega) hle
                    rw [hd] at h
                    intro e
                    apply h
                    have e2 : ((ck / 2 ^ d : Nat) : Int) = (ci : Int) := by rw [← e]; simp
                    omega
                  have hneb : ((ck : Int) / 2 ^ d == (ci : Int)) = false := by simpa using hne
                  go_wp2_with fail
                  go_quiet (fail)
                  go_wp2
                  exact ⟨⟨k + 1, m2 + nq, by go_num, by omega, NEXT.out nq⟩, by simp [intOf]; omega⟩
                · have hlei : ¬ (li : Int) ≤ (lk : Int) := by omega
                  go_wp2_with fail
                  go_quiet (fail)
                  go_wp2
                  exact ⟨⟨k + 1, m2 + nq, by go_num, by omega, NEXT.out nq⟩, by simp [intOf]; omega⟩
              · have hl0i : ¬ (0 : Int) < (li : Int) := by omega
                go_wp2_with fail
                go_quiet (fail)
                go_wp2
                exact ⟨⟨k + 1, m2 + nq, by go_num, by omega, NEXT.out nq⟩, by simp [intOf]; omega⟩
          · obtain ⟨ci, hci⟩ : ∃ v, cw (nsOf xs) i = v := ⟨_, rfl⟩
            rw [hci] at c4 hfi
            have hltki : ¬ (k : Int) < (N : Int) := by omega
            have hz : (ci : Int) / 2 ^ li = 0 := by
              have e : (ci : Int) / 2 ^ li = ((ci / 2 ^ li : Nat) : Int) := by simp
              rw [e, Nat.div_eq_of_lt hfi]; rfl
            have NEXT : Hid (∀ n, ApSt w w1 (wr.drewN n) xs (some ⟨b, off, none⟩) L N (m2 + n)) := fun n => HS2.out.drewN n
            clear hci hfi hni hli
            go_wp2_with fail
            go_quiet (fail)
            go_wp2
            exact ⟨⟨i + 1, m2 + nq, by go_num, by omega, NEXT.out nq⟩, by simp [intOf]; omega⟩
      · have hlti : ¬ (i : Int) < (N : Int) := by omega
        go_wp2_with fail
        refine (awake _).mono ?_
        rintro e w3 ⟨rfl, hb3⟩
        have H3 : Hid (Below w.heap.size w w3) := HS.out.bel.trans (hb3.mono HS.out.bel.size)
        clear hb3
        go_wp2
        go_ret
        exact ⟨rfl, H3.out⟩
  · obtain rfl : q = false := by
      cases q with
      | false => rfl
      | true => exact absurd (hiff.1 rfl) hno
    clear hiff hq hno hb1 HC HM
    go_wp2_with (first
      | (go_at_call 20; refine (HM1.out ()).mono ?_; rintro e w2 ⟨rfl, hw⟩; obtain rfl := hw.symm)
      | (go_at_call 15; refine (awake _).mono ?_; rintro e w3 ⟨rfl, hb3⟩; have H3 : Hid (Below w.heap.size w w3) := HB.out.trans (hb3.mono HB.out.size); clear hb3))
    go_ret
    exact ⟨rfl, H3.out⟩
end Go.Proofs.Ytjambofhkophcaa
