/- The stable sort of packs, over its merging of two sorted parts. -/
import Derived.Test.YtklipommocijaaaGf
import Derived.LoopN
namespace Go.Proofs.Ytklipommocijaaa
open Go.RowKit PT Go.Sort
set_option linter.unusedVariables false

/-- The row holds d, a permutation of what it held. -/
structure SortSt (w0 : World) (blk off N : Nat) (d0 d : Array PT) (w : World) : Prop where
  row : RowK PT.enc 2 w0 blk off d0
  size0 : d0.size = N
  size : d.size = N
  perm : PermIn 0 N d0 d
  swk : SWK PT.enc 2 w0 blk off d w
theorem SortSt.step {w0 : World} {blk off N a b : Nat} {d0 d d' : Array PT} {w w' : World} (h : SortSt w0 blk off N d0 d w) (hb : b ≤ N) (hp : PermIn a b d d') (hs : SWK PT.enc 2 w0 blk off d' w') : SortSt w0 blk off N d0 d' w' :=
  ⟨h.row, h.size0, hp.1.trans h.size, permIn_trans _ _ _ _ _ h.perm (permIn_mono _ _ a b 0 N (by omega) hb (by rw [h.size]; exact Nat.le_refl _) hp), hs⟩
theorem sortedIn_keep {a b x y : Nat} {d d' : Array PT} (hp : PermIn a b d d') (h : SortedIn (ltOf cf) x y d) (hd : y ≤ a ∨ b ≤ x) : SortedIn (ltOf cf) x y d' := fun i j h1 h2 h3 => by
  rw [hp.2.1 i (by omega), hp.2.1 j (by omega)]
  exact h i j h1 h2 h3
/-- Merging: two sorted parts become one. -/
def SymOK : Prop := ∀ (w0 : World) (blk off cap N a m b : Nat) (d0 d : Array PT) (w : World), SortSt w0 blk off N d0 d w → N ≤ 100000 → a < m → m < b → b ≤ N → SortedIn (ltOf cf) a m d → SortedIn (ltOf cf) m b d →
  Calls Try.prog 55 #[.slice (some ⟨blk, off, none⟩) N cap, .int .i64 a, .int .i64 m, .int .i64 b, .func (.func 45) #[] #[]] w fun e w' =>
    e = .returned (.tuple #[]) ∧ ∃ d', PermIn a b d d' ∧ SortedIn (ltOf cf) a b d' ∧ SWK PT.enc 2 w0 blk off d' w'
/-- Each part of so many is sorted, from a on those of the one size, up to a those of twice it. -/
def Parts (bs N : Nat) (d : Array PT) : Prop := ∀ q, SortedIn (ltOf cf) (q * bs) (min (q * bs + bs) N) d

theorem sorted_sub {x y x' y' : Nat} {d : Array PT} (h : SortedIn (ltOf cf) x y d) (h1 : x ≤ x') (h2 : y' ≤ y) : SortedIn (ltOf cf) x' y' d := fun i j a b c => h i j (by omega) b (by omega)
theorem sorted_empty {x y : Nat} {d : Array PT} (h : y ≤ x + 1) : SortedIn (ltOf cf) x y d := fun i j a b c => by omega

structure MergeSt (bs N j : Nat) (d : Array PT) : Prop where
  done : ∀ q, q < j → SortedIn (ltOf cf) (q * (2 * bs)) (q * (2 * bs) + 2 * bs) d
  rest : ∀ q, 2 * j ≤ q → SortedIn (ltOf cf) (q * bs) (min (q * bs + bs) N) d

theorem MergeSt.start {bs N : Nat} {d : Array PT} (h : Parts bs N d) : MergeSt bs N 0 d := ⟨fun q hq => by omega, fun q _ => h q⟩
theorem MergeSt.left {bs N j A : Nat} {d : Array PT} (h : MergeSt bs N j d) (hA : j * (2 * bs) = A) (hle : A + bs ≤ N) : SortedIn (ltOf cf) A (A + bs) d := by
  have := h.rest (2 * j) (Nat.le_refl _)
  rw [show 2 * j * bs = A by rw [← hA, Nat.mul_comm 2 j, Nat.mul_assoc]] at this
  exact sorted_sub this (Nat.le_refl _) (by omega)
theorem MergeSt.right {bs N j A : Nat} {d : Array PT} (h : MergeSt bs N j d) (hA : j * (2 * bs) = A) : SortedIn (ltOf cf) (A + bs) (min (A + 2 * bs) N) d := by
  have := h.rest (2 * j + 1) (by omega)
  rw [show (2 * j + 1) * bs = A + bs by rw [← hA, Nat.add_mul, Nat.mul_comm 2 j, Nat.mul_assoc, Nat.one_mul]] at this
  exact sorted_sub this (Nat.le_refl _) (by omega)
theorem mul_step {q j bs : Nat} (h : q < j) : q * (2 * bs) + 2 * bs ≤ j * (2 * bs) := by
  have := Nat.mul_le_mul_right (2 * bs) (show q + 1 ≤ j from h)
  rwa [Nat.add_mul, Nat.one_mul] at this
theorem mul_far {q j bs A : Nat} (hA : j * (2 * bs) = A) (h : 2 * (j + 1) ≤ q) : A + 2 * bs ≤ q * bs := by
  have := Nat.mul_le_mul_right bs h
  rw [show 2 * (j + 1) * bs = A + 2 * bs by rw [← hA, Nat.mul_add, Nat.add_mul, Nat.mul_comm 2 j, Nat.mul_assoc, Nat.mul_one]] at this
  exact this
theorem MergeSt.next {bs N j A : Nat} {d d' : Array PT} (h : MergeSt bs N j d) (hA : j * (2 * bs) = A) (hp : PermIn A (A + 2 * bs) d d') (hs : SortedIn (ltOf cf) A (A + 2 * bs) d') : MergeSt bs N (j + 1) d' := by
  refine ⟨fun q hq => ?_, fun q hq => ?_⟩
  · by_cases e : q = j
    · subst e; rw [hA]; exact hs
    · have := mul_step (bs := bs) (show q < j by omega)
      exact sortedIn_keep hp (h.done q (by omega)) (by omega)
  · have := mul_far hA hq
    exact sortedIn_keep hp (h.rest q (by omega)) (by omega)
theorem MergeSt.parts {bs N j A : Nat} {d : Array PT} (h : MergeSt bs N j d) (hA : j * (2 * bs) = A) (hlt : N < A + 2 * bs) (hs : SortedIn (ltOf cf) A N d) : Parts (2 * bs) N d := fun q => by
  by_cases e : q < j
  · exact sorted_sub (h.done q e) (Nat.le_refl _) (by omega)
  · by_cases e2 : q = j
    · subst e2; rw [hA]; exact sorted_sub hs (Nat.le_refl _) (by omega)
    · have := mul_step (bs := bs) (show j < q by omega)
      exact sorted_empty (by omega)
theorem MergeSt.last {bs N j A : Nat} {d d' : Array PT} (h : MergeSt bs N j d) (hA : j * (2 * bs) = A) (hlt : N < A + 2 * bs) (hp : PermIn A N d d') (hs : SortedIn (ltOf cf) A N d') : Parts (2 * bs) N d' := fun q => by
  by_cases e : q < j
  · have := mul_step (bs := bs) e
    exact sorted_sub (sortedIn_keep hp (h.done q e) (by omega)) (Nat.le_refl _) (by omega)
  · by_cases e2 : q = j
    · subst e2; rw [hA]; exact sorted_sub hs (Nat.le_refl _) (by omega)
    · have := mul_step (bs := bs) (show j < q by omega)
      exact sorted_empty (by omega)

theorem ins_st (w0 : World) (blk off cap N a b : Nat) (d0 d : Array PT) (w : World) (h : SortSt w0 blk off N d0 d w) (hN : N ≤ 100000) (hab : a ≤ b) (hb : b ≤ N) :
    Calls Try.prog 54 #[.slice (some ⟨blk, off, none⟩) N cap, .int .i64 a, .int .i64 b, .func (.func 45) #[] #[]] w fun e w' =>
      e = .returned (.tuple #[]) ∧ ∃ d', PermIn a b d d' ∧ SortedIn (ltOf cf) a b d' ∧ SWK PT.enc 2 w0 blk off d' w' := by
  have := ins_ok blk off cap a b d0 d w0 w h.row (by rw [h.size0, h.size]) h.swk hab (by rw [h.size]; exact hb) (by rw [h.size]; omega)
  rw [h.size] at this
  exact this

set_option maxRecDepth 20000 in
set_option maxHeartbeats 4000000 in
theorem stable_ok (w0 : World) (blk off cap N : Nat) (d0 : Array PT) (hN : N ≤ 100000) (hsym : 20 < N → SymOK) (hst : SortSt w0 blk off N d0 d0 w0) :
    Calls Try.prog 51 #[.slice (some ⟨blk, off, none⟩) N cap, .int .i64 N, .func (.func 45) #[] #[]] w0 fun e w' =>
      e = .returned (.tuple #[]) ∧ ∃ d', SortSt w0 blk off N d0 d' w' ∧ SortedIn (ltOf cf) 0 N d' := by
  have HST : Hid (SortSt w0 blk off N d0 d0 w0) := hst
  have HSY : Hid (20 < N → SymOK) := hsym
  clear hst hsym
  go_enter Try.func51, Try.ntmps51
  go_wp2
  go_loopw [7, 8] (fun v7 v8 wr => ∃ (j : Nat) (d : Array PT), v7 = .int .i64 ((20 * j : Nat) : Int) ∧ v8 = .int .i64 ((20 * j + 20 : Nat) : Int) ∧ 20 * j ≤ N ∧ Hid (SortSt w0 blk off N d0 d wr ∧ ∀ q, q < j → SortedIn (ltOf cf) (20 * q) (20 * q + 20) d)) (fun _ v8 _ => N + 40 - (intOf v8).toNat)
  case atStart => exact ⟨0, d0, rfl, rfl, by omega, HST.out, fun q hq => by omega⟩
  case round =>
    obtain ⟨j, d, rfl, rfl, hj, HS⟩ := hrel
    obtain ⟨A, hA⟩ : ∃ A, 20 * j = A := ⟨_, rfl⟩
    have HA : Hid (20 * j = A) := hA
    rw [hA] at hj ⊢
    clear hA
    by_cases hlt : A + 20 ≤ N
    · have hlti : (A : Int) + 20 ≤ (N : Int) := by omega
      go_wp2_with fail
      refine (ins_st w0 blk off cap N A (A + 20) d0 d wr HS.out.1 hN (by omega) hlt).mono ?_
      rintro e w1 ⟨rfl, d1, hp, hso, hsw⟩
      have H1 : Hid (SortSt w0 blk off N d0 d1 w1 ∧ ∀ q, q < j + 1 → SortedIn (ltOf cf) (20 * q) (20 * q + 20) d1) := by
        refine ⟨HS.out.1.step hlt hp hsw, fun q hq => ?_⟩
        have := HA.out
        by_cases e : q = j
        · subst e; rw [HA.out]; exact hso
        · exact sortedIn_keep hp (HS.out.2 q (by omega)) (by omega)
      clear hp hso hsw
      go_wp2
      refine ⟨⟨j + 1, d1, ?_, ?_, by have := HA.out; omega, H1⟩, by simp [intOf]; omega⟩
      · have := HA.out; congr 1; omega
      · have := HA.out; congr 1; omega
    · have hlti : ¬ ((A : Int) + 20 ≤ (N : Int)) := by omega
      go_wp2_with fail
      refine (ins_st w0 blk off cap N A N d0 d wr HS.out.1 hN hj (Nat.le_refl _)).mono ?_
      rintro e w1 ⟨rfl, d1, hp, hso, hsw⟩
      have H1 : Hid (SortSt w0 blk off N d0 d1 w1 ∧ Parts 20 N d1) := by
        refine ⟨HS.out.1.step (Nat.le_refl _) hp hsw, fun q => ?_⟩
        have := HA.out
        by_cases e : q < j
        · refine sorted_sub (sortedIn_keep hp (HS.out.2 q e) (by omega)) (by omega) (by omega)
        · exact sorted_sub hso (by omega) (by omega)
      clear hp hso hsw
      go_wp2
      go_loopw [6, 7, 8, 9] (fun v6 _ _ _ wr => ∃ (bs : Nat) (d : Array PT), v6 = .int .i64 bs ∧ 20 ≤ bs ∧ bs ≤ 200000 ∧ Hid (SortSt w0 blk off N d0 d wr ∧ Parts bs N d)) (fun v6 _ _ _ _ => 200001 - (intOf v6).toNat)
      case atStart => exact ⟨20, d1, rfl, by omega, by omega, H1⟩
      case round =>
        obtain ⟨bs, d, rfl, hbs, hbs2, HS⟩ := hrel
        by_cases hlt : bs < N
        · have hlti : (bs : Int) < (N : Int) := by omega
          have hsy := HSY.out (by omega)
          have HSY2 : Hid SymOK := hsy
          clear hsy
          go_wp2
          go_loopw [7, 8] (fun v7 v8 wr => ∃ (j A : Nat) (d : Array PT), v7 = .int .i64 (A : Int) ∧ v8 = .int .i64 ((A + 2 * bs : Nat) : Int) ∧ A ≤ N ∧ Hid (j * (2 * bs) = A ∧ SortSt w0 blk off N d0 d wr ∧ MergeSt bs N j d)) (fun v7 _ _ => N + 1 - (intOf v7).toNat)
          case atStart => exact ⟨0, 0, d, rfl, by congr 1; omega, by omega, by simp, HS.out.1, MergeSt.start HS.out.2⟩
          case round =>
            obtain ⟨j, A2, d2, rfl, rfl, hA2, HM⟩ := hrel
            by_cases hle : A2 + 2 * bs ≤ N
            · have hlei : (A2 : Int) + 2 * (bs : Int) ≤ (N : Int) := by omega
              go_wp2_with fail
              refine (HSY2.out w0 blk off cap N A2 (A2 + bs) (A2 + 2 * bs) d0 d2 wr HM.out.2.1 hN (by omega) (by omega) hle (HM.out.2.2.left HM.out.1 (by omega)) (sorted_sub (HM.out.2.2.right HM.out.1) (Nat.le_refl _) (by omega))).mono ?_
              rintro e w2 ⟨rfl, d3, hp, hso, hsw⟩
              have H3 : Hid ((j + 1) * (2 * bs) = A2 + 2 * bs ∧ SortSt w0 blk off N d0 d3 w2 ∧ MergeSt bs N (j + 1) d3) := ⟨by rw [Nat.add_mul, HM.out.1, Nat.one_mul], HM.out.2.1.step hle hp hsw, HM.out.2.2.next HM.out.1 hp hso⟩
              clear hp hso hsw
              go_wp2
              refine ⟨⟨j + 1, A2 + 2 * bs, d3, ?_, ?_, hle, H3⟩, by simp [intOf]; omega⟩
              · first | rfl | (congr 1; omega) | congr 1
              · first | rfl | (congr 1; omega) | congr 1
            · have hlei : ¬ ((A2 : Int) + 2 * (bs : Int) ≤ (N : Int)) := by omega
              by_cases hm : A2 + bs < N
              · have hmi : (A2 : Int) + (bs : Int) < (N : Int) := by omega
                go_wp2_with fail
                refine (HSY2.out w0 blk off cap N A2 (A2 + bs) N d0 d2 wr HM.out.2.1 hN (by omega) (by omega) (Nat.le_refl _) (HM.out.2.2.left HM.out.1 (by omega)) (sorted_sub (HM.out.2.2.right HM.out.1) (Nat.le_refl _) (by omega))).mono ?_
                rintro e w2 ⟨rfl, d3, hp, hso, hsw⟩
                have H3 : Hid (SortSt w0 blk off N d0 d3 w2 ∧ Parts (2 * bs) N d3) := ⟨HM.out.2.1.step (Nat.le_refl _) hp hsw, HM.out.2.2.last HM.out.1 (by omega) hp hso⟩
                clear hp hso hsw
                go_wp2
                refine ⟨⟨2 * bs, d3, ?_, by omega, by omega, H3⟩, by simp [intOf]; omega⟩
                congr 1; omega
              · have hmi : ¬ ((A2 : Int) + (bs : Int) < (N : Int)) := by omega
                have H3 : Hid (SortSt w0 blk off N d0 d2 wr ∧ Parts (2 * bs) N d2) := by
                  refine ⟨HM.out.2.1, HM.out.2.2.parts HM.out.1 (by omega) ?_⟩
                  have := HM.out.2.2.rest (2 * j) (Nat.le_refl _)
                  rw [show 2 * j * bs = A2 by rw [← HM.out.1, Nat.mul_comm 2 j, Nat.mul_assoc]] at this
                  exact sorted_sub this (Nat.le_refl _) (by omega)
                go_wp2
                refine ⟨⟨2 * bs, d2, ?_, by omega, by omega, H3⟩, by simp [intOf]; omega⟩
                congr 1; omega
        · have hlti : ¬ (bs : Int) < (N : Int) := by omega
          go_wp2
          go_end0
          refine ⟨rfl, d, HS.out.1, ?_⟩
          have := HS.out.2 0
          rw [Nat.zero_mul, Nat.min_eq_right (by omega)] at this
          exact this

/-- The sort of so many packs. -/
def SortsTo (N : Nat) : Prop := ∀ (blk off cap : Nat) (d : Array PT) (w : World), SortSt w blk off N d d w →
  Calls Try.prog 44 #[.slice (some ⟨blk, off, none⟩) N cap, .func (.func 45) #[] #[]] w fun e w' =>
    e = .returned (.tuple #[]) ∧ ∃ d', SortSt w blk off N d d' w' ∧ SortedIn (ltOf cf) 0 N d'
theorem sorts_of (N : Nat) (hN : N ≤ 100000) (hsym : 20 < N → SymOK) : SortsTo N := fun blk off cap d w hst => by
  have h := fun _ : Unit => stable_ok w blk off cap N d hN hsym hst
  have H : Hid _ := h
  clear h hst hsym
  go_enter Try.func44, Try.ntmps44
  go_wp2_with fail
  refine (H.out ()).mono ?_
  rintro e w1 ⟨rfl, d1, h1, h2⟩
  go_wp2
  go_end0
  exact ⟨rfl, d1, h1, h2⟩
theorem sorts_small (N : Nat) (hN : N ≤ 20) : SortsTo N := sorts_of N (by omega) (fun h => by omega)
/-- .. of none. -/
theorem sort_nil (w : World) :
    Calls Try.prog 44 #[.slice none 0 0, .func (.func 45) #[] #[]] w fun e w' => e = .returned (.tuple #[]) ∧ w' = w := by
  have hi : ∀ (w1 : World), Calls Try.prog 54 #[.slice none 0 0, .int .i64 0, .int .i64 0, .func (.func 45) #[] #[]] w1 fun e w' => e = .returned (.tuple #[]) ∧ w' = w1 := by
    intro w1
    go_enter Try.func54, Try.ntmps54
    go_wp2
    refine wp_loop_rounds 1 ?_
    rw [rounds_succ]
    go_wp2
    go_end0
    exact ⟨rfl, rfl⟩
  have HI : Hid _ := hi
  clear hi
  have hs : ∀ _ : Unit, Calls Try.prog 51 #[.slice none 0 0, .int .i64 0, .func (.func 45) #[] #[]] w fun e w' => e = .returned (.tuple #[]) ∧ w' = w := by
    intro _
    go_enter Try.func51, Try.ntmps51
    go_wp2
    refine wp_loop_rounds 1 ?_
    rw [rounds_succ]
    go_wp2_with fail
    refine (HI.out _).mono ?_
    rintro e w1 ⟨rfl, hw⟩
    obtain rfl := hw.symm
    go_wp2
    refine wp_loop_rounds 1 ?_
    rw [rounds_succ]
    go_wp2
    go_end0
    exact ⟨rfl, rfl⟩
  have HS : Hid _ := hs
  clear hs HI
  go_enter Try.func44, Try.ntmps44
  go_wp2_with fail
  refine (HS.out ()).mono ?_
  rintro e w1 ⟨rfl, hw⟩
  obtain rfl := hw.symm
  go_wp2
  go_end0
  exact ⟨rfl, rfl⟩
end Go.Proofs.Ytklipommocijaaa
