/- The comparison of packs, and the insertion sort of packs, from a world of the sort's to a world of the sort's. -/
/- The stable sort of packs, over its merging of two sorted parts. -/
/- Packs of one symbol each, the rarest first. -/
/- Packs of one symbol each, the rarest first: the function itself. -/
import Derived.Test.YtlbadjfcffoakaaDoorV05
import Derived.Test.YtlbadjfcffoakaaDoorV10
import Derived.Shelf.SlSortCmp.KitK
import Derived.LoopN
namespace Go.Proofs.YtlbadjfcffoakaaDoor
open Go.RowKit PT Go.Sort
set_option linter.unusedVariables false
set_option maxRecDepth 20000

def cf (x y : PT) : Int := Lib.compareInt (x.wt : Int) (y.wt : Int)
theorem cf_lt (x y : PT) : ltOf cf x y = decide (x.wt < y.wt) := by
  unfold ltOf cf Lib.compareInt
  by_cases h : (x.wt : Int) < (y.wt : Int)
  · have : x.wt < y.wt := by omega
    simp [h, this]
  · have : ¬ x.wt < y.wt := by omega
    by_cases h2 : (y.wt : Int) < (x.wt : Int)
    · simp [h, h2]; omega
    · simp [h, h2]; omega
theorem cf_swo : SWO (ltOf cf) where
  irrefl x := by rw [cf_lt]; simp
  trans x y z h1 h2 := by rw [cf_lt] at *; simp at *; omega
  ntrans x y z h1 h2 := by rw [cf_lt] at *; simp at *; omega

set_option maxHeartbeats 1000000 in
theorem cmp_call (x y : PT) (W : World) : Calls Tryd.prog 81 #[.agg x.enc.toArray, .agg y.enc.toArray] W fun e w' => e = .returned (.int .i64 (cf x y)) ∧ ∃ q os', w' = grow (W.drewN q) os' := by
  have hcon := fun W' => AnyG.cmp_Compare_int Tryd.laysCmp (x.wt : Int) (y.wt : Int) W'
  change ∀ W', Calls Tryd.prog 82 _ _ _ at hcon
  obtain ⟨r, hr⟩ : ∃ r, cf x y = r := ⟨_, rfl⟩
  unfold cf at hr
  rw [hr] at hcon
  have hr' : cf x y = r := hr
  rw [hr']
  have HC : Hid _ := hcon
  obtain ⟨va, hva⟩ : ∃ v, x.fv = .func (.func v) #[] x.cap := ⟨_, rfl⟩
  obtain ⟨vb, hvb⟩ : ∃ v, y.fv = .func (.func v) #[] y.cap := ⟨_, rfl⟩
  unfold PT.enc
  rw [hva, hvb]
  clear hcon hr hr' hva hvb
  go_enter Tryd.func81, Tryd.ntmps81
  go_wp2_with (go_at_call 82; refine (HC.out _).mono ?_; rintro e w' ⟨rfl, rfl⟩)
  go_ret
  exact ⟨rfl, 0, _, by rw [alloc_eq_grow, alloc_eq_grow, grow_grow]; rfl⟩
theorem cmpLays (blk off size : Nat) (w : World) : CmpLays Tryd.prog 81 #[] PT.enc 2 cf blk off size w := fun m os dk _ x y => cmp_call x y _

theorem ins_ok (blk off cap a b : Nat) (d0 d : Array PT) (w0 w : World) (R : RowK PT.enc 2 w0 blk off d0) (hs : d0.size = d.size) (S : SWK PT.enc 2 w0 blk off d w) (hab : a ≤ b) (hb : b ≤ d.size) (hsz : d.size < 4611686018427387904) :
    Calls Tryd.prog 91 #[.slice (some ⟨blk, off, none⟩) d.size cap, .int .i64 a, .int .i64 b, .func (.func 81) #[] #[]] w fun e w' =>
      e = .returned (.tuple #[]) ∧ ∃ d', PermIn a b d d' ∧ SortedIn (ltOf cf) a b d' ∧ SWK PT.enc 2 w0 blk off d' w' := by
  obtain ⟨h1, h2⟩ := insertionSort_holds cf_swo d a b hab hb
  have eg : ∀ args w, (callFunc 81 args).run Tryd.prog w = .ok (.enter 81 args) w := enters_of Tryd.func81 (by kernel_rfl) rfl
  refine (AnyQ.insertionSortCmpFunc Tryd.laysIns 2 Tryd.isAgg138 Tryd.sizeOf138 PT.enc R.hk R.h1 cf 81 #[] blk off cap a b d w eg (cmpLays _ _ _ _) (S.holds R.hblk R.hH hs.symm) (S.lt R.hblk) hab hb hsz).mono ?_
  rintro e w' ⟨rfl, n, os, rfl⟩
  exact ⟨rfl, _, h1, h2, S.on R.hblk n _ os h1.1⟩
end Go.Proofs.YtlbadjfcffoakaaDoor
namespace Go.Proofs.YtlbadjfcffoakaaDoor
open Go.RowKit PT Go.Sort
set_option linter.unusedVariables false
set_option maxRecDepth 20000

structure SortSt (w0 : World) (blk off N : Nat) (d0 d : Array PT) (w : World) : Prop where
  row : RowK PT.enc 2 w0 blk off d0
  size0 : d0.size = N
  size : d.size = N
  perm : PermIn 0 N d0 d
  swk : SWK PT.enc 2 w0 blk off d w
theorem SortSt.step {w0 : World} {blk off N a b : Nat} {d0 d d' : Array PT} {w w' : World} (h : SortSt w0 blk off N d0 d w) (hb : b ≤ N) (hp : PermIn a b d d') (hs : SWK PT.enc 2 w0 blk off d' w') : SortSt w0 blk off N d0 d' w' :=
  ⟨h.row, h.size0, hp.1.trans h.size, permIn_trans _ _ _ _ _ h.perm (permIn_mono _ _ a b 0 N (by omega) hb (by rw [h.size]; exact Nat.le_refl _) hp), hs⟩
theorem sortedIn_keep {a b x y : Nat} {d d' : Array PT} (hp : PermIn a b d d') (h : SortedIn (ltOf cf) x y d) (hd : y ≤ a ∨ b ≤ x) : SortedIn (ltOf cf) x y d' := fun i j h1 h2 h3 => by
  rw [hp.2.1 i (by omega), hp.2.1 j (by omega)]
  exact h i j h1 h2 h3
def SymOK : Prop := ∀ (w0 : World) (blk off cap N a m b : Nat) (d0 d : Array PT) (w : World), SortSt w0 blk off N d0 d w → N ≤ 100000 → a < m → m < b → b ≤ N → SortedIn (ltOf cf) a m d → SortedIn (ltOf cf) m b d →
  Calls Tryd.prog 92 #[.slice (some ⟨blk, off, none⟩) N cap, .int .i64 a, .int .i64 m, .int .i64 b, .func (.func 81) #[] #[]] w fun e w' =>
    e = .returned (.tuple #[]) ∧ ∃ d', PermIn a b d d' ∧ SortedIn (ltOf cf) a b d' ∧ SWK PT.enc 2 w0 blk off d' w'
def Parts (bs N : Nat) (d : Array PT) : Prop := ∀ q, SortedIn (ltOf cf) (q * bs) (min (q * bs + bs) N) d

theorem sorted_sub {x y x' y' : Nat} {d : Array PT} (h : SortedIn (ltOf cf) x y d) (h1 : x ≤ x') (h2 : y' ≤ y) : SortedIn (ltOf cf) x' y' d := fun i j a b c => h i j (by omega) b (by omega)
theorem sorted_empty {x y : Nat} {d : Array PT} (h : y ≤ x + 1) : SortedIn (ltOf cf) x y d := fun i j a b c => by omega

structure MergeSt (bs N j : Nat) (d : Array PT) : Prop where
  done : ∀ q, q < j → SortedIn (ltOf cf) (q * (2 * bs)) (q * (2 * bs) + 2 * bs) d
  rest : ∀ q, 2 * j ≤ q → SortedIn (ltOf cf) (q * bs) (min (q * bs + bs) N) d

theorem MergeSt.start {bs N : Nat} {d : Array PT} (h : Parts bs N d) : MergeSt bs N 0 d := ⟨fun q hq => by omega, fun q _ => h q⟩
theorem MergeSt.left {bs N j A : Nat} {d : Array PT} (h : MergeSt bs N j d) (hA : j * (2 * bs) = A) (hle : A + bs ≤ N) : SortedIn (ltOf cf) A (A + bs) d := by
  have := h.rest (2 * j) (Nat.le_refl _)
  rw [show 2 * j * bs = A by rw [← hA, Nat.mul_comm 2 j, Nat.mul_assoc]] at this
  exact sorted_sub this (Nat.le_refl _) (by omega)
theorem MergeSt.right {bs N j A : Nat} {d : Array PT} (h : MergeSt bs N j d) (hA : j * (2 * bs) = A) : SortedIn (ltOf cf) (A + bs) (min (A + 2 * bs) N) d := by
  have := h.rest (2 * j + 1) (by omega)
  rw [show (2 * j + 1) * bs = A + bs by rw [← hA, Nat.add_mul, Nat.mul_comm 2 j, Nat.mul_assoc, Nat.one_mul]] at this
  exact sorted_sub this (Nat.le_refl _) (by omega)
theorem mul_step {q j bs : Nat} (h : q < j) : q * (2 * bs) + 2 * bs ≤ j * (2 * bs) := by
  have := Nat.mul_le_mul_right (2 * bs) (show q + 1 ≤ j from h)
  rwa [Nat.add_mul, Nat.one_mul] at this
theorem mul_far {q j bs A : Nat} (hA : j * (2 * bs) = A) (h : 2 * (j + 1) ≤ q) : A + 2 * bs ≤ q * bs := by
  have := Nat.mul_le_mul_right bs h
  rw [show 2 * (j + 1) * bs = A + 2 * bs by rw [← hA, Nat.mul_add, Nat.add_mul, Nat.mul_comm 2 j, Nat.mul_assoc, Nat.mul_one]] at this
  exact this
theorem MergeSt.next {bs N j A : Nat} {d d' : Array PT} (h : MergeSt bs N j d) (hA : j * (2 * bs) = A) (hp : PermIn A (A + 2 * bs) d d') (hs : SortedIn (ltOf cf) A (A + 2 * bs) d') : MergeSt bs N (j + 1) d' := by
  refine ⟨fun q hq => ?_, fun q hq => ?_⟩
  · by_cases e : q = j
    · subst e; rw [hA]; exact hs
    · have := mul_step (bs := bs) (show q < j by omega)
      exact sortedIn_keep hp (h.done q (by omega)) (by omega)
  · have := mul_far hA hq
    exact sortedIn_keep hp (h.rest q (by omega)) (by omega)
theorem MergeSt.parts {bs N j A : Nat} {d : Array PT} (h : MergeSt bs N j d) (hA : j * (2 * bs) = A) (hlt : N < A + 2 * bs) (hs : SortedIn (ltOf cf) A N d) : Parts (2 * bs) N d := fun q => by
  by_cases e : q < j
  · exact sorted_sub (h.done q e) (Nat.le_refl _) (by omega)
  · by_cases e2 : q = j
    · subst e2; rw [hA]; exact sorted_sub hs (Nat.le_refl _) (by omega)
    · have := mul_step (bs := bs) (show j < q by omega)
      exact sorted_empty (by omega)
theorem MergeSt.last {bs N j A : Nat} {d d' : Array PT} (h : MergeSt bs N j d) (hA : j * (2 * bs) = A) (hlt : N < A + 2 * bs) (hp : PermIn A N d d') (hs : SortedIn (ltOf cf) A N d') : Parts (2 * bs) N d' := fun q => by
  by_cases e : q < j
  · have := mul_step (bs := bs) e
    exact sorted_sub (sortedIn_keep hp (h.done q e) (by omega)) (Nat.le_refl _) (by omega)
  · by_cases e2 : q = j
    · subst e2; rw [hA]; exact sorted_sub hs (Nat.le_refl _) (by omega)
    · have := mul_step (bs := bs) (show j < q by omega)
      exact sorted_empty (by omega)

theorem ins_st (w0 : World) (blk off cap N a b : Nat) (d0 d : Array PT) (w : World) (h : SortSt w0 blk off N d0 d w) (hN : N ≤ 100000) (hab : a ≤ b) (hb : b ≤ N) :
    Calls Tryd.prog 91 #[.slice (some ⟨blk, off, none⟩) N cap, .int .i64 a, .int .i64 b, .func (.func 81) #[] #[]] w fun e w' =>
      e = .returned (.tuple #[]) ∧ ∃ d', PermIn a b d d' ∧ SortedIn (ltOf cf) a b d' ∧ SWK PT.enc 2 w0 blk off d' w' := by
  have := ins_ok blk off cap a b d0 d w0 w h.row (by rw [h.size0, h.size]) h.swk hab (by rw [h.size]; exact hb) (by rw [h.size]; omega)
  rw [h.size] at this
  exact this

set_option maxRecDepth 20000 in
set_option maxHeartbeats 4000000 in
theorem stable_ok (w0 : World) (blk off cap N : Nat) (d0 : Array PT) (hN : N ≤ 100000) (hsym : 20 < N → SymOK) (hst : SortSt w0 blk off N d0 d0 w0) :
    Calls Tryd.prog 88 #[.slice (some ⟨blk, off, none⟩) N cap, .int .i64 N, .func (.func 81) #[] #[]] w0 fun e w' =>
      e = .returned (.tuple #[]) ∧ ∃ d', SortSt w0 blk off N d0 d' w' ∧ SortedIn (ltOf cf) 0 N d' := by
  have HST : Hid (SortSt w0 blk off N d0 d0 w0) := hst
  have HSY : Hid (20 < N → SymOK) := hsym
  clear hst hsym
  go_enter Tryd.func88, Tryd.ntmps88
  go_wp2
  go_loopw [7, 8] (fun v7 v8 wr => ∃ (j : Nat) (d : Array PT), v7 = .int .i64 ((20 * j : Nat) : Int) ∧ v8 = .int .i64 ((20 * j + 20 : Nat) : Int) ∧ 20 * j ≤ N ∧ Hid (SortSt w0 blk off N d0 d wr ∧ ∀ q, q < j → SortedIn (ltOf cf) (20 * q) (20 * q + 20) d)) (fun _ v8 _ => N + 40 - (intOf v8).toNat)
  case atStart => exact ⟨0, d0, rfl, rfl, by omega, HST.out, fun q hq => by omega⟩
  case round =>
    obtain ⟨j, d, rfl, rfl, hj, HS⟩ := hrel
    obtain ⟨A, hA⟩ : ∃ A, 20 * j = A := ⟨_, rfl⟩
    have HA : Hid (20 * j = A) := hA
    rw [hA] at hj ⊢
    clear hA
    by_cases hlt : A + 20 ≤ N
    · have hlti : (A : Int) + 20 ≤ (N : Int) := by omega
      go_wp2_with fail
      refine (ins_st w0 blk off cap N A (A + 20) d0 d wr HS.out.1 hN (by omega) hlt).mono ?_
      rintro e w1 ⟨rfl, d1, hp, hso, hsw⟩
      have H1 : Hid (SortSt w0 blk off N d0 d1 w1 ∧ ∀ q, q < j + 1 → SortedIn (ltOf cf) (20 * q) (20 * q + 20) d1) := by
        refine ⟨HS.out.1.step hlt hp hsw, fun q hq => ?_⟩
        have := HA.out
        by_cases e : q = j
        · subst e; rw [HA.out]; exact hso
        · exact sortedIn_keep hp (HS.out.2 q (by omega)) (by omega)
      clear hp hso hsw
      go_wp2
      refine ⟨⟨j + 1, d1, ?_, ?_, by have := HA.out; omega, H1⟩, by simp [intOf]; omega⟩
      · have := HA.out; congr 1; omega
      · have := HA.out; congr 1; omega
    · have hlti : ¬ ((A : Int) + 20 ≤ (N : Int)) := by omega
      go_wp2_with fail
      refine (ins_st w0 blk off cap N A N d0 d wr HS.out.1 hN hj (Nat.le_refl _)).mono ?_
      rintro e w1 ⟨rfl, d1, hp, hso, hsw⟩
      have H1 : Hid (SortSt w0 blk off N d0 d1 w1 ∧ Parts 20 N d1) := by
        refine ⟨HS.out.1.step (Nat.le_refl _) hp hsw, fun q => ?_⟩
        have := HA.out
        by_cases e : q < j
        · refine sorted_sub (sortedIn_keep hp (HS.out.2 q e) (by omega)) (by omega) (by omega)
        · exact sorted_sub hso (by omega) (by omega)
      clear hp hso hsw
      go_wp2
      go_loopw [6, 7, 8, 9] (fun v6 _ _ _ wr => ∃ (bs : Nat) (d : Array PT), v6 = .int .i64 bs ∧ 20 ≤ bs ∧ bs ≤ 200000 ∧ Hid (SortSt w0 blk off N d0 d wr ∧ Parts bs N d)) (fun v6 _ _ _ _ => 200001 - (intOf v6).toNat)
      case atStart => exact ⟨20, d1, rfl, by omega, by omega, H1⟩
      case round =>
        obtain ⟨bs, d, rfl, hbs, hbs2, HS⟩ := hrel
        by_cases hlt : bs < N
        · have hlti : (bs : Int) < (N : Int) := by omega
          have hsy := HSY.out (by omega)
          have HSY2 : Hid SymOK := hsy
          clear hsy
          go_wp2
          go_loopw [7, 8] (fun v7 v8 wr => ∃ (j A : Nat) (d : Array PT), v7 = .int .i64 (A : Int) ∧ v8 = .int .i64 ((A + 2 * bs : Nat) : Int) ∧ A ≤ N ∧ Hid (j * (2 * bs) = A ∧ SortSt w0 blk off N d0 d wr ∧ MergeSt bs N j d)) (fun v7 _ _ => N + 1 - (intOf v7).toNat)
          case atStart => exact ⟨0, 0, d, rfl, by congr 1; omega, by omega, by simp, HS.out.1, MergeSt.start HS.out.2⟩
          case round =>
            obtain ⟨j, A2, d2, rfl, rfl, hA2, HM⟩ := hrel
            by_cases hle : A2 + 2 * bs ≤ N
            · have hlei : (A2 : Int) + 2 * (bs : Int) ≤ (N : Int) := by omega
              go_wp2_with fail
              refine (HSY2.out w0 blk off cap N A2 (A2 + bs) (A2 + 2 * bs) d0 d2 wr HM.out.2.1 hN (by omega) (by omega) hle (HM.out.2.2.left HM.out.1 (by omega)) (sorted_sub (HM.out.2.2.right HM.out.1) (Nat.le_refl _) (by omega))).mono ?_
              rintro e w2 ⟨rfl, d3, hp, hso, hsw⟩
              have H3 : Hid ((j + 1) * (2 * bs) = A2 + 2 * bs ∧ SortSt w0 blk off N d0 d3 w2 ∧ MergeSt bs N (j + 1) d3) := ⟨by rw [Nat.add_mul, HM.out.1, Nat.one_mul], HM.out.2.1.step hle hp hsw, HM.out.2.2.next HM.out.1 hp hso⟩
              clear hp hso hsw
              go_wp2
              refine ⟨⟨j + 1, A2 + 2 * bs, d3, ?_, ?_, hle, H3⟩, by simp [intOf]; omega⟩
              · first | rfl | (congr 1; omega) | congr 1
              · first | rfl | (congr 1; omega) | congr 1
            · have hlei : ¬ ((A2 : Int) + 2 * (bs : Int) ≤ (N : Int)) := by omega
              by_cases hm : A2 + bs < N
              · have hmi : (A2 : Int) + (bs : Int) < (N : Int) := by omega
                go_wp2_with fail
                refine (HSY2.out w0 blk off cap N A2 (A2 + bs) N d0 d2 wr HM.out.2.1 hN (by omega) (by omega) (Nat.le_refl _) (HM.out.2.2.left HM.out.1 (by omega)) (sorted_sub (HM.out.2.2.right HM.out.1) (Nat.le_refl _) (by omega))).mono ?_
                rintro e w2 ⟨rfl, d3, hp, hso, hsw⟩
                have H3 : Hid (SortSt w0 blk off N d0 d3 w2 ∧ Parts (2 * bs) N d3) := ⟨HM.out.2.1.step (Nat.le_refl _) hp hsw, HM.out.2.2.last HM.out.1 (by omega) hp hso⟩
                clear hp hso hsw
                go_wp2
                refine ⟨⟨2 * bs, d3, ?_, by omega, by omega, H3⟩, by simp [intOf]; omega⟩
                congr 1; omega
              · have hmi : ¬ ((A2 : Int) + (bs : Int) < (N : Int)) := by omega
                have H3 : Hid (SortSt w0 blk off N d0 d2 wr ∧ Parts (2 * bs) N d2) := by
                  refine ⟨HM.out.2.1, HM.out.2.2.parts HM.out.1 (by omega) ?_⟩
                  have := HM.out.2.2.rest (2 * j) (Nat.le_refl _)
                  rw [show 2 * j * bs = A2 by rw [← HM.out.1, Nat.mul_comm 2 j, Nat.mul_assoc]] at this
                  exact sorted_sub this (Nat.le_refl _) (by omega)
                go_wp2
                refine ⟨⟨2 * bs, d2, ?_, by omega, by omega, H3⟩, by simp [intOf]; omega⟩
                congr 1; omega
        · have hlti : ¬ (bs : Int) < (N : Int) := by omega
          go_wp2
          go_end0
          refine ⟨rfl, d, HS.out.1, ?_⟩
          have := HS.out.2 0
          rw [Nat.zero_mul, Nat.min_eq_right (by omega)] at this
          exact this

def SortsTo (N : Nat) : Prop := ∀ (blk off cap : Nat) (d : Array PT) (w : World), SortSt w blk off N d d w →
  Calls Tryd.prog 80 #[.slice (some ⟨blk, off, none⟩) N cap, .func (.func 81) #[] #[]] w fun e w' =>
    e = .returned (.tuple #[]) ∧ ∃ d', SortSt w blk off N d d' w' ∧ SortedIn (ltOf cf) 0 N d'
theorem sorts_of (N : Nat) (hN : N ≤ 100000) (hsym : 20 < N → SymOK) : SortsTo N := fun blk off cap d w hst => by
  have h := fun _ : Unit => stable_ok w blk off cap N d hN hsym hst
  have H : Hid _ := h
  clear h hst hsym
  go_enter Tryd.func80, Tryd.ntmps80
  go_wp2_with fail
  refine (H.out ()).mono ?_
  rintro e w1 ⟨rfl, d1, h1, h2⟩
  go_wp2
  go_end0
  exact ⟨rfl, d1, h1, h2⟩
theorem sorts_small (N : Nat) (hN : N ≤ 20) : SortsTo N := sorts_of N (by omega) (fun h => by omega)
theorem sort_nil (w : World) :
    Calls Tryd.prog 80 #[.slice none 0 0, .func (.func 81) #[] #[]] w fun e w' => e = .returned (.tuple #[]) ∧ w' = w := by
  have hi : ∀ (w1 : World), Calls Tryd.prog 91 #[.slice none 0 0, .int .i64 0, .int .i64 0, .func (.func 81) #[] #[]] w1 fun e w' => e = .returned (.tuple #[]) ∧ w' = w1 := by
    intro w1
    go_enter Tryd.func91, Tryd.ntmps91
    go_wp2
    refine wp_loop_rounds 1 ?_
    rw [rounds_succ]
    go_wp2
    go_end0
    exact ⟨rfl, rfl⟩
  have HI : Hid _ := hi
  clear hi
  have hs : ∀ _ : Unit, Calls Tryd.prog 88 #[.slice none 0 0, .int .i64 0, .func (.func 81) #[] #[]] w fun e w' => e = .returned (.tuple #[]) ∧ w' = w := by
    intro _
    go_enter Tryd.func88, Tryd.ntmps88
    go_wp2
    refine wp_loop_rounds 1 ?_
    rw [rounds_succ]
    go_wp2_with fail
    refine (HI.out _).mono ?_
    rintro e w1 ⟨rfl, hw⟩
    obtain rfl := hw.symm
    go_wp2
    refine wp_loop_rounds 1 ?_
    rw [rounds_succ]
    go_wp2
    go_end0
    exact ⟨rfl, rfl⟩
  have HS : Hid _ := hs
  clear hs HI
  go_enter Tryd.func80, Tryd.ntmps80
  go_wp2_with fail
  refine (HS.out ()).mono ?_
  rintro e w1 ⟨rfl, hw⟩
  obtain rfl := hw.symm
  go_wp2
  go_end0
  exact ⟨rfl, rfl⟩
end Go.Proofs.YtlbadjfcffoakaaDoor
namespace Go.Proofs.YtlbadjfcffoakaaDoor
open Go.RowKit PT Go.Sort
set_option linter.unusedVariables false
set_option maxRecDepth 20000

def IRow (w : World) (a : Option Addr) (xs : List Int) : Prop := xs = [] ∨ ∃ b off, a = some ⟨b, off, none⟩ ∧ b < w.heap.size ∧ ∀ i, i < xs.length → w.cell? ⟨b, off + i, none⟩ = some (.int .i64 (xs.getD i 0))
theorem IRow.at {w : World} {a : Option Addr} {xs : List Int} (h : IRow w a xs) {i : Nat} (hi : i < xs.length) : ∃ b off, a = some ⟨b, off, none⟩ ∧ w.cell? ⟨b, off + i, none⟩ = some (.int .i64 (xs.getD i 0)) ∧ b < w.heap.size := by
  rcases h with rfl | ⟨b, off, rfl, hb, h⟩
  · simp at hi
  · exact ⟨b, off, rfl, h i hi, hb⟩
theorem IRow.below {w w' : World} {a : Option Addr} {xs : List Int} (h : IRow w a xs) (hb : Below w.heap.size w w') : IRow w' a xs := by
  rcases h with rfl | ⟨b, off, rfl, hlt, h⟩
  · exact .inl rfl
  · exact .inr ⟨b, off, rfl, Nat.lt_of_lt_of_le hlt hb.size, fun i hi => by rw [hb.cell hlt]; exact h i hi⟩

def comes (fs : List Int) (n : Nat) : List Nat := (List.range n).filter fun s => 0 < fs.getD s 0
theorem comes_succ (fs : List Int) (n : Nat) : comes fs (n + 1) = if 0 < fs.getD n 0 then comes fs n ++ [n] else comes fs n := by
  unfold comes
  rw [List.range_succ, List.filter_append]
  by_cases h : 0 < fs.getD n 0
  · rw [if_pos h, List.filter_cons_of_pos (by simpa using h)]; rfl
  · rw [if_neg h, List.filter_cons_of_neg (by simpa using h)]; simp
theorem comes_lt {fs : List Int} {n s : Nat} (h : s ∈ comes fs n) : s < n ∧ 0 < fs.getD s 0 := by
  unfold comes at h
  simp only [List.mem_filter, List.mem_range, decide_eq_true_eq] at h
  exact h
theorem comes_length_le (fs : List Int) (n : Nat) : (comes fs n).length ≤ n := by
  have := List.length_filter_le (fun s => decide (0 < fs.getD s 0)) (List.range n)
  simpa [comes] using this

def Leaves (fs : List Int) (ss : List Nat) (l : List PT) : Prop := l.map (fun t => (t.syms, t.wt, t.lf)) = ss.map fun s => ([s], (fs.getD s 0).toNat, true)
theorem Leaves.snoc {fs : List Int} {ss : List Nat} {l : List PT} (h : Leaves fs ss l) (s x y : Nat) : Leaves fs (ss ++ [s]) (l ++ [PT.leaf s (fs.getD s 0).toNat x y]) := by
  unfold Leaves at *
  rw [List.map_append, List.map_append, h]
  rfl
theorem Leaves.length {fs : List Int} {ss : List Nat} {l : List PT} (h : Leaves fs ss l) : l.length = ss.length := by
  have := congrArg List.length h
  simpa using this

structure SingSt (w wr : World) (L n X : Nat) (fs : List Int) (j : Nat) (l : List PT) (v : Value) : Prop where
  leaves : Leaves fs (comes fs j) l
  own : wr.ownsRow w.heap.size 138 2 v l.length (pcs l)
  xlens : wr.cell? ⟨X, 0, none⟩ = some (.slice (some ⟨L, 0, none⟩) n n) ∧ v.ownBlock ≠ some X
  laid : ∀ t ∈ l, ∃ s f y, t = PT.leaf s f X y ∧ s < n ∧ y ≠ L ∧ wr.cell? ⟨y, 0, none⟩ = some (.int .i64 (s : Nat)) ∧ v.ownBlock ≠ some y
  bel : Below w.heap.size w wr

theorem SingSt.skip {w wr wr' : World} {L n X j : Nat} {fs : List Int} {l : List PT} {v : Value} (h : SingSt w wr L n X fs j l v) (hb : Below wr.heap.size wr wr') (hf : ¬ 0 < fs.getD j 0) : SingSt w wr' L n X fs (j + 1) l v := by
  refine ⟨by rw [comes_succ, if_neg hf]; exact h.leaves, owns_below h.own hb, ⟨by rw [hb.cell (lt_cell h.xlens.1)]; exact h.xlens.1, h.xlens.2⟩, fun t ht => ?_, h.bel.trans (hb.mono h.bel.size)⟩
  obtain ⟨s, f, y, e, h1, h2, h3, h4⟩ := h.laid t ht
  exact ⟨s, f, y, e, h1, h2, by rw [hb.cell (lt_cell h3)]; exact h3, h4⟩
theorem SingSt.more {w wr w1 : World} {L n X j g cap : Nat} {fs : List Int} {l : List PT} {v : Value} {o1 o2 : Obj} (h : SingSt w wr L n X fs j l v) (hf : 0 < fs.getD j 0) (hj : j < n) (hL : L < w.heap.size)
    (hy : (wr.alloc o1).cell? ⟨wr.heap.size, 0, none⟩ = some (.int .i64 (j : Nat)))
    (hown : w1.ownsRow w.heap.size 138 2 (.slice (some ⟨g, 0, none⟩) (l.length + 1) cap) (l.length + 1) (pcs l ++ [.int .i64 ((PT.leaf j (fs.getD j 0).toNat X wr.heap.size).wt : Nat), (PT.leaf j (fs.getD j 0).toNat X wr.heap.size).fv]))
    (hgrow : ((wr.alloc o1).alloc o2).grownBy w1 v.ownBlock) (hat : v.ownBlock = some g ∨ g = ((wr.alloc o1).alloc o2).heap.size) :
    SingSt w w1 L n X fs (j + 1) (l ++ [PT.leaf j (fs.getD j 0).toNat X wr.heap.size]) (.slice (some ⟨g, 0, none⟩) (l.length + 1) cap) := by
  have hal : Below wr.heap.size wr ((wr.alloc o1).alloc o2) := ((Below.refl _ _).alloc (Nat.le_refl _) _).alloc (by simp) _
  have hbA : Below w.heap.size w ((wr.alloc o1).alloc o2) := h.bel.trans (hal.mono h.bel.size)
  have hoA := owns_below h.own hal
  have keep : ∀ {k i : Nat} {u : Value}, wr.cell? ⟨k, i, none⟩ = some u → v.ownBlock ≠ some k → w1.cell? ⟨k, i, none⟩ = some u := fun {k i u} hc hk =>
    grown_cell hgrow (by rw [hal.cell (lt_cell hc)]; exact hc) hk
  have notnew : ∀ {k : Nat}, k < ((wr.alloc o1).alloc o2).heap.size → v.ownBlock ≠ some k → (Value.slice (some ⟨g, 0, none⟩) (l.length + 1) cap).ownBlock ≠ some k := fun {k} hc hk e => by
    have e' : g = k := by simpa [Value.ownBlock] using e
    subst e'
    rcases hat with h' | h'
    · exact hk h'
    · omega
  have oy := own_lt h.own (Nat.le_refl _)
  have hsz : wr.heap.size < ((wr.alloc o1).alloc o2).heap.size := by simp; omega
  refine ⟨by rw [comes_succ, if_pos hf]; exact h.leaves.snoc _ _ _, ?_, ⟨keep h.xlens.1 h.xlens.2, notnew (Nat.lt_trans (lt_cell h.xlens.1) hsz) h.xlens.2⟩, ?_, hbA.trans (below_grown hoA hgrow hbA.size)⟩
  · rw [pcs_append, List.length_append]; exact hown
  · intro t ht
    rcases List.mem_append.1 ht with ht | ht
    · obtain ⟨s, f, y, e, h1, h2, h3, h4⟩ := h.laid t ht
      exact ⟨s, f, y, e, h1, h2, keep h3 h4, notnew (Nat.lt_trans (lt_cell h3) hsz) h4⟩
    · simp only [List.mem_cons, List.not_mem_nil, or_false] at ht
      subst ht
      refine ⟨j, _, _, rfl, hj, by have := h.bel.size; omega, ?_, notnew hsz oy⟩
      refine grown_cell hgrow ?_ oy
      have hal2 : Below (wr.alloc o1).heap.size (wr.alloc o1) ((wr.alloc o1).alloc o2) := (Below.refl _ _).alloc (Nat.le_refl _) _
      rw [hal2.cell (lt_cell hy)]; exact hy
theorem SingSt.all_laid {w wr : World} {L n X j : Nat} {fs : List Int} {l : List PT} {v : Value} (h : SingSt w wr L n X fs j l v) (hX : X ≠ L) : ∀ t ∈ l, Laid wr L n t := fun t ht => by
  obtain ⟨s, f, y, rfl, h1, h2, h3, h4⟩ := h.laid t ht
  exact .leaf h1 hX h2 h.xlens.1 h3

/-! ### A world of the sort's -/
theorem swk_other {w0 w : World} {blk off : Nat} {d : Array PT} (h : SWK PT.enc 2 w0 blk off d w) (hblk : blk < w0.heap.size) {B : Nat} (hB : B ≤ blk) : Below B w0 w := by
  obtain ⟨m, os, rfl⟩ := h
  refine ⟨rfl, rfl, rfl, size_sortWorldK_c _ _ _ _ _ _ _ _, fun k hk => ?_⟩
  unfold sortWorldK
  rw [heap_grow_old _ _ (by rw [size_putRowK]; show k < w0.heap.size; omega)]
  show (w0.heap.modify blk _)[k]? = _
  rw [Array.getElem?_modify, if_neg (by omega)]
theorem swk_cell {w0 w : World} {blk off : Nat} {d : Array PT} (h : SWK PT.enc 2 w0 blk off d w) {k i : Nat} {v : Value} (hk : k ≠ blk) (hc : w0.cell? ⟨k, i, none⟩ = some v) : w.cell? ⟨k, i, none⟩ = some v := by
  obtain ⟨m, os, rfl⟩ := h
  unfold sortWorldK
  rw [cell?_grow _ _ _ (by rw [size_putRowK]; exact lt_cell hc), cell?_putRowK_other _ _ _ _ _ _ _ hk]
  exact hc
theorem pcs_flat : ∀ (l : List PT) (j : Nat), j < l.length * 2 → (pcs l)[j]? = some ((PT.enc l.toArray[j / 2]!)[j % 2]!)
  | [], j, h => by simp at h
  | t :: l, 0, h => rfl
  | t :: l, 1, h => rfl
  | t :: l, j + 2, h => by
    have e1 : (j + 2) / 2 = j / 2 + 1 := by omega
    have e2 : (j + 2) % 2 = j % 2 := by omega
    have := pcs_flat l j (by simp at h; omega)
    rw [e1, e2]
    have e3 : (t :: l).toArray[j / 2 + 1]! = l.toArray[j / 2]! := by simp [List.getElem!_eq_getElem?_getD]
    rw [e3]
    exact this
theorem row_holds {w : World} {B g cap : Nat} {l : List PT} (h : w.ownsRow B 138 2 (.slice (some ⟨g, 0, none⟩) l.length cap) l.length (pcs l)) : HoldsK PT.enc 2 w g 0 l.toArray := by
  intro j hj
  rw [size_flatK] at hj
  rw [get_flatK _ _ _ _ hj]
  have hj' : j < l.length * 2 := by simpa using hj
  have hf := pcs_flat l j hj'
  have hc := h.cells (g := g) rfl j _ hf
  rw [add_zero_addr] at hc
  rw [Nat.zero_add]
  refine ⟨hc, ?_⟩
  rcases h.2 with ⟨e, _⟩ | ⟨g', cap', cur, e, _, hh, _⟩
  · cases e
  · cases e
    simp [World.frozen?, hh]
theorem holds_row {w : World} {blk off : Nat} {d : Array PT} (h : HoldsK PT.enc 2 w blk off d) : PRow w blk off d.toList := fun i t ht => by
  have hi : i < d.size := by
    rcases Nat.lt_or_ge i d.size with h' | h'
    · exact h'
    · rw [List.getElem?_eq_none (by simpa using h')] at ht; cases ht
  have ht' : d[i]! = t := by
    rw [getElem!_pos d i hi]
    rw [Array.getElem?_toList, Array.getElem?_eq_getElem hi] at ht
    exact Option.some.inj ht
  have h0 := (HoldsK.cell h hi (c := 0) (by omega)).1
  have h1 := (HoldsK.cell h hi (c := 1) (by omega)).1
  rw [ht'] at h0 h1
  exact ⟨h0, h1⟩
end Go.Proofs.YtlbadjfcffoakaaDoor
namespace Go.Proofs.YtlbadjfcffoakaaDoor
open Go.RowKit PT Go.Sort
set_option linter.unusedVariables false
set_option maxRecDepth 20000

def SingEnd (w : World) (L N : Nat) (fs : List Int) (e : Ending) (w' : World) : Prop :=
  ∃ v S, e = .returned v ∧ ((S = [] ∧ v = .slice none 0 0) ∨ ∃ g cap, v = .slice (some ⟨g, 0, none⟩) S.length cap ∧ g < w'.heap.size ∧ S.length ≤ cap ∧ cap ≤ 9223372036854775807 ∧ PRow w' g 0 S) ∧
    Asc S ∧ (∃ l, Leaves fs (comes fs N) l ∧ S.Perm l) ∧ (∀ t ∈ S, Laid w' L N t) ∧ Below w.heap.size w w'

theorem asc_of_sorted {d : Array PT} (h : SortedIn (ltOf cf) 0 d.size d) : Asc d.toList := by
  unfold Asc
  rw [List.pairwise_iff_getElem]
  intro i j hi hj hij
  have hi' : i < d.size := by simpa using hi
  have hj' : j < d.size := by simpa using hj
  have := h i j (by omega) hij hj'
  rw [cf_lt, getElem!_pos d i hi', getElem!_pos d j hj'] at this
  simp at this
  simpa using this
theorem perm_of_permIn {N : Nat} {d d' : Array PT} (hs : d.size = N) (h : PermIn 0 N d d') : d'.toList.Perm d.toList := by
  have := h.2.2
  rw [Array.extract_eq_self_of_le (by rw [h.1]; omega), Array.extract_eq_self_of_le (by omega)] at this
  exact this

set_option maxRecDepth 20000 in
set_option maxHeartbeats 4000000 in
theorem singlePacks_ok (fs : List Int) (a : Option Addr) (c L N : Nat) (w : World) (hN : fs.length = N) (hrow : IRow w a fs) (hL : L < w.heap.size) (hf : ∀ i, 0 ≤ fs.getD i 0 ∧ fs.getD i 0 ≤ 1099511627776) (hlen : N ≤ 288) (hsort : SortsTo (comes fs N).length) :
    Calls Tryd.prog 74 #[.slice a N c, .slice (some ⟨L, 0, none⟩) N N] w fun e w' => SingEnd w L N fs e w' := by
  obtain ⟨i0, hi, hz0, hz1, hz2⟩ := info_split packInfo
  have HI : Hid (Tryd.prog.info? 138 = some i0 ∧ i0.zero = some (.agg #[.int .i64 0, .nilFunc]) ∧ i0.size = 2 ∧ i0.bytes = 16) := ⟨hi, hz0, hz1, hz2⟩
  have HR : Hid (IRow w a fs) := hrow
  have HN : Hid (fs.length = N) := hN
  have HF : Hid (∀ i, 0 ≤ fs.getD i 0 ∧ fs.getD i 0 ≤ 1099511627776) := hf
  have HSO : Hid (SortsTo (comes fs N).length) := hsort
  clear hrow hf hsort hN hi hz0 hz1 hz2
  have H0 : Hid (SingSt w (w.alloc (.cells #[.slice (some ⟨L, 0, none⟩) N N] 41)) L N w.heap.size fs 0 [] (.slice none 0 0)) :=
    ⟨rfl, World.ownsRow_nil _ _ _ _, ⟨by simp, by simp [Value.ownBlock]⟩, by simp, (Below.refl _ _).alloc (Nat.le_refl _) _⟩
  go_enter Tryd.func74, Tryd.ntmps74
  go_wp2
  go_loopw [5, 6, 7, 10] (fun v5 _ _ v10 wr => ∃ (j : Nat) (l : List PT) (V : Value), V = v5 ∧ v10 = .int .i64 j ∧ j ≤ N ∧ Hid (SingSt w wr L N w.heap.size fs j l V)) (fun _ _ _ v10 _ => N - (intOf v10).toNat)
  case atStart => exact ⟨0, [], _, rfl, rfl, by omega, H0⟩
  case round =>
    obtain ⟨j, l, V, rfl, rfl, hj, HS⟩ := hrel
    by_cases hlt : j < N
    · have hlti : (j : Int) < (N : Int) := by omega
      obtain ⟨b, off, rfl, hcell, hb⟩ := (HR.out.below HS.out.bel).at (show j < fs.length by rw [HN.out]; exact hlt)
      obtain ⟨F, hF⟩ : ∃ F : Nat, fs.getD j 0 = (F : Int) := ⟨(fs.getD j 0).toNat, by have := (HF.out j).1; omega⟩
      have HFF : Hid (fs.getD j 0 = (F : Int)) := hF
      have hF2 : F ≤ 1099511627776 := by have := (HF.out j).2; omega
      rw [hF] at hcell
      have hcell2 : (wr.alloc (.cells #[.int .i64 (j : Int)] 3)).cell? ⟨b, off + j, none⟩ = some (.int .i64 (F : Int)) := by rw [World.cell?_alloc_past _ _ _ hb]; exact hcell
      clear hF hb
      have hll : l.length ≤ 288 := by rw [HS.out.leaves.length]; exact Nat.le_trans (comes_length_le fs j) (by omega)
      have HL2 : Hid (l.length ≤ 288) := hll
      by_cases h0 : 0 < F
      · have h0i : (0 : Int) < (F : Int) := by omega
        have HO : Hid (∀ o1 o2, ((wr.alloc o1).alloc o2).ownsRow w.heap.size 138 2 V l.length (pcs l) ∧ w.heap.size ≤ ((wr.alloc o1).alloc o2).heap.size) := fun o1 o2 => ⟨(HS.out.own.alloc o1).alloc o2, by have := HS.out.bel.size; simp; omega⟩
        obtain ⟨u, hu⟩ : ∃ u, PT.leaf j F w.heap.size wr.heap.size = u := ⟨_, rfl⟩
        have hu1 : (F : Int) = ((u.wt : Nat) : Int) := by rw [← hu]; rfl
        have hu2 : Value.func (.func 79) #[] #[.pointer (some ⟨w.heap.size, 0, none⟩), .pointer (some ⟨wr.heap.size, 0, none⟩)] = u.fv := by rw [← hu]; rfl
        have HU : Hid (PT.leaf j F w.heap.size wr.heap.size = u ∧ (F : Int) = ((u.wt : Nat) : Int) ∧ Value.func (.func 79) #[] #[.pointer (some ⟨w.heap.size, 0, none⟩), .pointer (some ⟨wr.heap.size, 0, none⟩)] = u.fv) := ⟨hu, hu1, hu2⟩
        clear hu hu1 hu2
        go_wp2_with (at_builtin; refine wpList_append_lies _ rfl _ _ 134 rfl w.heap.size 138 i0 (.agg #[.int .i64 0, .nilFunc]) 2 16 Tryd.underlying134 HI.out.1 HI.out.2.1 HI.out.2.2.1 HI.out.2.2.2 rfl (by decide) V l.length (pcs l) rfl (HO.out _ _).1 ⟨wr.heap.size + 1, 0, none⟩ 1 1 [.int .i64 (F : Int), .func (.func 79) #[] #[.pointer (some ⟨w.heap.size, 0, none⟩), .pointer (some ⟨wr.heap.size, 0, none⟩)]] rfl rfl ?c1 ?c2 (by decide) ?c3 ?c4 (HO.out _ _).2 _ rfl ?_)
        case c1 => rw [show wr.heap.size + 1 = (wr.alloc (.cells #[.int .i64 (j : Int)] 3)).heap.size by simp]; exact news2 _ _ _ _
        case c2 => intro u hu; simp only [List.mem_cons, List.not_mem_nil, or_false] at hu; rcases hu with rfl | rfl <;> rfl
        case c3 => have := HL2.out; unfold maxLen; omega
        case c4 => have := HL2.out; omega
        intro g cap w1 hown hgrow hat hgl
        have H2 : Hid (SingSt w w1 L N w.heap.size fs (j + 1) (l ++ [u]) (.slice (some ⟨g, 0, none⟩) (l.length + 1) cap)) := by
          have hG := HFF.out
          have hG2 : (fs.getD j 0).toNat = F := by omega
          rw [← HU.out.1, ← hG2]
          refine HS.out.more (by omega) hlt hL ?_ ?_ hgrow (by simpa using hat)
          · simp
          · rw [hG2, HU.out.1, ← HU.out.2.1, ← HU.out.2.2]; exact hown
        clear hown hgrow hat
        go_wp2
        exact ⟨⟨j + 1, _, _, rfl, by go_num, by omega, H2⟩, by simp [intOf]; omega⟩
      · have h0i : ¬ (0 : Int) < (F : Int) := by omega
        have H2 : Hid (SingSt w (wr.alloc (.cells #[.int .i64 (j : Int)] 3)) L N w.heap.size fs (j + 1) l V) := HS.out.skip ((Below.refl _ _).alloc (Nat.le_refl _) _) (by rw [HFF.out]; exact h0i)
        go_wp2
        exact ⟨⟨j + 1, _, _, rfl, by go_num, by omega, H2⟩, by simp [intOf]; omega⟩
    · obtain rfl : j = N := by omega
      have hll := HS.out.leaves.length
      rcases HS.out.own.2 with ⟨hv, h0⟩ | ⟨g, cap, cur, hv, hB, hh, hle, hm, _⟩
      · subst hv
        have hl0 : l = [] := List.eq_nil_of_length_eq_zero h0
        go_wp2_with fail
        refine (sort_nil _).mono ?_
        rintro e w1 ⟨rfl, hw⟩
        obtain rfl := hw.symm
        go_wp2
        go_ret
        exact ⟨_, [], rfl, .inl ⟨rfl, rfl⟩, by simp [Asc], ⟨l, HS.out.leaves, by rw [hl0]⟩, by simp, HS.out.bel⟩
      · subst hv
        obtain ⟨M, hM⟩ : ∃ M, l.length = M := ⟨_, rfl⟩
        have hown := HS.out.own
        have hst : SortSt wr g 0 M l.toArray l.toArray wr :=
          ⟨⟨PT.enc_length, PT.enc_one, row_holds hown, lt_heap hh⟩, by simpa using hM, by simpa using hM, permIn_refl _ _ _, SWK.start (row_holds hown)⟩
        have hso := fun _ : Unit => HSO.out g 0 cap l.toArray wr (by rw [← hll, hM]; exact hst)
        rw [← hll, hM] at hso
        have HSS : Hid _ := hso
        have HX : Hid (l.length = M ∧ g < wr.heap.size ∧ w.heap.size ≤ g ∧ M ≤ cap ∧ cap ≤ 9223372036854775807) := ⟨hM, lt_heap hh, hB, by rw [← hM]; exact hle, by unfold maxLen at hm; exact hm⟩
        rw [hM]
        clear hso hst hown hh hle hm hll hM
        go_wp2_with fail
        refine (HSS.out ()).mono ?_
        rintro e w1 ⟨rfl, d1, hs1, hso1⟩
        have HE : Hid (SingEnd w L j fs (.returned (.slice (some ⟨g, 0, none⟩) M cap)) w1) := by
          obtain ⟨q1, q2, q3, q4, q5⟩ := HX.out
          have hp : d1.toList.Perm l := by
            have := perm_of_permIn (by simpa using q1) hs1.perm
            simpa using this
          have hlen : d1.toList.length = M := by simpa using hs1.size
          have hblw : Below w.heap.size w w1 := HS.out.bel.trans (swk_other hs1.swk q2 q3)
          refine ⟨.slice (some ⟨g, 0, none⟩) M cap, d1.toList, rfl, .inr ⟨g, cap, by rw [hlen], hs1.swk.lt q2, by rw [hlen]; exact q4, q5, holds_row (hs1.swk.holds q2 hs1.row.hH (by rw [hs1.size, hs1.size0]))⟩, asc_of_sorted (by rw [hs1.size]; exact hso1), ⟨l, HS.out.leaves, hp⟩, fun t ht => ?_, hblw⟩
          · obtain ⟨s, f, y, rfl, h1, h2, h3, h4⟩ := HS.out.laid t (hp.mem_iff.1 ht)
            have hX := HS.out.xlens
            have ho : ∀ k, (Value.slice (some ⟨g, 0, none⟩) l.length cap).ownBlock ≠ some k → k ≠ g := fun k h e => h (by rw [e]; simp [Value.ownBlock])
            exact .leaf h1 (by omega) h2 (swk_cell hs1.swk (ho _ hX.2) hX.1) (swk_cell hs1.swk (ho _ h4) h3)
        clear hs1 hso1
        go_wp2
        go_ret
        exact HE.out
end Go.Proofs.YtlbadjfcffoakaaDoor
