/- The best packs. -/
/- The library's contracts of cmp.Compare and of the insertion sort, laid at this dump's own numbers. -/
/- The comparison of packs, and the insertion sort of packs, from a world of the sort's to a world of the sort's. -/
/- The stable sort of packs, over its merging of two sorted parts. -/
/- Packs of one symbol each, the rarest first. -/
import Derived.Test.YtbcflkdaeboflaaDoorV02
import Derived.Shelf.SlicesG.Cmp
import Derived.Shelf.SlSortCmp.InsertionK
import Derived.Test.YtbcflkdaeboflaaDoorProg
import Derived.Shelf.SlSortCmp.KitK
import Derived.LoopN
namespace Go.Proofs.YtbcflkdaeboflaaDoor
open Go.RowKit PT
set_option linter.unusedVariables false
set_option maxRecDepth 20000

theorem wtL_pairs {l : List PT} : ∀ {m}, Pairs l m → wtL m ≤ wtL l := by
  induction l using two_ind with
  | h0 => intro m h; have e : m = [] := h; subst e; exact Nat.le_refl _
  | h1 t => intro m h; have e : m = [] := h; subst e; simp [wtL]
  | h2 a b l ih =>
    rintro m ⟨u, m', rfl, ⟨x, y, rfl⟩, h⟩
    have := ih h
    simp only [wtL, PT.wt_node]; omega
theorem wtL_mrg (a b : List PT) : wtL (mrg a b) = wtL a + wtL b := by rw [wtL_perm (mrg_perm a b), wtL_append]
/-- Weights and lengths stay small: at each level at most the singles once more. -/
theorem Lev.wt {S : List PT} : ∀ {k : Nat} {l : List PT}, Lev S k l → wtL l ≤ (k + 1) * wtL S
  | 0, l, h => by rw [show l = S from h]; omega
  | k + 1, r, ⟨l, m, h, hp, e⟩ => by
    have h1 := Lev.wt h
    have := wtL_pairs hp
    rw [e, wtL_mrg, Nat.add_mul (k + 1) 1]; omega

structure BestSt (w wr : World) (L n k : Nat) (S l : List PT) (b off c : Nat) : Prop where
  lev : Lev S k l
  row : PRow wr b off l
  lt : b < wr.heap.size
  cap : l.length ≤ c ∧ c ≤ 9223372036854775807
  laid : ∀ t ∈ l, Laid wr L n t
  bel : Below w.heap.size w wr

theorem row_form {w : World} {B n : Nat} {v : Value} {l : List PT} (h : w.ownsRow B 133 2 v n (pcs l)) (h0 : 0 < n) : ∃ g cap, v = .slice (some ⟨g, 0, none⟩) n cap ∧ g < w.heap.size ∧ n ≤ cap ∧ cap ≤ 9223372036854775807 ∧ PRow w g 0 l := by
  have h' := h
  rcases h.2 with ⟨rfl, e⟩ | ⟨g, cap, cur, rfl, _, hh, hle, hm, _⟩
  · omega
  · exact ⟨g, cap, rfl, lt_heap hh, hle, by unfold maxLen at hm; exact hm, PRow.owned h'⟩

def BestEnd (w : World) (L n most : Nat) (S : List PT) (e : Ending) (w' : World) : Prop :=
  ∃ l g o cap, e = .returned (.slice (some ⟨g, o, none⟩) (2 * S.length - 2) cap) ∧ Lev S (most - 1) l ∧ 2 * S.length - 2 ≤ l.length ∧ PRow w' g o l ∧ (∀ t ∈ l, Laid w' L n t) ∧ Below w.heap.size w w'
set_option maxRecDepth 20000 in
set_option maxHeartbeats 4000000 in
theorem bestPacks_ok (S : List PT) (L n b off c most : Nat) (w : World) (hrow : PRow w b off S) (hlaid : ∀ t ∈ S, Laid w L n t) (hL : L < w.heap.size) (hb : b < w.heap.size) (hc : S.length ≤ c) (hc2 : c ≤ 9223372036854775807)
    (h2 : 2 ≤ S.length) (hlen : S.length ≤ 288) (hwt : wtL S ≤ 316659348799488) (hm1 : 1 ≤ most) (hm2 : most ≤ 15) (hmn : S.length ≤ 2 ^ most) :
    Calls Tryd.prog 77 #[.slice (some ⟨b, off, none⟩) S.length c, .int .i64 most] w fun e w' => BestEnd w L n most S e w' := by
  have H0 : Hid (BestSt w w L n 0 S S b off c) := ⟨rfl, hrow, hb, ⟨hc, hc2⟩, hlaid, Below.refl _ _⟩
  have HH : Hid (PRow w b off S ∧ (∀ t ∈ S, Laid w L n t)) := ⟨hrow, hlaid⟩
  obtain ⟨N, hN⟩ : ∃ N, S.length = N := ⟨_, rfl⟩
  have HN : Hid (S.length = N) := hN
  rw [hN]
  rw [hN] at hc h2 hlen hmn
  have HMN : Hid (N ≤ 2 ^ most) := hmn
  clear hrow hlaid hN hmn
  go_enter Tryd.func77, Tryd.ntmps77
  go_wp2
  go_loopw [5, 9] (fun v5 v9 wr => ∃ (k b' o' c' : Nat) (l : List PT), v9 = .int .i64 k ∧ k ≤ most - 1 ∧ v5 = .slice (some ⟨b', o', none⟩) l.length c' ∧ Hid (BestSt w wr L n k S l b' o' c')) (fun _ v9 _ => most - (intOf v9).toNat)
  case atStart => exact ⟨0, b, off, c, S, rfl, by omega, by rw [HN.out], H0⟩
  case round =>
    obtain ⟨k, b', o', c', l, rfl, hk, rfl, HS⟩ := hrel
    have hll := HS.out.lev.length_lt (by rw [HN.out]; exact h2)
    rw [HN.out] at hll
    have hl2 : 2 * N - 2 ≤ l.length ∨ k < most - 1 := by
      by_cases e : k < most - 1
      · exact .inr e
      · left
        have hp : 2 * 2 ^ k = 2 ^ most := by
          rw [show most = k + 1 by omega, Nat.pow_succ, Nat.mul_comm]
        have := HS.out.lev.length 2 (by rw [HN.out, hp]; exact HMN.out)
        rw [HN.out] at this
        omega
    have hcap := HS.out.cap
    have HLL : Hid (N ≤ l.length ∧ l.length < 2 * N) := hll
    obtain ⟨M, hM⟩ : ∃ M, l.length = M := ⟨_, rfl⟩
    have HM : Hid (l.length = M) := hM
    rw [hM] at hl2 hcap hll
    rw [hM]
    clear hM
    by_cases hlt : k < most - 1
    · have hlti : (k : Int) < (most : Int) - 1 := by omega
      have hwl := HS.out.lev.wt
      have hwl2 : wtL l < 4611686018427387904 := by
        have : (k + 1) * wtL S ≤ 15 * wtL S := Nat.mul_le_mul_right _ (by omega)
        omega
      have hp := fun (_ : Unit) => pairs_ok l L n b' o' c' wr HS.out.row HS.out.laid (by have := HS.out.bel.size; omega) HS.out.lt (by rw [HM.out]; exact hcap.1) (by rw [HM.out]; omega) hcap.2 hwl2
      rw [HM.out] at hp
      have HP : Hid _ := hp
      clear hp hwl hwl2
      go_wp2_with fail
      refine (HP.out ()).mono ?_
      rintro e w1 ⟨v1, m, rfl, hpm, hown, hlm, hb1⟩
      have hml := hpm.length
      rw [HM.out] at hml
      obtain ⟨g, cap, rfl, hg, hgc, hgm, hgr⟩ := row_form hown (by omega)
      have hb1w : Below w.heap.size w w1 := HS.out.bel.trans (hb1.mono HS.out.bel.size)
      have hmg := fun (_ : Unit) => merge_ok S m b off c g 0 cap w1 (HH.out.1.below hb1w hb) hgr (by have := hb1w.size; omega) hg (by rw [HN.out]; exact hc) hgc hc2 hgm (by rw [HN.out]; omega)
      obtain ⟨J, hJ⟩ : ∃ J, m.length = J := ⟨_, rfl⟩
      rw [HN.out, hJ] at hmg
      have HMG : Hid _ := hmg
      have HX : Hid (Pairs l m ∧ m.length = J ∧ (∀ t ∈ m, Laid w1 L n t) ∧ Below w.heap.size w w1) := ⟨hpm, hJ, hlm, hb1w⟩
      rw [hJ]
      clear hmg hpm hown hlm hb1 hml hg hgc hgr hb1w hJ
      go_wp2_with fail
      refine (HMG.out ()).mono ?_
      rintro e w2 ⟨v2, rfl, hown2, hb2⟩
      obtain ⟨g2, cap2, rfl, hg2, hgc2, hgm2, hgr2⟩ := row_form hown2 (by rw [mrg_length, HN.out]; omega)
      have H2 : Hid (BestSt w w2 L n (k + 1) S (mrg S m) g2 0 cap2) := by
        refine ⟨⟨l, m, HS.out.lev, HX.out.1, rfl⟩, hgr2, hg2, ⟨hgc2, hgm2⟩, fun t ht => ?_, HX.out.2.2.2.trans (hb2.mono HX.out.2.2.2.size)⟩
        rcases List.mem_append.1 ((mrg_perm _ _).mem_iff.1 ht) with h | h
        · exact ((HH.out.2 t h).below HX.out.2.2.2).below hb2
        · exact (HX.out.2.2.1 t h).below hb2
      obtain ⟨M2, hM2⟩ : ∃ M, (mrg S m).length = M := ⟨_, rfl⟩
      have HM2 : Hid ((mrg S m).length = M2) := hM2
      rw [hM2]
      clear hown2 hb2 hg2 hgc2 hgr2 hM2
      go_wp2
      exact ⟨⟨k + 1, g2, 0, cap2, mrg S m, by go_num, by omega, by rw [HM2.out], H2⟩, by simp [intOf]; omega⟩
    · have hlti : ¬ (k : Int) < (most : Int) - 1 := by omega
      have hN2 : 2 * N - 2 ≤ M := by omega
      have hcN : 2 * N - 2 ≤ c' := by omega
      obtain ⟨Q, hQ⟩ : ∃ Q, 2 * N - 2 = Q := ⟨_, rfl⟩
      have hQi : 2 * (N : Int) - 2 = (Q : Int) := by omega
      rw [hQ] at hN2 hcN
      have e1 : IntKind.i64.wrap (2 * (N : Int)) = 2 * (N : Int) := by rw [IntKind.wrap_i64]; omega
      have e2 : IntKind.i64.wrap (2 * (N : Int) - 2) = (Q : Int) := by rw [IntKind.wrap_i64]; omega
      go_wp2
      go_ret
      refine ⟨l, b', o', c', ?_, by rw [show most - 1 = k by omega]; exact HS.out.lev, by rw [HM.out, HN.out, hQ]; exact hN2, HS.out.row, HS.out.laid, HS.out.bel⟩
      rw [HN.out, hQ]; rfl
end Go.Proofs.YtbcflkdaeboflaaDoor
namespace Go.Proofs
open Go.Shelf
def Tryd.laysCmp_ren : Go.Shelf.Ren := ⟨fun | 5 => 87 | 7 => 95 | n => n, fun | 22 => 3 | 3 => 3 | 4 => 4 | n => n, fun | n => n⟩
theorem Tryd.laysCmp : Go.Proofs.SlLaysC2.n5 Tryd.prog Tryd.laysCmp_ren := {
  mixed := by kernel_rfl
  f5 := ⟨Tryd.f87.name, by decide, Tryd.func87.trans (congrArg some (by kernel_rfl))⟩
  f7 := ⟨Tryd.f95.name, by decide, Tryd.func95.trans (congrArg some (by kernel_rfl))⟩
  t3 := Tryd.underlying3
  a3 := Tryd.isAgg3
  z3 := Tryd.sizeOf3
  v3 := Tryd.zeroValue3
  t4 := Tryd.underlying4
  a4 := Tryd.isAgg4
  z4 := Tryd.sizeOf4
  v4 := Tryd.zeroValue4
  t22 := Tryd.underlying3
  a22 := Tryd.isAgg3
  z22 := Tryd.sizeOf3
  v22 := Tryd.zeroValue3 }
def Tryd.laysIns_ren : Go.Shelf.Ren := ⟨fun | 20 => 97 | n => n, fun | 24 => 133 | 22 => 129 | 3 => 3 | 25 => 145 | 4 => 4 | 0 => 0 | n => n, fun | n => n⟩
theorem Tryd.laysIns : Go.Proofs.SlLaysF0.n20 Tryd.prog Tryd.laysIns_ren := {
  mixed := by kernel_rfl
  f20 := ⟨Tryd.f97.name, by decide, Tryd.func97.trans (congrArg some (by kernel_rfl))⟩
  t0 := Tryd.underlying0
  a0 := Tryd.isAgg0
  z0 := Tryd.sizeOf0
  v0 := Tryd.zeroValue0
  t3 := Tryd.underlying3
  a3 := Tryd.isAgg3
  z3 := Tryd.sizeOf3
  v3 := Tryd.zeroValue3
  t4 := Tryd.underlying4
  a4 := Tryd.isAgg4
  z4 := Tryd.sizeOf4
  v4 := Tryd.zeroValue4
  t22 := Tryd.underlying129
  a22 := Tryd.isAgg129
  z22 := Tryd.sizeOf129
  v22 := Tryd.zeroValue129
  t25 := Tryd.underlying145
  a25 := Tryd.isAgg145
  z25 := Tryd.sizeOf145
  v25 := Tryd.zeroValue145 }
end Go.Proofs
namespace Go.Proofs.YtbcflkdaeboflaaDoor
open Go.RowKit PT Go.Sort
set_option linter.unusedVariables false
set_option maxRecDepth 20000

def cf (x y : PT) : Int := Lib.compareInt (x.wt : Int) (y.wt : Int)
theorem cf_lt (x y : PT) : ltOf cf x y = decide (x.wt < y.wt) := by
  unfold ltOf cf Lib.compareInt
  by_cases h : (x.wt : Int) < (y.wt : Int)
  · have : x.wt < y.wt := by omega
    simp [h, this]
  · have : ¬ x.wt < y.wt := by omega
    by_cases h2 : (y.wt : Int) < (x.wt : Int)
    · simp [h, h2]; omega
    · simp [h, h2]; omega
theorem cf_swo : SWO (ltOf cf) where
  irrefl x := by rw [cf_lt]; simp
  trans x y z h1 h2 := by rw [cf_lt] at *; simp at *; omega
  ntrans x y z h1 h2 := by rw [cf_lt] at *; simp at *; omega

set_option maxHeartbeats 1000000 in
theorem cmp_call (x y : PT) (W : World) : Calls Tryd.prog 86 #[.agg x.enc.toArray, .agg y.enc.toArray] W fun e w' => e = .returned (.int .i64 (cf x y)) ∧ ∃ q os', w' = grow (W.drewN q) os' := by
  have hcon := fun W' => AnyG.cmp_Compare_int Tryd.laysCmp (x.wt : Int) (y.wt : Int) W'
  change ∀ W', Calls Tryd.prog 87 _ _ _ at hcon
  obtain ⟨r, hr⟩ : ∃ r, cf x y = r := ⟨_, rfl⟩
  unfold cf at hr
  rw [hr] at hcon
  have hr' : cf x y = r := hr
  rw [hr']
  have HC : Hid _ := hcon
  obtain ⟨va, hva⟩ : ∃ v, x.fv = .func (.func v) #[] x.cap := ⟨_, rfl⟩
  obtain ⟨vb, hvb⟩ : ∃ v, y.fv = .func (.func v) #[] y.cap := ⟨_, rfl⟩
  unfold PT.enc
  rw [hva, hvb]
  clear hcon hr hr' hva hvb
  go_enter Tryd.func86, Tryd.ntmps86
  go_wp2_with (go_at_call 87; refine (HC.out _).mono ?_; rintro e w' ⟨rfl, rfl⟩)
  go_ret
  exact ⟨rfl, 0, _, by rw [alloc_eq_grow, alloc_eq_grow, grow_grow]; rfl⟩
theorem cmpLays (blk off size : Nat) (w : World) : CmpLays Tryd.prog 86 #[] PT.enc 2 cf blk off size w := fun m os dk _ x y => cmp_call x y _

theorem ins_ok (blk off cap a b : Nat) (d0 d : Array PT) (w0 w : World) (R : RowK PT.enc 2 w0 blk off d0) (hs : d0.size = d.size) (S : SWK PT.enc 2 w0 blk off d w) (hab : a ≤ b) (hb : b ≤ d.size) (hsz : d.size < 4611686018427387904) :
    Calls Tryd.prog 97 #[.slice (some ⟨blk, off, none⟩) d.size cap, .int .i64 a, .int .i64 b, .func (.func 86) #[] #[]] w fun e w' =>
      e = .returned (.tuple #[]) ∧ ∃ d', PermIn a b d d' ∧ SortedIn (ltOf cf) a b d' ∧ SWK PT.enc 2 w0 blk off d' w' := by
  obtain ⟨h1, h2⟩ := insertionSort_holds cf_swo d a b hab hb
  have eg : ∀ args w, (callFunc 86 args).run Tryd.prog w = .ok (.enter 86 args) w := enters_of Tryd.func86 (by kernel_rfl) rfl
  refine (AnyQ.insertionSortCmpFunc Tryd.laysIns 2 Tryd.isAgg133 Tryd.sizeOf133 PT.enc R.hk R.h1 cf 86 #[] blk off cap a b d w eg (cmpLays _ _ _ _) (S.holds R.hblk R.hH hs.symm) (S.lt R.hblk) hab hb hsz).mono ?_
  rintro e w' ⟨rfl, n, os, rfl⟩
  exact ⟨rfl, _, h1, h2, S.on R.hblk n _ os h1.1⟩
end Go.Proofs.YtbcflkdaeboflaaDoor
namespace Go.Proofs.YtbcflkdaeboflaaDoor
open Go.RowKit PT Go.Sort
set_option linter.unusedVariables false
set_option maxRecDepth 20000

/-- The row holds d, a permutation of what it held. -/
structure SortSt (w0 : World) (blk off N : Nat) (d0 d : Array PT) (w : World) : Prop where
  row : RowK PT.enc 2 w0 blk off d0
  size0 : d0.size = N
  size : d.size = N
  perm : PermIn 0 N d0 d
  swk : SWK PT.enc 2 w0 blk off d w
theorem SortSt.step {w0 : World} {blk off N a b : Nat} {d0 d d' : Array PT} {w w' : World} (h : SortSt w0 blk off N d0 d w) (hb : b ≤ N) (hp : PermIn a b d d') (hs : SWK PT.enc 2 w0 blk off d' w') : SortSt w0 blk off N d0 d' w' :=
  ⟨h.row, h.size0, hp.1.trans h.size, permIn_trans _ _ _ _ _ h.perm (permIn_mono _ _ a b 0 N (by omega) hb (by rw [h.size]; exact Nat.le_refl _) hp), hs⟩
theorem sortedIn_keep {a b x y : Nat} {d d' : Array PT} (hp : PermIn a b d d') (h : SortedIn (ltOf cf) x y d) (hd : y ≤ a ∨ b ≤ x) : SortedIn (ltOf cf) x y d' := fun i j h1 h2 h3 => by
  rw [hp.2.1 i (by omega), hp.2.1 j (by omega)]
  exact h i j h1 h2 h3
/-- Merging: two sorted parts become one. -/
def SymOK : Prop := ∀ (w0 : World) (blk off cap N a m b : Nat) (d0 d : Array PT) (w : World), SortSt w0 blk off N d0 d w → N ≤ 100000 → a < m → m < b → b ≤ N → SortedIn (ltOf cf) a m d → SortedIn (ltOf cf) m b d →
  Calls Tryd.prog 98 #[.slice (some ⟨blk, off, none⟩) N cap, .int .i64 a, .int .i64 m, .int .i64 b, .func (.func 86) #[] #[]] w fun e w' =>
    e = .returned (.tuple #[]) ∧ ∃ d', PermIn a b d d' ∧ SortedIn (ltOf cf) a b d' ∧ SWK PT.enc 2 w0 blk off d' w'
/-- Each part of so many is sorted, from a on those of the one size, up to a those of twice it. -/
def Parts (bs N : Nat) (d : Array PT) : Prop := ∀ q, SortedIn (ltOf cf) (q * bs) (min (q * bs + bs) N) d

theorem sorted_sub {x y x' y' : Nat} {d : Array PT} (h : SortedIn (ltOf cf) x y d) (h1 : x ≤ x') (h2 : y' ≤ y) : SortedIn (ltOf cf) x' y' d := fun i j a b c => h i j (by omega) b (by omega)
theorem sorted_empty {x y : Nat} {d : Array PT} (h : y ≤ x + 1) : SortedIn (ltOf cf) x y d := fun i j a b c => by omega

structure MergeSt (bs N j : Nat) (d : Array PT) : Prop where
  done : ∀ q, q < j → SortedIn (ltOf cf) (q * (2 * bs)) (q * (2 * bs) + 2 * bs) d
  rest : ∀ q, 2 * j ≤ q → SortedIn (ltOf cf) (q * bs) (min (q * bs + bs) N) d

theorem MergeSt.start {bs N : Nat} {d : Array PT} (h : Parts bs N d) : MergeSt bs N 0 d := ⟨fun q hq => by omega, fun q _ => h q⟩
theorem MergeSt.left {bs N j A : Nat} {d : Array PT} (h : MergeSt bs N j d) (hA : j * (2 * bs) = A) (hle : A + bs ≤ N) : SortedIn (ltOf cf) A (A + bs) d := by
  have := h.rest (2 * j) (Nat.le_refl _)
  rw [show 2 * j * bs = A by rw [← hA, Nat.mul_comm 2 j, Nat.mul_assoc]] at this
  exact sorted_sub this (Nat.le_refl _) (by omega)
theorem MergeSt.right {bs N j A : Nat} {d : Array PT} (h : MergeSt bs N j d) (hA : j * (2 * bs) = A) : SortedIn (ltOf cf) (A + bs) (min (A + 2 * bs) N) d := by
  have := h.rest (2 * j + 1) (by omega)
  rw [show (2 * j + 1) * bs = A + bs by rw [← hA, Nat.add_mul, Nat.mul_comm 2 j, Nat.mul_assoc, Nat.one_mul]] at this
  exact sorted_sub this (Nat.le_refl _) (by omega)
theorem mul_step {q j bs : Nat} (h : q < j) : q * (2 * bs) + 2 * bs ≤ j * (2 * bs) := by
  have := Nat.mul_le_mul_right (2 * bs) (show q + 1 ≤ j from h)
  rwa [Nat.add_mul, Nat.one_mul] at this
theorem mul_far {q j bs A : Nat} (hA : j * (2 * bs) = A) (h : 2 * (j + 1) ≤ q) : A + 2 * bs ≤ q * bs := by
  have := Nat.mul_le_mul_right bs h
  rw [show 2 * (j + 1) * bs = A + 2 * bs by rw [← hA, Nat.mul_add, Nat.add_mul, Nat.mul_comm 2 j, Nat.mul_assoc, Nat.mul_one]] at this
  exact this
theorem MergeSt.next {bs N j A : Nat} {d d' : Array PT} (h : MergeSt bs N j d) (hA : j * (2 * bs) = A) (hp : PermIn A (A + 2 * bs) d d') (hs : SortedIn (ltOf cf) A (A + 2 * bs) d') : MergeSt bs N (j + 1) d' := by
  refine ⟨fun q hq => ?_, fun q hq => ?_⟩
  · by_cases e : q = j
    · subst e; rw [hA]; exact hs
    · have := mul_step (bs := bs) (show q < j by omega)
      exact sortedIn_keep hp (h.done q (by omega)) (by omega)
  · have := mul_far hA hq
    exact sortedIn_keep hp (h.rest q (by omega)) (by omega)
theorem MergeSt.parts {bs N j A : Nat} {d : Array PT} (h : MergeSt bs N j d) (hA : j * (2 * bs) = A) (hlt : N < A + 2 * bs) (hs : SortedIn (ltOf cf) A N d) : Parts (2 * bs) N d := fun q => by
  by_cases e : q < j
  · exact sorted_sub (h.done q e) (Nat.le_refl _) (by omega)
  · by_cases e2 : q = j
    · subst e2; rw [hA]; exact sorted_sub hs (Nat.le_refl _) (by omega)
    · have := mul_step (bs := bs) (show j < q by omega)
      exact sorted_empty (by omega)
theorem MergeSt.last {bs N j A : Nat} {d d' : Array PT} (h : MergeSt bs N j d) (hA : j * (2 * bs) = A) (hlt : N < A + 2 * bs) (hp : PermIn A N d d') (hs : SortedIn (ltOf cf) A N d') : Parts (2 * bs) N d' := fun q => by
  by_cases e : q < j
  · have := mul_step (bs := bs) e
    exact sorted_sub (sortedIn_keep hp (h.done q e) (by omega)) (Nat.le_refl _) (by omega)
  · by_cases e2 : q = j
    · subst e2; rw [hA]; exact sorted_sub hs (Nat.le_refl _) (by omega)
    · have := mul_step (bs := bs) (show j < q by omega)
      exact sorted_empty (by omega)

theorem ins_st (w0 : World) (blk off cap N a b : Nat) (d0 d : Array PT) (w : World) (h : SortSt w0 blk off N d0 d w) (hN : N ≤ 100000) (hab : a ≤ b) (hb : b ≤ N) :
    Calls Tryd.prog 97 #[.slice (some ⟨blk, off, none⟩) N cap, .int .i64 a, .int .i64 b, .func (.func 86) #[] #[]] w fun e w' =>
      e = .returned (.tuple #[]) ∧ ∃ d', PermIn a b d d' ∧ SortedIn (ltOf cf) a b d' ∧ SWK PT.enc 2 w0 blk off d' w' := by
  have := ins_ok blk off cap a b d0 d w0 w h.row (by rw [h.size0, h.size]) h.swk hab (by rw [h.size]; exact hb) (by rw [h.size]; omega)
  rw [h.size] at this
  exact this

set_option maxRecDepth 20000 in
set_option maxHeartbeats 4000000 in
theorem stable_ok (w0 : World) (blk off cap N : Nat) (d0 : Array PT) (hN : N ≤ 100000) (hsym : 20 < N → SymOK) (hst : SortSt w0 blk off N d0 d0 w0) :
    Calls Tryd.prog 94 #[.slice (some ⟨blk, off, none⟩) N cap, .int .i64 N, .func (.func 86) #[] #[]] w0 fun e w' =>
      e = .returned (.tuple #[]) ∧ ∃ d', SortSt w0 blk off N d0 d' w' ∧ SortedIn (ltOf cf) 0 N d' := by
  have HST : Hid (SortSt w0 blk off N d0 d0 w0) := hst
  have HSY : Hid (20 < N → SymOK) := hsym
  clear hst hsym
  go_enter Tryd.func94, Tryd.ntmps94
  go_wp2
  go_loopw [7, 8] (fun v7 v8 wr => ∃ (j : Nat) (d : Array PT), v7 = .int .i64 ((20 * j : Nat) : Int) ∧ v8 = .int .i64 ((20 * j + 20 : Nat) : Int) ∧ 20 * j ≤ N ∧ Hid (SortSt w0 blk off N d0 d wr ∧ ∀ q, q < j → SortedIn (ltOf cf) (20 * q) (20 * q + 20) d)) (fun _ v8 _ => N + 40 - (intOf v8).toNat)
  case atStart => exact ⟨0, d0, rfl, rfl, by omega, HST.out, fun q hq => by omega⟩
  case round =>
    obtain ⟨j, d, rfl, rfl, hj, HS⟩ := hrel
    obtain ⟨A, hA⟩ : ∃ A, 20 * j = A := ⟨_, rfl⟩
    have HA : Hid (20 * j = A) := hA
    rw [hA] at hj ⊢
    clear hA
    by_cases hlt : A + 20 ≤ N
    · have hlti : (A : Int) + 20 ≤ (N : Int) := by omega
      go_wp2_with fail
      refine (ins_st w0 blk off cap N A (A + 20) d0 d wr HS.out.1 hN (by omega) hlt).mono ?_
      rintro e w1 ⟨rfl, d1, hp, hso, hsw⟩
      have H1 : Hid (SortSt w0 blk off N d0 d1 w1 ∧ ∀ q, q < j + 1 → SortedIn (ltOf cf) (20 * q) (20 * q + 20) d1) := by
        refine ⟨HS.out.1.step hlt hp hsw, fun q hq => ?_⟩
        have := HA.out
        by_cases e : q = j
        · subst e; rw [HA.out]; exact hso
        · exact sortedIn_keep hp (HS.out.2 q (by omega)) (by omega)
      clear hp hso hsw
      go_wp2
      refine ⟨⟨j + 1, d1, ?_, ?_, by have := HA.out; omega, H1⟩, by simp [intOf]; omega⟩
      · have := HA.out; congr 1; omega
      · have := HA.out; congr 1; omega
    · have hlti : ¬ ((A : Int) + 20 ≤ (N : Int)) := by omega
      go_wp2_with fail
      refine (ins_st w0 blk off cap N A N d0 d wr HS.out.1 hN hj (Nat.le_refl _)).mono ?_
      rintro e w1 ⟨rfl, d1, hp, hso, hsw⟩
      have H1 : Hid (SortSt w0 blk off N d0 d1 w1 ∧ Parts 20 N d1) := by
        refine ⟨HS.out.1.step (Nat.le_refl _) hp hsw, fun q => ?_⟩
        have := HA.out
        by_cases e : q < j
        · refine sorted_sub (sortedIn_keep hp (HS.out.2 q e) (by omega)) (by omega) (by omega)
        · exact sorted_sub hso (by omega) (by omega)
      clear hp hso hsw
      go_wp2
      go_loopw [6, 7, 8, 9] (fun v6 _ _ _ wr => ∃ (bs : Nat) (d : Array PT), v6 = .int .i64 bs ∧ 20 ≤ bs ∧ bs ≤ 200000 ∧ Hid (SortSt w0 blk off N d0 d wr ∧ Parts bs N d)) (fun v6 _ _ _ _ => 200001 - (intOf v6).toNat)
      case atStart => exact ⟨20, d1, rfl, by omega, by omega, H1⟩
      case round =>
        obtain ⟨bs, d, rfl, hbs, hbs2, HS⟩ := hrel
        by_cases hlt : bs < N
        · have hlti : (bs : Int) < (N : Int) := by omega
          have hsy := HSY.out (by omega)
          have HSY2 : Hid SymOK := hsy
          clear hsy
          go_wp2
          go_loopw [7, 8] (fun v7 v8 wr => ∃ (j A : Nat) (d : Array PT), v7 = .int .i64 (A : Int) ∧ v8 = .int .i64 ((A + 2 * bs : Nat) : Int) ∧ A ≤ N ∧ Hid (j * (2 * bs) = A ∧ SortSt w0 blk off N d0 d wr ∧ MergeSt bs N j d)) (fun v7 _ _ => N + 1 - (intOf v7).toNat)
          case atStart => exact ⟨0, 0, d, rfl, by congr 1; omega, by omega, by simp, HS.out.1, MergeSt.start HS.out.2⟩
          case round =>
            obtain ⟨j, A2, d2, rfl, rfl, hA2, HM⟩ := hrel
            by_cases hle : A2 + 2 * bs ≤ N
            · have hlei : (A2 : Int) + 2 * (bs : Int) ≤ (N : Int) := by omega
              go_wp2_with fail
              refine (HSY2.out w0 blk off cap N A2 (A2 + bs) (A2 + 2 * bs) d0 d2 wr HM.out.2.1 hN (by omega) (by omega) hle (HM.out.2.2.left HM.out.1 (by omega)) (sorted_sub (HM.out.2.2.right HM.out.1) (Nat.le_refl _) (by omega))).mono ?_
              rintro e w2 ⟨rfl, d3, hp, hso, hsw⟩
              have H3 : Hid ((j + 1) * (2 * bs) = A2 + 2 * bs ∧ SortSt w0 blk off N d0 d3 w2 ∧ MergeSt bs N (j + 1) d3) := ⟨by rw [Nat.add_mul, HM.out.1, Nat.one_mul], HM.out.2.1.step hle hp hsw, HM.out.2.2.next HM.out.1 hp hso⟩
              clear hp hso hsw
              go_wp2
              refine ⟨⟨j + 1, A2 + 2 * bs, d3, ?_, ?_, hle, H3⟩, by simp [intOf]; omega⟩
              · first | rfl | (congr 1; omega) | congr 1
              · first | rfl | (congr 1; omega) | congr 1
            · have hlei : ¬ ((A2 : Int) + 2 * (bs : Int) ≤ (N : Int)) := by omega
              by_cases hm : A2 + bs < N
              · have hmi : (A2 : Int) + (bs : Int) < (N : Int) := by omega
                go_wp2_with fail
                refine (HSY2.out w0 blk off cap N A2 (A2 + bs) N d0 d2 wr HM.out.2.1 hN (by omega) (by omega) (Nat.le_refl _) (HM.out.2.2.left HM.out.1 (by omega)) (sorted_sub (HM.out.2.2.right HM.out.1) (Nat.le_refl _) (by omega))).mono ?_
                rintro e w2 ⟨rfl, d3, hp, hso, hsw⟩
                have H3 : Hid (SortSt w0 blk off N d0 d3 w2 ∧ Parts (2 * bs) N d3) := ⟨HM.out.2.1.step (Nat.le_refl _) hp hsw, HM.out.2.2.last HM.out.1 (by omega) hp hso⟩
                clear hp hso hsw
                go_wp2
                refine ⟨⟨2 * bs, d3, ?_, by omega, by omega, H3⟩, by simp [intOf]; omega⟩
                congr 1; omega
              · have hmi : ¬ ((A2 : Int) + (bs : Int) < (N : Int)) := by omega
                have H3 : Hid (SortSt w0 blk off N d0 d2 wr ∧ Parts (2 * bs) N d2) := by
                  refine ⟨HM.out.2.1, HM.out.2.2.parts HM.out.1 (by omega) ?_⟩
                  have := HM.out.2.2.rest (2 * j) (Nat.le_refl _)
                  rw [show 2 * j * bs = A2 by rw [← HM.out.1, Nat.mul_comm 2 j, Nat.mul_assoc]] at this
                  exact sorted_sub this (Nat.le_refl _) (by omega)
                go_wp2
                refine ⟨⟨2 * bs, d2, ?_, by omega, by omega, H3⟩, by simp [intOf]; omega⟩
                congr 1; omega
        · have hlti : ¬ (bs : Int) < (N : Int) := by omega
          go_wp2
          go_end0
          refine ⟨rfl, d, HS.out.1, ?_⟩
          have := HS.out.2 0
          rw [Nat.zero_mul, Nat.min_eq_right (by omega)] at this
          exact this

/-- The sort of so many packs. -/
def SortsTo (N : Nat) : Prop := ∀ (blk off cap : Nat) (d : Array PT) (w : World), SortSt w blk off N d d w →
  Calls Tryd.prog 85 #[.slice (some ⟨blk, off, none⟩) N cap, .func (.func 86) #[] #[]] w fun e w' =>
    e = .returned (.tuple #[]) ∧ ∃ d', SortSt w blk off N d d' w' ∧ SortedIn (ltOf cf) 0 N d'
theorem sorts_of (N : Nat) (hN : N ≤ 100000) (hsym : 20 < N → SymOK) : SortsTo N := fun blk off cap d w hst => by
  have h := fun _ : Unit => stable_ok w blk off cap N d hN hsym hst
  have H : Hid _ := h
  clear h hst hsym
  go_enter Tryd.func85, Tryd.ntmps85
  go_wp2_with fail
  refine (H.out ()).mono ?_
  rintro e w1 ⟨rfl, d1, h1, h2⟩
  go_wp2
  go_end0
  exact ⟨rfl, d1, h1, h2⟩
theorem sorts_small (N : Nat) (hN : N ≤ 20) : SortsTo N := sorts_of N (by omega) (fun h => by omega)
/-- .. of none. -/
theorem sort_nil (w : World) :
    Calls Tryd.prog 85 #[.slice none 0 0, .func (.func 86) #[] #[]] w fun e w' => e = .returned (.tuple #[]) ∧ w' = w := by
  have hi : ∀ (w1 : World), Calls Tryd.prog 97 #[.slice none 0 0, .int .i64 0, .int .i64 0, .func (.func 86) #[] #[]] w1 fun e w' => e = .returned (.tuple #[]) ∧ w' = w1 := by
    intro w1
    go_enter Tryd.func97, Tryd.ntmps97
    go_wp2
    refine wp_loop_rounds 1 ?_
    rw [rounds_succ]
    go_wp2
    go_end0
    exact ⟨rfl, rfl⟩
  have HI : Hid _ := hi
  clear hi
  have hs : ∀ _ : Unit, Calls Tryd.prog 94 #[.slice none 0 0, .int .i64 0, .func (.func 86) #[] #[]] w fun e w' => e = .returned (.tuple #[]) ∧ w' = w := by
    intro _
    go_enter Tryd.func94, Tryd.ntmps94
    go_wp2
    refine wp_loop_rounds 1 ?_
    rw [rounds_succ]
    go_wp2_with fail
    refine (HI.out _).mono ?_
    rintro e w1 ⟨rfl, hw⟩
    obtain rfl := hw.symm
    go_wp2
    refine wp_loop_rounds 1 ?_
    rw [rounds_succ]
    go_wp2
    go_end0
    exact ⟨rfl, rfl⟩
  have HS : Hid _ := hs
  clear hs HI
  go_enter Tryd.func85, Tryd.ntmps85
  go_wp2_with fail
  refine (HS.out ()).mono ?_
  rintro e w1 ⟨rfl, hw⟩
  obtain rfl := hw.symm
  go_wp2
  go_end0
  exact ⟨rfl, rfl⟩
end Go.Proofs.YtbcflkdaeboflaaDoor
namespace Go.Proofs.YtbcflkdaeboflaaDoor
open Go.RowKit PT Go.Sort
set_option linter.unusedVariables false
set_option maxRecDepth 20000

/-- Numbers in a row: a nil slice has none. -/
def IRow (w : World) (a : Option Addr) (xs : List Int) : Prop := xs = [] ∨ ∃ b off, a = some ⟨b, off, none⟩ ∧ b < w.heap.size ∧ ∀ i, i < xs.length → w.cell? ⟨b, off + i, none⟩ = some (.int .i64 (xs.getD i 0))
theorem IRow.at {w : World} {a : Option Addr} {xs : List Int} (h : IRow w a xs) {i : Nat} (hi : i < xs.length) : ∃ b off, a = some ⟨b, off, none⟩ ∧ w.cell? ⟨b, off + i, none⟩ = some (.int .i64 (xs.getD i 0)) ∧ b < w.heap.size := by
  rcases h with rfl | ⟨b, off, rfl, hb, h⟩
  · simp at hi
  · exact ⟨b, off, rfl, h i hi, hb⟩
theorem IRow.below {w w' : World} {a : Option Addr} {xs : List Int} (h : IRow w a xs) (hb : Below w.heap.size w w') : IRow w' a xs := by
  rcases h with rfl | ⟨b, off, rfl, hlt, h⟩
  · exact .inl rfl
  · exact .inr ⟨b, off, rfl, Nat.lt_of_lt_of_le hlt hb.size, fun i hi => by rw [hb.cell hlt]; exact h i hi⟩

/-- The symbols below n that come, in their order, with how often. -/
def comes (fs : List Int) (n : Nat) : List Nat := (List.range n).filter fun s => 0 < fs.getD s 0
theorem comes_succ (fs : List Int) (n : Nat) : comes fs (n + 1) = if 0 < fs.getD n 0 then comes fs n ++ [n] else comes fs n := by
  unfold comes
  rw [List.range_succ, List.filter_append]
  by_cases h : 0 < fs.getD n 0
  · rw [if_pos h, List.filter_cons_of_pos (by simpa using h)]; rfl
  · rw [if_neg h, List.filter_cons_of_neg (by simpa using h)]; simp
theorem comes_lt {fs : List Int} {n s : Nat} (h : s ∈ comes fs n) : s < n ∧ 0 < fs.getD s 0 := by
  unfold comes at h
  simp only [List.mem_filter, List.mem_range, decide_eq_true_eq] at h
  exact h
theorem comes_length_le (fs : List Int) (n : Nat) : (comes fs n).length ≤ n := by
  have := List.length_filter_le (fun s => decide (0 < fs.getD s 0)) (List.range n)
  simpa [comes] using this

/-- Each pack is a symbol's, in order. -/
def Leaves (fs : List Int) (ss : List Nat) (l : List PT) : Prop := l.map (fun t => (t.syms, t.wt, t.lf)) = ss.map fun s => ([s], (fs.getD s 0).toNat, true)
theorem Leaves.snoc {fs : List Int} {ss : List Nat} {l : List PT} (h : Leaves fs ss l) (s x y : Nat) : Leaves fs (ss ++ [s]) (l ++ [PT.leaf s (fs.getD s 0).toNat x y]) := by
  unfold Leaves at *
  rw [List.map_append, List.map_append, h]
  rfl
theorem Leaves.length {fs : List Int} {ss : List Nat} {l : List PT} (h : Leaves fs ss l) : l.length = ss.length := by
  have := congrArg List.length h
  simpa using this

structure SingSt (w wr : World) (L n X : Nat) (fs : List Int) (j : Nat) (l : List PT) (v : Value) : Prop where
  leaves : Leaves fs (comes fs j) l
  own : wr.ownsRow w.heap.size 133 2 v l.length (pcs l)
  xlens : wr.cell? ⟨X, 0, none⟩ = some (.slice (some ⟨L, 0, none⟩) n n) ∧ v.ownBlock ≠ some X
  laid : ∀ t ∈ l, ∃ s f y, t = PT.leaf s f X y ∧ s < n ∧ y ≠ L ∧ wr.cell? ⟨y, 0, none⟩ = some (.int .i64 (s : Nat)) ∧ v.ownBlock ≠ some y
  bel : Below w.heap.size w wr

theorem SingSt.skip {w wr wr' : World} {L n X j : Nat} {fs : List Int} {l : List PT} {v : Value} (h : SingSt w wr L n X fs j l v) (hb : Below wr.heap.size wr wr') (hf : ¬ 0 < fs.getD j 0) : SingSt w wr' L n X fs (j + 1) l v := by
  refine ⟨by rw [comes_succ, if_neg hf]; exact h.leaves, owns_below h.own hb, ⟨by rw [hb.cell (lt_cell h.xlens.1)]; exact h.xlens.1, h.xlens.2⟩, fun t ht => ?_, h.bel.trans (hb.mono h.bel.size)⟩
  obtain ⟨s, f, y, e, h1, h2, h3, h4⟩ := h.laid t ht
  exact ⟨s, f, y, e, h1, h2, by rw [hb.cell (lt_cell h3)]; exact h3, h4⟩
theorem SingSt.more {w wr w1 : World} {L n X j g cap : Nat} {fs : List Int} {l : List PT} {v : Value} {o1 o2 : Obj} (h : SingSt w wr L n X fs j l v) (hf : 0 < fs.getD j 0) (hj : j < n) (hL : L < w.heap.size)
    (hy : (wr.alloc o1).cell? ⟨wr.heap.size, 0, none⟩ = some (.int .i64 (j : Nat)))
    (hown : w1.ownsRow w.heap.size 133 2 (.slice (some ⟨g, 0, none⟩) (l.length + 1) cap) (l.length + 1) (pcs l ++ [.int .i64 ((PT.leaf j (fs.getD j 0).toNat X wr.heap.size).wt : Nat), (PT.leaf j (fs.getD j 0).toNat X wr.heap.size).fv]))
    (hgrow : ((wr.alloc o1).alloc o2).grownBy w1 v.ownBlock) (hat : v.ownBlock = some g ∨ g = ((wr.alloc o1).alloc o2).heap.size) :
    SingSt w w1 L n X fs (j + 1) (l ++ [PT.leaf j (fs.getD j 0).toNat X wr.heap.size]) (.slice (some ⟨g, 0, none⟩) (l.length + 1) cap) := by
  have hal : Below wr.heap.size wr ((wr.alloc o1).alloc o2) := ((Below.refl _ _).alloc (Nat.le_refl _) _).alloc (by simp) _
  have hbA : Below w.heap.size w ((wr.alloc o1).alloc o2) := h.bel.trans (hal.mono h.bel.size)
  have hoA := owns_below h.own hal
  have keep : ∀ {k i : Nat} {u : Value}, wr.cell? ⟨k, i, none⟩ = some u → v.ownBlock ≠ some k → w1.cell? ⟨k, i, none⟩ = some u := fun {k i u} hc hk =>
    grown_cell hgrow (by rw [hal.cell (lt_cell hc)]; exact hc) hk
  have notnew : ∀ {k : Nat}, k < ((wr.alloc o1).alloc o2).heap.size → v.ownBlock ≠ some k → (Value.slice (some ⟨g, 0, none⟩) (l.length + 1) cap).ownBlock ≠ some k := fun {k} hc hk e => by
    have e' : g = k := by simpa [Value.ownBlock] using e
    subst e'
    rcases hat with h' | h'
    · exact hk h'
    · omega
  have oy := own_lt h.own (Nat.le_refl _)
  have hsz : wr.heap.size < ((wr.alloc o1).alloc o2).heap.size := by simp; omega
  refine ⟨by rw [comes_succ, if_pos hf]; exact h.leaves.snoc _ _ _, ?_, ⟨keep h.xlens.1 h.xlens.2, notnew (Nat.lt_trans (lt_cell h.xlens.1) hsz) h.xlens.2⟩, ?_, hbA.trans (below_grown hoA hgrow hbA.size)⟩
  · rw [pcs_append, List.length_append]; exact hown
  · intro t ht
    rcases List.mem_append.1 ht with ht | ht
    · obtain ⟨s, f, y, e, h1, h2, h3, h4⟩ := h.laid t ht
      exact ⟨s, f, y, e, h1, h2, keep h3 h4, notnew (Nat.lt_trans (lt_cell h3) hsz) h4⟩
    · simp only [List.mem_cons, List.not_mem_nil, or_false] at ht
      subst ht
      refine ⟨j, _, _, rfl, hj, by have := h.bel.size; omega, ?_, notnew hsz oy⟩
      refine grown_cell hgrow ?_ oy
      have hal2 : Below (wr.alloc o1).heap.size (wr.alloc o1) ((wr.alloc o1).alloc o2) := (Below.refl _ _).alloc (Nat.le_refl _) _
      rw [hal2.cell (lt_cell hy)]; exact hy
theorem SingSt.all_laid {w wr : World} {L n X j : Nat} {fs : List Int} {l : List PT} {v : Value} (h : SingSt w wr L n X fs j l v) (hX : X ≠ L) : ∀ t ∈ l, Laid wr L n t := fun t ht => by
  obtain ⟨s, f, y, rfl, h1, h2, h3, h4⟩ := h.laid t ht
  exact .leaf h1 hX h2 h.xlens.1 h3

/-! ### A world of the sort's -/
theorem swk_other {w0 w : World} {blk off : Nat} {d : Array PT} (h : SWK PT.enc 2 w0 blk off d w) (hblk : blk < w0.heap.size) {B : Nat} (hB : B ≤ blk) : Below B w0 w := by
  obtain ⟨m, os, rfl⟩ := h
  refine ⟨rfl, rfl, rfl, size_sortWorldK_c _ _ _ _ _ _ _ _, fun k hk => ?_⟩
  unfold sortWorldK
  rw [heap_grow_old _ _ (by rw [size_putRowK]; show k < w0.heap.size; omega)]
  show (w0.heap.modify blk _)[k]? = _
  rw [Array.getElem?_modify, if_neg (by omega)]
theorem swk_cell {w0 w : World} {blk off : Nat} {d : Array PT} (h : SWK PT.enc 2 w0 blk off d w) {k i : Nat} {v : Value} (hk : k ≠ blk) (hc : w0.cell? ⟨k, i, none⟩ = some v) : w.cell? ⟨k, i, none⟩ = some v := by
  obtain ⟨m, os, rfl⟩ := h
  unfold sortWorldK
  rw [cell?_grow _ _ _ (by rw [size_putRowK]; exact lt_cell hc), cell?_putRowK_other _ _ _ _ _ _ _ hk]
  exact hc
theorem pcs_flat : ∀ (l : List PT) (j : Nat), j < l.length * 2 → (pcs l)[j]? = some ((PT.enc l.toArray[j / 2]!)[j % 2]!)
  | [], j, h => by simp at h
  | t :: l, 0, h => rfl
  | t :: l, 1, h => rfl
  | t :: l, j + 2, h => by
    have e1 : (j + 2) / 2 = j / 2 + 1 := by omega
    have e2 : (j + 2) % 2 = j % 2 := by omega
    have := pcs_flat l j (by simp at h; omega)
    rw [e1, e2]
    have e3 : (t :: l).toArray[j / 2 + 1]! = l.toArray[j / 2]! := by simp [List.getElem!_eq_getElem?_getD]
    rw [e3]
    exact this
theorem row_holds {w : World} {B g cap : Nat} {l : List PT} (h : w.ownsRow B 133 2 (.slice (some ⟨g, 0, none⟩) l.length cap) l.length (pcs l)) : HoldsK PT.enc 2 w g 0 l.toArray := by
  intro j hj
  rw [size_flatK] at hj
  rw [get_flatK _ _ _ _ hj]
  have hj' : j < l.length * 2 := by simpa using hj
  have hf := pcs_flat l j hj'
  have hc := h.cells (g := g) rfl j _ hf
  rw [add_zero_addr] at hc
  rw [Nat.zero_add]
  refine ⟨hc, ?_⟩
  rcases h.2 with ⟨e, _⟩ | ⟨g', cap', cur, e, _, hh, _⟩
  · cases e
  · cases e
    simp [World.frozen?, hh]
theorem holds_row {w : World} {blk off : Nat} {d : Array PT} (h : HoldsK PT.enc 2 w blk off d) : PRow w blk off d.toList := fun i t ht => by
  have hi : i < d.size := by
    rcases Nat.lt_or_ge i d.size with h' | h'
    · exact h'
    · rw [List.getElem?_eq_none (by simpa using h')] at ht; cases ht
  have ht' : d[i]! = t := by
    rw [getElem!_pos d i hi]
    rw [Array.getElem?_toList, Array.getElem?_eq_getElem hi] at ht
    exact Option.some.inj ht
  have h0 := (HoldsK.cell h hi (c := 0) (by omega)).1
  have h1 := (HoldsK.cell h hi (c := 1) (by omega)).1
  rw [ht'] at h0 h1
  exact ⟨h0, h1⟩
end Go.Proofs.YtbcflkdaeboflaaDoor
