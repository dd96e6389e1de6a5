/- What a table tells: the mathematics of reading a symbol. -/
/- A symbol is read by a table. -/
/- A table that nobody made; a reader or a writer that nobody made. A symbol is written. -/
/- A table that NewTable gave, its rows known to be rows of numbers. -/
/- A word's bits, highest first; a word that stands there is read as its symbol (plain mathematics). -/
/- The document's Symbol: the mathematics of bits that are taken one by one. -/
import Derived.Test.YtlbadjfcffoakaaDoorV16
import Derived.Test.YtlbadjfcffoakaaDoorV20
import Derived.Test.YtlbadjfcffoakaaDoorV21
namespace Go.Proofs.YtlbadjfcffoakaaDoor
open Go.RowKit
set_option linter.unusedVariables false
set_option maxRecDepth 20000

theorem symsOf_length (ns : List Nat) (l : Nat) (hl : 0 < l) : ∀ i, (symsOf ns l i).length = lcnt ns l i
  | 0 => rfl
  | i + 1 => by
    rw [symsOf_succ]
    simp only [lcnt]
    by_cases e : ns.getD i 0 = l
    · rw [if_pos ⟨e, hl⟩, if_pos e, List.length_append, symsOf_length ns l hl i]; rfl
    · rw [if_neg (fun h => e h.1), if_neg e, symsOf_length ns l hl i]; rfl
theorem symsOf_zero (ns : List Nat) (i : Nat) : symsOf ns 0 i = [] := by
  unfold symsOf
  rw [List.filter_eq_nil_iff]
  intro a _
  simp
theorem symsOf_at (ns : List Nat) (l : Nat) (hl : 0 < l) : ∀ (i j : Nat), j < lcnt ns l i → ∃ s, (symsOf ns l i)[j]? = some s ∧ s < i ∧ ns.getD s 0 = l ∧ lcnt ns l s = j
  | 0, j, h => by simp [lcnt] at h
  | i + 1, j, h => by
    rw [symsOf_succ]
    simp only [lcnt] at h
    by_cases e : ns.getD i 0 = l
    · rw [if_pos ⟨e, hl⟩]
      rw [if_pos e] at h
      by_cases hj : j < lcnt ns l i
      · obtain ⟨s, h1, h2, h3, h4⟩ := symsOf_at ns l hl i j hj
        refine ⟨s, ?_, by omega, h3, h4⟩
        rw [List.getElem?_append_left (by rw [symsOf_length ns l hl]; exact hj)]; exact h1
      · have hj' : j = lcnt ns l i := by omega
        refine ⟨i, ?_, by omega, e, hj'.symm⟩
        rw [List.getElem?_append_right (by rw [symsOf_length ns l hl]; omega), symsOf_length ns l hl, hj']; simp
    · rw [if_neg (fun h => e h.1)]
      rw [if_neg e] at h
      obtain ⟨s, h1, h2, h3, h4⟩ := symsOf_at ns l hl i j (by omega)
      exact ⟨s, h1, by omega, h3, h4⟩
def symW (ns : List Nat) (l x : Nat) : Nat := (symsOf ns l ns.length).getD (x - fstW ns l) 0
theorem symW_ok (ns : List Nat) (l x : Nat) (hl : 0 < l) (h1 : fstW ns l ≤ x) (h2 : x < endW ns l) : symW ns l x < ns.length ∧ ns.getD (symW ns l x) 0 = l ∧ codeW ns (symW ns l x) = x := by
  unfold endW at h2
  obtain ⟨s, e1, e2, e3, e4⟩ := symsOf_at ns l hl ns.length (x - fstW ns l) (by omega)
  have : symW ns l x = s := by unfold symW; rw [List.getD_eq_getElem?_getD, e1]; rfl
  rw [this]
  refine ⟨e2, e3, ?_⟩
  unfold codeW
  rw [e3, e4]; omega
theorem codeW_inj (ns : List Nat) (i k : Nat) (hi : i < ns.length) (hk : k < ns.length) (hl : ns.getD i 0 = ns.getD k 0) (hw : codeW ns i = codeW ns k) : i = k := by
  unfold codeW at hw
  rw [hl] at hw
  rcases Nat.lt_trichotomy i k with h | h | h
  · have := lcnt_lt ns (ns.getD k 0) i k h hl; omega
  · exact h
  · have := lcnt_lt ns (ns.getD k 0) k i h rfl; omega
def rdS (ns : List Nat) (s : ByteArray) (p : Nat) : Nat → Nat → Nat → Nat × Nat × Nat
  | 0, l, x => (0, l, 30)
  | k + 1, l, x => if x < ew ns l then (symW ns l x, l, 0) else if ew ns 15 ≤ x * 2 ^ (15 - l) then (0, l, 30) else if 8 * s.size ≤ p + l then (0, l, 5) else rdS ns s p k (l + 1) (2 * x + bitAt s (p + l))
def rd (ns : List Nat) (s : ByteArray) (p : Nat) : Nat × Nat × Nat := rdS ns s p 16 0 0
end Go.Proofs.YtlbadjfcffoakaaDoor
namespace Go.Proofs.YtlbadjfcffoakaaDoor
open Go.RowKit
set_option linter.unusedVariables false
set_option maxRecDepth 20000

theorem Tab.cell {w : World} {lo hi t : Nat} {ns : List Nat} {R : Nat → Value} (h : Tab w lo hi t ns R) {k : Nat} (hk : k < 18) : w.cell? ⟨t, k + 1, none⟩ = some (R k) := by
  have h1 := h.blk
  have h2 := tcs_get t (ew ns 15) R (k + 1) (by omega)
  rw [if_neg (by omega), if_neg (by omega), Nat.add_sub_cancel] at h2
  unfold World.cell?
  rw [h1]; exact h2
theorem Tab.self {w : World} {lo hi t : Nat} {ns : List Nat} {R : Nat → Value} (h : Tab w lo hi t ns R) : w.cell? ⟨t, 0, none⟩ = some (.pointer (some ⟨t, 0, none⟩)) := by
  have h1 := h.blk
  have h2 := tcs_get t (ew ns 15) R 0 (by omega)
  unfold World.cell?
  rw [h1]; exact h2
theorem Tab.share {w : World} {lo hi t : Nat} {ns : List Nat} {R : Nat → Value} (h : Tab w lo hi t ns R) : w.cell? ⟨t, 19, none⟩ = some (.int .i64 (ew ns 15 : Nat)) := by
  have h1 := h.blk
  have h2 := tcs_get t (ew ns 15) R 19 (by omega)
  unfold World.cell?
  rw [h1]; exact h2
theorem eqSelfT (a : Addr) (w : World) : (binOp .eql 109 (.pointer (some a)) (.pointer (some a))).run Tryd.prog w = .ok (.bool true) w := by
  obtain ⟨j, hj⟩ : ∃ j, Tryd.prog.info? 131 = some j := Option.isSome_iff_exists.1 (by kernel_rfl)
  exact run_eql_ptr_same w a Tryd.underlying109 hj
theorem eqNilT (a : Addr) (w : World) : (binOp .eql 109 (.pointer none) (.pointer (some a))).run Tryd.prog w = .ok (.bool false) w :=
  eql_nil_ptr w a Tryd.underlying109
theorem tgiven_yes (b : Nat) (w : World) (h0 : w.cell? ⟨b, 0, none⟩ = some (.pointer (some ⟨b, 0, none⟩))) :
    Calls Tryd.prog 71 #[.pointer (some ⟨b, 0, none⟩)] w fun e w' => e = .returned (.bool true) ∧ w' = w := by
  have e1 := eqSelfT ⟨b, 0, none⟩
  go_enter Tryd.func71, Tryd.ntmps71
  go_wp2
  go_ret
  exact ⟨rfl, rfl⟩
theorem tgiven_zero (b : Nat) (w : World) (h0 : w.cell? ⟨b, 0, none⟩ = some (.pointer none)) :
    Calls Tryd.prog 71 #[.pointer (some ⟨b, 0, none⟩)] w fun e w' => e = .returned (.bool false) ∧ w' = w := by
  have e1 := eqNilT ⟨b, 0, none⟩
  go_enter Tryd.func71, Tryd.ntmps71
  go_wp2
  go_ret
  exact ⟨rfl, rfl⟩
theorem tgiven_nil (w : World) :
    Calls Tryd.prog 71 #[.pointer none] w fun e w' => e = .returned (.bool false) ∧ w' = w := by
  go_enter Tryd.func71, Tryd.ntmps71
  go_wp2
  go_ret
  exact ⟨rfl, rfl⟩

theorem sym_len (ns : List Nat) (l : Nat) : fstW ns l + (symsOf ns l ns.length).length = ew ns l := by
  cases l with
  | zero => rw [symsOf_zero]; rfl
  | succ l => rw [symsOf_length ns (l + 1) (by omega)]; rfl
end Go.Proofs.YtlbadjfcffoakaaDoor
namespace Go.Proofs.YtlbadjfcffoakaaDoor
open Go.RowKit
set_option linter.unusedVariables false
set_option maxRecDepth 20000

def NoTab (w : World) (p : Option Addr) : Prop := p = none ∨ ∃ b, p = some ⟨b, 0, none⟩ ∧ w.cell? ⟨b, 0, none⟩ = some (.pointer none)
theorem no_given (p : Option Addr) (w : World) (h : NoTab w p) : Calls Tryd.prog 71 #[.pointer p] w fun e w' => e = .returned (.bool false) ∧ w' = w := by
  rcases h with rfl | ⟨b, rfl, h⟩
  · exact tgiven_nil w
  · exact tgiven_zero b w h
set_option maxRecDepth 20000 in
set_option maxHeartbeats 1000000 in
theorem no_put (p v : Option Addr) (n : Int) (w : World) (hno : NoTab w p) :
    Calls Tryd.prog 57 #[.pointer p, .pointer v, .int .i64 n] w fun e w' => e = .returned (.int .i64 1) ∧ w' = w := by
  have HN : Hid (NoTab w p) := hno
  clear hno
  go_enter Tryd.func57, Tryd.ntmps57
  go_wp2_with (go_at_call 71; refine (no_given _ _ HN.out).mono ?_; rintro e w' ⟨rfl, hw⟩; obtain rfl := hw.symm)
  go_ret
  exact ⟨rfl, rfl⟩
theorem Tab.lens {w : World} {lo hi t : Nat} {ns : List Nat} {R : Nat → Value} (h : Tab w lo hi t ns R) : ∃ ao cap, w.cell? ⟨t, 1, none⟩ = some (.slice ao ns.length cap) ∧ ∀ j, j < ns.length → ∃ g, ao = some ⟨g, 0, none⟩ ∧ w.cell? ⟨g, j, none⟩ = some (.int .i64 ((ns.getD j 0 : Nat) : Int)) := by
  obtain ⟨ao, cap, e, h1⟩ := h.rows 0 (by omega)
  have c := h.cell (k := 0) (by omega)
  rw [e] at c
  have hx : tX ns ns.length 0 = (List.range ns.length).map (fun s => ns.getD s 0) := rfl
  rw [hx] at c h1
  simp only [List.length_map, List.length_range] at c h1
  refine ⟨ao, cap, c, fun j hj => ?_⟩
  rcases h1 with h1 | ⟨g, e1, _, _, e2⟩
  · omega
  · refine ⟨g, e1, ?_⟩
    rw [e2 j hj, getD_in (show j < ((List.range ns.length).map (fun s => ns.getD s 0)).length by simpa using hj)]
    simp
theorem Tab.words {w : World} {lo hi t : Nat} {ns : List Nat} {R : Nat → Value} (h : Tab w lo hi t ns R) : ∃ ao cap, w.cell? ⟨t, 2, none⟩ = some (.slice ao ns.length cap) ∧ ∀ j, j < ns.length → ∃ g, ao = some ⟨g, 0, none⟩ ∧ w.cell? ⟨g, j, none⟩ = some (.int .i64 ((rv (cw ns j) (ns.getD j 0) : Nat) : Int)) := by
  obtain ⟨ao, cap, e, h1⟩ := h.rows 1 (by omega)
  have c := h.cell (k := 1) (by omega)
  rw [e] at c
  have hx : tX ns ns.length 1 = (List.range ns.length).map (fun s => rv (cw ns s) (ns.getD s 0)) := rfl
  rw [hx] at c h1
  simp only [List.length_map, List.length_range] at c h1
  refine ⟨ao, cap, c, fun j hj => ?_⟩
  rcases h1 with h1 | ⟨g, e1, _, _, e2⟩
  · omega
  · refine ⟨g, e1, ?_⟩
    rw [e2 j hj, getD_in (show j < ((List.range ns.length).map (fun s => rv (cw ns s) (ns.getD s 0))).length by simpa using hj)]
    simp
set_option maxRecDepth 20000 in
set_option maxHeartbeats 1000000 in
theorem put_out (lo hi t : Nat) (ns : List Nat) (R : Nat → Value) (v : Option Addr) (x : Int) (w : World) (ht : Tab w lo hi t ns R) (hn : ns.length ≤ 288) (hx : x < 0 ∨ (ns.length : Int) ≤ x ∨ ns.getD x.toNat 0 = 0) :
    Calls Tryd.prog 57 #[.pointer (some ⟨t, 0, none⟩), .pointer v, .int .i64 x] w fun e w' => e = .returned (.int .i64 1) ∧ ∃ k, w' = w.drewN k := by
  have hself := ht.self
  obtain ⟨ao, cap, c1, hl⟩ := ht.lens
  obtain ⟨N, hN⟩ : ∃ N, ns.length = N := ⟨_, rfl⟩
  rw [hN] at c1 hl hn hx
  have hcase : x < 0 ∨ (¬ x < 0 ∧ (N : Int) ≤ x) ∨ (∃ j : Nat, x = (j : Int) ∧ j < N ∧ ns.getD j 0 = 0) := by
    rcases hx with h | h | h
    · exact .inl h
    · exact .inr (.inl ⟨by omega, h⟩)
    · by_cases h1 : x < 0
      · exact .inl h1
      · by_cases h2 : (N : Int) ≤ x
        · exact .inr (.inl ⟨h1, h2⟩)
        · exact .inr (.inr ⟨x.toNat, by omega, by omega, h⟩)
  clear hx ht
  rcases hcase with h | ⟨h, h2⟩ | ⟨j, rfl, hj, h0⟩
  · clear hl
    go_enter Tryd.func57, Tryd.ntmps57
    go_wp2_with (go_at_call 71; refine (tgiven_yes _ _ hself).mono ?_; rintro e w' ⟨rfl, hw⟩; obtain rfl := hw.symm)
    go_ret
    exact ⟨rfl, 0, rfl⟩
  · clear hl
    go_enter Tryd.func57, Tryd.ntmps57
    go_wp2_with (go_at_call 71; refine (tgiven_yes _ _ hself).mono ?_; rintro e w' ⟨rfl, hw⟩; obtain rfl := hw.symm)
    go_ret
    exact ⟨rfl, 0, rfl⟩
  · obtain ⟨g, rfl, c2⟩ := hl j hj
    rw [h0] at c2
    have c2 : w.cell? ⟨g, j, none⟩ = some (.int .i64 0) := c2
    have hji : (j : Int) < (N : Int) := by omega
    clear hl h0
    go_enter Tryd.func57, Tryd.ntmps57
    go_wp2_with (go_at_call 71; refine (tgiven_yes _ _ hself).mono ?_; rintro e w' ⟨rfl, hw⟩; obtain rfl := hw.symm)
    go_ret
    exact ⟨rfl, 0, rfl⟩
set_option maxRecDepth 20000 in
set_option maxHeartbeats 1000000 in
theorem put_in (lo hi t : Nat) (ns : List Nat) (R : Nat → Value) (v : Option Addr) (j : Nat) (w : World) (ht : Tab w lo hi t ns R) (hn : ns.length ≤ 288) (hj : j < ns.length) (h0 : 0 < ns.getD j 0) (P : Value → World → Prop)
    (hB : ∀ k, Calls Tryd.prog 36 #[.pointer v, .int .i64 ((rv (cw ns j) (ns.getD j 0) : Nat) : Int), .int .i64 ((ns.getD j 0 : Nat) : Int)] (w.drewN k) fun e w' => ∃ u, e = .returned (.int .i64 u) ∧ P (.int .i64 u) w') :
    Calls Tryd.prog 57 #[.pointer (some ⟨t, 0, none⟩), .pointer v, .int .i64 (j : Int)] w fun e w' => ∃ u, e = .returned (.int .i64 u) ∧ P (.int .i64 u) w' := by
  have hself := ht.self
  obtain ⟨ao, cap, c1, hl⟩ := ht.lens
  obtain ⟨ao2, cap2, c3, hl2⟩ := ht.words
  obtain ⟨g, rfl, c2⟩ := hl j hj
  obtain ⟨g2, rfl, c4⟩ := hl2 j hj
  obtain ⟨N, hN⟩ : ∃ N, ns.length = N := ⟨_, rfl⟩
  rw [hN] at c1 c3 hn hj
  obtain ⟨l, hll⟩ : ∃ l, ns.getD j 0 = l := ⟨_, rfl⟩
  rw [hll] at c2 c4 h0 hB
  obtain ⟨y, hy⟩ : ∃ y, rv (cw ns j) l = y := ⟨_, rfl⟩
  rw [hy] at c4 hB
  have HB : Hid _ := hB
  have hji : (j : Int) < (N : Int) := by omega
  have h0i : ¬ (l : Int) = 0 := by omega
  have h0b : ((l : Int) == 0) = false := by simpa using h0i
  clear hl hl2 ht hy hll hB
  go_enter Tryd.func57, Tryd.ntmps57
  go_wp2_with (go_at_call 71; refine (tgiven_yes _ _ hself).mono ?_; rintro e w' ⟨rfl, hw⟩; obtain rfl := hw.symm)
  have HB1 : Hid (Calls Tryd.prog 36 #[.pointer v, .int .i64 (y : Nat), .int .i64 (l : Nat)] w.drew fun e w' => ∃ u, e = .returned (.int .i64 u) ∧ P (.int .i64 u) w') := HB.out 1
  go_region_with (first | (go_at_call 36; refine Calls.mono HB1.out ?_; rintro e W2 ⟨u, rfl, hP⟩; have HP : Hid (P (.int .i64 u) W2) := hP; clear hP))
  all_goals
    go_wp2
    go_ret
    exact ⟨u, rfl, HP.out⟩
end Go.Proofs.YtlbadjfcffoakaaDoor
namespace Go.Proofs.YtlbadjfcffoakaaDoor
open Go.RowKit
set_option linter.unusedVariables false
set_option maxRecDepth 20000

def TabT (w : World) (lo hi t : Nat) (ns : List Nat) (R : Nat → Value) : Prop := Tab w lo hi t ns R ∧ ∀ k, k < 18 → ∀ g, (R k).ownBlock = some g → ∃ cur, w.heap[g]? = some (.cells cur 3 (0, 0))
theorem TabSt.tabT {w wr : World} {B t L N : Nat} {cws : Nat → Nat} {ns : List Nat} {R : Nat → Value} (h : TabSt w wr B t L N (ew ns 15) cws R (tX ns N)) (hN : ns.length = N) : TabT wr B wr.heap.size t ns R := by
  refine ⟨h.tab hN, fun k hk g hg => ?_⟩
  rcases (h.own k hk).2 with ⟨e1, e2⟩ | ⟨g', cap, cur, e1, e2, e3, e4⟩
  · rw [e1] at hg; simp [Value.ownBlock] at hg
  · rw [e1] at hg
    have : g' = g := by simpa [Value.ownBlock] using hg
    subst this
    exact ⟨cur, e3⟩
def TabEndT (w : World) (xs : List Int) (e : Ending) (w' : World) : Prop :=
  ((isCode0 xs ∧ ∃ t R, e = .returned (.tuple #[.pointer (some ⟨t, 0, none⟩), .int .i64 0]) ∧ TabT w' w.heap.size w'.heap.size t (nsOf xs) R) ∨ (¬ isCode0 xs ∧ e = .returned (.tuple #[.pointer none, .int .i64 30]))) ∧ Below w.heap.size w w'
set_option maxRecDepth 20000 in
set_option maxHeartbeats 4000000 in
theorem newTableT_ok (xs : List Int) (a : Option Addr) (c N : Nat) (w : World) (hN : xs.length = N) (hrow : IRow w a xs) (hlen : N ≤ 9223372036854775807) :
    Calls Tryd.prog 56 #[.slice a N c] w fun e w' => TabEndT w xs e w' := by
  have HE : Hid (Calls Tryd.prog 68 #[.slice a N c] w fun e w' => EndsEnd w xs e w') := wordEnds_ok xs a c N w hN hrow hlen
  have HC : Hid (∀ W, Below w.heap.size w W → Calls Tryd.prog 69 #[.slice a N c] W fun e w' => CodesEnd W xs e w') := fun W hW => codes_ok xs a c N W hN (hrow.below hW) hlen
  have HR : Hid (IRow w a xs) := hrow
  have HN : Hid (xs.length = N) := hN
  clear hN hrow
  go_enter Tryd.func56, Tryd.ntmps56
  go_wp2_with fail
  refine Calls.mono HE.out ?_
  rintro e w1 ⟨hcase, hb1⟩
  have HB : Hid (Below w.heap.size w w1) := hb1
  have hgen : ∃ (g : Nat → Nat) (q : Int), e = .returned (.tuple #[.agg (lcells 16 g), .int .i64 q]) ∧ Hid ((may xs = true ∧ ew (nsOf xs) 15 ≤ 32768 ∧ g = ew (nsOf xs) ∧ q = 0) ∨ (¬ (may xs = true ∧ ew (nsOf xs) 15 ≤ 32768) ∧ q = 30)) := by
    rcases hcase with ⟨h1, h2, rfl⟩ | ⟨h1, rfl⟩
    · exact ⟨_, _, rfl, .inl ⟨h1, h2, rfl, rfl⟩⟩
    · exact ⟨_, _, rfl, .inr ⟨h1, rfl⟩⟩
  obtain ⟨g, q, rfl, HG⟩ := hgen
  have hAg : (lcells 16 g)[15]? = some (.int .i64 (g 15 : Nat)) := lcells_get 16 g 15 (by omega)
  have hsv := run_storeCells_blk (P := Tryd.prog) (w1.alloc (.cells #[.int .i64 0, .int .i64 0, .int .i64 0, .int .i64 0, .int .i64 0, .int .i64 0, .int .i64 0, .int .i64 0, .int .i64 0, .int .i64 0, .int .i64 0, .int .i64 0, .int .i64 0, .int .i64 0, .int .i64 0, .int .i64 0] 126)) w1.heap.size 126 126 _ (lcells 16 g) (heap_alloc_last _ _) (by rw [lcells_size]; exact perSize) (by rw [lcells_size]; rfl) (lcells_one _ _)
  rw [setRow_last] at hsv
  have hAs := lcells_size 16 g
  obtain ⟨A, hA⟩ : ∃ A, lcells 16 g = A := ⟨_, rfl⟩
  rw [hA] at hAg hsv hAs
  rw [hA]
  have HSV : Hid _ := hsv
  clear hcase hb1 hsv hA
  go_wp2
  simp only [HSV.out, Result.andThen]
  rw [Oper.upon_skip]
  clear hAs HSV
  rcases HG.out with ⟨hmay, hfit, hge, rfl⟩ | ⟨hno, rfl⟩
  · have HM : Hid (may xs = true ∧ ew (nsOf xs) 15 ≤ 32768) := ⟨hmay, hfit⟩
    have hN288 : N ≤ 288 := by rw [← HN.out]; exact may_len hmay
    obtain ⟨sh, hsh⟩ : ∃ sh, g 15 = sh := ⟨_, rfl⟩
    rw [hsh] at hAg
    have HSH : Hid (ew (nsOf xs) 15 = sh) := by show _ = _; rw [← hsh, hge]
    have hw2 : Below w.heap.size w (w1.alloc (.cells A 126)) := HB.out.alloc HB.out.size _
    have hAl : (w1.alloc (.cells A 126)).heap[w1.heap.size]? = some (.cells A 126 (0, 0)) := heap_alloc_last _ _
    have hc15 : (w1.alloc (.cells A 126)).cell? ⟨w1.heap.size, 15, none⟩ = some (.int .i64 (sh : Nat)) := by unfold World.cell?; rw [hAl]; exact hAg
    have hpl : w1.heap.size < (w1.alloc (.cells A 126)).heap.size := by simp
    obtain ⟨W, hW⟩ : ∃ W, w1.alloc (.cells A 126) = W := ⟨_, rfl⟩
    obtain ⟨p, hp⟩ : ∃ p, w1.heap.size = p := ⟨_, rfl⟩
    rw [hW] at hw2 hc15 hpl ⊢
    rw [hp] at hc15 hpl ⊢
    have HBW : Hid (Below w.heap.size w W) := hw2
    clear hw2 hge hsh hW hp hAl hAg hmay hfit HG HE HB
    go_wp2_with fail
    refine (HC.out W HBW.out).mono ?_
    rintro e w3 ⟨hcase, hb3⟩
    rcases hcase with ⟨_, _, L, rfl, hlb, hnew⟩ | ⟨hno, rfl⟩
    · rw [HN.out] at hlb ⊢
      have hc16 : w3.cell? ⟨p, 15, none⟩ = some (.int .i64 (sh : Nat)) := by rw [hb3.cell hpl]; exact hc15
      have HB3 : Hid (Below w.heap.size w w3) := HBW.out.trans (hb3.mono HBW.out.size)
      have HLB : Hid (LB w3 L N (cw (nsOf xs))) := hlb
      clear hb3 hlb hnew hc15 hpl
      go_wp2
      obtain ⟨i0, hi, hz0, hz1, hz2⟩ := info_split intInfo
      have HI : Hid (Tryd.prog.info? 3 = some i0 ∧ i0.zero = some (.int .i64 0) ∧ i0.size = 1 ∧ i0.bytes = 8) := ⟨hi, hz0, hz1, hz2⟩
      clear hi hz0 hz1 hz2
      go_loopw [9, 10, 34] (fun _ _ v34 wr => ∃ (i : Nat) (R : Nat → Value), v34 = .int .i64 i ∧ i ≤ N ∧ Hid (TabSt w wr w.heap.size w3.heap.size L N sh (cw (nsOf xs)) R (tX (nsOf xs) i))) (fun _ _ v34 _ => N - (intOf v34).toNat)
      case atStart =>
        refine ⟨0, fun _ => .slice none 0 0, rfl, by omega, ?_⟩
        rw [tcs_zero]
        exact TabSt.start HB3.out HLB.out
      case round =>
        obtain ⟨i, R, rfl, hi, HS⟩ := hrel
        by_cases hlt : i < N
        · have hlti : (i : Int) < (N : Int) := by omega
          obtain ⟨b, off, rfl, hcell, hb⟩ := (HR.out.below HS.out.bel).at (show i < xs.length by rw [HN.out]; exact hlt)
          obtain ⟨f, hf⟩ : ∃ f : Nat, xs.getD i 0 = (f : Int) := ⟨(xs.getD i 0).toNat, by have := (may_get HM.out.1 i).1; omega⟩
          have hf15 : f ≤ 15 := by have := (may_get HM.out.1 i).2; omega
          have hfn : (nsOf xs).getD i 0 = f := by rw [nsOf_get, hf]; simp
          rw [hf] at hcell
          have HFN : Hid ((nsOf xs).getD i 0 = f) := hfn
          clear hf hfn hb
          obtain ⟨t, ht⟩ : ∃ t, w3.heap.size = t := ⟨_, rfl⟩
          rw [ht] at HS ⊢
          obtain ⟨V0, hV0⟩ : ∃ V, R 0 = V := ⟨_, rfl⟩
          have c0 := (HS.out.cell (k := 0) (by omega)).1
          rw [hV0] at c0
          have o0 := HS.out.own 0 (by omega)
          have hl0 : (tX (nsOf xs) i 0).length = i := by simp [tX]
          rw [hV0, hl0] at o0
          have HO : Hid (∀ o, (wr.alloc o).ownsRow w.heap.size 3 1 V0 i (ics (tX (nsOf xs) i 0)) ∧ w.heap.size ≤ (wr.alloc o).heap.size) := fun o => ⟨o0.alloc o, by have := HS.out.bsz; simp; omega⟩
          have HV0 : Hid (R 0 = V0 ∧ (tX (nsOf xs) i 0).length = i) := ⟨hV0, hl0⟩
          clear hV0 o0 hl0
          go_wp2_with (at_builtin; refine wpList_append_lies _ rfl _ _ 41 rfl w.heap.size 3 i0 (.int .i64 0) 1 8 Tryd.underlying41 HI.out.1 HI.out.2.1 HI.out.2.2.1 HI.out.2.2.2 rfl (by decide) V0 i (ics (tX (nsOf xs) i 0)) rfl (HO.out _).1 ⟨wr.heap.size, 0, none⟩ 1 1 [.int .i64 (f : Int)] rfl rfl ?c1 ?c2 (by decide) ?c3 ?c4 (HO.out _).2 _ rfl ?_)
          case c1 =>
            intro j u hj
            match j, hj with
            | 0, hj => simp at hj; subst hj; simp [Addr.add]
          case c2 => intro u hu; simp at hu; subst hu; rfl
          case c3 => unfold maxLen; omega
          case c4 => omega
          intro g1 cap1 wa hown hgrow hat hgl
          have hgrow' : ((wr.drewN 0).alloc (.cells #[.int .i64 (f : Int)] 3)).grownBy wa (R 0).ownBlock := by rw [HV0.out.1]; exact hgrow
          obtain ⟨s1, s2⟩ := HS.out.seen (k := 0) (by omega) hgrow'
          have H1 := HS.out.put (k := 0) (by omega) (x := f) HV0.out.2.symm hown hgrow' (by rw [HV0.out.1]; simpa using hat)
          obtain ⟨R1, hR1⟩ : ∃ R1, upd R 0 (.slice (some ⟨g1, 0, none⟩) (i + 1) cap1) = R1 := ⟨_, rfl⟩
          obtain ⟨X1, hX1⟩ : ∃ X1, upd (tX (nsOf xs) i) 0 (tX (nsOf xs) i 0 ++ [f]) = X1 := ⟨_, rfl⟩
          have HX1 : Hid (upd (tX (nsOf xs) i) 0 (tX (nsOf xs) i 0 ++ [f]) = X1) := hX1
          have e1 : R1 1 = R 1 := by rw [← hR1]; exact upd_ne _ _ _ (by omega)
          have e2 : X1 1 = tX (nsOf xs) i 1 := by rw [← hX1]; exact upd_ne _ _ _ (by omega)
          rw [hR1, hX1] at H1
          have H1 : Hid (TabSt w (wa.setCell ⟨t, 1, none⟩ (.slice (some ⟨g1, 0, none⟩) (i + 1) cap1)) w.heap.size t L N sh (cw (nsOf xs)) R1 X1) := H1
          obtain ⟨V1, hV1⟩ : ∃ V, R 1 = V := ⟨_, rfl⟩
          obtain ⟨k1, k2⟩ := s1 0 (by omega)
          have k1 : wa.cell? ⟨t, 1, none⟩ = some V0 := by rw [← HV0.out.1]; exact k1
          have k2 : wa.frozen? ⟨t, 1, none⟩ = false := k2
          obtain ⟨k3, k4⟩ := s1 1 (by omega)
          rw [hV1] at k3
          have k3 : wa.cell? ⟨t, 2, none⟩ = some V1 := k3
          have k4 : wa.frozen? ⟨t, 2, none⟩ = false := k4
          have k5 := (s2.cell hlt).1
          obtain ⟨cwi, hcwi⟩ : ∃ v, cw (nsOf xs) i = v := ⟨_, rfl⟩
          rw [hcwi] at k5
          have hLt := HS.out.neL
          have HTU : Hid (∀ W, Calls Tryd.prog 70 #[.int .i64 cwi, .int .i64 f] W fun e w' => e = .returned (.int .i64 (rv cwi f : Nat)) ∧ ∃ k, w' = W.drewN k) := fun W => by
            refine turn_ok cwi f hf15 ?_ W
            have := cw_fits HM.out.1 HM.out.2 i (by rw [HN.out]; exact hlt)
            rw [HFN.out, hcwi] at this
            exact this
          have HCW : Hid (cw (nsOf xs) i = cwi) := hcwi
          obtain ⟨y, hy⟩ : ∃ y, rv cwi f = y := ⟨_, rfl⟩
          rw [hy] at HTU
          have HY : Hid (rv (cw (nsOf xs) i) ((nsOf xs).getD i 0) = y ∧ R1 1 = V1 ∧ (X1 1).length = i) := ⟨by rw [HFN.out, hcwi]; exact hy, by rw [e1]; exact hV1, by rw [e2]; simp [tX]⟩
          clear hown hgrow hgrow' hat hgl s1 s2 hy hcwi e1 e2 hR1 hX1 hV1 HO c0
          go_wp2
          have q1 := H1.out.cell (k := 1) (by omega)
          rw [HY.out.2.1] at q1
          obtain ⟨q1, q2⟩ := q1
          have q1 : (wa.setCell ⟨t, 1, none⟩ (.slice (some ⟨g1, 0, none⟩) (i + 1) cap1)).cell? ⟨t, 2, none⟩ = some V1 := q1
          have q2 : (wa.setCell ⟨t, 1, none⟩ (.slice (some ⟨g1, 0, none⟩) (i + 1) cap1)).frozen? ⟨t, 2, none⟩ = false := q2
          have q3 := (H1.out.words.cell hlt).1
          rw [HCW.out] at q3
          obtain ⟨W1, hW1⟩ : ∃ W, wa.setCell ⟨t, 1, none⟩ (.slice (some ⟨g1, 0, none⟩) (i + 1) cap1) = W := ⟨_, rfl⟩
          rw [hW1] at H1 q1 q2 q3 ⊢
          clear hW1 k1 k2 k3 k4 k5
          go_region_law
            (first
              | (refine step_append_lies _ rfl _ _ 41 rfl w.heap.size 3 i0 (.int .i64 0) 1 8 Tryd.underlying41 HI.out.1 HI.out.2.1 HI.out.2.2.1 HI.out.2.2.2 rfl (by decide) V1 i (ics (X1 1)) rfl (HO2.out _).1 ⟨_, 0, none⟩ 1 1 [.int .i64 (y : Nat)] rfl rfl (news1 _ _ _) (one1 _) (by decide) (by unfold maxLen; omega) (by omega) (HO2.out _).2 _ rfl ?_; intro g2 cap2 wb hown hgrow hat hgl; have hgrow' : ((V2.drewN 0).alloc (.cells #[.int .i64 (y : Nat)] 3)).grownBy wb (R1 1).ownBlock := (by rw [HY.out.2.1]; exact hgrow); have hseen := HT2.out.seen (k := 1) (by omega) hgrow'; have KS1 := (⟨by rw [← HY.out.2.1]; exact (hseen.1 1 (by omega)).1, (hseen.1 1 (by omega)).2, by rw [← HCW.out]; exact (hseen.2.cell hlt).1⟩ : wb.cell? ⟨t, 2, none⟩ = some V1 ∧ wb.frozen? ⟨t, 2, none⟩ = false ∧ wb.cell? ⟨L, i, none⟩ = some (.int .i64 (cwi : Nat))); obtain ⟨KS1, KS1f, KS1c⟩ := KS1)
              | (go_simp; go_at_call 70; refine (HTU.out _).mono ?_; rintro e V2 ⟨rfl, qd, hV2⟩; have KS := (by rw [hV2]; exact ⟨q1, q2, q3⟩ : V2.cell? ⟨t, 2, none⟩ = some V1 ∧ V2.frozen? ⟨t, 2, none⟩ = false ∧ V2.cell? ⟨L, i, none⟩ = some (.int .i64 (cwi : Nat))); have HT2 : Hid (TabSt w V2 w.heap.size t L N sh (cw (nsOf xs)) R1 X1) := (by show TabSt _ _ _ _ _ _ _ _ _ _; rw [hV2]; exact ⟨H1.out.blk, H1.out.own, H1.out.apart, H1.out.notL, H1.out.words, ⟨H1.out.bel.os, H1.out.bel.tape, H1.out.bel.output, H1.out.bel.size, H1.out.bel.block⟩, H1.out.tge, H1.out.bsz⟩); have HO2 : Hid (∀ o, (V2.alloc o).ownsRow w.heap.size 3 1 V1 i (ics (X1 1)) ∧ w.heap.size ≤ (V2.alloc o).heap.size) := (fun o => ⟨by have h := HT2.out.own 1 (by omega); rw [HY.out.2.1, HY.out.2.2] at h; exact h.alloc o, by have := HT2.out.bsz; simp; omega⟩); have KS0 := (⟨by rw [World.cell?_alloc_past _ _ _ (lt_cell KS.1)]; exact KS.1, HT2.out.frozen_alloc _, by rw [World.cell?_alloc_past _ _ _ (lt_cell KS.2.2)]; exact KS.2.2⟩ : (V2.alloc (.cells #[.int .i64 (y : Nat)] 3)).cell? ⟨t, 2, none⟩ = some V1 ∧ (V2.alloc (.cells #[.int .i64 (y : Nat)] 3)).frozen? ⟨t, 2, none⟩ = false ∧ (V2.alloc (.cells #[.int .i64 (y : Nat)] 3)).cell? ⟨L, i, none⟩ = some (.int .i64 (cwi : Nat))); obtain ⟨KS, KSf, KSc⟩ := KS; obtain ⟨KS0, KS0f, KS0c⟩ := KS0; clear hV2))
          all_goals
            have H2 := HT2.out.put (k := 1) (by omega) (x := y) HY.out.2.2.symm hown hgrow' (by rw [HY.out.2.1]; simpa using hat)
            obtain ⟨R2, hR2⟩ : ∃ R2, upd R1 1 (.slice (some ⟨g2, 0, none⟩) (i + 1) cap2) = R2 := ⟨_, rfl⟩
            obtain ⟨X2, hX2⟩ : ∃ X2, upd X1 1 (X1 1 ++ [y]) = X2 := ⟨_, rfl⟩
            have HX2 : Hid (upd X1 1 (X1 1 ++ [y]) = X2) := hX2
            rw [hR2, hX2] at H2
            have H2 : Hid (TabSt w (wb.setCell ⟨t, 2, none⟩ (.slice (some ⟨g2, 0, none⟩) (i + 1) cap2)) w.heap.size t L N sh (cw (nsOf xs)) R2 X2) := H2
            obtain ⟨W2, hW2⟩ : ∃ W, wb.setCell ⟨t, 2, none⟩ (.slice (some ⟨g2, 0, none⟩) (i + 1) cap2) = W := ⟨_, rfl⟩
            rw [hW2] at H2 ⊢
            clear hown hgrow hgrow' hat hgl hseen KS KSf KSc KS0 KS0f KS0c KS1 KS1f KS1c HO2 HT2 hX2 hR2 hW2 q1 q2 q3
            by_cases hp : 0 < f
            · have hpi : (0 : Int) < (f : Int) := by omega
              obtain ⟨V2', hV2'⟩ : ∃ V, R2 (f + 2) = V := ⟨_, rfl⟩
              have r := H2.out.cell (k := f + 2) (by omega)
              rw [hV2'] at r
              obtain ⟨r1, r2⟩ := r
              obtain ⟨n2, hn2⟩ : ∃ n, (X2 (f + 2)).length = n := ⟨_, rfl⟩
              have o2 := H2.out.own (f + 2) (by omega)
              rw [hV2', hn2] at o2
              have HO3 : Hid (∀ o, (W2.drew.alloc o).ownsRow w.heap.size 3 1 V2' n2 (ics (X2 (f + 2))) ∧ w.heap.size ≤ (W2.drew.alloc o).heap.size) := fun o => ⟨World.ownsRow.alloc (w := W2.drew) o2 o, by have := H2.out.bsz; simp; omega⟩
              have HV2 : Hid (R2 (f + 2) = V2' ∧ (X2 (f + 2)).length = n2) := ⟨hV2', hn2⟩
              have hn288 : n2 ≤ 288 := by
                rw [← hn2, ← HX2.out, upd_ne _ _ _ (by omega), ← HX1.out, upd_ne _ _ _ (by omega)]
                unfold tX
                rw [if_neg (by omega), if_neg (by omega)]
                exact Nat.le_trans (Nat.le_trans (List.length_filter_le _ _) (by simp)) (show i ≤ 288 by omega)
              have f16 : (f : Int) < 16 := by omega
              rw [show f + 2 + 1 = 3 + f by omega] at r1 r2
              have r3 : (W2.alloc (.cells #[.int .i64 (i : Nat)] 3)).cell? ⟨t, 3 + f, none⟩ = some V2' := by rw [World.cell?_alloc_past _ _ _ (lt_cell r1)]; exact r1
              have HO4 : Hid (∀ o, (W2.alloc o).drew.ownsRow w.heap.size 3 1 V2' n2 (ics (X2 (f + 2))) ∧ w.heap.size ≤ (W2.alloc o).drew.heap.size) := fun o => ⟨World.ownsRow.alloc (w := W2) o2 o, by have := H2.out.bsz; simp; omega⟩
              clear o2 hV2' hn2
              go_wp2
              go_region_law
                (first
                  | (refine step_append_lies _ rfl _ _ 41 rfl w.heap.size 3 i0 (.int .i64 0) 1 8 Tryd.underlying41 HI.out.1 HI.out.2.1 HI.out.2.2.1 HI.out.2.2.2 rfl (by decide) V2' n2 (ics (X2 (f + 2))) rfl (by first | exact (HO3.out _).1 | exact (HO4.out _).1) ⟨W2.heap.size, 0, none⟩ 1 1 [.int .i64 (i : Nat)] rfl rfl (by first | exact news1 W2 _ _ | exact news1 W2.drew _ _) (one1 _) (by decide) (by unfold maxLen; omega) (by omega) (by first | exact (HO3.out _).2 | exact (HO4.out _).2) _ rfl ?_; intro g3 cap3 wc hown hgrow hat hgl; have hgrow' : ((W2.drewN 1).alloc (.cells #[.int .i64 (i : Nat)] 3)).grownBy wc (R2 (f + 2)).ownBlock := (by rw [HV2.out.1]; exact hgrow); have hseen := H2.out.seen (k := f + 2) (by omega) hgrow'; have KS1 := (⟨by rw [← HV2.out.1, show 3 + f = f + 2 + 1 by omega]; exact (hseen.1 (f + 2) (by omega)).1, by rw [show 3 + f = f + 2 + 1 by omega]; exact (hseen.1 (f + 2) (by omega)).2⟩ : wc.cell? ⟨t, 3 + f, none⟩ = some V2' ∧ wc.frozen? ⟨t, 3 + f, none⟩ = false); obtain ⟨KS1, KS1f⟩ := KS1))
              all_goals
                have H3 := H2.out.put (k := f + 2) (by omega) (x := i) HV2.out.2.symm hown hgrow' (by rw [HV2.out.1]; simpa using hat)
                rw [← HX2.out, ← HX1.out, tX_take (nsOf xs) i f y hp HFN.out HY.out.1, show f + 2 + 1 = 3 + f by omega] at H3
                have H3 : Hid _ := H3
                clear hown hgrow hgrow' hat hgl hseen KS1 KS1f r1 r2 r3
                go_wp2
                exact ⟨⟨i + 1, _, by go_num, by omega, H3⟩, by simp [intOf]; omega⟩
            · have hpi : ¬ (0 : Int) < (f : Int) := by omega
              have H3 := H2.out
              rw [← HX2.out, ← HX1.out, tX_skip (nsOf xs) i f y (by omega) HFN.out HY.out.1] at H3
              have H3 : Hid _ := H3
              go_wp2
              exact ⟨⟨i + 1, R2, by go_num, by omega, H3⟩, by simp [intOf]; omega⟩
        · have hlti : ¬ (i : Int) < (N : Int) := by omega
          obtain rfl : i = N := by omega
          have HT : Hid (TabT wr w.heap.size wr.heap.size w3.heap.size (nsOf xs) R ∧ Below w.heap.size w wr) := by
            have h := HS.out
            rw [← HSH.out] at h
            exact ⟨h.tabT (by rw [nsOf_length, HN.out]), h.bel⟩
          go_wp2
          go_ret2
          exact ⟨.inl ⟨HM.out, w3.heap.size, R, rfl, HT.out.1⟩, HT.out.2⟩
    · exact absurd HM.out hno
  · have HB2 : Hid (∀ o, Below w.heap.size w (w1.alloc o)) := fun o => HB.out.alloc HB.out.size _
    go_wp2
    go_ret2
    exact ⟨.inr ⟨hno, rfl⟩, HB2.out _⟩
end Go.Proofs.YtlbadjfcffoakaaDoor
namespace Go.Proofs.YtlbadjfcffoakaaDoor
open Go.RowKit
set_option linter.unusedVariables false
set_option maxRecDepth 20000

def wbitsOf (x : Nat) : Nat → List Nat
  | 0 => []
  | n + 1 => (x / 2 ^ n % 2) :: wbitsOf x n
theorem wbitsOf_length (x n : Nat) : (wbitsOf x n).length = n := by
  induction n with
  | zero => rfl
  | succ n ih => simp [wbitsOf, ih]
theorem wbitsOf_get (x n i : Nat) (h : i < n) : (wbitsOf x n).getD i 0 = x / 2 ^ (n - 1 - i) % 2 := by
  induction n generalizing i with
  | zero => omega
  | succ n ih =>
    cases i with
    | zero => simp [wbitsOf]
    | succ i =>
      show (wbitsOf x n).getD i 0 = _
      rw [ih i (by omega)]
      congr 3
      omega
theorem wbitsOf_01 (x n : Nat) : Bits01 (wbitsOf x n) := by
  induction n with
  | zero => intro y hy; simp [wbitsOf] at hy
  | succ n ih =>
    intro y hy
    rcases List.mem_cons.1 hy with rfl | hy
    · exact Nat.mod_lt _ (by omega)
    · exact ih y hy
theorem rv_bit (x n i : Nat) (h : i < n) : rv x n / 2 ^ i % 2 = x / 2 ^ (n - 1 - i) % 2 := by
  induction n generalizing i with
  | zero => omega
  | succ n ih =>
    simp only [rv]
    cases i with
    | zero => simp
    | succ i =>
      have := ih i (by omega)
      rw [Nat.pow_succ, Nat.mul_comm (2 ^ i) 2, ← Nat.div_div_eq_div_mul, show (2 * rv x n + x / 2 ^ n % 2) / 2 = rv x n by have := Nat.mod_lt (x / 2 ^ n) (show 0 < 2 by omega); omega, this]
      congr 3
      omega
theorem bitsOf_rv (x n : Nat) : bitsOf (rv x n) n = wbitsOf x n := by
  refine List.ext_getElem? (fun i => ?_)
  by_cases h : i < n
  · rw [bitsOf_get _ _ _ h, rv_bit x n i h, List.getElem?_eq_getElem (by rw [wbitsOf_length]; exact h)]
    have := wbitsOf_get x n i h
    rw [getD_in (by rw [wbitsOf_length]; exact h)] at this
    rw [this]
  · rw [List.getElem?_eq_none (by rw [bitsOf_length]; omega), List.getElem?_eq_none (by rw [wbitsOf_length]; omega)]

theorem endW_above (ns : List Nat) (l d : Nat) (h1 : 1 ≤ l) : endW ns l * 2 ^ d ≤ endW ns (l + d) := by
  cases d with
  | zero => simp
  | succ d => exact Nat.le_trans (fstW_above ns l d h1) (Nat.le_add_right _ _)
theorem begins {ns : List Nat} {i l k : Nat} (hi : i < ns.length) (hl : ns.getD i 0 = l) (h15 : l ≤ 15) (hk : k < l) : ew ns k ≤ codeW ns i / 2 ^ (l - k) ∧ codeW ns i / 2 ^ (l - k) * 2 ^ (15 - k) < ew ns 15 := by
  have hend := codeW_end ns i hi
  rw [hl] at hend
  have hge : fstW ns l ≤ codeW ns i := by unfold codeW; rw [hl]; exact Nat.le_add_right _ _
  refine ⟨?_, ?_⟩
  · cases k with
    | zero => simp [ew]
    | succ k =>
      rw [Nat.le_div_iff_mul_le (Nat.pos_of_ne_zero (by simp))]
      have := fstW_above ns (k + 1) (l - (k + 1) - 1) (by omega)
      rw [show k + 1 + (l - (k + 1) - 1) + 1 = l by omega, show l - (k + 1) - 1 + 1 = l - (k + 1) by omega] at this
      exact Nat.le_trans this hge
  · have h1 : codeW ns i / 2 ^ (l - k) * 2 ^ (l - k) ≤ codeW ns i := Nat.div_mul_le_self _ _
    have h2 := endW_above ns l (15 - l) (by omega)
    rw [show l + (15 - l) = 15 by omega] at h2
    have h3 : codeW ns i / 2 ^ (l - k) * 2 ^ (15 - k) = codeW ns i / 2 ^ (l - k) * 2 ^ (l - k) * 2 ^ (15 - l) := by rw [Nat.mul_assoc, ← Nat.pow_add, show l - k + (15 - l) = 15 - k by omega]
    rw [h3]
    have h4 : codeW ns i / 2 ^ (l - k) * 2 ^ (l - k) * 2 ^ (15 - l) ≤ codeW ns i * 2 ^ (15 - l) := Nat.mul_le_mul_right _ h1
    have h5 : codeW ns i * 2 ^ (15 - l) < endW ns l * 2 ^ (15 - l) := Nat.mul_lt_mul_of_pos_right hend (Nat.pos_of_ne_zero (by simp))
    have h6 : endW ns 15 = ew ns 15 := rfl
    omega
theorem rd_word {ns : List Nat} {s : ByteArray} {p i l : Nat} (hi : i < ns.length) (hl : ns.getD i 0 = l) (h1 : 1 ≤ l) (h15 : l ≤ 15) (hp : p + l ≤ 8 * s.size) (hb : ∀ j, j < l → bitAt s (p + j) = codeW ns i / 2 ^ (l - 1 - j) % 2) (hlt : codeW ns i < 2 ^ l) : rd ns s p = (i, l, 0) := by
  have key : ∀ m k, k + m = l → rdS ns s p (16 - k) k (codeW ns i / 2 ^ (l - k)) = (i, l, 0) := by
    intro m
    induction m with
    | zero =>
      intro k hk
      obtain rfl : k = l := by omega
      rw [Nat.sub_self, Nat.pow_zero, Nat.div_one, show 16 - k = (15 - k) + 1 by omega]
      simp only [rdS]
      have hend := codeW_end ns i hi
      rw [hl] at hend
      have hew : ew ns k = endW ns k := by
        cases k with
        | zero => omega
        | succ k => rfl
      rw [if_pos (by rw [hew]; exact hend)]
      have hge : fstW ns k ≤ codeW ns i := by unfold codeW; rw [hl]; exact Nat.le_add_right _ _
      obtain ⟨a1, a2, a3⟩ := symW_ok ns k (codeW ns i) (by omega) hge hend
      rw [codeW_inj ns _ i a1 hi (by rw [a2, hl]) a3]
    | succ m ih =>
      intro k hk
      rw [show 16 - k = (16 - (k + 1)) + 1 by omega]
      simp only [rdS]
      obtain ⟨b1, b2⟩ := begins hi hl h15 (show k < l by omega)
      rw [if_neg (by omega), if_neg (by omega), if_neg (by omega), hb k (by omega)]
      have e : 2 * (codeW ns i / 2 ^ (l - k)) + codeW ns i / 2 ^ (l - 1 - k) % 2 = codeW ns i / 2 ^ (l - (k + 1)) := by
        rw [show l - k = (l - 1 - k) + 1 by omega, Nat.pow_succ, ← Nat.div_div_eq_div_mul, show l - (k + 1) = l - 1 - k by omega]
        omega
      rw [e]
      exact ih (k + 1) (by omega)
  have h := key l 0 (by omega)
  rw [show l - 0 = l from rfl, Nat.div_eq_of_lt hlt] at h
  exact h
end Go.Proofs.YtlbadjfcffoakaaDoor
namespace Go.Proofs.YtlbadjfcffoakaaDoor
open Go.RowKit
set_option linter.unusedVariables false
set_option maxRecDepth 20000

theorem ew_endW (ns : List Nat) (l : Nat) (h : 1 ≤ l) : ew ns l = endW ns l := by
  obtain ⟨k, rfl⟩ : ∃ k, l = k + 1 := ⟨l - 1, by omega⟩
  rw [ew_succ]
  unfold endW
  rw [fstW_ew ns (k + 1) (by omega)]
  simp only [Nat.add_sub_cancel]
  omega
theorem cw_code (ns : List Nat) (i : Nat) (h : 1 ≤ ns.getD i 0) : cw ns i = codeW ns i := by unfold cw; rw [if_neg (by omega)]
theorem ew_grows (ns : List Nat) (m : Nat) (h : m ≤ 15) : ew ns m * 2 ^ (15 - m) ≤ ew ns 15 := by
  have key : ∀ d, m + d ≤ 15 → ew ns m * 2 ^ d ≤ ew ns (m + d) := by
    intro d
    induction d with
    | zero => intro _; simp
    | succ d ih =>
      intro hd
      have h1 := ih (by omega)
      rw [show m + (d + 1) = (m + d) + 1 by omega, ew_succ, Nat.pow_succ, ← Nat.mul_assoc]
      omega
  have := key (15 - m) (by omega)
  rw [show m + (15 - m) = 15 by omega] at this
  exact this
theorem hit_iff (ns : List Nat) (l x : Nat) (hl : 1 ≤ l) (hx : 2 * ew ns (l - 1) ≤ x) : (∃ i, i < ns.length ∧ ns.getD i 0 = l ∧ cw ns i = x) ↔ x < ew ns l := by
  constructor
  · rintro ⟨i, hi, h1, h2⟩
    rw [cw_code ns i (by omega)] at h2
    have := codeW_end ns i hi
    rw [h1, ← ew_endW ns l hl] at this
    omega
  · intro h
    obtain ⟨h1, h2, h3⟩ := symW_ok ns l x (by omega) (by rw [fstW_ew ns l hl]; exact hx) (by rw [← ew_endW ns l hl]; exact h)
    exact ⟨symW ns l x, h1, h2, by rw [cw_code ns _ (by omega)]; exact h3⟩
theorem hit_sym (ns : List Nat) (l x i : Nat) (hl : 1 ≤ l) (hx : 2 * ew ns (l - 1) ≤ x) (hi : i < ns.length) (h1 : ns.getD i 0 = l) (h2 : cw ns i = x) : i = symW ns l x := by
  have h := (hit_iff ns l x hl hx).1 ⟨i, hi, h1, h2⟩
  obtain ⟨e1, e2, e3⟩ := symW_ok ns l x (by omega) (by rw [fstW_ew ns l hl]; exact hx) (by rw [← ew_endW ns l hl]; exact h)
  rw [cw_code ns i (by omega)] at h2
  exact codeW_inj ns i _ hi e1 (by rw [h1, e2]) (by rw [h2, e3])
def Beg (ns : List Nat) (l x i : Nat) : Prop := l < ns.getD i 0 ∧ cw ns i / 2 ^ (ns.getD i 0 - l) = x
theorem least_from {P : Nat → Prop} (a : Nat) : ∀ n, P (a + n) → ¬ P a → ∃ m, a < m ∧ m ≤ a + n ∧ P m ∧ ¬ P (m - 1)
  | 0, h, hn => absurd h hn
  | n + 1, h, hn => by
    by_cases h1 : P (a + n)
    · obtain ⟨m, h2, h3, h4, h5⟩ := least_from a n h1 hn
      exact ⟨m, h2, by omega, h4, h5⟩
    · exact ⟨a + (n + 1), by omega, Nat.le_refl _, h, by rw [show a + (n + 1) - 1 = a + n by omega]; exact h1⟩
theorem beg_iff (ns : List Nat) (l x : Nat) (hl : l ≤ 15) (h15 : ∀ i, ns.getD i 0 ≤ 15) (hx : ew ns l ≤ x) : (∃ i, i < ns.length ∧ Beg ns l x i) ↔ x * 2 ^ (15 - l) < ew ns 15 := by
  constructor
  · rintro ⟨i, hi, h1, h2⟩
    have hm := h15 i
    obtain ⟨m, hmm⟩ : ∃ m, ns.getD i 0 = m := ⟨_, rfl⟩
    rw [hmm] at h1 h2 hm
    rw [cw_code ns i (by rw [hmm]; omega)] at h2
    have hc := codeW_end ns i hi
    rw [hmm, ← ew_endW ns m (by omega)] at hc
    have h3 : x * 2 ^ (m - l) ≤ codeW ns i := by rw [← h2]; exact Nat.div_mul_le_self _ _
    have h4 := ew_grows ns m hm
    have h5 : x * 2 ^ (15 - l) = x * 2 ^ (m - l) * 2 ^ (15 - m) := by rw [Nat.mul_assoc, ← Nat.pow_add]; congr 2; omega
    rw [h5]
    have hpos : 0 < 2 ^ (15 - m) := Nat.pos_of_ne_zero (by simp)
    have h6 : x * 2 ^ (m - l) * 2 ^ (15 - m) < ew ns m * 2 ^ (15 - m) := Nat.mul_lt_mul_of_pos_right (by omega) hpos
    omega
  · intro h
    obtain ⟨m, h1, h2, h3, h4⟩ := least_from (P := fun m => x * 2 ^ (m - l) < ew ns m) l (15 - l) (by rw [show l + (15 - l) = 15 by omega]; exact h) (by rw [Nat.sub_self]; simp; exact hx)
    have h4' : ew ns (m - 1) ≤ x * 2 ^ (m - 1 - l) := by simpa using h4
    have h5 : x * 2 ^ (m - l) = 2 * (x * 2 ^ (m - 1 - l)) := by
      rw [show m - l = (m - 1 - l) + 1 by omega, Nat.pow_succ, ← Nat.mul_assoc]
      omega
    obtain ⟨i, hi, e1, e2⟩ := (hit_iff ns m (x * 2 ^ (m - l)) (by omega) (by omega)).2 h3
    exact ⟨i, hi, by rw [e1]; exact h1, by rw [e1, e2]; exact Nat.mul_div_cancel _ (Nat.pos_of_ne_zero (by simp))⟩
def rsS (ns : List Nat) (s : ByteArray) (p : Nat) : Nat → Nat → Nat → Nat × Nat × Nat
  | 0, l, x => (0, 0, 30)
  | k + 1, l, x => if 8 * s.size ≤ p + l then (0, 0, 5)
      else if 2 * x + bitAt s (p + l) < ew ns (l + 1) then (symW ns (l + 1) (2 * x + bitAt s (p + l)), p + (l + 1), 0)
      else if ew ns 15 ≤ (2 * x + bitAt s (p + l)) * 2 ^ (15 - (l + 1)) then (0, 0, 30)
      else rsS ns s p k (l + 1) (2 * x + bitAt s (p + l))
def asRef (p : Nat) (r : Nat × Nat × Nat) : Nat × Nat × Nat := if r.2.2 = 0 then (r.1, p + r.2.1, 0) else (0, 0, r.2.2)
theorem rsS_rd (ns : List Nat) (s : ByteArray) (p : Nat) : ∀ (k l x : Nat), ew ns l ≤ x → x * 2 ^ (15 - l) < ew ns 15 → l + k = 15 → rsS ns s p k l x = asRef p (rdS ns s p (k + 1) l x)
  | 0, l, x, h1, h2, h3 => by
    have : l = 15 := by omega
    subst this
    simp at h2
    omega
  | k + 1, l, x, h1, h2, h3 => by
    simp only [rsS]
    rw [show rdS ns s p (k + 1 + 1) l x = if x < ew ns l then (symW ns l x, l, 0) else if ew ns 15 ≤ x * 2 ^ (15 - l) then (0, l, 30) else if 8 * s.size ≤ p + l then (0, l, 5) else rdS ns s p (k + 1) (l + 1) (2 * x + bitAt s (p + l)) from rfl]
    rw [if_neg (show ¬ x < ew ns l by omega), if_neg (show ¬ ew ns 15 ≤ x * 2 ^ (15 - l) by omega)]
    by_cases a1 : 8 * s.size ≤ p + l
    · rw [if_pos a1, if_pos a1]; rfl
    · rw [if_neg a1, if_neg a1]
      obtain ⟨y, hy⟩ : ∃ y, 2 * x + bitAt s (p + l) = y := ⟨_, rfl⟩
      rw [hy]
      rw [show rdS ns s p (k + 1) (l + 1) y = if y < ew ns (l + 1) then (symW ns (l + 1) y, l + 1, 0) else if ew ns 15 ≤ y * 2 ^ (15 - (l + 1)) then (0, l + 1, 30) else if 8 * s.size ≤ p + (l + 1) then (0, l + 1, 5) else rdS ns s p k (l + 1 + 1) (2 * y + bitAt s (p + (l + 1))) from rfl]
      by_cases a2 : y < ew ns (l + 1)
      · rw [if_pos a2, if_pos a2]; rfl
      · rw [if_neg a2, if_neg a2]
        by_cases a3 : ew ns 15 ≤ y * 2 ^ (15 - (l + 1))
        · rw [if_pos a3, if_pos a3]; rfl
        · rw [if_neg a3, if_neg a3]
          have ih := rsS_rd ns s p k (l + 1) y (by omega) (by omega) (by omega)
          rw [ih]
          rw [show rdS ns s p (k + 1) (l + 1) y = if y < ew ns (l + 1) then (symW ns (l + 1) y, l + 1, 0) else if ew ns 15 ≤ y * 2 ^ (15 - (l + 1)) then (0, l + 1, 30) else if 8 * s.size ≤ p + (l + 1) then (0, l + 1, 5) else rdS ns s p k (l + 1 + 1) (2 * y + bitAt s (p + (l + 1))) from rfl]
          rw [if_neg a2, if_neg a3]
theorem rs_rd (ns : List Nat) (s : ByteArray) (p : Nat) (h : 0 < ew ns 15) : rsS ns s p 15 0 0 = asRef p (rd ns s p) := by
  unfold rd
  exact rsS_rd ns s p 15 0 0 (Nat.le_refl _) (by simp; exact h) rfl
end Go.Proofs.YtlbadjfcffoakaaDoor
