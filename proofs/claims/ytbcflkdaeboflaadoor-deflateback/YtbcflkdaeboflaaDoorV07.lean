/- A table is made. -/
/- The library's contract of internal/stringslite.Clone, laid at this dump's own numbers. -/
/- Contracts of the small functions of package bits at this dump: given, NewWriter, NewReader, Place, byteEnd, Align. -/
/- Frames: a call that turned one block alone, and what a reader's block holds. -/
/- Plain mathematics of bits: a text's bits, the number of some of them, and how machine arithmetic comes to it. -/
/- Reader.Bits: the number of the next bits, and the place behind them. -/
/- Reader.Bytes: the next bytes, from a byte's first bit on. -/
import Derived.Test.YtbcflkdaeboflaaDoorV06
import Derived.Deep.RegionLaw
import Derived.Shelf.LaysM
import Derived.Shelf.Strconv.Clone
import Derived.Test.YtbcflkdaeboflaaDoorProg
import Derived.WalkKit
import Derived.WalkLawsBesides
import Derived.WalkSpells
import Derived.Outline
import Derived.LaidEqlPtr
import Derived.BigQuiet
import Derived.Deep.QuietTactic
import Derived.Laws.BitsAllLaws
import Derived.IntWalk
namespace Go.Proofs.YtbcflkdaeboflaaDoor
open Go.RowKit
set_option linter.unusedVariables false
set_option maxRecDepth 20000

theorem cw_fits {xs : List Int} (h : may xs = true) (hf : ew (nsOf xs) 15 ≤ 32768) (i : Nat) (hi : i < xs.length) : cw (nsOf xs) i < 2 ^ (nsOf xs).getD i 0 := by
  unfold cw
  split
  · exact Nat.pos_of_ne_zero (by simp)
  · have h15 : (nsOf xs).getD i 0 ≤ 15 := by rw [nsOf_get]; have := may_get h i; omega
    refine codeW_fits (nsOf xs) i (by rw [nsOf_length]; exact hi) (by omega) h15 ?_
    have e := endW_share (nsOf xs) 14 (by omega)
    have : ew (nsOf xs) 15 = endW (nsOf xs) 15 := rfl
    simp at e
    omega
theorem tX_zero (ns : List Nat) (k : Nat) : tX ns 0 k = [] := by unfold tX symsOf; simp
theorem TabSt.start {w w3 : World} {L N sh : Nat} {ns : List Nat} (hb : Below w.heap.size w w3) (hl : LB w3 L N (cw ns)) : TabSt w (w3.alloc (.cells (tcs w3.heap.size sh (fun _ => .slice none 0 0)) 141)) w.heap.size w3.heap.size L N sh (cw ns) (fun _ => .slice none 0 0) (tX ns 0) := by
  refine ⟨heap_alloc_last _ _, fun k _ => ?_, fun j k _ _ _ g hg => by simp [Value.ownBlock] at hg, fun k _ => by simp [Value.ownBlock], ?_, hb.alloc hb.size _, hb.size, by have := hb.size; simp; omega⟩
  · rw [tX_zero]; exact World.ownsRow_nil _ _ _ _
  · unfold LB; rw [heap_alloc_old _ _ (lt_heap hl)]; exact hl
/-- What is in sight behind an append to one of the rows. -/
theorem TabSt.seen {w wr w1 : World} {B t L N share : Nat} {cws : Nat → Nat} {R : Nat → Value} {X : Nat → List Nat} (h : TabSt w wr B t L N share cws R X) {k : Nat} (hk : k < 18) {o : Obj} {d : Nat} (hg : ((wr.drewN d).alloc o).grownBy w1 (R k).ownBlock) :
    (∀ j, j < 18 → w1.cell? ⟨t, j + 1, none⟩ = some (R j) ∧ w1.frozen? ⟨t, j + 1, none⟩ = false) ∧ LB w1 L N cws := by
  have hsz : ((wr.drewN d).alloc o).heap.size = wr.heap.size + 1 := by simp
  have hold : ∀ i, i < wr.heap.size → (R k).ownBlock ≠ some i → w1.heap[i]? = wr.heap[i]? := fun i hi hne => by
    rw [hg.block i (by omega) (fun e => hne e.symm)]
    exact heap_alloc_old (wr.drewN d) o hi
  have hblk1 := hold t (lt_heap h.blk) (h.notT hk)
  refine ⟨fun j hj => ?_, ?_⟩
  · have := h.cell hj
    exact ⟨by rw [World.cell?_of_block (w := wr) (w' := w1) hblk1]; exact this.1, by rw [World.frozen?_of_block (w := wr) (w' := w1) hblk1]; exact this.2⟩
  · unfold LB
    rw [hold L (lt_heap h.words) (h.notL k hk)]
    exact h.words
theorem TabSt.neL {w wr : World} {B t L N share : Nat} {cws : Nat → Nat} {R : Nat → Value} {X : Nat → List Nat} (h : TabSt w wr B t L N share cws R X) : L ≠ t := by
  intro e
  have h1 := h.words
  unfold LB at h1
  rw [e, h.blk] at h1
  simp at h1
theorem TabSt.frozen_alloc {w wr : World} {B t L N share : Nat} {cws : Nat → Nat} {R : Nat → Value} {X : Nat → List Nat} (h : TabSt w wr B t L N share cws R X) (o : Obj) {i : Nat} : (wr.alloc o).frozen? ⟨t, i, none⟩ = false := by
  have h1 : (wr.alloc o).heap[t]? = some (.cells (tcs t share R) 141 (0, 0)) := by rw [heap_alloc_old _ _ (lt_heap h.blk)]; exact h.blk
  simp [World.frozen?, h1]
theorem news1 (W : World) (p : Value) (t : TypeId) : ∀ j u, [p][j]? = some u → (W.alloc (.cells #[p] t)).cell? ((⟨W.heap.size, 0, none⟩ : Addr).add j) = some u := by
  intro j u hj
  match j, hj with
  | 0, hj => simp at hj; subst hj; simp [Addr.add]
theorem one1 (x : Int) : ∀ u ∈ [Value.int .i64 x], u.oneCell' = true := by
  intro u hu; simp at hu; subst hu; rfl
theorem cell_set_far {w : World} {L t i j : Nat} {v : Value} (h : L ≠ t) : (w.setCell ⟨t, j, none⟩ v).cell? ⟨L, i, none⟩ = w.cell? ⟨L, i, none⟩ := World.cell?_of_block (w := w) (Below.heap_setCell _ _ _ _ h)
theorem symsOf_succ (ns : List Nat) (l i : Nat) : symsOf ns l (i + 1) = if ns.getD i 0 = l ∧ 0 < l then symsOf ns l i ++ [i] else symsOf ns l i := by
  unfold symsOf
  rw [List.range_succ, List.filter_append]
  by_cases h : ns.getD i 0 = l ∧ 0 < l
  · rw [if_pos h, List.filter_cons_of_pos (by simpa using h)]; rfl
  · rw [if_neg h, List.filter_cons_of_neg (by simpa using h)]; simp
theorem tX_take (ns : List Nat) (i f y : Nat) (hp : 0 < f) (hf : ns.getD i 0 = f) (hy : rv (cw ns i) (ns.getD i 0) = y) : upd (upd (upd (tX ns i) 0 (tX ns i 0 ++ [f])) 1 (upd (tX ns i) 0 (tX ns i 0 ++ [f]) 1 ++ [y])) (f + 2) (upd (upd (tX ns i) 0 (tX ns i 0 ++ [f])) 1 (upd (tX ns i) 0 (tX ns i 0 ++ [f]) 1 ++ [y]) (f + 2) ++ [i]) = tX ns (i + 1) := by
  funext k
  rw [upd_ne (tX ns i) 0 _ (show 1 ≠ 0 by omega), upd_ne _ 1 _ (show f + 2 ≠ 1 by omega), upd_ne _ 0 _ (show f + 2 ≠ 0 by omega)]
  by_cases e : k = f + 2
  · subst e
    rw [upd_at]
    unfold tX
    rw [if_neg (by omega), if_neg (by omega), if_neg (by omega), if_neg (by omega), Nat.add_sub_cancel, symsOf_succ, if_pos ⟨hf, hp⟩]
  · rw [upd_ne _ _ _ e]
    by_cases e1 : k = 1
    · subst e1
      rw [upd_at]
      simp only [tX, List.range_succ, List.map_append, List.map_cons, List.map_nil, hy]
      rfl
    · rw [upd_ne _ _ _ e1]
      by_cases e0 : k = 0
      · subst e0
        rw [upd_at]
        simp only [tX, List.range_succ, List.map_append, List.map_cons, List.map_nil, hf]
        rfl
      · rw [upd_ne _ _ _ e0]
        unfold tX
        rw [if_neg e0, if_neg e1, if_neg e0, if_neg e1, symsOf_succ, if_neg (by omega)]
theorem tX_skip (ns : List Nat) (i f y : Nat) (hp : f = 0) (hf : ns.getD i 0 = f) (hy : rv (cw ns i) (ns.getD i 0) = y) : upd (upd (tX ns i) 0 (tX ns i 0 ++ [f])) 1 (upd (tX ns i) 0 (tX ns i 0 ++ [f]) 1 ++ [y]) = tX ns (i + 1) := by
  funext k
  rw [upd_ne (tX ns i) 0 _ (show 1 ≠ 0 by omega)]
  by_cases e1 : k = 1
  · subst e1
    rw [upd_at]
    simp only [tX, List.range_succ, List.map_append, List.map_cons, List.map_nil, hy]
    rfl
  · rw [upd_ne _ _ _ e1]
    by_cases e0 : k = 0
    · subst e0
      rw [upd_at]
      simp only [tX, List.range_succ, List.map_append, List.map_cons, List.map_nil, hf]
      rfl
    · rw [upd_ne _ _ _ e0]
      unfold tX
      rw [if_neg e0, if_neg e1, if_neg e0, if_neg e1, symsOf_succ, if_neg (by omega)]
/-- Numbers that a slice tells, in blocks from lo on and below hi. -/
def RowIn2 (w : World) (lo hi : Nat) (v : Value) (l : List Nat) : Prop := ∃ ao cap, v = .slice ao l.length cap ∧ (l.length = 0 ∨ ∃ g, ao = some ⟨g, 0, none⟩ ∧ lo ≤ g ∧ g < hi ∧ ∀ j, j < l.length → w.cell? ⟨g, j, none⟩ = some (.int .i64 ((l.getD j 0 : Nat) : Int)))
/-- A table that NewTable gave, of such lengths. -/
structure Tab (w : World) (lo hi t : Nat) (ns : List Nat) (R : Nat → Value) : Prop where
  blk : w.heap[t]? = some (.cells (tcs t (ew ns 15) R) 141 (0, 0))
  rows : ∀ k, k < 18 → RowIn2 w lo hi (R k) (tX ns ns.length k)
  lo : lo ≤ t
  hi : t < hi
theorem RowIn2.keep {w w' : World} {lo hi : Nat} {v : Value} {l : List Nat} (h : RowIn2 w lo hi v l) (hk : ∀ b, lo ≤ b → b < hi → w'.heap[b]? = w.heap[b]?) : RowIn2 w' lo hi v l := by
  obtain ⟨ao, cap, e, h⟩ := h
  refine ⟨ao, cap, e, ?_⟩
  rcases h with h | ⟨g, e1, e2, e3, e4⟩
  · exact .inl h
  · exact .inr ⟨g, e1, e2, e3, fun j hj => by rw [World.cell?_of_block (w := w) (w' := w') (hk g e2 e3)]; exact e4 j hj⟩
theorem Tab.keep {w w' : World} {lo hi t : Nat} {ns : List Nat} {R : Nat → Value} (h : Tab w lo hi t ns R) (hk : ∀ b, lo ≤ b → b < hi → w'.heap[b]? = w.heap[b]?) : Tab w' lo hi t ns R :=
  ⟨by rw [hk t h.lo h.hi]; exact h.blk, fun k hk2 => (h.rows k hk2).keep hk, h.lo, h.hi⟩
theorem TabSt.tab {w wr : World} {B t L N : Nat} {cws : Nat → Nat} {ns : List Nat} {R : Nat → Value} (h : TabSt w wr B t L N (ew ns 15) cws R (tX ns N)) (hN : ns.length = N) : Tab wr B wr.heap.size t ns R := by
  subst hN
  refine ⟨h.blk, fun k hk => ?_, h.tge, lt_heap h.blk⟩
  have ho := h.own k hk
  rcases ho.2 with ⟨e1, e2⟩ | ⟨g, cap, cur, e1, e2, e3, e4⟩
  · exact ⟨none, 0, by rw [e1, e2], .inl e2⟩
  · refine ⟨some ⟨g, 0, none⟩, cap, e1, .inr ⟨g, rfl, e2, lt_heap e3, fun j hj => ?_⟩⟩
    have := ho.cells (g := g) (by rw [e1]; rfl) j (.int .i64 (((tX ns ns.length k).getD j 0 : Nat) : Int)) (by
      unfold ics
      rw [List.getElem?_map, List.getElem?_eq_getElem hj, getD_in hj]; rfl)
    rw [add_zero_addr] at this
    exact this
/-- Lengths of a code. -/
def isCode0 (xs : List Int) : Prop := may xs = true ∧ ew (nsOf xs) 15 ≤ 32768
/-- What NewTable tells. -/
def TabEnd (w : World) (xs : List Int) (e : Ending) (w' : World) : Prop :=
  ((isCode0 xs ∧ ∃ t R, e = .returned (.tuple #[.pointer (some ⟨t, 0, none⟩), .int .i64 0]) ∧ Tab w' w.heap.size w'.heap.size t (nsOf xs) R) ∨ (¬ isCode0 xs ∧ e = .returned (.tuple #[.pointer none, .int .i64 30]))) ∧ Below w.heap.size w w'
theorem tblZero : (Tryd.prog.info? 141).map (·.size) = some 20 := by kernel_rfl
set_option maxRecDepth 20000 in
set_option maxHeartbeats 4000000 in
theorem newTable_ok (xs : List Int) (a : Option Addr) (c N : Nat) (w : World) (hN : xs.length = N) (hrow : IRow w a xs) (hlen : N ≤ 9223372036854775807) :
    Calls Tryd.prog 69 #[.slice a N c] w fun e w' => TabEnd w xs e w' := by
  have HE : Hid (Calls Tryd.prog 79 #[.slice a N c] w fun e w' => EndsEnd w xs e w') := wordEnds_ok xs a c N w hN hrow hlen
  have HC : Hid (∀ W, Below w.heap.size w W → Calls Tryd.prog 80 #[.slice a N c] W fun e w' => CodesEnd W xs e w') := fun W hW => codes_ok xs a c N W hN (hrow.below hW) hlen
  have HR : Hid (IRow w a xs) := hrow
  have HN : Hid (xs.length = N) := hN
  clear hN hrow
  go_enter Tryd.func69, Tryd.ntmps69
  go_wp2_with fail
  refine Calls.mono HE.out ?_
  rintro e w1 ⟨hcase, hb1⟩
  have HB : Hid (Below w.heap.size w w1) := hb1
  have hgen : ∃ (g : Nat → Nat) (q : Int), e = .returned (.tuple #[.agg (lcells 16 g), .int .i64 q]) ∧ Hid ((may xs = true ∧ ew (nsOf xs) 15 ≤ 32768 ∧ g = ew (nsOf xs) ∧ q = 0) ∨ (¬ (may xs = true ∧ ew (nsOf xs) 15 ≤ 32768) ∧ q = 30)) := by
    rcases hcase with ⟨h1, h2, rfl⟩ | ⟨h1, rfl⟩
    · exact ⟨_, _, rfl, .inl ⟨h1, h2, rfl, rfl⟩⟩
    · exact ⟨_, _, rfl, .inr ⟨h1, rfl⟩⟩
  obtain ⟨g, q, rfl, HG⟩ := hgen
  have hAg : (lcells 16 g)[15]? = some (.int .i64 (g 15 : Nat)) := lcells_get 16 g 15 (by omega)
  have hsv := run_storeCells_blk (P := Tryd.prog) (w1.alloc (.cells #[.int .i64 0, .int .i64 0, .int .i64 0, .int .i64 0, .int .i64 0, .int .i64 0, .int .i64 0, .int .i64 0, .int .i64 0, .int .i64 0, .int .i64 0, .int .i64 0, .int .i64 0, .int .i64 0, .int .i64 0, .int .i64 0] 136)) w1.heap.size 136 136 _ (lcells 16 g) (heap_alloc_last _ _) (by rw [lcells_size]; exact perSize) (by rw [lcells_size]; rfl) (lcells_one _ _)
  rw [setRow_last] at hsv
  have hAs := lcells_size 16 g
  obtain ⟨A, hA⟩ : ∃ A, lcells 16 g = A := ⟨_, rfl⟩
  rw [hA] at hAg hsv hAs
  rw [hA]
  have HSV : Hid _ := hsv
  clear hcase hb1 hsv hA
  go_wp2
  simp only [HSV.out, Result.andThen]
  rw [Oper.upon_skip]
  clear hAs HSV
  rcases HG.out with ⟨hmay, hfit, hge, rfl⟩ | ⟨hno, rfl⟩
  · have HM : Hid (may xs = true ∧ ew (nsOf xs) 15 ≤ 32768) := ⟨hmay, hfit⟩
    have hN288 : N ≤ 288 := by rw [← HN.out]; exact may_len hmay
    obtain ⟨sh, hsh⟩ : ∃ sh, g 15 = sh := ⟨_, rfl⟩
    rw [hsh] at hAg
    have HSH : Hid (ew (nsOf xs) 15 = sh) := by show _ = _; rw [← hsh, hge]
    have hw2 : Below w.heap.size w (w1.alloc (.cells A 136)) := HB.out.alloc HB.out.size _
    have hAl : (w1.alloc (.cells A 136)).heap[w1.heap.size]? = some (.cells A 136 (0, 0)) := heap_alloc_last _ _
    have hc15 : (w1.alloc (.cells A 136)).cell? ⟨w1.heap.size, 15, none⟩ = some (.int .i64 (sh : Nat)) := by unfold World.cell?; rw [hAl]; exact hAg
    have hpl : w1.heap.size < (w1.alloc (.cells A 136)).heap.size := by simp
    obtain ⟨W, hW⟩ : ∃ W, w1.alloc (.cells A 136) = W := ⟨_, rfl⟩
    obtain ⟨p, hp⟩ : ∃ p, w1.heap.size = p := ⟨_, rfl⟩
    rw [hW] at hw2 hc15 hpl ⊢
    rw [hp] at hc15 hpl ⊢
    have HBW : Hid (Below w.heap.size w W) := hw2
    clear hw2 hge hsh hW hp hAl hAg hmay hfit HG HE HB
    go_wp2_with fail
    refine (HC.out W HBW.out).mono ?_
    rintro e w3 ⟨hcase, hb3⟩
    rcases hcase with ⟨_, _, L, rfl, hlb, hnew⟩ | ⟨hno, rfl⟩
    · rw [HN.out] at hlb ⊢
      have hc16 : w3.cell? ⟨p, 15, none⟩ = some (.int .i64 (sh : Nat)) := by rw [hb3.cell hpl]; exact hc15
      have HB3 : Hid (Below w.heap.size w w3) := HBW.out.trans (hb3.mono HBW.out.size)
      have HLB : Hid (LB w3 L N (cw (nsOf xs))) := hlb
      clear hb3 hlb hnew hc15 hpl
      go_wp2
      obtain ⟨i0, hi, hz0, hz1, hz2⟩ := info_split intInfo
      have HI : Hid (Tryd.prog.info? 3 = some i0 ∧ i0.zero = some (.int .i64 0) ∧ i0.size = 1 ∧ i0.bytes = 8) := ⟨hi, hz0, hz1, hz2⟩
      clear hi hz0 hz1 hz2
      go_loopw [9, 10, 34] (fun _ _ v34 wr => ∃ (i : Nat) (R : Nat → Value), v34 = .int .i64 i ∧ i ≤ N ∧ Hid (TabSt w wr w.heap.size w3.heap.size L N sh (cw (nsOf xs)) R (tX (nsOf xs) i))) (fun _ _ v34 _ => N - (intOf v34).toNat)
      case atStart =>
        refine ⟨0, fun _ => .slice none 0 0, rfl, by omega, ?_⟩
        rw [tcs_zero]
        exact TabSt.start HB3.out HLB.out
      case round =>
        obtain ⟨i, R, rfl, hi, HS⟩ := hrel
        by_cases hlt : i < N
        · have hlti : (i : Int) < (N : Int) := by omega
          obtain ⟨b, off, rfl, hcell, hb⟩ := (HR.out.below HS.out.bel).at (show i < xs.length by rw [HN.out]; exact hlt)
          obtain ⟨f, hf⟩ : ∃ f : Nat, xs.getD i 0 = (f : Int) := ⟨(xs.getD i 0).toNat, by have := (may_get HM.out.1 i).1; omega⟩
          have hf15 : f ≤ 15 := by have := (may_get HM.out.1 i).2; omega
          have hfn : (nsOf xs).getD i 0 = f := by rw [nsOf_get, hf]; simp
          rw [hf] at hcell
          have HFN : Hid ((nsOf xs).getD i 0 = f) := hfn
          clear hf hfn hb
          obtain ⟨t, ht⟩ : ∃ t, w3.heap.size = t := ⟨_, rfl⟩
          rw [ht] at HS ⊢
          obtain ⟨V0, hV0⟩ : ∃ V, R 0 = V := ⟨_, rfl⟩
          have c0 := (HS.out.cell (k := 0) (by omega)).1
          rw [hV0] at c0
          have o0 := HS.out.own 0 (by omega)
          have hl0 : (tX (nsOf xs) i 0).length = i := by simp [tX]
          rw [hV0, hl0] at o0
          have HO : Hid (∀ o, (wr.alloc o).ownsRow w.heap.size 3 1 V0 i (ics (tX (nsOf xs) i 0)) ∧ w.heap.size ≤ (wr.alloc o).heap.size) := fun o => ⟨o0.alloc o, by have := HS.out.bsz; simp; omega⟩
          have HV0 : Hid (R 0 = V0 ∧ (tX (nsOf xs) i 0).length = i) := ⟨hV0, hl0⟩
          clear hV0 o0 hl0
          go_wp2_with (at_builtin; refine wpList_append_lies _ rfl _ _ 44 rfl w.heap.size 3 i0 (.int .i64 0) 1 8 Tryd.underlying44 HI.out.1 HI.out.2.1 HI.out.2.2.1 HI.out.2.2.2 rfl (by decide) V0 i (ics (tX (nsOf xs) i 0)) rfl (HO.out _).1 ⟨wr.heap.size, 0, none⟩ 1 1 [.int .i64 (f : Int)] rfl rfl ?c1 ?c2 (by decide) ?c3 ?c4 (HO.out _).2 _ rfl ?_)
          case c1 =>
            intro j u hj
            match j, hj with
            | 0, hj => simp at hj; subst hj; simp [Addr.add]
          case c2 => intro u hu; simp at hu; subst hu; rfl
          case c3 => unfold maxLen; omega
          case c4 => omega
          intro g1 cap1 wa hown hgrow hat hgl
          have hgrow' : ((wr.drewN 0).alloc (.cells #[.int .i64 (f : Int)] 3)).grownBy wa (R 0).ownBlock := by rw [HV0.out.1]; exact hgrow
          obtain ⟨s1, s2⟩ := HS.out.seen (k := 0) (by omega) hgrow'
          have H1 := HS.out.put (k := 0) (by omega) (x := f) HV0.out.2.symm hown hgrow' (by rw [HV0.out.1]; simpa using hat)
          obtain ⟨R1, hR1⟩ : ∃ R1, upd R 0 (.slice (some ⟨g1, 0, none⟩) (i + 1) cap1) = R1 := ⟨_, rfl⟩
          obtain ⟨X1, hX1⟩ : ∃ X1, upd (tX (nsOf xs) i) 0 (tX (nsOf xs) i 0 ++ [f]) = X1 := ⟨_, rfl⟩
          have HX1 : Hid (upd (tX (nsOf xs) i) 0 (tX (nsOf xs) i 0 ++ [f]) = X1) := hX1
          have e1 : R1 1 = R 1 := by rw [← hR1]; exact upd_ne _ _ _ (by omega)
          have e2 : X1 1 = tX (nsOf xs) i 1 := by rw [← hX1]; exact upd_ne _ _ _ (by omega)
          rw [hR1, hX1] at H1
          have H1 : Hid (TabSt w (wa.setCell ⟨t, 1, none⟩ (.slice (some ⟨g1, 0, none⟩) (i + 1) cap1)) w.heap.size t L N sh (cw (nsOf xs)) R1 X1) := H1
          obtain ⟨V1, hV1⟩ : ∃ V, R 1 = V := ⟨_, rfl⟩
          obtain ⟨k1, k2⟩ := s1 0 (by omega)
          have k1 : wa.cell? ⟨t, 1, none⟩ = some V0 := by rw [← HV0.out.1]; exact k1
          have k2 : wa.frozen? ⟨t, 1, none⟩ = false := k2
          obtain ⟨k3, k4⟩ := s1 1 (by omega)
          rw [hV1] at k3
          have k3 : wa.cell? ⟨t, 2, none⟩ = some V1 := k3
          have k4 : wa.frozen? ⟨t, 2, none⟩ = false := k4
          have k5 := (s2.cell hlt).1
          obtain ⟨cwi, hcwi⟩ : ∃ v, cw (nsOf xs) i = v := ⟨_, rfl⟩
          rw [hcwi] at k5
          have hLt := HS.out.neL
          have HTU : Hid (∀ W, Calls Tryd.prog 81 #[.int .i64 cwi, .int .i64 f] W fun e w' => e = .returned (.int .i64 (rv cwi f : Nat)) ∧ ∃ k, w' = W.drewN k) := fun W => by
            refine turn_ok cwi f hf15 ?_ W
            have := cw_fits HM.out.1 HM.out.2 i (by rw [HN.out]; exact hlt)
            rw [HFN.out, hcwi] at this
            exact this
          have HCW : Hid (cw (nsOf xs) i = cwi) := hcwi
          obtain ⟨y, hy⟩ : ∃ y, rv cwi f = y := ⟨_, rfl⟩
          rw [hy] at HTU
          have HY : Hid (rv (cw (nsOf xs) i) ((nsOf xs).getD i 0) = y ∧ R1 1 = V1 ∧ (X1 1).length = i) := ⟨by rw [HFN.out, hcwi]; exact hy, by rw [e1]; exact hV1, by rw [e2]; simp [tX]⟩
          clear hown hgrow hgrow' hat hgl s1 s2 hy hcwi e1 e2 hR1 hX1 hV1 HO c0
          go_wp2
          have q1 := H1.out.cell (k := 1) (by omega)
          rw [HY.out.2.1] at q1
          obtain ⟨q1, q2⟩ := q1
          have q1 : (wa.setCell ⟨t, 1, none⟩ (.slice (some ⟨g1, 0, none⟩) (i + 1) cap1)).cell? ⟨t, 2, none⟩ = some V1 := q1
          have q2 : (wa.setCell ⟨t, 1, none⟩ (.slice (some ⟨g1, 0, none⟩) (i + 1) cap1)).frozen? ⟨t, 2, none⟩ = false := q2
          have q3 := (H1.out.words.cell hlt).1
          rw [HCW.out] at q3
          obtain ⟨W1, hW1⟩ : ∃ W, wa.setCell ⟨t, 1, none⟩ (.slice (some ⟨g1, 0, none⟩) (i + 1) cap1) = W := ⟨_, rfl⟩
          rw [hW1] at H1 q1 q2 q3 ⊢
          clear hW1 k1 k2 k3 k4 k5
          go_region_law
            (first
              | (refine step_append_lies _ rfl _ _ 44 rfl w.heap.size 3 i0 (.int .i64 0) 1 8 Tryd.underlying44 HI.out.1 HI.out.2.1 HI.out.2.2.1 HI.out.2.2.2 rfl (by decide) V1 i (ics (X1 1)) rfl (HO2.out _).1 ⟨_, 0, none⟩ 1 1 [.int .i64 (y : Nat)] rfl rfl (news1 _ _ _) (one1 _) (by decide) (by unfold maxLen; omega) (by omega) (HO2.out _).2 _ rfl ?_; intro g2 cap2 wb hown hgrow hat hgl; have hgrow' : ((V2.drewN 0).alloc (.cells #[.int .i64 (y : Nat)] 3)).grownBy wb (R1 1).ownBlock := (by rw [HY.out.2.1]; exact hgrow); have hseen := HT2.out.seen (k := 1) (by omega) hgrow'; have KS1 := (⟨by rw [← HY.out.2.1]; exact (hseen.1 1 (by omega)).1, (hseen.1 1 (by omega)).2, by rw [← HCW.out]; exact (hseen.2.cell hlt).1⟩ : wb.cell? ⟨t, 2, none⟩ = some V1 ∧ wb.frozen? ⟨t, 2, none⟩ = false ∧ wb.cell? ⟨L, i, none⟩ = some (.int .i64 (cwi : Nat))); obtain ⟨KS1, KS1f, KS1c⟩ := KS1)
              | (go_simp; go_at_call 81; refine (HTU.out _).mono ?_; rintro e V2 ⟨rfl, qd, hV2⟩; have KS := (by rw [hV2]; exact ⟨q1, q2, q3⟩ : V2.cell? ⟨t, 2, none⟩ = some V1 ∧ V2.frozen? ⟨t, 2, none⟩ = false ∧ V2.cell? ⟨L, i, none⟩ = some (.int .i64 (cwi : Nat))); have HT2 : Hid (TabSt w V2 w.heap.size t L N sh (cw (nsOf xs)) R1 X1) := (by show TabSt _ _ _ _ _ _ _ _ _ _; rw [hV2]; exact ⟨H1.out.blk, H1.out.own, H1.out.apart, H1.out.notL, H1.out.words, ⟨H1.out.bel.os, H1.out.bel.tape, H1.out.bel.output, H1.out.bel.size, H1.out.bel.block⟩, H1.out.tge, H1.out.bsz⟩); have HO2 : Hid (∀ o, (V2.alloc o).ownsRow w.heap.size 3 1 V1 i (ics (X1 1)) ∧ w.heap.size ≤ (V2.alloc o).heap.size) := (fun o => ⟨by have h := HT2.out.own 1 (by omega); rw [HY.out.2.1, HY.out.2.2] at h; exact h.alloc o, by have := HT2.out.bsz; simp; omega⟩); have KS0 := (⟨by rw [World.cell?_alloc_past _ _ _ (lt_cell KS.1)]; exact KS.1, HT2.out.frozen_alloc _, by rw [World.cell?_alloc_past _ _ _ (lt_cell KS.2.2)]; exact KS.2.2⟩ : (V2.alloc (.cells #[.int .i64 (y : Nat)] 3)).cell? ⟨t, 2, none⟩ = some V1 ∧ (V2.alloc (.cells #[.int .i64 (y : Nat)] 3)).frozen? ⟨t, 2, none⟩ = false ∧ (V2.alloc (.cells #[.int .i64 (y : Nat)] 3)).cell? ⟨L, i, none⟩ = some (.int .i64 (cwi : Nat))); obtain ⟨KS, KSf, KSc⟩ := KS; obtain ⟨KS0, KS0f, KS0c⟩ := KS0; clear hV2))
          all_goals
            have H2 := HT2.out.put (k := 1) (by omega) (x := y) HY.out.2.2.symm hown hgrow' (by rw [HY.out.2.1]; simpa using hat)
            obtain ⟨R2, hR2⟩ : ∃ R2, upd R1 1 (.slice (some ⟨g2, 0, none⟩) (i + 1) cap2) = R2 := ⟨_, rfl⟩
            obtain ⟨X2, hX2⟩ : ∃ X2, upd X1 1 (X1 1 ++ [y]) = X2 := ⟨_, rfl⟩
            have HX2 : Hid (upd X1 1 (X1 1 ++ [y]) = X2) := hX2
            rw [hR2, hX2] at H2
            have H2 : Hid (TabSt w (wb.setCell ⟨t, 2, none⟩ (.slice (some ⟨g2, 0, none⟩) (i + 1) cap2)) w.heap.size t L N sh (cw (nsOf xs)) R2 X2) := H2
            obtain ⟨W2, hW2⟩ : ∃ W, wb.setCell ⟨t, 2, none⟩ (.slice (some ⟨g2, 0, none⟩) (i + 1) cap2) = W := ⟨_, rfl⟩
            rw [hW2] at H2 ⊢
            clear hown hgrow hgrow' hat hgl hseen KS KSf KSc KS0 KS0f KS0c KS1 KS1f KS1c HO2 HT2 hX2 hR2 hW2 q1 q2 q3
            by_cases hp : 0 < f
            · have hpi : (0 : Int) < (f : Int) := by omega
              obtain ⟨V2', hV2'⟩ : ∃ V, R2 (f + 2) = V := ⟨_, rfl⟩
              have r := H2.out.cell (k := f + 2) (by omega)
              rw [hV2'] at r
              obtain ⟨r1, r2⟩ := r
              obtain ⟨n2, hn2⟩ : ∃ n, (X2 (f + 2)).length = n := ⟨_, rfl⟩
              have o2 := H2.out.own (f + 2) (by omega)
              rw [hV2', hn2] at o2
              have HO3 : Hid (∀ o, (W2.drew.alloc o).ownsRow w.heap.size 3 1 V2' n2 (ics (X2 (f + 2))) ∧ w.heap.size ≤ (W2.drew.alloc o).heap.size) := fun o => ⟨World.ownsRow.alloc (w := W2.drew) o2 o, by have := H2.out.bsz; simp; omega⟩
              have HV2 : Hid (R2 (f + 2) = V2' ∧ (X2 (f + 2)).length = n2) := ⟨hV2', hn2⟩
              have hn288 : n2 ≤ 288 := by
                rw [← hn2, ← HX2.out, upd_ne _ _ _ (by omega), ← HX1.out, upd_ne _ _ _ (by omega)]
                unfold tX
                rw [if_neg (by omega), if_neg (by omega)]
                exact Nat.le_trans (Nat.le_trans (List.length_filter_le _ _) (by simp)) (show i ≤ 288 by omega)
              have f16 : (f : Int) < 16 := by omega
              rw [show f + 2 + 1 = 3 + f by omega] at r1 r2
              have r3 : (W2.alloc (.cells #[.int .i64 (i : Nat)] 3)).cell? ⟨t, 3 + f, none⟩ = some V2' := by rw [World.cell?_alloc_past _ _ _ (lt_cell r1)]; exact r1
              have HO4 : Hid (∀ o, (W2.alloc o).drew.ownsRow w.heap.size 3 1 V2' n2 (ics (X2 (f + 2))) ∧ w.heap.size ≤ (W2.alloc o).drew.heap.size) := fun o => ⟨World.ownsRow.alloc (w := W2) o2 o, by have := H2.out.bsz; simp; omega⟩
              clear o2 hV2' hn2
              go_wp2
              go_region_law
                (first
                  | (refine step_append_lies _ rfl _ _ 44 rfl w.heap.size 3 i0 (.int .i64 0) 1 8 Tryd.underlying44 HI.out.1 HI.out.2.1 HI.out.2.2.1 HI.out.2.2.2 rfl (by decide) V2' n2 (ics (X2 (f + 2))) rfl (by first | exact (HO3.out _).1 | exact (HO4.out _).1) ⟨W2.heap.size, 0, none⟩ 1 1 [.int .i64 (i : Nat)] rfl rfl (by first | exact news1 W2 _ _ | exact news1 W2.drew _ _) (one1 _) (by decide) (by unfold maxLen; omega) (by omega) (by first | exact (HO3.out _).2 | exact (HO4.out _).2) _ rfl ?_; intro g3 cap3 wc hown hgrow hat hgl; have hgrow' : ((W2.drewN 1).alloc (.cells #[.int .i64 (i : Nat)] 3)).grownBy wc (R2 (f + 2)).ownBlock := (by rw [HV2.out.1]; exact hgrow); have hseen := H2.out.seen (k := f + 2) (by omega) hgrow'; have KS1 := (⟨by rw [← HV2.out.1, show 3 + f = f + 2 + 1 by omega]; exact (hseen.1 (f + 2) (by omega)).1, by rw [show 3 + f = f + 2 + 1 by omega]; exact (hseen.1 (f + 2) (by omega)).2⟩ : wc.cell? ⟨t, 3 + f, none⟩ = some V2' ∧ wc.frozen? ⟨t, 3 + f, none⟩ = false); obtain ⟨KS1, KS1f⟩ := KS1))
              all_goals
                have H3 := H2.out.put (k := f + 2) (by omega) (x := i) HV2.out.2.symm hown hgrow' (by rw [HV2.out.1]; simpa using hat)
                rw [← HX2.out, ← HX1.out, tX_take (nsOf xs) i f y hp HFN.out HY.out.1, show f + 2 + 1 = 3 + f by omega] at H3
                have H3 : Hid _ := H3
                clear hown hgrow hgrow' hat hgl hseen KS1 KS1f r1 r2 r3
                go_wp2
                exact ⟨⟨i + 1, _, by go_num, by omega, H3⟩, by simp [intOf]; omega⟩
            · have hpi : ¬ (0 : Int) < (f : Int) := by omega
              have H3 := H2.out
              rw [← HX2.out, ← HX1.out, tX_skip (nsOf xs) i f y (by omega) HFN.out HY.out.1] at H3
              have H3 : Hid _ := H3
              go_wp2
              exact ⟨⟨i + 1, R2, by go_num, by omega, H3⟩, by simp [intOf]; omega⟩
        · have hlti : ¬ (i : Int) < (N : Int) := by omega
          obtain rfl : i = N := by omega
          have HT : Hid (Tab wr w.heap.size wr.heap.size w3.heap.size (nsOf xs) R ∧ Below w.heap.size w wr) := by
            have h := HS.out
            rw [← HSH.out] at h
            exact ⟨h.tab (by rw [nsOf_length, HN.out]), h.bel⟩
          go_wp2
          go_ret2
          exact ⟨.inl ⟨HM.out, w3.heap.size, R, rfl, HT.out.1⟩, HT.out.2⟩
    · exact absurd HM.out hno
  · have HB2 : Hid (∀ o, Below w.heap.size w (w1.alloc o)) := fun o => HB.out.alloc HB.out.size _
    go_wp2
    go_ret2
    exact ⟨.inr ⟨hno, rfl⟩, HB2.out _⟩
end Go.Proofs.YtbcflkdaeboflaaDoor
namespace Go.Proofs
open Go.Shelf
end Go.Proofs
namespace Go.Proofs.YtbcflkdaeboflaaDoor
open Go.RowKit

theorem ret_int {k : IntKind} {a b : Int} (h : a = b) : Ending.returned (.int k a) = .returned (.int k b) := by rw [h]
section
variable {P : Program} (w : World)
theorem eql_nil_ptr {tp te : TypeId} (a : Addr) (hp : P.underlying tp = some (.pointer te)) :
    (binOp .eql tp (.pointer none) (.pointer (some a))).run P w = .ok (.bool false) w := by
  have h : ∀ d : Nat, (Op.equalIn (d + 1) tp (.pointer none) (.pointer (some a))).run P w = .ok false w := fun d => by
    simp [Op.equalIn, run_underlying hp]
  simp only [binOp]
  simp [Op.equal, Op.maxDepth, h 9999]
end
theorem eqSelfW (a : Addr) (w : World) : (binOp .eql 60 (.pointer (some a)) (.pointer (some a))).run Tryd.prog w = .ok (.bool true) w := by
  obtain ⟨j, hj⟩ : ∃ j, Tryd.prog.info? 84 = some j := Option.isSome_iff_exists.1 (by kernel_rfl)
  exact run_eql_ptr_same w a Tryd.underlying60 hj
theorem eqNilW (a : Addr) (w : World) : (binOp .eql 60 (.pointer none) (.pointer (some a))).run Tryd.prog w = .ok (.bool false) w :=
  eql_nil_ptr w a Tryd.underlying60
/-- A writer that NewWriter gave: it leads to itself. -/
theorem wgiven_yes (b : Nat) (w : World) (h0 : w.cell? ⟨b, 0, none⟩ = some (.pointer (some ⟨b, 0, none⟩))) :
    Calls Tryd.prog 50 #[.pointer (some ⟨b, 0, none⟩)] w fun e w' => e = .returned (.bool true) ∧ w' = w := by
  have e1 := eqSelfW ⟨b, 0, none⟩
  go_enter Tryd.func50, Tryd.ntmps50
  go_wp2
  go_ret
  exact ⟨rfl, rfl⟩
theorem wgiven_zero (b : Nat) (w : World) (h0 : w.cell? ⟨b, 0, none⟩ = some (.pointer none)) :
    Calls Tryd.prog 50 #[.pointer (some ⟨b, 0, none⟩)] w fun e w' => e = .returned (.bool false) ∧ w' = w := by
  have e1 := eqNilW ⟨b, 0, none⟩
  go_enter Tryd.func50, Tryd.ntmps50
  go_wp2
  go_ret
  exact ⟨rfl, rfl⟩
theorem wgiven_nil (w : World) :
    Calls Tryd.prog 50 #[.pointer none] w fun e w' => e = .returned (.bool false) ∧ w' = w := by
  go_enter Tryd.func50, Tryd.ntmps50
  go_wp2
  go_ret
  exact ⟨rfl, rfl⟩
theorem newWriter (w : World) :
    Calls Tryd.prog 28 #[] w fun e w' => e = .returned (.pointer (some ⟨w.heap.size, 0, none⟩)) ∧ w' = w.alloc (.cells #[.pointer (some ⟨w.heap.size, 0, none⟩), .slice none 0 0, .int .i64 0] 84) := by
  go_enter Tryd.func28, Tryd.ntmps28
  go_wp2
  go_ret
  exact ⟨rfl, rfl⟩
theorem wplace (b : Nat) (p : Int) (w : World) (h0 : w.cell? ⟨b, 0, none⟩ = some (.pointer (some ⟨b, 0, none⟩))) (h2 : w.cell? ⟨b, 2, none⟩ = some (.int .i64 p)) :
    Calls Tryd.prog 68 #[.pointer (some ⟨b, 0, none⟩)] w fun e w' => e = .returned (.int .i64 p) ∧ w' = w := by
  go_enter Tryd.func68, Tryd.ntmps68
  go_wp2_with (go_at_call 50; refine (wgiven_yes _ _ h0).mono ?_; rintro e w' ⟨rfl, rfl⟩)
  go_ret
  exact ⟨rfl, rfl⟩
theorem byteEnd (p : Int) (w : World) (h0 : 0 ≤ p) (h1 : p ≤ 1152921504606846976) :
    Calls Tryd.prog 72 #[.int .i64 p] w fun e w' => e = .returned (.int .i64 ((p + 7) / 8 * 8)) ∧ w' = w := by
  go_enter Tryd.func72, Tryd.ntmps72
  go_wp2
  go_ret
  exact ⟨ret_int (by omega), rfl⟩
end Go.Proofs.YtbcflkdaeboflaaDoor
namespace Go.Proofs.YtbcflkdaeboflaaDoor
open Go.RowKit

/-- w' is w but for block b, for draws and for new blocks. -/
structure Only (b : Nat) (w w' : World) : Prop where
  os : w'.os = w.os
  tape : w'.tape = w.tape
  output : w'.output = w.output
  size : w.heap.size ≤ w'.heap.size
  block : ∀ k, k < w.heap.size → k ≠ b → w'.heap[k]? = w.heap[k]?
theorem Only.refl (b : Nat) (w : World) : Only b w w := ⟨rfl, rfl, rfl, Nat.le_refl _, fun _ _ _ => rfl⟩
theorem Only.trans {b : Nat} {u v w : World} (h : Only b u v) (k : Only b v w) : Only b u w :=
  ⟨k.os.trans h.os, k.tape.trans h.tape, k.output.trans h.output, Nat.le_trans h.size k.size, fun i hl hi => (k.block i (Nat.lt_of_lt_of_le hl h.size) hi).trans (h.block i hl hi)⟩
theorem Only.drewN {b : Nat} {w w' : World} (h : Only b w w') (n : Nat) : Only b w (w'.drewN n) := ⟨h.os, h.tape, h.output, h.size, h.block⟩
theorem Only.undrew {b : Nat} {w w' : World} {n : Nat} (h : Only b (w.drewN n) w') : Only b w w' := ⟨h.os, h.tape, h.output, h.size, h.block⟩
theorem Only.setCell (b i : Nat) (w : World) (u : Value) : Only b w (w.setCell ⟨b, i, none⟩ u) :=
  ⟨rfl, rfl, rfl, by simp [World.setCell], fun k _ hk => Below.heap_setCell _ _ _ _ hk⟩
theorem Only.of_below {b : Nat} {w w' : World} (h : Below w.heap.size w w') : Only b w w' := ⟨h.os, h.tape, h.output, h.size, fun k hk _ => h.block k hk⟩
theorem Only.below {b B : Nat} {w w' : World} (h : Only b w w') (hb : B ≤ b) (hB : B ≤ w.heap.size) : Below B w w' :=
  ⟨h.os, h.tape, h.output, h.size, fun k hk => h.block k (by omega) (by omega)⟩

theorem block_setCell {w : World} {b i : Nat} {cs : Array Value} {t : TypeId} {u : Value} (h : w.heap[b]? = some (.cells cs t (0, 0))) : (w.setCell ⟨b, i, none⟩ u).heap[b]? = some (.cells (cs.setIfInBounds i u) t (0, 0)) := by
  have hlt := lt_of_block h
  have h' : w.heap[b] = .cells cs t (0, 0) := by simpa [Array.getElem?_eq_getElem hlt] using h
  show (w.heap.modify b _)[b]? = _
  rw [Array.getElem?_eq_getElem (by simpa using hlt), Array.getElem_modify_self, h']
  rfl

end Go.Proofs.YtbcflkdaeboflaaDoor
namespace Go.Proofs.YtbcflkdaeboflaaDoor
open Go.RowKit

/-- A bit of a text: the lowest one of a byte first. -/
def bitAt (s : ByteArray) (i : Nat) : Nat := (s.data.toList.getD (i / 8) 0).toNat / 2 ^ (i % 8) % 2
/-- The number of n bits from a place on. -/
def num (s : ByteArray) (p : Nat) : Nat → Nat
  | 0 => 0
  | n + 1 => num s p n + bitAt s (p + n) * 2 ^ n
theorem bitAt_lt (s : ByteArray) (i : Nat) : bitAt s i < 2 := Nat.mod_lt _ (by omega)
theorem bitAt_eq (s : ByteArray) (i : Nat) (h : i / 8 < s.size) : bitAt s i = s[i / 8].toNat / 2 ^ (i % 8) % 2 := by
  unfold bitAt
  have : s.data.toList.getD (i / 8) 0 = s[i / 8] := by
    have h' : i / 8 < s.data.size := h
    rw [List.getD_eq_getElem?_getD, Array.getElem?_toList, Array.getElem?_eq_getElem h']; rfl
  rw [this]
theorem num_lt (s : ByteArray) (p n : Nat) : num s p n < 2 ^ n := by
  induction n with
  | zero => simp [num]
  | succ n ih => 
    have h := bitAt_lt s (p + n)
    have : bitAt s (p + n) * 2 ^ n ≤ 1 * 2 ^ n := Nat.mul_le_mul_right _ (by omega)
    simp only [num, Nat.pow_succ]; omega
theorem pow_le (k m : Nat) (h : k ≤ m) : 2 ^ k ≤ 2 ^ m := Nat.pow_le_pow_right (by omega) h
theorem and1_u8 (y m : Nat) (hy : y < 256) : bits .and .u8 ((y : Int) / 2 ^ m) 1 = ((y / 2 ^ m % 2 : Nat) : Int) := by
  have e : (y : Int) / 2 ^ m = ((y / 2 ^ m : Nat) : Int) := by simp
  have hl : y / 2 ^ m ≤ y := Nat.div_le_self _ _
  have h := u8_and_nat (y / 2 ^ m) 1 (by omega) (by omega)
  rw [e, show (1 : Int) = ((1 : Nat) : Int) from rfl, h, nat_mask1]
theorem wrap_u64_nat (a : Nat) (h : a < 18446744073709551616) : IntKind.u64.wrap (a : Int) = (a : Int) := by
  rw [IntKind.wrap_u64]; omega
theorem or_step (x c k : Nat) (hx : x < 2 ^ k) (hc : c < 2) (hk : k ≤ 62) :
    bits .or .u64 (x : Int) (IntKind.u64.wrap (IntKind.u64.wrap (c : Int) * 2 ^ k)) = ((x + c * 2 ^ k : Nat) : Int) := by
  have h62 := pow_le k 62 hk
  have hm : c * 2 ^ k ≤ 1 * 2 ^ k := Nat.mul_le_mul_right _ (by omega)
  have e1 : IntKind.u64.wrap (c : Int) = (c : Int) := wrap_u64_nat c (by omega)
  have e2 : (c : Int) * 2 ^ k = ((c * 2 ^ k : Nat) : Int) := by simp
  rw [e1, e2, wrap_u64_nat _ (by omega), u64_or_nat _ _ (by omega) (by omega), Nat.or_comm, nat_join k (c * 2 ^ k) x (by simp) hx]
  omega
theorem num_step (s : ByteArray) (p k : Nat) (hk : k ≤ 62) (h : (p + k) / 8 < s.size) :
    bits .or .u64 (num s p k : Nat) (IntKind.u64.wrap (IntKind.u64.wrap (bits .and .u8 ((s[(p + k) / 8].toNat : Int) / 2 ^ ((p + k) % 8)) 1) * 2 ^ k)) = ((num s p (k + 1) : Nat) : Int) := by
  have hy : s[(p + k) / 8].toNat < 256 := UInt8.toNat_lt _
  rw [and1_u8 _ _ hy, ← bitAt_eq s (p + k) h, or_step _ _ _ (num_lt s p k) (bitAt_lt _ _) hk]
  rfl
end Go.Proofs.YtbcflkdaeboflaaDoor
namespace Go.Proofs.YtbcflkdaeboflaaDoor
open Go.RowKit

end Go.Proofs.YtbcflkdaeboflaaDoor
namespace Go.Proofs.YtbcflkdaeboflaaDoor
open Go.RowKit
set_option linter.unusedVariables false
set_option maxRecDepth 20000

theorem ret_si {s t : ByteArray} {n : Int} (h : s = t) : Ending.returned (.tuple #[.string s, .int .i64 n]) = .returned (.tuple #[.string t, .int .i64 n]) := by rw [h]
theorem cut_cut (s : ByteArray) (a n : Nat) (h : a + n ≤ s.size) : (s.extract a s.size).extract 0 n = s.extract a (a + n) := by
  rw [ByteArray.extract_extract]; congr 1; omega
end Go.Proofs.YtbcflkdaeboflaaDoor
