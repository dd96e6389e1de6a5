/- Layer 5: so many of the first code's lengths are told: more than four. -/
/- Layer 5: Lengths, as codesFor calls it. -/
/- Layer 5: codesFor. -/
import Derived.Test.YtlbadjfcffoakaaDoorV35
import Derived.Deep.AppendLies
import Derived.Deep.RegionHeldLaw
import Derived.Deep.CutBlock
import Derived.Deep.DeepCutAuto
namespace Go.Proofs.YtlbadjfcffoakaaDoor
open Go.RowKit
set_option linter.unusedVariables false
set_option maxRecDepth 20000

theorem last_zero {L : List Nat} (h : ∀ z ∈ L, z = 0) : L.getLastD 0 = 0 := by
  cases hL : L with
  | nil => rfl
  | cons x r =>
    rw [List.getLastD_cons]
    rcases List.eq_nil_or_concat r with e | ⟨l, b, e⟩
    · subst e; exact h x (by rw [hL]; exact List.mem_cons_self)
    · subst e
      rw [List.concat_eq_append, List.getLastD_concat]
      exact h b (by rw [hL]; simp)
theorem says_zero : ∀ {P : List (Nat × Nat × Nat)} {L M : List Nat}, Says L P M → (∀ q ∈ P, ¬ (1 ≤ q.1 ∧ q.1 ≤ 15)) → (∀ z ∈ L, z = 0) → ∀ z ∈ M, z = 0
  | [], L, M, h, _, hL => by have h : L = M := h; subst h; exact hL
  | q :: P, L, M, h, hq, hL => by
    refine says_zero h.2.2 (fun r hr => hq r (List.mem_cons_of_mem _ hr)) (fun z hz => ?_)
    rcases List.mem_append.1 hz with hz | hz
    · exact hL z hz
    · have e := hq q (List.mem_cons_self)
      have hp := h.1
      unfold PieOK at hp
      unfold tellP at hz
      by_cases e16 : q.1 = 16
      · rw [if_pos e16] at hz
        rw [(List.mem_replicate.1 hz).2]; exact last_zero hL
      · rw [if_neg e16] at hz
        by_cases e17 : q.1 = 17
        · rw [if_pos e17] at hz
          exact (List.mem_replicate.1 hz).2
        · rw [if_neg e17] at hz
          by_cases e18 : q.1 = 18
          · rw [if_pos e18] at hz
            exact (List.mem_replicate.1 hz).2
          · rw [if_neg e18] at hz
            rw [(List.mem_replicate.1 hz).2]; omega
theorem lit_piece {P : List (Nat × Nat × Nat)} {M : List Nat} (h : Says [] P M) (hM : ∃ z ∈ M, z ≠ 0) : ∃ q ∈ P, 1 ≤ q.1 ∧ q.1 ≤ 15 := by
  refine Classical.byContradiction fun hn => ?_
  obtain ⟨z, hz, hz0⟩ := hM
  exact hz0 (says_zero h (fun q hq a => hn ⟨q, hq, a⟩) (fun z hz => by simp at hz) z hz)
theorem ord_lt : ∀ j, j < 19 → ordL.getD j 0 < 19 := by decide
theorem ord_place : ∀ k, k < 16 → 1 ≤ k → ∃ j, j < 19 ∧ 4 ≤ j ∧ ordL.getD j 0 = k := by decide
theorem first_told {c1 c2 cf : Nat → Nat} {m1 m2 : Nat} {W3 : List Nat} (h3 : BestL (fqL (cntP (bothP c1 c2 m1 m2)) 19) 7 cf W3) (h1 : ∀ i, i < m1 → c1 i ≤ 15) (h2 : ∀ i, i < m2 → c2 i ≤ 15) (hm : 256 < m1) (h256 : c1 256 ≠ 0) : ∃ j, j < 19 ∧ 4 ≤ j ∧ cf (ordL.getD j 0) ≠ 0 := by
  have hs := bothP_says (c1 := c1) (c2 := c2) (m1 := m1) (m2 := m2) h1 h2
  have l3 : (fqL (cntP (bothP c1 c2 m1 m2)) 19).length = 19 := fqL_length _ _
  obtain ⟨q, hq, a, b⟩ := lit_piece hs ⟨c1 256, List.mem_append_left _ (List.mem_map.2 ⟨256, List.mem_range.2 hm, rfl⟩), h256⟩
  obtain ⟨j, j1, j2, j3⟩ := ord_place q.1 (by omega) a
  refine ⟨j, j1, j2, ?_⟩
  rw [j3]
  have := (h3.has q.1 (by omega)).1 (by
    rw [fqL_get _ (show q.1 < 19 by omega)]
    have := cntP_pos.2 ⟨q, hq, rfl⟩
    omega)
  omega
end Go.Proofs.YtlbadjfcffoakaaDoor
namespace Go.Proofs.YtlbadjfcffoakaaDoor
open Go.RowKit
set_option linter.unusedVariables false
set_option maxRecDepth 20000

theorem lengths5_ok (g N cap mo : Nat) (F : Nat → Nat) (w : World) (hr : LB w g N F) (hN : N ≤ 288) (h1 : 1 ≤ mo) (h2 : mo ≤ 15) (hp : N ≤ 2 ^ mo) (hok : okF (fqL F N) = true) :
    Calls Tryd.prog 61 #[.slice (some ⟨g, 0, none⟩) N cap, .int .i64 (mo : Nat)] w fun e w' => ∃ L c W, e = .returned (.tuple #[.slice (some ⟨L, 0, none⟩) N N, .int .i64 0]) ∧ LB w' L N c ∧ w.heap.size ≤ L ∧ Below w.heap.size w w' ∧ BestL (fqL F N) mo c W := by
  have hl : (fqL F N).length = N := fqL_length _ _
  have hcl : (comes (fqL F N) N).length ≤ N := comes_length_le _ _
  refine (lengths_ok (fqL F N) (some ⟨g, 0, none⟩) cap N (mo : Nat) w hl (hr.part (Nat.le_refl _)) (by omega) (fun _ => sorts_all _ (by omega))).mono ?_
  rintro e w' (⟨a1, a2, a3, a4, a5, L, c, S, l, b1, b2, b3, b4, b5, b6, b7, b8⟩ | ⟨hn, _⟩)
  · rw [hl] at b1 b2
    rw [Int.toNat_natCast] at b8
    exact ⟨L, c, _, b1, b2, b3, b4, best_of (by omega) h1 h2 b5 b6 b7 b8⟩
  · refine absurd ⟨by omega, hok, by omega, by omega, ?_⟩ hn
    rw [Int.toNat_natCast, hl]; omega
theorem fq_ok {F : Nat → Nat} {N : Nat} (h : ∀ i, i < N → F i ≤ 1099511627776) : okF (fqL F N) = true := by
  unfold okF
  rw [List.all_eq_true]
  intro x hx
  obtain ⟨i, hi, e⟩ := List.mem_map.1 hx
  have := h i (List.mem_range.1 hi)
  rw [← e, Bool.and_eq_true, decide_eq_true_eq, decide_eq_true_eq]
  omega
def cutF (c : Nat → Nat) (n i : Nat) : Nat := if i < n then c i else 0
theorem cutF_in {c : Nat → Nat} {n i : Nat} (h : i < n) : cutF c n i = c i := if_pos h
theorem cutF_le {c : Nat → Nat} {n x : Nat} (h : ∀ i, i < n → c i ≤ x) (i : Nat) : cutF c n i ≤ x := by
  unfold cutF
  split
  · exact h i (by assumption)
  · exact Nat.zero_le _
theorem LB.cut {w : World} {g N : Nat} {c : Nat → Nat} (h : LB w g N c) : LB w g N (cutF c N) := h.congr (fun i hi => (cutF_in hi).symm)
end Go.Proofs.YtlbadjfcffoakaaDoor
namespace Go.Proofs.YtlbadjfcffoakaaDoor
open Go.RowKit
set_option linter.unusedVariables false
set_option maxRecDepth 20000

theorem OrdAt.below {w w' : World} (h : OrdAt w) (hb : Below w.heap.size w w') : OrdAt w' := fun i hi => by
  have hl := World.block_lt_of_cell? w ⟨0, i, none⟩ (h i hi)
  rw [World.cell?_of_block (w := w) (hb.block 0 hl)]; exact h i hi
theorem OrdAt.set {w : World} {k i : Nat} {v : Value} (h : OrdAt w) (hk : 0 ≠ k) : OrdAt (w.setCell ⟨k, i, none⟩ v) := fun j hj => by
  rw [World.cell?_of_block (w := w) (Below.heap_setCell _ _ _ _ (by exact hk))]; exact h j hj
theorem OrdAt.lt {w : World} (h : OrdAt w) : 0 < w.heap.size := World.block_lt_of_cell? w ⟨0, 0, none⟩ (h 0 (by omega))
theorem LB.setT {w : World} {g N k i : Nat} {f : Nat → Nat} {v : Value} {cs : Array Value} {E : TypeId} {m : Nat × Nat} (h : LB w g N f) (hk : w.heap[k]? = some (.cells cs E m)) (hE : E ≠ 3) : LB (w.setCell ⟨k, i, none⟩ v) g N f := by
  unfold LB
  rw [Below.heap_setCell _ _ _ _ (fun e => by
    have e' : g = k := e
    unfold LB at h
    rw [e', hk] at h
    cases h
    exact hE rfl)]
  exact h
theorem cell_low {w w' : World} {B b i : Nat} {v : Value} (hb : Below B w w') (hl : b < B) (h : w.cell? ⟨b, i, none⟩ = some v) : w'.cell? ⟨b, i, none⟩ = some v := by
  rw [World.cell?_of_block (w := w) (hb.block b hl)]; exact h
def ivs (L : List Nat) : List Value := L.map fun x => Value.int .i64 (x : Nat)
theorem ivs_length (L : List Nat) : (ivs L).length = L.length := by simp [ivs]
theorem ivs_one (L : List Nat) : ∀ u ∈ ivs L, u.oneCell' = true := fun u hu => by
  obtain ⟨x, _, rfl⟩ := List.mem_map.1 hu
  rfl
theorem ivs_append (L M : List Nat) : ivs L ++ ivs M = ivs (L ++ M) := by simp [ivs]
theorem LR_of_owns {w : World} {B g cap n : Nat} {L : List Nat} (h : w.ownsRow B 3 1 (.slice (some ⟨g, 0, none⟩) n cap) n (ivs L)) (hn : L.length = n) : LR w g n (fun i => L.getD i 0) ∧ n ≤ cap ∧ cap ≤ maxLen := by
  rcases h.2 with ⟨h0, _⟩ | ⟨g', cap', cur, hv, hb, hg, hc1, hc2, hsz, htk⟩
  · cases h0
  · cases hv
    refine ⟨⟨cur, (0, 0), hg, fun i hi => ?_⟩, hc1, hc2⟩
    have e1 : (cur.toList.take (n * 1))[i]? = (ivs L)[i]? := by rw [htk]
    rw [List.getElem?_take, if_pos (by omega), Array.getElem?_toList] at e1
    rw [e1]
    unfold ivs
    show _ = some (Value.int .i64 ((L.getD i 0 : Nat) : Int))
    rw [List.getElem?_map, List.getD_eq_getElem?_getD, List.getElem?_eq_getElem (by omega)]
    rfl
theorem news_row {w : World} {g N m : Nat} {c : Nat → Nat} (h : LB w g N c) (hm : m ≤ N) : ∀ j u, (ivs (lrow c m))[j]? = some u → w.cell? ((⟨g, 0, none⟩ : Addr).add j) = some u := fun j u hu => by
  have hj : j < m := by
    have := (List.getElem?_eq_some_iff.1 hu).1
    rw [ivs_length, lrow_length] at this
    exact this
  have h1 := (h.cell (i := j) (by omega)).1
  unfold ivs at hu
  rw [List.getElem?_map, List.getElem?_eq_getElem (by rw [lrow_length]; exact hj)] at hu
  have h2 : u = .int .i64 (c j : Nat) := by
    have h3 := lrow_get c hj
    rw [getD_in (by rw [lrow_length]; exact hj)] at h3
    rw [h3] at hu
    exact (Option.some.inj hu).symm
  rw [h2]
  have e : (⟨g, 0, none⟩ : Addr).add j = ⟨g, j, none⟩ := by simp [Addr.add]; omega
  rw [e]; exact h1
structure CF (w0 : World) (U R g1 g2 m : Nat) (f1 f2 : Nat → Nat) (w : World) : Prop where
  often : w.heap[U]? = some (.cells #[.slice (some ⟨g1, 0, none⟩) 288 288, .slice (some ⟨g2, 0, none⟩) 30 30, .int .i64 (m : Nat)] 91 (0, 0))
  res : w.heap[R]? = some (.cells #[.slice none 0 0, .slice none 0 0, .slice none 0 0, .slice none 0 0, .int .i64 0] 95 (0, 0))
  r1 : LB w g1 288 f1
  r2 : LB w g2 30 f2
  bel : Below w0.heap.size w0 w
  loR : w0.heap.size ≤ R
  ord : OrdAt w
theorem CF.quiet {w0 w w' : World} {U R g1 g2 m : Nat} {f1 f2 : Nat → Nat} (h : CF w0 U R g1 g2 m f1 f2 w) (hb : Below w.heap.size w w') : CF w0 U R g1 g2 m f1 f2 w' :=
  ⟨(hb.block _ (lt_of_block h.often)).trans h.often, (hb.block _ (lt_of_block h.res)).trans h.res, h.r1.below hb, h.r2.below hb, h.bel.trans (hb.mono h.bel.size), h.loR, h.ord.below hb⟩
theorem CF.cells {w0 w : World} {U R g1 g2 m : Nat} {f1 f2 : Nat → Nat} (h : CF w0 U R g1 g2 m f1 f2 w) : w.cell? ⟨U, 0, none⟩ = some (.slice (some ⟨g1, 0, none⟩) 288 288) ∧ w.cell? ⟨U, 1, none⟩ = some (.slice (some ⟨g2, 0, none⟩) 30 30) := by
  have := h.often
  exact ⟨by simp [World.cell?, this], by simp [World.cell?, this]⟩
structure CX (w0 : World) (R X : Nat) (s1 s2 s3 s4 s5 : Value) (A1 A2 : Nat) (c1 c2 : Nat → Nat) (w : World) : Prop where
  res : w.heap[R]? = some (.cells #[.slice none 0 0, .slice none 0 0, .slice none 0 0, .slice none 0 0, .int .i64 0] 95 (0, 0))
  x : w.heap[X]? = some (.cells #[s1, s2, s3, s4, s5] 95 (0, 0))
  r1 : LB w A1 288 c1
  r2 : LB w A2 30 c2
  bel : Below w0.heap.size w0 w
  loR : w0.heap.size ≤ R
  loX : w0.heap.size ≤ X
  ne : R ≠ X
  ord : OrdAt w
  x0 : 0 ≠ X
  r0 : 0 ≠ R
variable {w0 w w' : World} {R X A1 A2 : Nat} {s1 s2 s3 s4 s5 : Value} {c1 c2 : Nat → Nat}
theorem CX.quiet (h : CX w0 R X s1 s2 s3 s4 s5 A1 A2 c1 c2 w) (hb : Below w.heap.size w w') : CX w0 R X s1 s2 s3 s4 s5 A1 A2 c1 c2 w' :=
  ⟨(hb.block _ (lt_of_block h.res)).trans h.res, (hb.block _ (lt_of_block h.x)).trans h.x, h.r1.below hb, h.r2.below hb, h.bel.trans (hb.mono h.bel.size), h.loR, h.loX, h.ne, h.ord.below hb, h.x0, h.r0⟩
theorem CX.cells (h : CX w0 R X s1 s2 s3 s4 s5 A1 A2 c1 c2 w) : (w.cell? ⟨X, 0, none⟩ = some s1 ∧ w.cell? ⟨X, 1, none⟩ = some s2 ∧ w.cell? ⟨X, 2, none⟩ = some s3 ∧ w.cell? ⟨X, 3, none⟩ = some s4 ∧ w.cell? ⟨X, 4, none⟩ = some s5) ∧ w.frozen? ⟨X, 2, none⟩ = false ∧ w.frozen? ⟨X, 3, none⟩ = false ∧ w.frozen? ⟨X, 4, none⟩ = false := by
  have := h.x
  exact ⟨⟨by simp [World.cell?, this], by simp [World.cell?, this], by simp [World.cell?, this], by simp [World.cell?, this], by simp [World.cell?, this]⟩, by simp [World.frozen?, this], by simp [World.frozen?, this], by simp [World.frozen?, this]⟩
theorem CX.set2 (h : CX w0 R X s1 s2 s3 s4 s5 A1 A2 c1 c2 w) (v : Value) : CX w0 R X s1 s2 v s4 s5 A1 A2 c1 c2 (w.setCell ⟨X, 2, none⟩ v) :=
  ⟨by rw [Below.heap_setCell _ _ _ _ (by exact h.ne)]; exact h.res, D5.block_setCell (i := 2) h.x, h.r1.setT h.x (by decide), h.r2.setT h.x (by decide), h.bel.trans (D5.Below.setCell' _ _ h.loX), h.loR, h.loX, h.ne, h.ord.set h.x0, h.x0, h.r0⟩
theorem CX.set3 (h : CX w0 R X s1 s2 s3 s4 s5 A1 A2 c1 c2 w) (v : Value) : CX w0 R X s1 s2 s3 v s5 A1 A2 c1 c2 (w.setCell ⟨X, 3, none⟩ v) :=
  ⟨by rw [Below.heap_setCell _ _ _ _ (by exact h.ne)]; exact h.res, D5.block_setCell (i := 3) h.x, h.r1.setT h.x (by decide), h.r2.setT h.x (by decide), h.bel.trans (D5.Below.setCell' _ _ h.loX), h.loR, h.loX, h.ne, h.ord.set h.x0, h.x0, h.r0⟩
theorem CX.set4 (h : CX w0 R X s1 s2 s3 s4 s5 A1 A2 c1 c2 w) (v : Value) : CX w0 R X s1 s2 s3 s4 v A1 A2 c1 c2 (w.setCell ⟨X, 4, none⟩ v) :=
  ⟨by rw [Below.heap_setCell _ _ _ _ (by exact h.ne)]; exact h.res, D5.block_setCell (i := 4) h.x, h.r1.setT h.x (by decide), h.r2.setT h.x (by decide), h.bel.trans (D5.Below.setCell' _ _ h.loX), h.loR, h.loX, h.ne, h.ord.set h.x0, h.x0, h.r0⟩
theorem told_ret {fn : Func} {p : Tmp} {W : World} {U : Nat} {a b c d e : Value} {tmps : Array Value} (ha : a.oneCell' = true) (hb : b.oneCell' = true) (hc : c.oneCell' = true) (hd : d.oneCell' = true) (he : e.oneCell' = true) (hr : fn.results = #[.cell p 95]) (hp : tmps.getD p undef = .pointer (some ⟨U, 0, none⟩)) (hbk : W.heap[U]? = some (.cells #[a, b, c, d, e] 95 (0, 0))) : (results fn tmps).run Tryd.prog W = .ok (.agg #[a, b, c, d, e]) W := by
  have x0 : W.cell? ⟨U, 0, none⟩ = some a := by simp [World.cell?, hbk]
  have x1 : W.cell? ⟨U, 1, none⟩ = some b := by simp [World.cell?, hbk]
  have x2 : W.cell? ⟨U, 2, none⟩ = some c := by simp [World.cell?, hbk]
  have x3 : W.cell? ⟨U, 3, none⟩ = some d := by simp [World.cell?, hbk]
  have x4 : W.cell? ⟨U, 4, none⟩ = some e := by simp [World.cell?, hbk]
  rw [D5.results_cell hr, hp]
  go_simp
def RXs (w0 : World) (R : Nat) (cs : Array Value) (A1 A2 A3 : Nat) (c1 c2 cf : Nat → Nat) (ao : Option Addr) (P : List (Nat × Nat × Nat)) (w : World) : Prop := w.heap[R]? = some (.cells cs 95 (0, 0)) ∧ LB w A1 288 c1 ∧ LB w A2 30 c2 ∧ LB w A3 19 cf ∧ PieR w ao P ∧ Below w0.heap.size w0 w
theorem RXs.step {w0 w : World} {R : Nat} {cs : Array Value} {A1 A2 A3 : Nat} {c1 c2 cf : Nat → Nat} {ao : Option Addr} {P : List (Nat × Nat × Nat)} (h : RXs w0 R cs A1 A2 A3 c1 c2 cf ao P w) (hR : w0.heap.size ≤ R) (i : Nat) (v : Value) : RXs w0 R (cs.setIfInBounds i v) A1 A2 A3 c1 c2 cf ao P (w.setCell ⟨R, i, none⟩ v) :=
  ⟨D5.block_setCell h.1, h.2.1.setT h.1 (by decide), h.2.2.1.setT h.1 (by decide), h.2.2.2.1.setT h.1 (by decide), h.2.2.2.2.1.set h.1 (by decide), h.2.2.2.2.2.trans (D5.Below.setCell' _ _ hR)⟩
structure TC (T : List (Nat × Nat × Nat)) (c1 c2 cf : Nat → Nat) (m1 m2 nf A1 A2 A3 : Nat) (ao : Option Addr) (w : World) : Prop where
  r1 : LB w A1 288 c1
  r2 : LB w A2 30 c2
  r3 : LB w A3 19 cf
  pie : PieR w ao (bothP c1 c2 m1 m2)
  m1b : 257 ≤ m1 ∧ m1 ≤ 288
  m2b : 1 ≤ m2 ∧ m2 ≤ 30
  nfb : 4 ≤ nf ∧ nf ≤ 19
  small : ∀ p ∈ bothP c1 c2 m1 m2, p.1 < 19 ∧ p.2.2 ≤ 7
  len : (bothP c1 c2 m1 m2).length ≤ 318
  tc : T ≠ [] → TCok (lrow c1 m1) (lrow c2 m2) (lrow cf 19) nf (bothP c1 c2 m1 m2)
  k1 : isCode0 (inN (lrow c1 m1))
  k2 : isCode0 (inN (lrow c2 m2))
  k3 : isCode0 (inN (lrow cf 19))
  has : Cod (lrow c1 m1) 256 ∧ ∀ t ∈ T, Has (lrow c1 m1) (lrow c2 m2) t
theorem inN_lrow (c : Nat → Nat) (m : Nat) : inN (lrow c m) = lensOf c m := intsOf_lrow c m
theorem LB.inRow {w : World} {g N m : Nat} {c : Nat → Nat} (h : LB w g N c) (hm : m ≤ N) : IRow w (some ⟨g, 0, none⟩) (inN (lrow c m)) := by
  rw [inN_lrow]; exact h.part hm
theorem TC.mk' {T : List (Nat × Nat × Nat)} {c1 c2 cf : Nat → Nat} {m1 m2 nf A1 A2 A3 : Nat} {ao : Option Addr} {w : World} {W1 W2 W3 : List Nat} (hfin : ∀ t ∈ T, Fine t) (r1 : LB w A1 288 c1) (r2 : LB w A2 30 c2) (r3 : LB w A3 19 cf) (pie : PieR w ao (bothP c1 c2 m1 m2))
    (b1 : BestL (fqL (freqS T) 288) 15 c1 W1) (b2 : BestL (fqL (cntD T) 30) 15 c2 W2) (b3 : BestL (fqL (cntP (bothP c1 c2 m1 m2)) 19) 7 cf W3)
    (hm1 : 257 ≤ m1 ∧ m1 ≤ 288) (hz1 : ∀ i, m1 ≤ i → i < 288 → c1 i = 0) (hl1 : m1 = 257 ∨ c1 (m1 - 1) ≠ 0) (hm2 : 1 ≤ m2 ∧ m2 ≤ 30) (hz2 : ∀ i, m2 ≤ i → i < 30 → c2 i = 0) (hnf : 4 ≤ nf ∧ nf ≤ 19) (hfz : ∀ j, nf ≤ j → j < 19 → cf (ordL.getD j 0) = 0) : TC T c1 c2 cf m1 m2 nf A1 A2 A3 ao w := by
  have l1 : (fqL (freqS T) 288).length = 288 := fqL_length _ _
  have l2 : (fqL (cntD T) 30).length = 30 := fqL_length _ _
  have l3 : (fqL (cntP (bothP c1 c2 m1 m2)) 19).length = 19 := fqL_length _ _
  have t1 : ∀ i, i < 288 → c1 i ≤ 15 := fun i hi => b1.top i (by omega)
  have t2 : ∀ i, i < 30 → c2 i ≤ 15 := fun i hi => b2.top i (by omega)
  have hs := bothP_says (c1 := c1) (c2 := c2) (m1 := m1) (m2 := m2) (fun i hi => t1 i (by omega)) (fun i hi => t2 i (by omega))
  refine ⟨r1, r2, r3, pie, hm1, hm2, hnf, fun p hp => ?_, ?_, fun hT => ?_, ?_, ?_, ?_, has_all hfin b1 b2 hm1.2 hz1 hm2.2 hz2⟩
  · have := (hs.ok p hp).small
    exact ⟨this.1, this.2.2⟩
  · have := runsL_length (fun i => (bothL c1 c2 m1 m2).getD i 0) (m1 + m2) (m1 + m2) 0 (Nat.zero_le _)
    unfold bothP
    omega
  · exact tcok b1 b2 b3 (freqS_end T) (freqS_other hfin hT) (freqS_zero hfin) hm1 hz1 hl1 hm2 hz2 hnf hfz ord_lt
  · rw [inN_lrow]; exact b1.isCode0 (by omega) (by omega) (by omega) (fun i a b => hz1 i a (by omega))
  · rw [inN_lrow]; exact b2.isCode0 (by omega) (by omega) (by omega) (fun i a b => hz2 i a (by omega))
  · rw [inN_lrow]; exact b3.isCode0 (by omega) (by omega) (by omega) (fun i a b => by omega)
end Go.Proofs.YtlbadjfcffoakaaDoor
