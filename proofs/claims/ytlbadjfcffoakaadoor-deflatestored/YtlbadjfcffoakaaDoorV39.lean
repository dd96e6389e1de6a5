/- Layer 5: countsOf. -/
import Derived.Test.YtlbadjfcffoakaaDoorV35
import Derived.Deep.RegionHeldLaw
import Derived.Deep.CutBlock
import Derived.Deep.DeepCutAuto
namespace Go.Proofs.YtlbadjfcffoakaaDoor
open Go.RowKit
set_option linter.unusedVariables false
set_option maxRecDepth 20000

theorem TokR.set {w : World} {ao : Option Addr} {T : List (Nat × Nat × Nat)} {k i : Nat} {v : Value} {cs : Array Value} {E : TypeId} {m : Nat × Nat} (h : TokR w ao T) (hk : w.heap[k]? = some (.cells cs E m)) (hE : E ≠ 61) : TokR (w.setCell ⟨k, i, none⟩ v) ao T := by
  rcases h with h | ⟨g, off, cur, m', h1, h2, h3⟩
  · exact .inl h
  · refine .inr ⟨g, off, cur, m', h1, ?_, h3⟩
    rw [Below.heap_setCell _ _ _ _ (fun e => by
      have e' : g = k := e
      rw [e', hk] at h2
      cases h2
      exact hE rfl)]
    exact h2
def CQ (w0 : World) (U X g1 g2 : Nat) (ao : Option Addr) (T A : List (Nat × Nat × Nat)) (w : World) : Prop := CN w0 w U X g1 g2 (cntS A) (cntD A) (moreT A) ∧ TokR w ao T
theorem CQ.quiet {w0 w w' : World} {U X g1 g2 : Nat} {ao : Option Addr} {T A : List (Nat × Nat × Nat)} (h : CQ w0 U X g1 g2 ao T A w) (hb : Below w.heap.size w w') : CQ w0 U X g1 g2 ao T A w' := ⟨h.1.quiet hb, h.2.below hb⟩
theorem CQ.plain {w0 w : World} {U X g1 g2 : Nat} {ao : Option Addr} {T A : List (Nat × Nat × Nat)} {x n y : Nat} (h : CQ w0 U X g1 g2 ao T A w) (hy : cntS A x + 1 = y) : CQ w0 U X g1 g2 ao T (A ++ [(x, n, 0)]) (w.setCell ⟨g1, x, none⟩ (.int .i64 (y : Nat))) := by
  refine ⟨?_, h.2.set h.1.r1 (by decide)⟩
  have h1 := (h.1.up1 x y)
  have e3 : moreT (A ++ [(x, n, 0)]) = moreT A := by rw [moreT_snoc]; rfl
  rw [e3]
  refine h1.congr (fun i _ => ?_) (fun i _ => ?_)
  · rw [cntS_snoc]
    show (if i = x then y else cntS A i) = cntS A i + if x = i then 1 else 0
    by_cases e : i = x
    · subst e; rw [if_pos rfl, if_pos rfl, hy]
    · rw [if_neg e, if_neg (fun h => e h.symm)]; rfl
  · rw [cntD_snoc]
    show cntD A i = cntD A i + if (distB (x, n, 0) i) = true then 1 else 0
    rw [if_neg (by unfold distB; simp)]; rfl
theorem CQ.copy {w0 w : World} {U X g1 g2 : Nat} {ao : Option Addr} {T A : List (Nat × Nat × Nat)} {x n dd y z m : Nat} (h : CQ w0 U X g1 g2 ao T A w) (hd : dd ≠ 0) (hy : cntS A (lenK n).1 + 1 = y) (hz : cntD A (distK dd).1 + 1 = z) (hm : moreT A + ((lenK n).2.2 + (distK dd).2.2) = m) :
    CQ w0 U X g1 g2 ao T (A ++ [(x, n, dd)]) (((w.setCell ⟨g1, (lenK n).1, none⟩ (.int .i64 (y : Nat))).setCell ⟨g2, (distK dd).1, none⟩ (.int .i64 (z : Nat))).setCell ⟨X, 2, none⟩ (.int .i64 (m : Nat))) := by
  have a1 := h.1.up1 (lenK n).1 y
  have a2 := a1.up2 (distK dd).1 z
  have a3 := a2.upM m
  refine ⟨?_, ((h.2.set h.1.r1 (by decide)).set a1.r2 (by decide)).set a2.by_ (by decide)⟩
  have e3 : moreT (A ++ [(x, n, dd)]) = m := by
    rw [moreT_snoc, ← hm]
    unfold moreOf
    rw [if_neg (by exact hd)]
  rw [e3]
  refine a3.congr (fun i _ => ?_) (fun i _ => ?_)
  · rw [cntS_snoc]
    have es : symOf (x, n, dd) = (lenK n).1 := by unfold symOf; rw [if_neg (by exact hd)]
    rw [es]
    by_cases e : i = (lenK n).1
    · rw [if_pos e, if_pos e.symm, e, hy]
    · rw [if_neg e, if_neg (fun h => e h.symm)]; rfl
  · rw [cntD_snoc]
    by_cases e : i = (distK dd).1
    · rw [if_pos e, if_pos (by unfold distB; simp [hd, e]), e, hz]
    · rw [if_neg e, if_neg (by unfold distB; simp only [Bool.and_eq_true, decide_eq_true_eq]; exact fun h => e h.2.symm)]; rfl
theorem below_call {w u v : World} (h1 : Below w.heap.size w u) (h2 : Below u.heap.size u v) : Below w.heap.size w v := h1.trans (h2.mono h1.size)
theorem below_dr {B : Nat} {w u : World} (h1 : Below B w u) : Below B w u.drew := ⟨h1.os, h1.tape, h1.output, h1.size, h1.block⟩
theorem below_al {w u : World} (h1 : Below w.heap.size w u) (o : Obj) : Below w.heap.size w (u.alloc o) := h1.alloc h1.size o
theorem below_st {w u : World} {B b i : Nat} {v : Value} (h1 : Below B w u) (hb : B ≤ b) : Below B w (u.setCell ⟨b, i, none⟩ v) := h1.trans (D5.Below.setCell' _ _ hb)
theorem tokB_keep {w u : World} {b x n d : Nat} (h : D5.TokB w b x n d) (hb : Below w.heap.size w u) : u.cell? ⟨b, 1, none⟩ = some (.int .u16 (n : Nat)) ∧ u.cell? ⟨b, 2, none⟩ = some (.int .u16 (d : Nat)) := by
  have h1 : D5.TokB u b x n d := (hb.block b (lt_of_block h)).trans h
  exact h1.cells.1.2
theorem cell_keep {u v : World} {b i : Nat} {x : Value} (hb : Below u.heap.size u v) (h : u.cell? ⟨b, i, none⟩ = some x) : v.cell? ⟨b, i, none⟩ = some x := by
  have hl := World.block_lt_of_cell? u ⟨b, i, none⟩ h
  rw [World.cell?_of_block (w := u) (w' := v) (hb.block b hl)]; exact h
theorem froz_keep {u v : World} {b i : Nat} {x : Value} (hb : Below u.heap.size u v) (h : u.cell? ⟨b, i, none⟩ = some x) (hf : u.frozen? ⟨b, i, none⟩ = false) : v.frozen? ⟨b, i, none⟩ = false := by
  have hl := World.block_lt_of_cell? u ⟨b, i, none⟩ h
  have e := hb.block b hl
  unfold World.frozen? at hf ⊢
  rw [e]; exact hf
def NewP (w : World) (b : Nat) : Prop := w.heap[b]? = some (.cells #[.int .i64 0, .int .i64 0, .int .i64 0] 115 (0, 0))
theorem NewP.keep {w w' : World} {b : Nat} (h : NewP w b) (hb : Below w.heap.size w w') : NewP w' b := (hb.block b (lt_of_block h)).trans h
theorem NewP.cells {w : World} {b : Nat} (h : NewP w b) : (w.cell? ⟨b, 0, none⟩ = some (.int .i64 0) ∧ w.cell? ⟨b, 1, none⟩ = some (.int .i64 0) ∧ w.cell? ⟨b, 2, none⟩ = some (.int .i64 0)) ∧ w.frozen? ⟨b, 0, none⟩ = false ∧ w.frozen? ⟨b, 1, none⟩ = false ∧ w.frozen? ⟨b, 2, none⟩ = false := by
  unfold NewP at h
  exact ⟨⟨by simp [World.cell?, h], by simp [World.cell?, h], by simp [World.cell?, h]⟩, by simp [World.frozen?, h], by simp [World.frozen?, h], by simp [World.frozen?, h]⟩
theorem made_piece (w : World) : NewP (w.alloc (.cells #[.int .i64 0, .int .i64 0, .int .i64 0] 115)) w.heap.size ∧ Below w.heap.size w (w.alloc (.cells #[.int .i64 0, .int .i64 0, .int .i64 0] 115)) := ⟨heap_alloc_new _ _, (Below.refl _ _).alloc (Nat.le_refl _) _⟩
theorem cell_far {w : World} {b i k j : Nat} {v u : Value} (h : w.cell? ⟨b, i, none⟩ = some u) (hne : k ≠ b) : (w.setCell ⟨k, j, none⟩ v).cell? ⟨b, i, none⟩ = some u := by
  rw [World.cell?_setCell_far _ _ _ _ (by exact hne)]; exact h
theorem PieB.cells2 {w : World} {b : Nat} {p : Nat × Nat × Nat} (h : PieB w b p) : w.cell? ⟨b, 0, none⟩ = some (.int .i64 (p.1 : Nat)) ∧ w.cell? ⟨b, 2, none⟩ = some (.int .i64 (p.2.2 : Nat)) := by
  unfold PieB at h
  exact ⟨by simp [World.cell?, h], by simp [World.cell?, h]⟩
theorem three_sets {w : World} {p : Nat} {a b c x y z : Value} (h : w.heap[p]? = some (.cells #[x, y, z] 115 (0, 0))) : (((w.setCell ⟨p, 0, none⟩ a).setCell ⟨p, 1, none⟩ b).setCell ⟨p, 2, none⟩ c).heap[p]? = some (.cells #[a, b, c] 115 (0, 0)) ∧ ∀ k, k ≠ p → (((w.setCell ⟨p, 0, none⟩ a).setCell ⟨p, 1, none⟩ b).setCell ⟨p, 2, none⟩ c).heap[k]? = w.heap[k]? := by
  refine ⟨D5.block_setCell (i := 2) (D5.block_setCell (i := 1) (D5.block_setCell (i := 0) h)), fun k hk => ?_⟩
  rw [Below.heap_setCell _ _ _ _ (by exact hk), Below.heap_setCell _ _ _ _ (by exact hk), Below.heap_setCell _ _ _ _ (by exact hk)]
theorem three_below {w0 w : World} {B p : Nat} {a b c : Value} (h : Below B w0 w) (hp : B ≤ p) : Below B w0 (((w.setCell ⟨p, 0, none⟩ a).setCell ⟨p, 1, none⟩ b).setCell ⟨p, 2, none⟩ c) := below_st (below_st (below_st h hp) hp) hp
theorem stored_piece {w0 w : World} {p q : Nat} {a b c : Nat} (h : Below w0.heap.size w0 w) (hp : NewP w p) (hlo : w0.heap.size ≤ p) (hq : NewP w q) (hne : p ≠ q) : Below w0.heap.size w0 (((w.setCell ⟨p, 0, none⟩ (.int .i64 (a : Nat))).setCell ⟨p, 1, none⟩ (.int .i64 (b : Nat))).setCell ⟨p, 2, none⟩ (.int .i64 (c : Nat))) ∧ PieB (((w.setCell ⟨p, 0, none⟩ (.int .i64 (a : Nat))).setCell ⟨p, 1, none⟩ (.int .i64 (b : Nat))).setCell ⟨p, 2, none⟩ (.int .i64 (c : Nat))) p (a, b, c) ∧ NewP (((w.setCell ⟨p, 0, none⟩ (.int .i64 (a : Nat))).setCell ⟨p, 1, none⟩ (.int .i64 (b : Nat))).setCell ⟨p, 2, none⟩ (.int .i64 (c : Nat))) q :=
  ⟨three_below h hlo, (three_sets hp).1, ((three_sets hp).2 q hne.symm).trans hq⟩
theorem stored_piece2 {w0 w : World} {p q : Nat} {a b c : Nat} {r : Nat × Nat × Nat} (h : Below w0.heap.size w0 w) (hp : NewP w p) (hlo : w0.heap.size ≤ p) (hq : PieB w q r) (hne : q ≠ p) : Below w0.heap.size w0 (((w.setCell ⟨p, 0, none⟩ (.int .i64 (a : Nat))).setCell ⟨p, 1, none⟩ (.int .i64 (b : Nat))).setCell ⟨p, 2, none⟩ (.int .i64 (c : Nat))) ∧ PieB (((w.setCell ⟨p, 0, none⟩ (.int .i64 (a : Nat))).setCell ⟨p, 1, none⟩ (.int .i64 (b : Nat))).setCell ⟨p, 2, none⟩ (.int .i64 (c : Nat))) p (a, b, c) ∧ PieB (((w.setCell ⟨p, 0, none⟩ (.int .i64 (a : Nat))).setCell ⟨p, 1, none⟩ (.int .i64 (b : Nat))).setCell ⟨p, 2, none⟩ (.int .i64 (c : Nat))) q r :=
  ⟨three_below h hlo, (three_sets hp).1, ((three_sets hp).2 q hne).trans hq⟩
set_option maxHeartbeats 8000000 in
theorem countsOf_ok (T : List (Nat × Nat × Nat)) (ao : Option Addr) (cp : Nat) (w : World) (hT : TokR w ao T) (hTl : T.length ≤ 1048576) (hfin : ∀ t ∈ T, Fine t) : Calls Tryd.prog 44 #[.slice ao T.length cp] w fun e w' => ∃ g1 g2, e = .returned (.agg #[.slice (some ⟨g1, 0, none⟩) 288 288, .slice (some ⟨g2, 0, none⟩) 30 30, .int .i64 (moreT T : Nat)]) ∧ LB w' g1 288 (freqS T) ∧ LB w' g2 30 (cntD T) ∧ Below w.heap.size w w' := by
  have hmk1 : ∀ W : World, (Instr.makeSlice 41 (.int .i64 288) (.int .i64 288)).run Tryd.prog W = .ok (.slice (some ⟨W.heap.size, 0, none⟩) 288 288) (W.alloc (.cells (lcells 288 (fun _ => 0)) 3)) := fun W => make_ints 288 (by omega) W
  have hmk2 : ∀ W : World, (Instr.makeSlice 41 (.int .i64 30) (.int .i64 30)).run Tryd.prog W = .ok (.slice (some ⟨W.heap.size, 0, none⟩) 30 30) (W.alloc (.cells (lcells 30 (fun _ => 0)) 3)) := fun W => make_ints 30 (by omega) W
  obtain ⟨N, hN⟩ : ∃ N, T.length = N := ⟨_, rfl⟩
  have HALL : Hid ((∀ t ∈ T, Fine t) ∧ T.length ≤ 1048576 ∧ T.length = N ∧ TokR w ao T) := ⟨hfin, hTl, hN, hT⟩
  have hNb : N ≤ 1048576 := by omega
  rw [hN]
  clear hfin hTl hN hT
  go_enter Tryd.func44, Tryd.ntmps44
  go_upto_region 1 with fail
  go_cut [3] (fun v3 wc => ∃ X g1 g2, v3 = .pointer (some ⟨X, 0, none⟩) ∧ Hid (CN w wc w.heap.size X g1 g2 (fun _ => 0) (fun _ => 0) 0))
  case first =>
    go_region_with fail
    all_goals
      clear hmk1 hmk2
      go_wp2_with fail
      go_meet
      case rel =>
        have h4 := four_allocs w
        first
          | exact ⟨_, w.heap.size + 1, w.heap.size + 1 + 1, rfl, ⟨(h4 _ _ _ _).1, (by first | exact (h4 _ _ _ _).2.1 | exact (h4 _ _ _ _).2.2.1 | exact (h4 _ _ _ _).2.2.2.1), (by first | exact (h4 _ _ _ _).2.1 | exact (h4 _ _ _ _).2.2.1 | exact (h4 _ _ _ _).2.2.2.1), (by first | exact (h4 _ _ _ _).2.1 | exact (h4 _ _ _ _).2.2.1 | exact (h4 _ _ _ _).2.2.2.1), by omega, by omega, by omega, by omega, by omega, (h4 _ _ _ _).2.2.2.2⟩⟩
          | exact ⟨_, w.heap.size + 1, w.heap.size + 1 + 1 + 1, rfl, ⟨(h4 _ _ _ _).1, (by first | exact (h4 _ _ _ _).2.1 | exact (h4 _ _ _ _).2.2.1 | exact (h4 _ _ _ _).2.2.2.1), (by first | exact (h4 _ _ _ _).2.1 | exact (h4 _ _ _ _).2.2.1 | exact (h4 _ _ _ _).2.2.2.1), (by first | exact (h4 _ _ _ _).2.1 | exact (h4 _ _ _ _).2.2.1 | exact (h4 _ _ _ _).2.2.2.1), by omega, by omega, by omega, by omega, by omega, (h4 _ _ _ _).2.2.2.2⟩⟩
          | exact ⟨_, w.heap.size + 1 + 1, w.heap.size + 1, rfl, ⟨(h4 _ _ _ _).1, (by first | exact (h4 _ _ _ _).2.1 | exact (h4 _ _ _ _).2.2.1 | exact (h4 _ _ _ _).2.2.2.1), (by first | exact (h4 _ _ _ _).2.1 | exact (h4 _ _ _ _).2.2.1 | exact (h4 _ _ _ _).2.2.2.1), (by first | exact (h4 _ _ _ _).2.1 | exact (h4 _ _ _ _).2.2.1 | exact (h4 _ _ _ _).2.2.2.1), by omega, by omega, by omega, by omega, by omega, (h4 _ _ _ _).2.2.2.2⟩⟩
          | exact ⟨_, w.heap.size + 1 + 1, w.heap.size + 1 + 1 + 1, rfl, ⟨(h4 _ _ _ _).1, (by first | exact (h4 _ _ _ _).2.1 | exact (h4 _ _ _ _).2.2.1 | exact (h4 _ _ _ _).2.2.2.1), (by first | exact (h4 _ _ _ _).2.1 | exact (h4 _ _ _ _).2.2.1 | exact (h4 _ _ _ _).2.2.2.1), (by first | exact (h4 _ _ _ _).2.1 | exact (h4 _ _ _ _).2.2.1 | exact (h4 _ _ _ _).2.2.2.1), by omega, by omega, by omega, by omega, by omega, (h4 _ _ _ _).2.2.2.2⟩⟩
          | exact ⟨_, w.heap.size + 1 + 1 + 1, w.heap.size + 1, rfl, ⟨(h4 _ _ _ _).1, (by first | exact (h4 _ _ _ _).2.1 | exact (h4 _ _ _ _).2.2.1 | exact (h4 _ _ _ _).2.2.2.1), (by first | exact (h4 _ _ _ _).2.1 | exact (h4 _ _ _ _).2.2.1 | exact (h4 _ _ _ _).2.2.2.1), (by first | exact (h4 _ _ _ _).2.1 | exact (h4 _ _ _ _).2.2.1 | exact (h4 _ _ _ _).2.2.2.1), by omega, by omega, by omega, by omega, by omega, (h4 _ _ _ _).2.2.2.2⟩⟩
          | exact ⟨_, w.heap.size + 1 + 1 + 1, w.heap.size + 1 + 1, rfl, ⟨(h4 _ _ _ _).1, (by first | exact (h4 _ _ _ _).2.1 | exact (h4 _ _ _ _).2.2.1 | exact (h4 _ _ _ _).2.2.2.1), (by first | exact (h4 _ _ _ _).2.1 | exact (h4 _ _ _ _).2.2.1 | exact (h4 _ _ _ _).2.2.2.1), (by first | exact (h4 _ _ _ _).2.1 | exact (h4 _ _ _ _).2.2.1 | exact (h4 _ _ _ _).2.2.2.1), by omega, by omega, by omega, by omega, by omega, (h4 _ _ _ _).2.2.2.2⟩⟩
  case rest =>
    obtain ⟨X, g1, g2, rfl, HS⟩ := hcut
    obtain ⟨U, hU⟩ : ∃ U, w.heap.size = U := ⟨_, rfl⟩
    rw [hU] at HS ⊢
    clear hmk1 hmk2
    have HQ0 : Hid (CQ w U X g1 g2 ao T [] wc) := ⟨HS.out, HALL.out.2.2.2.below (by rw [hU]; exact HS.out.bel)⟩
    clear HS
    go_upto_block 0 with fail
    go_cut [] (fun wd => Hid (CQ w U X g1 g2 ao T T wd))
    case first =>
      as_aux_lemma =>
        go_wp2_with fail
        go_loopw [13] (fun v13 wr => ∃ i : Nat, v13 = .int .i64 (i : Nat) ∧ i ≤ N ∧ Hid (CQ w U X g1 g2 ao T (T.take i) wr)) (fun v13 _ => N - (intOf v13).toNat)
        case atStart => exact ⟨0, rfl, Nat.zero_le _, by rw [List.take_zero]; exact HQ0.out⟩
        case round =>
          obtain ⟨i, rfl, hi', HR⟩ := hrel
          by_cases hlt : i < N
          · have hlti : (i : Int) < (N : Int) := by omega
            obtain ⟨hfin, hTl, hN, _⟩ := HALL.out
            have hiT : i < T.length := by omega
            obtain ⟨t, ht⟩ : ∃ t, T[i]? = some t := ⟨T[i], List.getElem?_eq_getElem hiT⟩
            have hmem : t ∈ T := List.mem_of_getElem? ht
            have hft := hfin t hmem
            have htake : T.take (i + 1) = T.take i ++ [t] := by rw [List.take_add_one, ht]; rfl
            obtain ⟨A, hA⟩ : ∃ A, T.take i = A := ⟨_, rfl⟩
            have hAl : A.length ≤ 1048576 := by rw [← hA, List.length_take]; omega
            have hAf : ∀ t ∈ A, Fine t := fun x hx => hfin x (List.mem_of_mem_take (by rw [hA]; exact hx))
            rw [hA] at HR htake
            obtain ⟨g, off, hao, y0, y1, y2⟩ := HR.out.2.at ht
            obtain ⟨x, n, dd⟩ := t
            simp only at y0 y1 y2
            have HFT : Hid (Fine (x, n, dd) ∧ T.take (i + 1) = A ++ [(x, n, dd)] ∧ A.length ≤ 1048576 ∧ ∀ t ∈ A, Fine t) := ⟨hft, htake, hAl, hAf⟩
            subst hao
            have HQ : Hid (CQ w U X g1 g2 (some ⟨g, off, none⟩) T A (wr.alloc (.cells #[.int .u8 (x : Nat), .int .u16 (n : Nat), .int .u16 (dd : Nat)] 61)) ∧ D5.TokB (wr.alloc (.cells #[.int .u8 (x : Nat), .int .u16 (n : Nat), .int .u16 (dd : Nat)] 61)) wr.heap.size x n dd) :=
              ⟨HR.out.quiet ((Below.refl _ _).alloc (Nat.le_refl _) _), heap_alloc_new _ _⟩
            clear hiT hmem htake hA hft ht hfin hTl hN hAl hAf
            go_upto_region 5 with fail
            obtain ⟨wt, hwt⟩ : ∃ wt, wr.alloc (.cells #[.int .u8 (x : Nat), .int .u16 (n : Nat), .int .u16 (dd : Nat)] 61) = wt := ⟨_, rfl⟩
            obtain ⟨XT, hXT⟩ : ∃ XT, wr.heap.size = XT := ⟨_, rfl⟩
            rw [hwt, hXT] at HQ ⊢
            obtain ⟨⟨x0, x1, x2⟩, _, _, _⟩ := HQ.out.2.cells
            obtain ⟨k0, k1, k2, k3⟩ := HQ.out.1.1.cells
            clear hwt hXT y0 y1 y2 HR
            by_cases hdd : dd = 0
            · have hddb : ((dd : Int) == 0) = true := by simp [hdd]
              have hx256 : x < 256 := by
                rcases HFT.out.1 with h | h
                · exact h.2
                · exact absurd hdd (by have := h.2.2.1; simp only at this; omega)
              obtain ⟨e0, e1⟩ := HQ.out.1.1.r1.cell (i := x) (by omega)
              have hcl := cntS_le x A
              obtain ⟨c, hc⟩ : ∃ c, cntS A x = c := ⟨_, rfl⟩
              rw [hc] at e0 hcl
              obtain ⟨y, hy⟩ : ∃ y, c + 1 = y := ⟨_, rfl⟩
              have hyi : (c : Int) + 1 = (y : Int) := by omega
              have hyw := D5.wrapN y (by have := HFT.out.2.2.1; omega)
              have hx288 : (x : Int) < 288 := by omega
              have HZ : Hid (CQ w U X g1 g2 (some ⟨g, off, none⟩) T (T.take (i + 1)) (wt.setCell ⟨g1, x, none⟩ (.int .i64 (y : Nat)))) := by
                rw [HFT.out.2.1, hdd]
                exact HQ.out.1.plain (by rw [hc, hy])
              clear hdd hc hy hcl x1 k1 k2 k3
              go_wp2
              exact ⟨⟨i + 1, by go_num, by omega, HZ⟩, by simp [intOf]; omega⟩
            · have hddb : ((dd : Int) == 0) = false := by simp; omega
              have hfn : 3 ≤ n ∧ n ≤ 258 ∧ 1 ≤ dd ∧ dd ≤ 32768 := by
                rcases HFT.out.1 with h | h
                · exact absurd h.1 hdd
                · exact h
              have HNV : Hid (Value.int .i64 (IntKind.i64.wrap (n : Int)) = .int .i64 (n : Nat) ∧ Value.int .i64 (IntKind.i64.wrap (dd : Int)) = .int .i64 (dd : Nat)) := ⟨by rw [D5.wrapN n (by omega)], by rw [D5.wrapN dd (by omega)]⟩
              have hL1 := (lenK_ok hfn.1 hfn.2.1).small
              have hD1 := (distK_ok hfn.2.2.1 hfn.2.2.2).small
              have HLP : Hid (∀ W' v, v = Value.int .i64 (n : Nat) → Calls Tryd.prog 59 #[v] W' fun e w' => e = .returned (D5.pieceV (lenK n)) ∧ Below W'.heap.size W' w') := fun W' v hv => by rw [hv]; exact D5.lengthPiece_ok n hfn.1 hfn.2.1 W'
              have HDP : Hid (∀ W' v, v = Value.int .i64 (dd : Nat) → Calls Tryd.prog 60 #[v] W' fun e w' => e = .returned (D5.pieceV (distK dd)) ∧ Below W'.heap.size W' w') := fun W' v hv => by rw [hv]; exact D5.distancePiece_ok dd hfn.2.2.1 hfn.2.2.2 W'
              have HCP : Hid (∀ y z m W, CQ w U X g1 g2 (some ⟨g, off, none⟩) T A W → cntS A (lenK n).1 + 1 = y → cntD A (distK dd).1 + 1 = z → moreT A + ((lenK n).2.2 + (distK dd).2.2) = m → CQ w U X g1 g2 (some ⟨g, off, none⟩) T (T.take (i + 1)) (((W.setCell ⟨g1, (lenK n).1, none⟩ (.int .i64 (y : Nat))).setCell ⟨g2, (distK dd).1, none⟩ (.int .i64 (z : Nat))).setCell ⟨X, 2, none⟩ (.int .i64 (m : Nat)))) := fun y z m W h h1 h2 h3 => by
                rw [HFT.out.2.1]; exact h.copy hdd h1 h2 h3
              obtain ⟨⟨lk, lx, lb⟩, hlk⟩ : ∃ p, lenK n = p := ⟨_, rfl⟩
              obtain ⟨⟨dk, dx, db⟩, hdk⟩ : ∃ p, distK dd = p := ⟨_, rfl⟩
              rw [hlk] at HLP HCP hL1
              rw [hdk] at HDP HCP hD1
              simp only at hL1 hD1 HCP
              have ep1 : D5.pieceV (lk, lx, lb) = .agg #[.int .i64 (lk : Nat), .int .i64 (lx : Nat), .int .i64 (lb : Nat)] := rfl
              have ep2 : D5.pieceV (dk, dx, db) = .agg #[.int .i64 (dk : Nat), .int .i64 (dx : Nat), .int .i64 (db : Nat)] := rfl
              rw [ep1] at HLP
              rw [ep2] at HDP
              have HLD : Hid (lk < 286 ∧ lb ≤ 5 ∧ dk < 30 ∧ db ≤ 13) := ⟨hL1.2.1, hL1.2.2.2.1, hD1.1, hD1.2.2⟩
              have HWX : Hid (U < wt.heap.size ∧ X < wt.heap.size ∧ g1 < wt.heap.size ∧ g2 < wt.heap.size) := ⟨lt_of_block HQ.out.1.1.res, lt_of_block HQ.out.1.1.by_, lt_of_block HQ.out.1.1.r1, lt_of_block HQ.out.1.1.r2⟩
              clear hdd hlk hdk hL1 hD1 hfn ep1 ep2
              go_upto_region 7 with fail
              go_cut [6, 7] (fun v6 v7 wc => ∃ P6 P7 : Nat, v6 = .pointer (some ⟨P6, 0, none⟩) ∧ v7 = .pointer (some ⟨P7, 0, none⟩) ∧ Hid (Below wt.heap.size wt wc ∧ wt.heap.size ≤ P6 ∧ wt.heap.size ≤ P7 ∧ wc.cell? ⟨P6, 0, none⟩ = some (.int .i64 (lk : Nat)) ∧ wc.cell? ⟨P6, 2, none⟩ = some (.int .i64 (lb : Nat)) ∧ wc.cell? ⟨P7, 0, none⟩ = some (.int .i64 (dk : Nat)) ∧ wc.cell? ⟨P7, 2, none⟩ = some (.int .i64 (db : Nat))))
              case first =>
                have HS0 : Hid (wt.drew.cell? ⟨XT, 1, none⟩ = some (.int .u16 (n : Nat)) ∧ wt.drew.cell? ⟨XT, 2, none⟩ = some (.int .u16 (dd : Nat))) := ⟨x1, x2⟩
                have HTB : Hid (D5.TokB wt XT x n dd) := HQ.out.2
                have HB0 : Hid (Below wt.heap.size wt wt.drew) := ⟨rfl, rfl, rfl, Nat.le_refl _, fun _ _ => rfl⟩
                clear HCP HQ HFT HALL k0 k1 k2 k3 x0 HQ0 x1 x2
                as_aux_lemma =>
                 refine wp_region_held_drew (S := fun w' => w'.cell? ⟨XT, 1, none⟩ = some (.int .u16 (n : Nat)) ∧ w'.cell? ⟨XT, 2, none⟩ = some (.int .u16 (dd : Nat))) (by kernel_rfl) HS0.out (fun hHeld => ?_)
                 refine wpAnyH_take (i := 0) (v := ?v0) rfl (by kernel_rfl) (by kernel_rfl) (by kernel_rfl) (fun _ _ _ h => h) (Or.inl ⟨by rfl, fun w hSw => ?hy0⟩) hHeld ?rest0
                 case hy0 =>
                   try dsimp only at hSw
                   go_simp
                   try with_reducible rfl
                 try simp only [Act.put, List.setIfInBounds_toArray, List.set_cons_zero, List.set_cons_succ, List.getElem_toArray, List.getElem_cons_zero]
                 refine wpAnyH_take (i := 1) (v := ?v1) rfl (by kernel_rfl) (by kernel_rfl) (by kernel_rfl) (fun _ _ _ h => h) (Or.inl ⟨by rfl, fun w hSw => ?hy1⟩) hHeld ?rest1
                 case hy1 =>
                   try dsimp only at hSw
                   go_simp
                   try with_reducible rfl
                 try simp only [Act.put, List.setIfInBounds_toArray, List.set_cons_zero, List.set_cons_succ, List.getElem_toArray, List.getElem_cons_zero, List.getElem_cons_succ]
                 refine wpAnyH_take (i := 2) (v := ?v2) rfl (by kernel_rfl) (by kernel_rfl) (by kernel_rfl) (fun _ _ _ h => h) (Or.inl ⟨by rfl, fun w hSw => ?hy2⟩) hHeld ?rest2
                 case hy2 =>
                   try dsimp only at hSw
                   go_simp
                   try with_reducible rfl
                 try simp only [Act.put, List.setIfInBounds_toArray, List.set_cons_zero, List.set_cons_succ, List.getElem_toArray, List.getElem_cons_zero, List.getElem_cons_succ]
                 refine wpAnyH_take (i := 4) (v := ?v4) rfl (by kernel_rfl) (by kernel_rfl) (by kernel_rfl) (fun _ _ _ h => h) (Or.inl ⟨by rfl, fun w hSw => ?hy4⟩) hHeld ?rest4
                 case hy4 =>
                   try dsimp only at hSw
                   go_simp
                   try with_reducible rfl
                 try simp only [Act.put, List.setIfInBounds_toArray, List.set_cons_zero, List.set_cons_succ, List.getElem_toArray, List.getElem_cons_zero, List.getElem_cons_succ]
                 refine wpAnyH_take (i := 5) (v := ?v5) rfl (by kernel_rfl) (by kernel_rfl) (by kernel_rfl) (fun _ _ _ h => h) (Or.inl ⟨by rfl, fun w hSw => ?hy5⟩) hHeld ?rest5
                 case hy5 =>
                   try dsimp only at hSw
                   go_simp
                   try with_reducible rfl
                 try simp only [Act.put, List.setIfInBounds_toArray, List.set_cons_zero, List.set_cons_succ, List.getElem_toArray, List.getElem_cons_zero, List.getElem_cons_succ]
                 refine wpAnyH_take (i := 6) (v := ?v6) rfl (by kernel_rfl) (by kernel_rfl) (by kernel_rfl) (fun _ _ _ h => h) (Or.inl ⟨by rfl, fun w hSw => ?hy6⟩) hHeld ?rest6
                 case hy6 =>
                   try dsimp only at hSw
                   go_simp
                   try with_reducible rfl
                 try simp only [Act.put, List.setIfInBounds_toArray, List.set_cons_zero, List.set_cons_succ, List.getElem_toArray, List.getElem_cons_zero, List.getElem_cons_succ]
                 generalize hwd : wt.drew = v0 at hHeld HB0 HS0 ⊢
                 clear hwd HS0
                 refine wpAnyH_ready (rs := [3, 8, 9]) (by kernel_rfl) (by simp) ?_
                 refine AllReadyH.cons rfl (fun K hK => ?_) ?_
                 · skip
                   go_simp
                   refine (HLP.out _ _ (by first | exact HNV.out.1 | rfl)).mono ?_
                   rintro e v1 ⟨he, hb⟩
                   subst he
                   have B1 : Hid (Below wt.heap.size wt v1) := below_call HB0.out hb
                   clear hb hHeld
                   go_simp
                   refine hK.out _ _ (tokB_keep HTB.out B1.out) (fun hHeld => ?_)
                   clear hK
                   refine wpAnyH_ready (rs := [7, 8, 9]) (by kernel_rfl) (by simp) ?_
                   refine AllReadyH.cons rfl (fun K hK => ?_) ?_
                   · skip
                     go_simp
                     refine (HDP.out _ _ (by first | exact HNV.out.2 | rfl)).mono ?_
                     rintro e v2 ⟨he, hb⟩
                     subst he
                     have B2 : Hid (Below wt.heap.size wt v2) := below_call B1.out hb
                     clear hb hHeld
                     go_simp
                     refine hK.out _ _ (tokB_keep HTB.out B2.out) (fun hHeld => ?_)
                     clear hK
                     refine wpAnyH_ready (rs := [8, 9]) (by kernel_rfl) (by simp) ?_
                     refine AllReadyH.cons rfl (fun K hK => ?_) ?_
                     · skip
                       go_simp
                       obtain ⟨hP, hb⟩ := made_piece v2
                       obtain ⟨v3, hV⟩ : ∃ V, v2.alloc (.cells #[.int .i64 0, .int .i64 0, .int .i64 0] 115) = V := ⟨_, rfl⟩
                       obtain ⟨p6, hp⟩ : ∃ P, v2.heap.size = P := ⟨_, rfl⟩
                       rw [hV] at hP hb ⊢
                       rw [hp] at hP ⊢
                       have B3 : Hid (Below wt.heap.size wt v3) := below_call B2.out hb
                       have P3 : Hid (NewP v3 p6 ∧ wt.heap.size ≤ p6) := ⟨hP, by rw [← hp]; exact B2.out.size⟩
                       clear hb hP hV hp hHeld
                       refine hK.out _ _ (tokB_keep HTB.out B3.out) (fun hHeld => ?_)
                       clear hK
                       refine wpAnyH_ready (rs := [9]) (by kernel_rfl) (by simp) ?_
                       refine AllReadyH.cons rfl (fun K hK => ?_) ?_
                       · skip
                         go_simp
                         obtain ⟨hP, hb⟩ := made_piece v3
                         obtain ⟨v4, hV⟩ : ∃ V, v3.alloc (.cells #[.int .i64 0, .int .i64 0, .int .i64 0] 115) = V := ⟨_, rfl⟩
                         obtain ⟨p7, hp⟩ : ∃ P, v3.heap.size = P := ⟨_, rfl⟩
                         rw [hV] at hP hb ⊢
                         rw [hp] at hP ⊢
                         have B4 : Hid (Below wt.heap.size wt v4) := below_call B3.out hb
                         have Q4 : Hid (NewP v4 p7 ∧ wt.heap.size ≤ p7) := ⟨hP, by rw [← hp]; exact B3.out.size⟩
                         have P4 : Hid (NewP v4 p6 ∧ wt.heap.size ≤ p6) := ⟨P3.out.1.keep hb, P3.out.2⟩
                         have NE : Hid (p6 ≠ p7) := by have h9 := lt_of_block P3.out.1; rw [hp] at h9; exact fun h => by omega
                         clear hb hP hV hp hHeld
                         refine hK.out _ _ (tokB_keep HTB.out B4.out) (fun hHeld => ?_)
                         clear hK
                         obtain ⟨⟨a0, a1, a2⟩, b0, b1, b2⟩ := P4.out.1.cells
                         refine wpAnyH_ready (rs := [10]) (by kernel_rfl) (by simp) ?_
                         refine AllReadyH.cons rfl (fun K hK => ?_) AllReadyH.nil
                         go_simp
                         obtain ⟨V, hV⟩ : ∃ V, ((v4.setCell ⟨p6, 0, none⟩ (.int .i64 (lk : Nat))).setCell ⟨p6, 1, none⟩ (.int .i64 (lx : Nat))).setCell ⟨p6, 2, none⟩ (.int .i64 (lb : Nat)) = V := ⟨_, rfl⟩
                         rw [hV]
                         have L1 : Hid (Below wt.heap.size wt V ∧ PieB V p6 (lk, lx, lb) ∧ NewP V p7) := by rw [← hV]; exact stored_piece B4.out P4.out.1 P4.out.2 Q4.out.1 NE.out
                         clear hV a0 a1 a2 b0 b1 b2 hHeld
                         refine hK.out _ _ (tokB_keep HTB.out L1.out.1) (fun hHeld => ?_)
                         clear hK
                         obtain ⟨⟨a0, a1, a2⟩, b0, b1, b2⟩ := L1.out.2.2.cells
                         refine wpAnyH_ready (rs := [11]) (by kernel_rfl) (by simp) ?_
                         refine AllReadyH.cons rfl (fun K hK => ?_) AllReadyH.nil
                         go_simp
                         obtain ⟨V2, hV2⟩ : ∃ V2, ((V.setCell ⟨p7, 0, none⟩ (.int .i64 (dk : Nat))).setCell ⟨p7, 1, none⟩ (.int .i64 (dx : Nat))).setCell ⟨p7, 2, none⟩ (.int .i64 (db : Nat)) = V2 := ⟨_, rfl⟩
                         rw [hV2]
                         have L2 : Hid (Below wt.heap.size wt V2 ∧ PieB V2 p7 (dk, dx, db) ∧ PieB V2 p6 (lk, lx, lb)) := by rw [← hV2]; exact stored_piece2 L1.out.1 L1.out.2.2 Q4.out.2 L1.out.2.1 NE.out
                         clear hV2 a0 a1 a2 b0 b1 b2 hHeld
                         refine hK.out _ _ (tokB_keep HTB.out L2.out.1) (fun hHeld => ?_)
                         clear hK hHeld
                         refine wpAnyH_done (by kernel_rfl) ?_ _
                         go_wp2_with fail
                         go_meet
                         case rel => exact ⟨p6, p7, rfl, rfl, L2.out.1, P4.out.2, Q4.out.2, L2.out.2.2.cells2.1, L2.out.2.2.cells2.2, L2.out.2.1.cells2.1, L2.out.2.1.cells2.2⟩
                       exact AllReadyH.nil
                     refine AllReadyH.cons rfl (fun K hK => ?_) ?_
                     · skip
                       go_simp
                       obtain ⟨hP, hb⟩ := made_piece v2
                       obtain ⟨v5, hV⟩ : ∃ V, v2.alloc (.cells #[.int .i64 0, .int .i64 0, .int .i64 0] 115) = V := ⟨_, rfl⟩
                       obtain ⟨p7, hp⟩ : ∃ P, v2.heap.size = P := ⟨_, rfl⟩
                       rw [hV] at hP hb ⊢
                       rw [hp] at hP ⊢
                       have B5 : Hid (Below wt.heap.size wt v5) := below_call B2.out hb
                       have Q5 : Hid (NewP v5 p7 ∧ wt.heap.size ≤ p7) := ⟨hP, by rw [← hp]; exact B2.out.size⟩
                       clear hb hP hV hp hHeld
                       refine hK.out _ _ (tokB_keep HTB.out B5.out) (fun hHeld => ?_)
                       clear hK
                       refine wpAnyH_ready (rs := [8]) (by kernel_rfl) (by simp) ?_
                       refine AllReadyH.cons rfl (fun K hK => ?_) ?_
                       · skip
                         go_simp
                         obtain ⟨hP, hb⟩ := made_piece v5
                         obtain ⟨v6, hV⟩ : ∃ V, v5.alloc (.cells #[.int .i64 0, .int .i64 0, .int .i64 0] 115) = V := ⟨_, rfl⟩
                         obtain ⟨p6, hp⟩ : ∃ P, v5.heap.size = P := ⟨_, rfl⟩
                         rw [hV] at hP hb ⊢
                         rw [hp] at hP ⊢
                         have B6 : Hid (Below wt.heap.size wt v6) := below_call B5.out hb
                         have P6 : Hid (NewP v6 p6 ∧ wt.heap.size ≤ p6) := ⟨hP, by rw [← hp]; exact B5.out.size⟩
                         have Q6 : Hid (NewP v6 p7 ∧ wt.heap.size ≤ p7) := ⟨Q5.out.1.keep hb, Q5.out.2⟩
                         have NE : Hid (p6 ≠ p7) := by have h9 := lt_of_block Q5.out.1; rw [hp] at h9; exact fun h => by omega
                         clear hb hP hV hp hHeld
                         refine hK.out _ _ (tokB_keep HTB.out B6.out) (fun hHeld => ?_)
                         clear hK
                         obtain ⟨⟨a0, a1, a2⟩, b0, b1, b2⟩ := P6.out.1.cells
                         refine wpAnyH_ready (rs := [10]) (by kernel_rfl) (by simp) ?_
                         refine AllReadyH.cons rfl (fun K hK => ?_) AllReadyH.nil
                         go_simp
                         obtain ⟨V, hV⟩ : ∃ V, ((v6.setCell ⟨p6, 0, none⟩ (.int .i64 (lk : Nat))).setCell ⟨p6, 1, none⟩ (.int .i64 (lx : Nat))).setCell ⟨p6, 2, none⟩ (.int .i64 (lb : Nat)) = V := ⟨_, rfl⟩
                         rw [hV]
                         have L1 : Hid (Below wt.heap.size wt V ∧ PieB V p6 (lk, lx, lb) ∧ NewP V p7) := by rw [← hV]; exact stored_piece B6.out P6.out.1 P6.out.2 Q6.out.1 NE.out
                         clear hV a0 a1 a2 b0 b1 b2 hHeld
                         refine hK.out _ _ (tokB_keep HTB.out L1.out.1) (fun hHeld => ?_)
                         clear hK
                         obtain ⟨⟨a0, a1, a2⟩, b0, b1, b2⟩ := L1.out.2.2.cells
                         refine wpAnyH_ready (rs := [11]) (by kernel_rfl) (by simp) ?_
                         refine AllReadyH.cons rfl (fun K hK => ?_) AllReadyH.nil
                         go_simp
                         obtain ⟨V2, hV2⟩ : ∃ V2, ((V.setCell ⟨p7, 0, none⟩ (.int .i64 (dk : Nat))).setCell ⟨p7, 1, none⟩ (.int .i64 (dx : Nat))).setCell ⟨p7, 2, none⟩ (.int .i64 (db : Nat)) = V2 := ⟨_, rfl⟩
                         rw [hV2]
                         have L2 : Hid (Below wt.heap.size wt V2 ∧ PieB V2 p7 (dk, dx, db) ∧ PieB V2 p6 (lk, lx, lb)) := by rw [← hV2]; exact stored_piece2 L1.out.1 L1.out.2.2 Q6.out.2 L1.out.2.1 NE.out
                         clear hV2 a0 a1 a2 b0 b1 b2 hHeld
                         refine hK.out _ _ (tokB_keep HTB.out L2.out.1) (fun hHeld => ?_)
                         clear hK hHeld
                         refine wpAnyH_done (by kernel_rfl) ?_ _
                         go_wp2_with fail
                         go_meet
                         case rel => exact ⟨p6, p7, rfl, rfl, L2.out.1, P6.out.2, Q6.out.2, L2.out.2.2.cells2.1, L2.out.2.2.cells2.2, L2.out.2.1.cells2.1, L2.out.2.1.cells2.2⟩
                       exact AllReadyH.nil
                     exact AllReadyH.nil
                   refine AllReadyH.cons rfl (fun K hK => ?_) ?_
                   · skip
                     go_simp
                     obtain ⟨hP, hb⟩ := made_piece v1
                     obtain ⟨v7, hV⟩ : ∃ V, v1.alloc (.cells #[.int .i64 0, .int .i64 0, .int .i64 0] 115) = V := ⟨_, rfl⟩
                     obtain ⟨p6, hp⟩ : ∃ P, v1.heap.size = P := ⟨_, rfl⟩
                     rw [hV] at hP hb ⊢
                     rw [hp] at hP ⊢
                     have B7 : Hid (Below wt.heap.size wt v7) := below_call B1.out hb
                     have P7 : Hid (NewP v7 p6 ∧ wt.heap.size ≤ p6) := ⟨hP, by rw [← hp]; exact B1.out.size⟩
                     clear hb hP hV hp hHeld
                     refine hK.out _ _ (tokB_keep HTB.out B7.out) (fun hHeld => ?_)
                     clear hK
                     refine wpAnyH_ready (rs := [7, 9]) (by kernel_rfl) (by simp) ?_
                     refine AllReadyH.cons rfl (fun K hK => ?_) ?_
                     · skip
                       go_simp
                       refine (HDP.out _ _ (by first | exact HNV.out.2 | rfl)).mono ?_
                       rintro e v8 ⟨he, hb⟩
                       subst he
                       have B8 : Hid (Below wt.heap.size wt v8) := below_call B7.out hb
                       have P8 : Hid (NewP v8 p6 ∧ wt.heap.size ≤ p6) := ⟨P7.out.1.keep hb, P7.out.2⟩
                       clear hb hHeld
                       go_simp
                       refine hK.out _ _ (tokB_keep HTB.out B8.out) (fun hHeld => ?_)
                       clear hK
                       refine wpAnyH_ready (rs := [9]) (by kernel_rfl) (by simp) ?_
                       refine AllReadyH.cons rfl (fun K hK => ?_) ?_
                       · skip
                         go_simp
                         obtain ⟨hP, hb⟩ := made_piece v8
                         obtain ⟨v9, hV⟩ : ∃ V, v8.alloc (.cells #[.int .i64 0, .int .i64 0, .int .i64 0] 115) = V := ⟨_, rfl⟩
                         obtain ⟨p7, hp⟩ : ∃ P, v8.heap.size = P := ⟨_, rfl⟩
                         rw [hV] at hP hb ⊢
                         rw [hp] at hP ⊢
                         have B9 : Hid (Below wt.heap.size wt v9) := below_call B8.out hb
                         have Q9 : Hid (NewP v9 p7 ∧ wt.heap.size ≤ p7) := ⟨hP, by rw [← hp]; exact B8.out.size⟩
                         have P9 : Hid (NewP v9 p6 ∧ wt.heap.size ≤ p6) := ⟨P8.out.1.keep hb, P8.out.2⟩
                         have NE : Hid (p6 ≠ p7) := by have h9 := lt_of_block P8.out.1; rw [hp] at h9; exact fun h => by omega
                         clear hb hP hV hp hHeld
                         refine hK.out _ _ (tokB_keep HTB.out B9.out) (fun hHeld => ?_)
                         clear hK
                         obtain ⟨⟨a0, a1, a2⟩, b0, b1, b2⟩ := P9.out.1.cells
                         refine wpAnyH_ready (rs := [10]) (by kernel_rfl) (by simp) ?_
                         refine AllReadyH.cons rfl (fun K hK => ?_) AllReadyH.nil
                         go_simp
                         obtain ⟨V, hV⟩ : ∃ V, ((v9.setCell ⟨p6, 0, none⟩ (.int .i64 (lk : Nat))).setCell ⟨p6, 1, none⟩ (.int .i64 (lx : Nat))).setCell ⟨p6, 2, none⟩ (.int .i64 (lb : Nat)) = V := ⟨_, rfl⟩
                         rw [hV]
                         have L1 : Hid (Below wt.heap.size wt V ∧ PieB V p6 (lk, lx, lb) ∧ NewP V p7) := by rw [← hV]; exact stored_piece B9.out P9.out.1 P9.out.2 Q9.out.1 NE.out
                         clear hV a0 a1 a2 b0 b1 b2 hHeld
                         refine hK.out _ _ (tokB_keep HTB.out L1.out.1) (fun hHeld => ?_)
                         clear hK
                         obtain ⟨⟨a0, a1, a2⟩, b0, b1, b2⟩ := L1.out.2.2.cells
                         refine wpAnyH_ready (rs := [11]) (by kernel_rfl) (by simp) ?_
                         refine AllReadyH.cons rfl (fun K hK => ?_) AllReadyH.nil
                         go_simp
                         obtain ⟨V2, hV2⟩ : ∃ V2, ((V.setCell ⟨p7, 0, none⟩ (.int .i64 (dk : Nat))).setCell ⟨p7, 1, none⟩ (.int .i64 (dx : Nat))).setCell ⟨p7, 2, none⟩ (.int .i64 (db : Nat)) = V2 := ⟨_, rfl⟩
                         rw [hV2]
                         have L2 : Hid (Below wt.heap.size wt V2 ∧ PieB V2 p7 (dk, dx, db) ∧ PieB V2 p6 (lk, lx, lb)) := by rw [← hV2]; exact stored_piece2 L1.out.1 L1.out.2.2 Q9.out.2 L1.out.2.1 NE.out
                         clear hV2 a0 a1 a2 b0 b1 b2 hHeld
                         refine hK.out _ _ (tokB_keep HTB.out L2.out.1) (fun hHeld => ?_)
                         clear hK hHeld
                         refine wpAnyH_done (by kernel_rfl) ?_ _
                         go_wp2_with fail
                         go_meet
                         case rel => exact ⟨p6, p7, rfl, rfl, L2.out.1, P9.out.2, Q9.out.2, L2.out.2.2.cells2.1, L2.out.2.2.cells2.2, L2.out.2.1.cells2.1, L2.out.2.1.cells2.2⟩
                       exact AllReadyH.nil
                     refine AllReadyH.cons rfl (fun K hK => ?_) ?_
                     · skip
                       go_simp
                       obtain ⟨hP, hb⟩ := made_piece v7
                       obtain ⟨v10, hV⟩ : ∃ V, v7.alloc (.cells #[.int .i64 0, .int .i64 0, .int .i64 0] 115) = V := ⟨_, rfl⟩
                       obtain ⟨p7, hp⟩ : ∃ P, v7.heap.size = P := ⟨_, rfl⟩
                       rw [hV] at hP hb ⊢
                       rw [hp] at hP ⊢
                       have B10 : Hid (Below wt.heap.size wt v10) := below_call B7.out hb
                       have Q10 : Hid (NewP v10 p7 ∧ wt.heap.size ≤ p7) := ⟨hP, by rw [← hp]; exact B7.out.size⟩
                       have P10 : Hid (NewP v10 p6 ∧ wt.heap.size ≤ p6) := ⟨P7.out.1.keep hb, P7.out.2⟩
                       have NE : Hid (p6 ≠ p7) := by have h9 := lt_of_block P7.out.1; rw [hp] at h9; exact fun h => by omega
                       clear hb hP hV hp hHeld
                       refine hK.out _ _ (tokB_keep HTB.out B10.out) (fun hHeld => ?_)
                       clear hK
                       refine wpAnyH_ready (rs := [7]) (by kernel_rfl) (by simp) ?_
                       refine AllReadyH.cons rfl (fun K hK => ?_) ?_
                       · skip
                         go_simp
                         refine (HDP.out _ _ (by first | exact HNV.out.2 | rfl)).mono ?_
                         rintro e v11 ⟨he, hb⟩
                         subst he
                         have B11 : Hid (Below wt.heap.size wt v11) := below_call B10.out hb
                         have P11 : Hid (NewP v11 p6 ∧ wt.heap.size ≤ p6) := ⟨P10.out.1.keep hb, P10.out.2⟩
                         have Q11 : Hid (NewP v11 p7 ∧ wt.heap.size ≤ p7) := ⟨Q10.out.1.keep hb, Q10.out.2⟩
                         clear hb hHeld
                         go_simp
                         refine hK.out _ _ (tokB_keep HTB.out B11.out) (fun hHeld => ?_)
                         clear hK
                         obtain ⟨⟨a0, a1, a2⟩, b0, b1, b2⟩ := P11.out.1.cells
                         refine wpAnyH_ready (rs := [10]) (by kernel_rfl) (by simp) ?_
                         refine AllReadyH.cons rfl (fun K hK => ?_) AllReadyH.nil
                         go_simp
                         obtain ⟨V, hV⟩ : ∃ V, ((v11.setCell ⟨p6, 0, none⟩ (.int .i64 (lk : Nat))).setCell ⟨p6, 1, none⟩ (.int .i64 (lx : Nat))).setCell ⟨p6, 2, none⟩ (.int .i64 (lb : Nat)) = V := ⟨_, rfl⟩
                         rw [hV]
                         have L1 : Hid (Below wt.heap.size wt V ∧ PieB V p6 (lk, lx, lb) ∧ NewP V p7) := by rw [← hV]; exact stored_piece B11.out P11.out.1 P11.out.2 Q11.out.1 NE.out
                         clear hV a0 a1 a2 b0 b1 b2 hHeld
                         refine hK.out _ _ (tokB_keep HTB.out L1.out.1) (fun hHeld => ?_)
                         clear hK
                         obtain ⟨⟨a0, a1, a2⟩, b0, b1, b2⟩ := L1.out.2.2.cells
                         refine wpAnyH_ready (rs := [11]) (by kernel_rfl) (by simp) ?_
                         refine AllReadyH.cons rfl (fun K hK => ?_) AllReadyH.nil
                         go_simp
                         obtain ⟨V2, hV2⟩ : ∃ V2, ((V.setCell ⟨p7, 0, none⟩ (.int .i64 (dk : Nat))).setCell ⟨p7, 1, none⟩ (.int .i64 (dx : Nat))).setCell ⟨p7, 2, none⟩ (.int .i64 (db : Nat)) = V2 := ⟨_, rfl⟩
                         rw [hV2]
                         have L2 : Hid (Below wt.heap.size wt V2 ∧ PieB V2 p7 (dk, dx, db) ∧ PieB V2 p6 (lk, lx, lb)) := by rw [← hV2]; exact stored_piece2 L1.out.1 L1.out.2.2 Q11.out.2 L1.out.2.1 NE.out
                         clear hV2 a0 a1 a2 b0 b1 b2 hHeld
                         refine hK.out _ _ (tokB_keep HTB.out L2.out.1) (fun hHeld => ?_)
                         clear hK hHeld
                         refine wpAnyH_done (by kernel_rfl) ?_ _
                         go_wp2_with fail
                         go_meet
                         case rel => exact ⟨p6, p7, rfl, rfl, L2.out.1, P11.out.2, Q11.out.2, L2.out.2.2.cells2.1, L2.out.2.2.cells2.2, L2.out.2.1.cells2.1, L2.out.2.1.cells2.2⟩
                       exact AllReadyH.nil
                     exact AllReadyH.nil
                   refine AllReadyH.cons rfl (fun K hK => ?_) ?_
                   · skip
                     go_simp
                     obtain ⟨hP, hb⟩ := made_piece v1
                     obtain ⟨v12, hV⟩ : ∃ V, v1.alloc (.cells #[.int .i64 0, .int .i64 0, .int .i64 0] 115) = V := ⟨_, rfl⟩
                     obtain ⟨p7, hp⟩ : ∃ P, v1.heap.size = P := ⟨_, rfl⟩
                     rw [hV] at hP hb ⊢
                     rw [hp] at hP ⊢
                     have B12 : Hid (Below wt.heap.size wt v12) := below_call B1.out hb
                     have Q12 : Hid (NewP v12 p7 ∧ wt.heap.size ≤ p7) := ⟨hP, by rw [← hp]; exact B1.out.size⟩
                     clear hb hP hV hp hHeld
                     refine hK.out _ _ (tokB_keep HTB.out B12.out) (fun hHeld => ?_)
                     clear hK
                     refine wpAnyH_ready (rs := [7, 8]) (by kernel_rfl) (by simp) ?_
                     refine AllReadyH.cons rfl (fun K hK => ?_) ?_
                     · skip
                       go_simp
                       refine (HDP.out _ _ (by first | exact HNV.out.2 | rfl)).mono ?_
                       rintro e v13 ⟨he, hb⟩
                       subst he
                       have B13 : Hid (Below wt.heap.size wt v13) := below_call B12.out hb
                       have Q13 : Hid (NewP v13 p7 ∧ wt.heap.size ≤ p7) := ⟨Q12.out.1.keep hb, Q12.out.2⟩
                       clear hb hHeld
                       go_simp
                       refine hK.out _ _ (tokB_keep HTB.out B13.out) (fun hHeld => ?_)
                       clear hK
                       refine wpAnyH_ready (rs := [8]) (by kernel_rfl) (by simp) ?_
                       refine AllReadyH.cons rfl (fun K hK => ?_) ?_
                       · skip
                         go_simp
                         obtain ⟨hP, hb⟩ := made_piece v13
                         obtain ⟨v14, hV⟩ : ∃ V, v13.alloc (.cells #[.int .i64 0, .int .i64 0, .int .i64 0] 115) = V := ⟨_, rfl⟩
                         obtain ⟨p6, hp⟩ : ∃ P, v13.heap.size = P := ⟨_, rfl⟩
                         rw [hV] at hP hb ⊢
                         rw [hp] at hP ⊢
                         have B14 : Hid (Below wt.heap.size wt v14) := below_call B13.out hb
                         have P14 : Hid (NewP v14 p6 ∧ wt.heap.size ≤ p6) := ⟨hP, by rw [← hp]; exact B13.out.size⟩
                         have Q14 : Hid (NewP v14 p7 ∧ wt.heap.size ≤ p7) := ⟨Q13.out.1.keep hb, Q13.out.2⟩
                         have NE : Hid (p6 ≠ p7) := by have h9 := lt_of_block Q13.out.1; rw [hp] at h9; exact fun h => by omega
                         clear hb hP hV hp hHeld
                         refine hK.out _ _ (tokB_keep HTB.out B14.out) (fun hHeld => ?_)
                         clear hK
                         obtain ⟨⟨a0, a1, a2⟩, b0, b1, b2⟩ := P14.out.1.cells
                         refine wpAnyH_ready (rs := [10]) (by kernel_rfl) (by simp) ?_
                         refine AllReadyH.cons rfl (fun K hK => ?_) AllReadyH.nil
                         go_simp
                         obtain ⟨V, hV⟩ : ∃ V, ((v14.setCell ⟨p6, 0, none⟩ (.int .i64 (lk : Nat))).setCell ⟨p6, 1, none⟩ (.int .i64 (lx : Nat))).setCell ⟨p6, 2, none⟩ (.int .i64 (lb : Nat)) = V := ⟨_, rfl⟩
                         rw [hV]
                         have L1 : Hid (Below wt.heap.size wt V ∧ PieB V p6 (lk, lx, lb) ∧ NewP V p7) := by rw [← hV]; exact stored_piece B14.out P14.out.1 P14.out.2 Q14.out.1 NE.out
                         clear hV a0 a1 a2 b0 b1 b2 hHeld
                         refine hK.out _ _ (tokB_keep HTB.out L1.out.1) (fun hHeld => ?_)
                         clear hK
                         obtain ⟨⟨a0, a1, a2⟩, b0, b1, b2⟩ := L1.out.2.2.cells
                         refine wpAnyH_ready (rs := [11]) (by kernel_rfl) (by simp) ?_
                         refine AllReadyH.cons rfl (fun K hK => ?_) AllReadyH.nil
                         go_simp
                         obtain ⟨V2, hV2⟩ : ∃ V2, ((V.setCell ⟨p7, 0, none⟩ (.int .i64 (dk : Nat))).setCell ⟨p7, 1, none⟩ (.int .i64 (dx : Nat))).setCell ⟨p7, 2, none⟩ (.int .i64 (db : Nat)) = V2 := ⟨_, rfl⟩
                         rw [hV2]
                         have L2 : Hid (Below wt.heap.size wt V2 ∧ PieB V2 p7 (dk, dx, db) ∧ PieB V2 p6 (lk, lx, lb)) := by rw [← hV2]; exact stored_piece2 L1.out.1 L1.out.2.2 Q14.out.2 L1.out.2.1 NE.out
                         clear hV2 a0 a1 a2 b0 b1 b2 hHeld
                         refine hK.out _ _ (tokB_keep HTB.out L2.out.1) (fun hHeld => ?_)
                         clear hK hHeld
                         refine wpAnyH_done (by kernel_rfl) ?_ _
                         go_wp2_with fail
                         go_meet
                         case rel => exact ⟨p6, p7, rfl, rfl, L2.out.1, P14.out.2, Q14.out.2, L2.out.2.2.cells2.1, L2.out.2.2.cells2.2, L2.out.2.1.cells2.1, L2.out.2.1.cells2.2⟩
                       exact AllReadyH.nil
                     refine AllReadyH.cons rfl (fun K hK => ?_) ?_
                     · skip
                       go_simp
                       obtain ⟨hP, hb⟩ := made_piece v12
                       obtain ⟨v15, hV⟩ : ∃ V, v12.alloc (.cells #[.int .i64 0, .int .i64 0, .int .i64 0] 115) = V := ⟨_, rfl⟩
                       obtain ⟨p6, hp⟩ : ∃ P, v12.heap.size = P := ⟨_, rfl⟩
                       rw [hV] at hP hb ⊢
                       rw [hp] at hP ⊢
                       have B15 : Hid (Below wt.heap.size wt v15) := below_call B12.out hb
                       have P15 : Hid (NewP v15 p6 ∧ wt.heap.size ≤ p6) := ⟨hP, by rw [← hp]; exact B12.out.size⟩
                       have Q15 : Hid (NewP v15 p7 ∧ wt.heap.size ≤ p7) := ⟨Q12.out.1.keep hb, Q12.out.2⟩
                       have NE : Hid (p6 ≠ p7) := by have h9 := lt_of_block Q12.out.1; rw [hp] at h9; exact fun h => by omega
                       clear hb hP hV hp hHeld
                       refine hK.out _ _ (tokB_keep HTB.out B15.out) (fun hHeld => ?_)
                       clear hK
                       refine wpAnyH_ready (rs := [7]) (by kernel_rfl) (by simp) ?_
                       refine AllReadyH.cons rfl (fun K hK => ?_) ?_
                       · skip
                         go_simp
                         refine (HDP.out _ _ (by first | exact HNV.out.2 | rfl)).mono ?_
                         rintro e v16 ⟨he, hb⟩
                         subst he
                         have B16 : Hid (Below wt.heap.size wt v16) := below_call B15.out hb
                         have P16 : Hid (NewP v16 p6 ∧ wt.heap.size ≤ p6) := ⟨P15.out.1.keep hb, P15.out.2⟩
                         have Q16 : Hid (NewP v16 p7 ∧ wt.heap.size ≤ p7) := ⟨Q15.out.1.keep hb, Q15.out.2⟩
                         clear hb hHeld
                         go_simp
                         refine hK.out _ _ (tokB_keep HTB.out B16.out) (fun hHeld => ?_)
                         clear hK
                         obtain ⟨⟨a0, a1, a2⟩, b0, b1, b2⟩ := P16.out.1.cells
                         refine wpAnyH_ready (rs := [10]) (by kernel_rfl) (by simp) ?_
                         refine AllReadyH.cons rfl (fun K hK => ?_) AllReadyH.nil
                         go_simp
                         obtain ⟨V, hV⟩ : ∃ V, ((v16.setCell ⟨p6, 0, none⟩ (.int .i64 (lk : Nat))).setCell ⟨p6, 1, none⟩ (.int .i64 (lx : Nat))).setCell ⟨p6, 2, none⟩ (.int .i64 (lb : Nat)) = V := ⟨_, rfl⟩
                         rw [hV]
                         have L1 : Hid (Below wt.heap.size wt V ∧ PieB V p6 (lk, lx, lb) ∧ NewP V p7) := by rw [← hV]; exact stored_piece B16.out P16.out.1 P16.out.2 Q16.out.1 NE.out
                         clear hV a0 a1 a2 b0 b1 b2 hHeld
                         refine hK.out _ _ (tokB_keep HTB.out L1.out.1) (fun hHeld => ?_)
                         clear hK
                         obtain ⟨⟨a0, a1, a2⟩, b0, b1, b2⟩ := L1.out.2.2.cells
                         refine wpAnyH_ready (rs := [11]) (by kernel_rfl) (by simp) ?_
                         refine AllReadyH.cons rfl (fun K hK => ?_) AllReadyH.nil
                         go_simp
                         obtain ⟨V2, hV2⟩ : ∃ V2, ((V.setCell ⟨p7, 0, none⟩ (.int .i64 (dk : Nat))).setCell ⟨p7, 1, none⟩ (.int .i64 (dx : Nat))).setCell ⟨p7, 2, none⟩ (.int .i64 (db : Nat)) = V2 := ⟨_, rfl⟩
                         rw [hV2]
                         have L2 : Hid (Below wt.heap.size wt V2 ∧ PieB V2 p7 (dk, dx, db) ∧ PieB V2 p6 (lk, lx, lb)) := by rw [← hV2]; exact stored_piece2 L1.out.1 L1.out.2.2 Q16.out.2 L1.out.2.1 NE.out
                         clear hV2 a0 a1 a2 b0 b1 b2 hHeld
                         refine hK.out _ _ (tokB_keep HTB.out L2.out.1) (fun hHeld => ?_)
                         clear hK hHeld
                         refine wpAnyH_done (by kernel_rfl) ?_ _
                         go_wp2_with fail
                         go_meet
                         case rel => exact ⟨p6, p7, rfl, rfl, L2.out.1, P16.out.2, Q16.out.2, L2.out.2.2.cells2.1, L2.out.2.2.cells2.2, L2.out.2.1.cells2.1, L2.out.2.1.cells2.2⟩
                       exact AllReadyH.nil
                     exact AllReadyH.nil
                   exact AllReadyH.nil
                 refine AllReadyH.cons rfl (fun K hK => ?_) ?_
                 · skip
                   go_simp
                   obtain ⟨hP, hb⟩ := made_piece v0
                   obtain ⟨v17, hV⟩ : ∃ V, v0.alloc (.cells #[.int .i64 0, .int .i64 0, .int .i64 0] 115) = V := ⟨_, rfl⟩
                   obtain ⟨p6, hp⟩ : ∃ P, v0.heap.size = P := ⟨_, rfl⟩
                   rw [hV] at hP hb ⊢
                   rw [hp] at hP ⊢
                   have B17 : Hid (Below wt.heap.size wt v17) := below_call HB0.out hb
                   have P17 : Hid (NewP v17 p6 ∧ wt.heap.size ≤ p6) := ⟨hP, by rw [← hp]; exact HB0.out.size⟩
                   clear hb hP hV hp hHeld
                   refine hK.out _ _ (tokB_keep HTB.out B17.out) (fun hHeld => ?_)
                   clear hK
                   refine wpAnyH_ready (rs := [3, 9]) (by kernel_rfl) (by simp) ?_
                   refine AllReadyH.cons rfl (fun K hK => ?_) ?_
                   · skip
                     go_simp
                     refine (HLP.out _ _ (by first | exact HNV.out.1 | rfl)).mono ?_
                     rintro e v18 ⟨he, hb⟩
                     subst he
                     have B18 : Hid (Below wt.heap.size wt v18) := below_call B17.out hb
                     have P18 : Hid (NewP v18 p6 ∧ wt.heap.size ≤ p6) := ⟨P17.out.1.keep hb, P17.out.2⟩
                     clear hb hHeld
                     go_simp
                     refine hK.out _ _ (tokB_keep HTB.out B18.out) (fun hHeld => ?_)
                     clear hK
                     refine wpAnyH_ready (rs := [7, 9]) (by kernel_rfl) (by simp) ?_
                     refine AllReadyH.cons rfl (fun K hK => ?_) ?_
                     · skip
                       go_simp
                       refine (HDP.out _ _ (by first | exact HNV.out.2 | rfl)).mono ?_
                       rintro e v19 ⟨he, hb⟩
                       subst he
                       have B19 : Hid (Below wt.heap.size wt v19) := below_call B18.out hb
                       have P19 : Hid (NewP v19 p6 ∧ wt.heap.size ≤ p6) := ⟨P18.out.1.keep hb, P18.out.2⟩
                       clear hb hHeld
                       go_simp
                       refine hK.out _ _ (tokB_keep HTB.out B19.out) (fun hHeld => ?_)
                       clear hK
                       refine wpAnyH_ready (rs := [9]) (by kernel_rfl) (by simp) ?_
                       refine AllReadyH.cons rfl (fun K hK => ?_) ?_
                       · skip
                         go_simp
                         obtain ⟨hP, hb⟩ := made_piece v19
                         obtain ⟨v20, hV⟩ : ∃ V, v19.alloc (.cells #[.int .i64 0, .int .i64 0, .int .i64 0] 115) = V := ⟨_, rfl⟩
                         obtain ⟨p7, hp⟩ : ∃ P, v19.heap.size = P := ⟨_, rfl⟩
                         rw [hV] at hP hb ⊢
                         rw [hp] at hP ⊢
                         have B20 : Hid (Below wt.heap.size wt v20) := below_call B19.out hb
                         have Q20 : Hid (NewP v20 p7 ∧ wt.heap.size ≤ p7) := ⟨hP, by rw [← hp]; exact B19.out.size⟩
                         have P20 : Hid (NewP v20 p6 ∧ wt.heap.size ≤ p6) := ⟨P19.out.1.keep hb, P19.out.2⟩
                         have NE : Hid (p6 ≠ p7) := by have h9 := lt_of_block P19.out.1; rw [hp] at h9; exact fun h => by omega
                         clear hb hP hV hp hHeld
                         refine hK.out _ _ (tokB_keep HTB.out B20.out) (fun hHeld => ?_)
                         clear hK
                         obtain ⟨⟨a0, a1, a2⟩, b0, b1, b2⟩ := P20.out.1.cells
                         refine wpAnyH_ready (rs := [10]) (by kernel_rfl) (by simp) ?_
                         refine AllReadyH.cons rfl (fun K hK => ?_) AllReadyH.nil
                         go_simp
                         obtain ⟨V, hV⟩ : ∃ V, ((v20.setCell ⟨p6, 0, none⟩ (.int .i64 (lk : Nat))).setCell ⟨p6, 1, none⟩ (.int .i64 (lx : Nat))).setCell ⟨p6, 2, none⟩ (.int .i64 (lb : Nat)) = V := ⟨_, rfl⟩
                         rw [hV]
                         have L1 : Hid (Below wt.heap.size wt V ∧ PieB V p6 (lk, lx, lb) ∧ NewP V p7) := by rw [← hV]; exact stored_piece B20.out P20.out.1 P20.out.2 Q20.out.1 NE.out
                         clear hV a0 a1 a2 b0 b1 b2 hHeld
                         refine hK.out _ _ (tokB_keep HTB.out L1.out.1) (fun hHeld => ?_)
                         clear hK
                         obtain ⟨⟨a0, a1, a2⟩, b0, b1, b2⟩ := L1.out.2.2.cells
                         refine wpAnyH_ready (rs := [11]) (by kernel_rfl) (by simp) ?_
                         refine AllReadyH.cons rfl (fun K hK => ?_) AllReadyH.nil
                         go_simp
                         obtain ⟨V2, hV2⟩ : ∃ V2, ((V.setCell ⟨p7, 0, none⟩ (.int .i64 (dk : Nat))).setCell ⟨p7, 1, none⟩ (.int .i64 (dx : Nat))).setCell ⟨p7, 2, none⟩ (.int .i64 (db : Nat)) = V2 := ⟨_, rfl⟩
                         rw [hV2]
                         have L2 : Hid (Below wt.heap.size wt V2 ∧ PieB V2 p7 (dk, dx, db) ∧ PieB V2 p6 (lk, lx, lb)) := by rw [← hV2]; exact stored_piece2 L1.out.1 L1.out.2.2 Q20.out.2 L1.out.2.1 NE.out
                         clear hV2 a0 a1 a2 b0 b1 b2 hHeld
                         refine hK.out _ _ (tokB_keep HTB.out L2.out.1) (fun hHeld => ?_)
                         clear hK hHeld
                         refine wpAnyH_done (by kernel_rfl) ?_ _
                         go_wp2_with fail
                         go_meet
                         case rel => exact ⟨p6, p7, rfl, rfl, L2.out.1, P20.out.2, Q20.out.2, L2.out.2.2.cells2.1, L2.out.2.2.cells2.2, L2.out.2.1.cells2.1, L2.out.2.1.cells2.2⟩
                       exact AllReadyH.nil
                     refine AllReadyH.cons rfl (fun K hK => ?_) ?_
                     · skip
                       go_simp
                       obtain ⟨hP, hb⟩ := made_piece v18
                       obtain ⟨v21, hV⟩ : ∃ V, v18.alloc (.cells #[.int .i64 0, .int .i64 0, .int .i64 0] 115) = V := ⟨_, rfl⟩
                       obtain ⟨p7, hp⟩ : ∃ P, v18.heap.size = P := ⟨_, rfl⟩
                       rw [hV] at hP hb ⊢
                       rw [hp] at hP ⊢
                       have B21 : Hid (Below wt.heap.size wt v21) := below_call B18.out hb
                       have Q21 : Hid (NewP v21 p7 ∧ wt.heap.size ≤ p7) := ⟨hP, by rw [← hp]; exact B18.out.size⟩
                       have P21 : Hid (NewP v21 p6 ∧ wt.heap.size ≤ p6) := ⟨P18.out.1.keep hb, P18.out.2⟩
                       have NE : Hid (p6 ≠ p7) := by have h9 := lt_of_block P18.out.1; rw [hp] at h9; exact fun h => by omega
                       clear hb hP hV hp hHeld
                       refine hK.out _ _ (tokB_keep HTB.out B21.out) (fun hHeld => ?_)
                       clear hK
                       refine wpAnyH_ready (rs := [7]) (by kernel_rfl) (by simp) ?_
                       refine AllReadyH.cons rfl (fun K hK => ?_) ?_
                       · skip
                         go_simp
                         refine (HDP.out _ _ (by first | exact HNV.out.2 | rfl)).mono ?_
                         rintro e v22 ⟨he, hb⟩
                         subst he
                         have B22 : Hid (Below wt.heap.size wt v22) := below_call B21.out hb
                         have P22 : Hid (NewP v22 p6 ∧ wt.heap.size ≤ p6) := ⟨P21.out.1.keep hb, P21.out.2⟩
                         have Q22 : Hid (NewP v22 p7 ∧ wt.heap.size ≤ p7) := ⟨Q21.out.1.keep hb, Q21.out.2⟩
                         clear hb hHeld
                         go_simp
                         refine hK.out _ _ (tokB_keep HTB.out B22.out) (fun hHeld => ?_)
                         clear hK
                         obtain ⟨⟨a0, a1, a2⟩, b0, b1, b2⟩ := P22.out.1.cells
                         refine wpAnyH_ready (rs := [10]) (by kernel_rfl) (by simp) ?_
                         refine AllReadyH.cons rfl (fun K hK => ?_) AllReadyH.nil
                         go_simp
                         obtain ⟨V, hV⟩ : ∃ V, ((v22.setCell ⟨p6, 0, none⟩ (.int .i64 (lk : Nat))).setCell ⟨p6, 1, none⟩ (.int .i64 (lx : Nat))).setCell ⟨p6, 2, none⟩ (.int .i64 (lb : Nat)) = V := ⟨_, rfl⟩
                         rw [hV]
                         have L1 : Hid (Below wt.heap.size wt V ∧ PieB V p6 (lk, lx, lb) ∧ NewP V p7) := by rw [← hV]; exact stored_piece B22.out P22.out.1 P22.out.2 Q22.out.1 NE.out
                         clear hV a0 a1 a2 b0 b1 b2 hHeld
                         refine hK.out _ _ (tokB_keep HTB.out L1.out.1) (fun hHeld => ?_)
                         clear hK
                         obtain ⟨⟨a0, a1, a2⟩, b0, b1, b2⟩ := L1.out.2.2.cells
                         refine wpAnyH_ready (rs := [11]) (by kernel_rfl) (by simp) ?_
                         refine AllReadyH.cons rfl (fun K hK => ?_) AllReadyH.nil
                         go_simp
                         obtain ⟨V2, hV2⟩ : ∃ V2, ((V.setCell ⟨p7, 0, none⟩ (.int .i64 (dk : Nat))).setCell ⟨p7, 1, none⟩ (.int .i64 (dx : Nat))).setCell ⟨p7, 2, none⟩ (.int .i64 (db : Nat)) = V2 := ⟨_, rfl⟩
                         rw [hV2]
                         have L2 : Hid (Below wt.heap.size wt V2 ∧ PieB V2 p7 (dk, dx, db) ∧ PieB V2 p6 (lk, lx, lb)) := by rw [← hV2]; exact stored_piece2 L1.out.1 L1.out.2.2 Q22.out.2 L1.out.2.1 NE.out
                         clear hV2 a0 a1 a2 b0 b1 b2 hHeld
                         refine hK.out _ _ (tokB_keep HTB.out L2.out.1) (fun hHeld => ?_)
                         clear hK hHeld
                         refine wpAnyH_done (by kernel_rfl) ?_ _
                         go_wp2_with fail
                         go_meet
                         case rel => exact ⟨p6, p7, rfl, rfl, L2.out.1, P22.out.2, Q22.out.2, L2.out.2.2.cells2.1, L2.out.2.2.cells2.2, L2.out.2.1.cells2.1, L2.out.2.1.cells2.2⟩
                       exact AllReadyH.nil
                     exact AllReadyH.nil
                   refine AllReadyH.cons rfl (fun K hK => ?_) ?_
                   · skip
                     go_simp
                     obtain ⟨hP, hb⟩ := made_piece v17
                     obtain ⟨v23, hV⟩ : ∃ V, v17.alloc (.cells #[.int .i64 0, .int .i64 0, .int .i64 0] 115) = V := ⟨_, rfl⟩
                     obtain ⟨p7, hp⟩ : ∃ P, v17.heap.size = P := ⟨_, rfl⟩
                     rw [hV] at hP hb ⊢
                     rw [hp] at hP ⊢
                     have B23 : Hid (Below wt.heap.size wt v23) := below_call B17.out hb
                     have Q23 : Hid (NewP v23 p7 ∧ wt.heap.size ≤ p7) := ⟨hP, by rw [← hp]; exact B17.out.size⟩
                     have P23 : Hid (NewP v23 p6 ∧ wt.heap.size ≤ p6) := ⟨P17.out.1.keep hb, P17.out.2⟩
                     have NE : Hid (p6 ≠ p7) := by have h9 := lt_of_block P17.out.1; rw [hp] at h9; exact fun h => by omega
                     clear hb hP hV hp hHeld
                     refine hK.out _ _ (tokB_keep HTB.out B23.out) (fun hHeld => ?_)
                     clear hK
                     refine wpAnyH_ready (rs := [3]) (by kernel_rfl) (by simp) ?_
                     refine AllReadyH.cons rfl (fun K hK => ?_) ?_
                     · skip
                       go_simp
                       refine (HLP.out _ _ (by first | exact HNV.out.1 | rfl)).mono ?_
                       rintro e v24 ⟨he, hb⟩
                       subst he
                       have B24 : Hid (Below wt.heap.size wt v24) := below_call B23.out hb
                       have P24 : Hid (NewP v24 p6 ∧ wt.heap.size ≤ p6) := ⟨P23.out.1.keep hb, P23.out.2⟩
                       have Q24 : Hid (NewP v24 p7 ∧ wt.heap.size ≤ p7) := ⟨Q23.out.1.keep hb, Q23.out.2⟩
                       clear hb hHeld
                       go_simp
                       refine hK.out _ _ (tokB_keep HTB.out B24.out) (fun hHeld => ?_)
                       clear hK
                       refine wpAnyH_ready (rs := [7]) (by kernel_rfl) (by simp) ?_
                       refine AllReadyH.cons rfl (fun K hK => ?_) ?_
                       · skip
                         go_simp
                         refine (HDP.out _ _ (by first | exact HNV.out.2 | rfl)).mono ?_
                         rintro e v25 ⟨he, hb⟩
                         subst he
                         have B25 : Hid (Below wt.heap.size wt v25) := below_call B24.out hb
                         have P25 : Hid (NewP v25 p6 ∧ wt.heap.size ≤ p6) := ⟨P24.out.1.keep hb, P24.out.2⟩
                         have Q25 : Hid (NewP v25 p7 ∧ wt.heap.size ≤ p7) := ⟨Q24.out.1.keep hb, Q24.out.2⟩
                         clear hb hHeld
                         go_simp
                         refine hK.out _ _ (tokB_keep HTB.out B25.out) (fun hHeld => ?_)
                         clear hK
                         obtain ⟨⟨a0, a1, a2⟩, b0, b1, b2⟩ := P25.out.1.cells
                         refine wpAnyH_ready (rs := [10]) (by kernel_rfl) (by simp) ?_
                         refine AllReadyH.cons rfl (fun K hK => ?_) AllReadyH.nil
                         go_simp
                         obtain ⟨V, hV⟩ : ∃ V, ((v25.setCell ⟨p6, 0, none⟩ (.int .i64 (lk : Nat))).setCell ⟨p6, 1, none⟩ (.int .i64 (lx : Nat))).setCell ⟨p6, 2, none⟩ (.int .i64 (lb : Nat)) = V := ⟨_, rfl⟩
                         rw [hV]
                         have L1 : Hid (Below wt.heap.size wt V ∧ PieB V p6 (lk, lx, lb) ∧ NewP V p7) := by rw [← hV]; exact stored_piece B25.out P25.out.1 P25.out.2 Q25.out.1 NE.out
                         clear hV a0 a1 a2 b0 b1 b2 hHeld
                         refine hK.out _ _ (tokB_keep HTB.out L1.out.1) (fun hHeld => ?_)
                         clear hK
                         obtain ⟨⟨a0, a1, a2⟩, b0, b1, b2⟩ := L1.out.2.2.cells
                         refine wpAnyH_ready (rs := [11]) (by kernel_rfl) (by simp) ?_
                         refine AllReadyH.cons rfl (fun K hK => ?_) AllReadyH.nil
                         go_simp
                         obtain ⟨V2, hV2⟩ : ∃ V2, ((V.setCell ⟨p7, 0, none⟩ (.int .i64 (dk : Nat))).setCell ⟨p7, 1, none⟩ (.int .i64 (dx : Nat))).setCell ⟨p7, 2, none⟩ (.int .i64 (db : Nat)) = V2 := ⟨_, rfl⟩
                         rw [hV2]
                         have L2 : Hid (Below wt.heap.size wt V2 ∧ PieB V2 p7 (dk, dx, db) ∧ PieB V2 p6 (lk, lx, lb)) := by rw [← hV2]; exact stored_piece2 L1.out.1 L1.out.2.2 Q25.out.2 L1.out.2.1 NE.out
                         clear hV2 a0 a1 a2 b0 b1 b2 hHeld
                         refine hK.out _ _ (tokB_keep HTB.out L2.out.1) (fun hHeld => ?_)
                         clear hK hHeld
                         refine wpAnyH_done (by kernel_rfl) ?_ _
                         go_wp2_with fail
                         go_meet
                         case rel => exact ⟨p6, p7, rfl, rfl, L2.out.1, P25.out.2, Q25.out.2, L2.out.2.2.cells2.1, L2.out.2.2.cells2.2, L2.out.2.1.cells2.1, L2.out.2.1.cells2.2⟩
                       exact AllReadyH.nil
                     exact AllReadyH.nil
                   exact AllReadyH.nil
                 refine AllReadyH.cons rfl (fun K hK => ?_) ?_
                 · skip
                   go_simp
                   obtain ⟨hP, hb⟩ := made_piece v0
                   obtain ⟨v26, hV⟩ : ∃ V, v0.alloc (.cells #[.int .i64 0, .int .i64 0, .int .i64 0] 115) = V := ⟨_, rfl⟩
                   obtain ⟨p7, hp⟩ : ∃ P, v0.heap.size = P := ⟨_, rfl⟩
                   rw [hV] at hP hb ⊢
                   rw [hp] at hP ⊢
                   have B26 : Hid (Below wt.heap.size wt v26) := below_call HB0.out hb
                   have Q26 : Hid (NewP v26 p7 ∧ wt.heap.size ≤ p7) := ⟨hP, by rw [← hp]; exact HB0.out.size⟩
                   clear hb hP hV hp hHeld
                   refine hK.out _ _ (tokB_keep HTB.out B26.out) (fun hHeld => ?_)
                   clear hK
                   refine wpAnyH_ready (rs := [3, 8]) (by kernel_rfl) (by simp) ?_
                   refine AllReadyH.cons rfl (fun K hK => ?_) ?_
                   · skip
                     go_simp
                     refine (HLP.out _ _ (by first | exact HNV.out.1 | rfl)).mono ?_
                     rintro e v27 ⟨he, hb⟩
                     subst he
                     have B27 : Hid (Below wt.heap.size wt v27) := below_call B26.out hb
                     have Q27 : Hid (NewP v27 p7 ∧ wt.heap.size ≤ p7) := ⟨Q26.out.1.keep hb, Q26.out.2⟩
                     clear hb hHeld
                     go_simp
                     refine hK.out _ _ (tokB_keep HTB.out B27.out) (fun hHeld => ?_)
                     clear hK
                     refine wpAnyH_ready (rs := [7, 8]) (by kernel_rfl) (by simp) ?_
                     refine AllReadyH.cons rfl (fun K hK => ?_) ?_
                     · skip
                       go_simp
                       refine (HDP.out _ _ (by first | exact HNV.out.2 | rfl)).mono ?_
                       rintro e v28 ⟨he, hb⟩
                       subst he
                       have B28 : Hid (Below wt.heap.size wt v28) := below_call B27.out hb
                       have Q28 : Hid (NewP v28 p7 ∧ wt.heap.size ≤ p7) := ⟨Q27.out.1.keep hb, Q27.out.2⟩
                       clear hb hHeld
                       go_simp
                       refine hK.out _ _ (tokB_keep HTB.out B28.out) (fun hHeld => ?_)
                       clear hK
                       refine wpAnyH_ready (rs := [8]) (by kernel_rfl) (by simp) ?_
                       refine AllReadyH.cons rfl (fun K hK => ?_) ?_
                       · skip
                         go_simp
                         obtain ⟨hP, hb⟩ := made_piece v28
                         obtain ⟨v29, hV⟩ : ∃ V, v28.alloc (.cells #[.int .i64 0, .int .i64 0, .int .i64 0] 115) = V := ⟨_, rfl⟩
                         obtain ⟨p6, hp⟩ : ∃ P, v28.heap.size = P := ⟨_, rfl⟩
                         rw [hV] at hP hb ⊢
                         rw [hp] at hP ⊢
                         have B29 : Hid (Below wt.heap.size wt v29) := below_call B28.out hb
                         have P29 : Hid (NewP v29 p6 ∧ wt.heap.size ≤ p6) := ⟨hP, by rw [← hp]; exact B28.out.size⟩
                         have Q29 : Hid (NewP v29 p7 ∧ wt.heap.size ≤ p7) := ⟨Q28.out.1.keep hb, Q28.out.2⟩
                         have NE : Hid (p6 ≠ p7) := by have h9 := lt_of_block Q28.out.1; rw [hp] at h9; exact fun h => by omega
                         clear hb hP hV hp hHeld
                         refine hK.out _ _ (tokB_keep HTB.out B29.out) (fun hHeld => ?_)
                         clear hK
                         obtain ⟨⟨a0, a1, a2⟩, b0, b1, b2⟩ := P29.out.1.cells
                         refine wpAnyH_ready (rs := [10]) (by kernel_rfl) (by simp) ?_
                         refine AllReadyH.cons rfl (fun K hK => ?_) AllReadyH.nil
                         go_simp
                         obtain ⟨V, hV⟩ : ∃ V, ((v29.setCell ⟨p6, 0, none⟩ (.int .i64 (lk : Nat))).setCell ⟨p6, 1, none⟩ (.int .i64 (lx : Nat))).setCell ⟨p6, 2, none⟩ (.int .i64 (lb : Nat)) = V := ⟨_, rfl⟩
                         rw [hV]
                         have L1 : Hid (Below wt.heap.size wt V ∧ PieB V p6 (lk, lx, lb) ∧ NewP V p7) := by rw [← hV]; exact stored_piece B29.out P29.out.1 P29.out.2 Q29.out.1 NE.out
                         clear hV a0 a1 a2 b0 b1 b2 hHeld
                         refine hK.out _ _ (tokB_keep HTB.out L1.out.1) (fun hHeld => ?_)
                         clear hK
                         obtain ⟨⟨a0, a1, a2⟩, b0, b1, b2⟩ := L1.out.2.2.cells
                         refine wpAnyH_ready (rs := [11]) (by kernel_rfl) (by simp) ?_
                         refine AllReadyH.cons rfl (fun K hK => ?_) AllReadyH.nil
                         go_simp
                         obtain ⟨V2, hV2⟩ : ∃ V2, ((V.setCell ⟨p7, 0, none⟩ (.int .i64 (dk : Nat))).setCell ⟨p7, 1, none⟩ (.int .i64 (dx : Nat))).setCell ⟨p7, 2, none⟩ (.int .i64 (db : Nat)) = V2 := ⟨_, rfl⟩
                         rw [hV2]
                         have L2 : Hid (Below wt.heap.size wt V2 ∧ PieB V2 p7 (dk, dx, db) ∧ PieB V2 p6 (lk, lx, lb)) := by rw [← hV2]; exact stored_piece2 L1.out.1 L1.out.2.2 Q29.out.2 L1.out.2.1 NE.out
                         clear hV2 a0 a1 a2 b0 b1 b2 hHeld
                         refine hK.out _ _ (tokB_keep HTB.out L2.out.1) (fun hHeld => ?_)
                         clear hK hHeld
                         refine wpAnyH_done (by kernel_rfl) ?_ _
                         go_wp2_with fail
                         go_meet
                         case rel => exact ⟨p6, p7, rfl, rfl, L2.out.1, P29.out.2, Q29.out.2, L2.out.2.2.cells2.1, L2.out.2.2.cells2.2, L2.out.2.1.cells2.1, L2.out.2.1.cells2.2⟩
                       exact AllReadyH.nil
                     refine AllReadyH.cons rfl (fun K hK => ?_) ?_
                     · skip
                       go_simp
                       obtain ⟨hP, hb⟩ := made_piece v27
                       obtain ⟨v30, hV⟩ : ∃ V, v27.alloc (.cells #[.int .i64 0, .int .i64 0, .int .i64 0] 115) = V := ⟨_, rfl⟩
                       obtain ⟨p6, hp⟩ : ∃ P, v27.heap.size = P := ⟨_, rfl⟩
                       rw [hV] at hP hb ⊢
                       rw [hp] at hP ⊢
                       have B30 : Hid (Below wt.heap.size wt v30) := below_call B27.out hb
                       have P30 : Hid (NewP v30 p6 ∧ wt.heap.size ≤ p6) := ⟨hP, by rw [← hp]; exact B27.out.size⟩
                       have Q30 : Hid (NewP v30 p7 ∧ wt.heap.size ≤ p7) := ⟨Q27.out.1.keep hb, Q27.out.2⟩
                       have NE : Hid (p6 ≠ p7) := by have h9 := lt_of_block Q27.out.1; rw [hp] at h9; exact fun h => by omega
                       clear hb hP hV hp hHeld
                       refine hK.out _ _ (tokB_keep HTB.out B30.out) (fun hHeld => ?_)
                       clear hK
                       refine wpAnyH_ready (rs := [7]) (by kernel_rfl) (by simp) ?_
                       refine AllReadyH.cons rfl (fun K hK => ?_) ?_
                       · skip
                         go_simp
                         refine (HDP.out _ _ (by first | exact HNV.out.2 | rfl)).mono ?_
                         rintro e v31 ⟨he, hb⟩
                         subst he
                         have B31 : Hid (Below wt.heap.size wt v31) := below_call B30.out hb
                         have P31 : Hid (NewP v31 p6 ∧ wt.heap.size ≤ p6) := ⟨P30.out.1.keep hb, P30.out.2⟩
                         have Q31 : Hid (NewP v31 p7 ∧ wt.heap.size ≤ p7) := ⟨Q30.out.1.keep hb, Q30.out.2⟩
                         clear hb hHeld
                         go_simp
                         refine hK.out _ _ (tokB_keep HTB.out B31.out) (fun hHeld => ?_)
                         clear hK
                         obtain ⟨⟨a0, a1, a2⟩, b0, b1, b2⟩ := P31.out.1.cells
                         refine wpAnyH_ready (rs := [10]) (by kernel_rfl) (by simp) ?_
                         refine AllReadyH.cons rfl (fun K hK => ?_) AllReadyH.nil
                         go_simp
                         obtain ⟨V, hV⟩ : ∃ V, ((v31.setCell ⟨p6, 0, none⟩ (.int .i64 (lk : Nat))).setCell ⟨p6, 1, none⟩ (.int .i64 (lx : Nat))).setCell ⟨p6, 2, none⟩ (.int .i64 (lb : Nat)) = V := ⟨_, rfl⟩
                         rw [hV]
                         have L1 : Hid (Below wt.heap.size wt V ∧ PieB V p6 (lk, lx, lb) ∧ NewP V p7) := by rw [← hV]; exact stored_piece B31.out P31.out.1 P31.out.2 Q31.out.1 NE.out
                         clear hV a0 a1 a2 b0 b1 b2 hHeld
                         refine hK.out _ _ (tokB_keep HTB.out L1.out.1) (fun hHeld => ?_)
                         clear hK
                         obtain ⟨⟨a0, a1, a2⟩, b0, b1, b2⟩ := L1.out.2.2.cells
                         refine wpAnyH_ready (rs := [11]) (by kernel_rfl) (by simp) ?_
                         refine AllReadyH.cons rfl (fun K hK => ?_) AllReadyH.nil
                         go_simp
                         obtain ⟨V2, hV2⟩ : ∃ V2, ((V.setCell ⟨p7, 0, none⟩ (.int .i64 (dk : Nat))).setCell ⟨p7, 1, none⟩ (.int .i64 (dx : Nat))).setCell ⟨p7, 2, none⟩ (.int .i64 (db : Nat)) = V2 := ⟨_, rfl⟩
                         rw [hV2]
                         have L2 : Hid (Below wt.heap.size wt V2 ∧ PieB V2 p7 (dk, dx, db) ∧ PieB V2 p6 (lk, lx, lb)) := by rw [← hV2]; exact stored_piece2 L1.out.1 L1.out.2.2 Q31.out.2 L1.out.2.1 NE.out
                         clear hV2 a0 a1 a2 b0 b1 b2 hHeld
                         refine hK.out _ _ (tokB_keep HTB.out L2.out.1) (fun hHeld => ?_)
                         clear hK hHeld
                         refine wpAnyH_done (by kernel_rfl) ?_ _
                         go_wp2_with fail
                         go_meet
                         case rel => exact ⟨p6, p7, rfl, rfl, L2.out.1, P31.out.2, Q31.out.2, L2.out.2.2.cells2.1, L2.out.2.2.cells2.2, L2.out.2.1.cells2.1, L2.out.2.1.cells2.2⟩
                       exact AllReadyH.nil
                     exact AllReadyH.nil
                   refine AllReadyH.cons rfl (fun K hK => ?_) ?_
                   · skip
                     go_simp
                     obtain ⟨hP, hb⟩ := made_piece v26
                     obtain ⟨v32, hV⟩ : ∃ V, v26.alloc (.cells #[.int .i64 0, .int .i64 0, .int .i64 0] 115) = V := ⟨_, rfl⟩
                     obtain ⟨p6, hp⟩ : ∃ P, v26.heap.size = P := ⟨_, rfl⟩
                     rw [hV] at hP hb ⊢
                     rw [hp] at hP ⊢
                     have B32 : Hid (Below wt.heap.size wt v32) := below_call B26.out hb
                     have P32 : Hid (NewP v32 p6 ∧ wt.heap.size ≤ p6) := ⟨hP, by rw [← hp]; exact B26.out.size⟩
                     have Q32 : Hid (NewP v32 p7 ∧ wt.heap.size ≤ p7) := ⟨Q26.out.1.keep hb, Q26.out.2⟩
                     have NE : Hid (p6 ≠ p7) := by have h9 := lt_of_block Q26.out.1; rw [hp] at h9; exact fun h => by omega
                     clear hb hP hV hp hHeld
                     refine hK.out _ _ (tokB_keep HTB.out B32.out) (fun hHeld => ?_)
                     clear hK
                     refine wpAnyH_ready (rs := [3]) (by kernel_rfl) (by simp) ?_
                     refine AllReadyH.cons rfl (fun K hK => ?_) ?_
                     · skip
                       go_simp
                       refine (HLP.out _ _ (by first | exact HNV.out.1 | rfl)).mono ?_
                       rintro e v33 ⟨he, hb⟩
                       subst he
                       have B33 : Hid (Below wt.heap.size wt v33) := below_call B32.out hb
                       have P33 : Hid (NewP v33 p6 ∧ wt.heap.size ≤ p6) := ⟨P32.out.1.keep hb, P32.out.2⟩
                       have Q33 : Hid (NewP v33 p7 ∧ wt.heap.size ≤ p7) := ⟨Q32.out.1.keep hb, Q32.out.2⟩
                       clear hb hHeld
                       go_simp
                       refine hK.out _ _ (tokB_keep HTB.out B33.out) (fun hHeld => ?_)
                       clear hK
                       refine wpAnyH_ready (rs := [7]) (by kernel_rfl) (by simp) ?_
                       refine AllReadyH.cons rfl (fun K hK => ?_) ?_
                       · skip
                         go_simp
                         refine (HDP.out _ _ (by first | exact HNV.out.2 | rfl)).mono ?_
                         rintro e v34 ⟨he, hb⟩
                         subst he
                         have B34 : Hid (Below wt.heap.size wt v34) := below_call B33.out hb
                         have P34 : Hid (NewP v34 p6 ∧ wt.heap.size ≤ p6) := ⟨P33.out.1.keep hb, P33.out.2⟩
                         have Q34 : Hid (NewP v34 p7 ∧ wt.heap.size ≤ p7) := ⟨Q33.out.1.keep hb, Q33.out.2⟩
                         clear hb hHeld
                         go_simp
                         refine hK.out _ _ (tokB_keep HTB.out B34.out) (fun hHeld => ?_)
                         clear hK
                         obtain ⟨⟨a0, a1, a2⟩, b0, b1, b2⟩ := P34.out.1.cells
                         refine wpAnyH_ready (rs := [10]) (by kernel_rfl) (by simp) ?_
                         refine AllReadyH.cons rfl (fun K hK => ?_) AllReadyH.nil
                         go_simp
                         obtain ⟨V, hV⟩ : ∃ V, ((v34.setCell ⟨p6, 0, none⟩ (.int .i64 (lk : Nat))).setCell ⟨p6, 1, none⟩ (.int .i64 (lx : Nat))).setCell ⟨p6, 2, none⟩ (.int .i64 (lb : Nat)) = V := ⟨_, rfl⟩
                         rw [hV]
                         have L1 : Hid (Below wt.heap.size wt V ∧ PieB V p6 (lk, lx, lb) ∧ NewP V p7) := by rw [← hV]; exact stored_piece B34.out P34.out.1 P34.out.2 Q34.out.1 NE.out
                         clear hV a0 a1 a2 b0 b1 b2 hHeld
                         refine hK.out _ _ (tokB_keep HTB.out L1.out.1) (fun hHeld => ?_)
                         clear hK
                         obtain ⟨⟨a0, a1, a2⟩, b0, b1, b2⟩ := L1.out.2.2.cells
                         refine wpAnyH_ready (rs := [11]) (by kernel_rfl) (by simp) ?_
                         refine AllReadyH.cons rfl (fun K hK => ?_) AllReadyH.nil
                         go_simp
                         obtain ⟨V2, hV2⟩ : ∃ V2, ((V.setCell ⟨p7, 0, none⟩ (.int .i64 (dk : Nat))).setCell ⟨p7, 1, none⟩ (.int .i64 (dx : Nat))).setCell ⟨p7, 2, none⟩ (.int .i64 (db : Nat)) = V2 := ⟨_, rfl⟩
                         rw [hV2]
                         have L2 : Hid (Below wt.heap.size wt V2 ∧ PieB V2 p7 (dk, dx, db) ∧ PieB V2 p6 (lk, lx, lb)) := by rw [← hV2]; exact stored_piece2 L1.out.1 L1.out.2.2 Q34.out.2 L1.out.2.1 NE.out
                         clear hV2 a0 a1 a2 b0 b1 b2 hHeld
                         refine hK.out _ _ (tokB_keep HTB.out L2.out.1) (fun hHeld => ?_)
                         clear hK hHeld
                         refine wpAnyH_done (by kernel_rfl) ?_ _
                         go_wp2_with fail
                         go_meet
                         case rel => exact ⟨p6, p7, rfl, rfl, L2.out.1, P34.out.2, Q34.out.2, L2.out.2.2.cells2.1, L2.out.2.2.cells2.2, L2.out.2.1.cells2.1, L2.out.2.1.cells2.2⟩
                       exact AllReadyH.nil
                     exact AllReadyH.nil
                   exact AllReadyH.nil
                 exact AllReadyH.nil
              case rest =>
                obtain ⟨P6, P7, rfl, rfl, HC⟩ := hcut
                obtain ⟨hb, hl6, hl7, a0, a2, d0, d2⟩ := HC.out
                have HQ2 : Hid (CQ w U X g1 g2 (some ⟨g, off, none⟩) T A wc) := HQ.out.1.quiet hb
                have hne : g1 ≠ P6 ∧ g2 ≠ P6 ∧ g1 ≠ P7 ∧ g2 ≠ P7 := by have := HWX.out; omega
                have HNE : Hid (g1 ≠ P6 ∧ g2 ≠ P6 ∧ g1 ≠ P7 ∧ g2 ≠ P7) := hne
                clear k0 k1 k2 k3 x0 x1 x2 hb hl6 hl7 hne
                obtain ⟨k0, k1, k2, k3⟩ := HQ2.out.1.cells
                have hlk : lk < 288 := by have := HLD.out.1; omega
                have hdk : dk < 30 := HLD.out.2.2.1
                obtain ⟨e0, e1⟩ := HQ2.out.1.r1.cell (i := lk) hlk
                have hcl := cntS_le lk A
                obtain ⟨c, hc⟩ : ∃ c, cntS A lk = c := ⟨_, rfl⟩
                rw [hc] at e0 hcl
                obtain ⟨y, hy⟩ : ∃ y, c + 1 = y := ⟨_, rfl⟩
                have hyi : (c : Int) + 1 = (y : Int) := by omega
                have hyw := D5.wrapN y (by have := HFT.out.2.2.1; omega)
                have hlki : (lk : Int) < 288 := by omega
                have HY : Hid (cntS A lk + 1 = y) := by show _ = _; rw [hc, hy]
                have H1 : Hid (CN w (wc.setCell ⟨g1, lk, none⟩ (.int .i64 (y : Nat))) U X g1 g2 (fun i => if i = lk then y else cntS A i) (cntD A) (moreT A)) := HQ2.out.1.up1 lk y
                have HD0 : Hid ((wc.setCell ⟨g1, lk, none⟩ (.int .i64 (y : Nat))).cell? ⟨P7, 0, none⟩ = some (.int .i64 (dk : Nat)) ∧ (wc.setCell ⟨g1, lk, none⟩ (.int .i64 (y : Nat))).cell? ⟨P7, 2, none⟩ = some (.int .i64 (db : Nat)) ∧ (wc.setCell ⟨g1, lk, none⟩ (.int .i64 (y : Nat))).cell? ⟨P6, 2, none⟩ = some (.int .i64 (lb : Nat))) := ⟨cell_far d0 HNE.out.2.2.1, cell_far d2 HNE.out.2.2.1, cell_far a2 HNE.out.1⟩
                clear hcl hc hy hlk k1 k2 k3 d0 d2 a2 HC
                go_upto_region 9 with fail
                obtain ⟨W1, hW1⟩ : ∃ W1, wc.setCell ⟨g1, lk, none⟩ (.int .i64 (y : Nat)) = W1 := ⟨_, rfl⟩
                have HW1 : Hid (wc.setCell ⟨g1, lk, none⟩ (.int .i64 (y : Nat)) = W1) := hW1
                rw [hW1] at H1 HD0 ⊢
                clear hW1 k0 e0 e1 hyi hyw a0
                obtain ⟨k0, k1, k2, k3⟩ := H1.out.cells
                obtain ⟨d0, d2, a2⟩ := HD0.out
                obtain ⟨e0, e1⟩ := H1.out.r2.cell (i := dk) hdk
                have hcl := cntD_le dk A
                obtain ⟨c, hc⟩ : ∃ c, cntD A dk = c := ⟨_, rfl⟩
                rw [hc] at e0 hcl
                obtain ⟨z, hz⟩ : ∃ z, c + 1 = z := ⟨_, rfl⟩
                have hzi : (c : Int) + 1 = (z : Int) := by omega
                have hzw := D5.wrapN z (by have := HFT.out.2.2.1; omega)
                have hdki : (dk : Int) < 30 := by omega
                have HZ : Hid (cntD A dk + 1 = z) := by show _ = _; rw [hc, hz]
                have H2 : Hid (CN w (W1.setCell ⟨g2, dk, none⟩ (.int .i64 (z : Nat))) U X g1 g2 (fun i => if i = lk then y else cntS A i) (fun i => if i = dk then z else cntD A i) (moreT A)) := H1.out.up2 dk z
                have HD1 : Hid ((W1.setCell ⟨g2, dk, none⟩ (.int .i64 (z : Nat))).cell? ⟨P7, 2, none⟩ = some (.int .i64 (db : Nat)) ∧ (W1.setCell ⟨g2, dk, none⟩ (.int .i64 (z : Nat))).cell? ⟨P6, 2, none⟩ = some (.int .i64 (lb : Nat))) := ⟨cell_far d2 HNE.out.2.2.2, cell_far a2 HNE.out.2.1⟩
                clear hcl hc hz hdk k0 k2 k3 d2 a2 H1 HD0
                go_upto_region 10 with fail
                obtain ⟨W2, hW2⟩ : ∃ W2, W1.setCell ⟨g2, dk, none⟩ (.int .i64 (z : Nat)) = W2 := ⟨_, rfl⟩
                have HW2 : Hid (W1.setCell ⟨g2, dk, none⟩ (.int .i64 (z : Nat)) = W2) := hW2
                rw [hW2] at H2 HD1 ⊢
                clear hW2 k1 e0 e1 hzi hzw d0
                obtain ⟨k0, k1, k2, k3⟩ := H2.out.cells
                obtain ⟨d2, a2⟩ := HD1.out
                obtain ⟨mA, hmA⟩ : ∃ mA, moreT A = mA := ⟨_, rfl⟩
                have hml := moreT_le HFT.out.2.2.2
                have hAl := HFT.out.2.2.1
                obtain ⟨hlb, hdb⟩ := (⟨HLD.out.2.1, HLD.out.2.2.2⟩ : lb ≤ 5 ∧ db ≤ 13)
                rw [hmA] at k2 hml
                obtain ⟨m1, hm1⟩ : ∃ m1, lb + db = m1 := ⟨_, rfl⟩
                obtain ⟨m2, hm2⟩ : ∃ m2, mA + m1 = m2 := ⟨_, rfl⟩
                have hm1i : (lb : Int) + (db : Int) = (m1 : Int) := by omega
                have hm2i : (mA : Int) + (m1 : Int) = (m2 : Int) := by omega
                have hm1w := D5.wrapN m1 (by omega)
                have hm2w := D5.wrapN m2 (by omega)
                have HF : Hid (CQ w U X g1 g2 (some ⟨g, off, none⟩) T (T.take (i + 1)) (W2.setCell ⟨X, 2, none⟩ (.int .i64 (m2 : Nat)))) := by
                  rw [← HW2.out, ← HW1.out]
                  exact HCP.out y z m2 wc HQ2.out HY.out HZ.out (by rw [hmA, hm1, hm2])
                clear hmA hml hAl hlb hdb hm1 hm2 k0 k1 H2 HD1
                go_wp2
                exact ⟨⟨i + 1, by go_num, by omega, HF⟩, by simp [intOf]; omega⟩
          · obtain rfl : i = N := by omega
            have hlti : ¬ (i : Int) < (i : Int) := by omega
            have HE : Hid (CQ w U X g1 g2 ao T T wr) := by
              have := HR.out
              rw [← HALL.out.2.2.1, List.take_length] at this
              exact this
            go_wp2_with fail
            go_meet
            case rel => exact HE.out
    case rest =>
      have H2 : Hid (CQ w U X g1 g2 ao T T wc) := hcut.out
      clear hcut HQ0
      obtain ⟨k0, k1, k2, k3⟩ := H2.out.1.cells
      obtain ⟨e0, e1⟩ := H2.out.1.r1.cell (i := 256) (by omega)
      have hcl := cntS_le 256 T
      obtain ⟨c, hc⟩ : ∃ c, cntS T 256 = c := ⟨_, rfl⟩
      rw [hc] at e0 hcl
      obtain ⟨y, hy⟩ : ∃ y, c + 1 = y := ⟨_, rfl⟩
      have hyi : (c : Int) + 1 = (y : Int) := by omega
      have hyw := D5.wrapN y (by have := HALL.out.2.1; omega)
      have H3 : Hid (CN w (wc.setCell ⟨g1, 256, none⟩ (.int .i64 (y : Nat))) U X g1 g2 (freqS T) (cntD T) (moreT T)) := (H2.out.1.up1 256 y).congr (fun i _ => by
        unfold freqS
        by_cases e : i = 256
        · subst e; rw [if_pos rfl, if_pos rfl, hc, hy]
        · rw [if_neg e, if_neg e]; rfl) (fun _ _ => rfl)
      obtain ⟨M, hM⟩ : ∃ M, moreT T = M := ⟨_, rfl⟩
      rw [hM] at H3 k2
      have HM : Hid (moreT T = M) := hM
      clear hc hy hcl k1 k2 k3 H2 hM
      go_upto_region 13 with fail
      obtain ⟨W3, hW3⟩ : ∃ W3, wc.setCell ⟨g1, 256, none⟩ (.int .i64 (y : Nat)) = W3 := ⟨_, rfl⟩
      rw [hW3] at H3
      try rw [hW3]
      clear hW3 k0 e0 e1 hyi hyw
      obtain ⟨k0, k1, k2, k3⟩ := H3.out.cells
      have hu := H3.out.res
      have z0 : W3.cell? ⟨U, 0, none⟩ = some (.slice none 0 0) := by simp [World.cell?, hu]
      have z1 : W3.cell? ⟨U, 1, none⟩ = some (.slice none 0 0) := by simp [World.cell?, hu]
      have z2 : W3.cell? ⟨U, 2, none⟩ = some (.int .i64 0) := by simp [World.cell?, hu]
      have q0 : W3.frozen? ⟨U, 0, none⟩ = false := by simp [World.frozen?, hu]
      have q1 : W3.frozen? ⟨U, 1, none⟩ = false := by simp [World.frozen?, hu]
      have q2 : W3.frozen? ⟨U, 2, none⟩ = false := by simp [World.frozen?, hu]
      clear hu k3
      go_wp2
      try simp only [Exit.inBlock, Exit.then]
      obtain ⟨d1, d2, d3, d4⟩ := H3.out.done (.slice (some ⟨g1, 0, none⟩) 288 288) (.slice (some ⟨g2, 0, none⟩) 30 30) (.int .i64 (M : Nat))
      refine bodyPost_ret (v := .agg #[.slice (some ⟨g1, 0, none⟩) 288 288, .slice (some ⟨g2, 0, none⟩) 30 30, .int .i64 (M : Nat)]) ?_ rfl ?_
      · exact counts_ret rfl rfl rfl rfl rfl d4
      refine ⟨g1, g2, by rw [HM.out], d1, d2, ?_⟩
      first | exact d3 | (rw [hU]; exact d3)
end Go.Proofs.YtlbadjfcffoakaaDoor
