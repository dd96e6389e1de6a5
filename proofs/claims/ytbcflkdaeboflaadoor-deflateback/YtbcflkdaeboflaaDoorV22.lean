/- Layer 5: the fixed codes. -/
import Derived.Test.YtbcflkdaeboflaaDoorV21
namespace Go.Proofs.YtbcflkdaeboflaaDoor
open Go.RowKit
set_option linter.unusedVariables false
set_option maxRecDepth 20000

/-- Two rows of numbers in a struct of codes. -/
structure CS (w0 w : World) (U X g1 g2 n1 n2 : Nat) (f1 f2 : Nat → Nat) : Prop where
  res : w.heap[U]? = some (.cells #[.slice none 0 0, .slice none 0 0] 89 (0, 0))
  by_ : w.heap[X]? = some (.cells #[.slice (some ⟨g1, 0, none⟩) n1 n1, .slice (some ⟨g2, 0, none⟩) n2 n2] 89 (0, 0))
  r1 : LB w g1 n1 f1
  r2 : LB w g2 n2 f2
  ne : g1 ≠ g2
  neX : U ≠ X
  l1 : U ≤ g1
  l2 : U ≤ g2
  lX : U ≤ X
  bel : Below U w0 w
theorem made_cells (N : Nat) : madeCells #[.int .i64 0] N = lcells N (fun _ => 0) := by
  have h := made_zero (default : World) N
  unfold LB at h
  rw [heap_alloc_new] at h
  simpa using h
theorem make_ints (N : Nat) (h : N ≤ 1000) (W : World) : (Instr.makeSlice 44 (.int .i64 (N : Nat)) (.int .i64 (N : Nat))).run Tryd.prog W = .ok (.slice (some ⟨W.heap.size, 0, none⟩) N N) (W.alloc (.cells (lcells N (fun _ => 0)) 3)) := by
  rw [← made_cells]
  exact run_make_row' (P := Tryd.prog) 44 3 (.int .i64 0) 8 Tryd.underlying44 intInfo rfl .i64 .i64 N (by omega) (by omega) W
theorem four_allocs (w : World) (o0 o1 o2 o3 : Obj) : ((((w.alloc o0).alloc o1).alloc o2).alloc o3).drew.heap[w.heap.size]? = some o0 ∧ ((((w.alloc o0).alloc o1).alloc o2).alloc o3).drew.heap[w.heap.size + 1]? = some o1 ∧ ((((w.alloc o0).alloc o1).alloc o2).alloc o3).drew.heap[w.heap.size + 1 + 1]? = some o2 ∧ ((((w.alloc o0).alloc o1).alloc o2).alloc o3).drew.heap[w.heap.size + 1 + 1 + 1]? = some o3 ∧ Below w.heap.size w ((((w.alloc o0).alloc o1).alloc o2).alloc o3).drew := by
  obtain ⟨w1, e1⟩ : ∃ w1, w.alloc o0 = w1 := ⟨_, rfl⟩
  have s1 : w1.heap.size = w.heap.size + 1 := by rw [← e1]; simp
  have a1 : w1.heap[w.heap.size]? = some o0 := by rw [← e1]; exact heap_alloc_new _ _
  obtain ⟨w2, e2⟩ : ∃ w2, w1.alloc o1 = w2 := ⟨_, rfl⟩
  have s2 : w2.heap.size = w.heap.size + 1 + 1 := by rw [← e2]; simp [s1]
  have a2 : w2.heap[w.heap.size + 1]? = some o1 := by rw [← e2, ← s1]; exact heap_alloc_new _ _
  obtain ⟨w3, e3⟩ : ∃ w3, w2.alloc o2 = w3 := ⟨_, rfl⟩
  have s3 : w3.heap.size = w.heap.size + 1 + 1 + 1 := by rw [← e3]; simp [s2]
  have a3 : w3.heap[w.heap.size + 1 + 1]? = some o2 := by rw [← e3, ← s2]; exact heap_alloc_new _ _
  rw [e1, e2, e3]
  have b : Below w.heap.size w (w3.alloc o3) := by rw [← e3, ← e2, ← e1]; exact ((((Below.refl _ _).alloc (Nat.le_refl _) _).alloc (by simp) _).alloc (by simp; omega) _).alloc (by simp; omega) _
  refine ⟨?_, ?_, ?_, ?_, ⟨b.os, b.tape, b.output, b.size, b.block⟩⟩
  · show (w3.alloc o3).heap[_]? = _
    rw [heap_alloc_old _ _ (by omega), ← e3, heap_alloc_old _ _ (by omega), ← e2, heap_alloc_old _ _ (by omega)]; exact a1
  · show (w3.alloc o3).heap[_]? = _
    rw [heap_alloc_old _ _ (by omega), ← e3, heap_alloc_old _ _ (by omega)]; exact a2
  · show (w3.alloc o3).heap[_]? = _
    rw [heap_alloc_old _ _ (by omega)]; exact a3
  · show (w3.alloc o3).heap[_]? = _
    rw [← s3]; exact heap_alloc_new _ _
theorem CS.set1 {w0 w : World} {U X g1 g2 n1 n2 : Nat} {f1 f2 : Nat → Nat} {k x : Nat} (h : CS w0 w U X g1 g2 n1 n2 (upTo f1 k) f2) (hx : f1 k = x) : CS w0 (w.setCell ⟨g1, k, none⟩ (.int .i64 (x : Nat))) U X g1 g2 n1 n2 (upTo f1 (k + 1)) f2 := by
  have hne : ∀ (j : Nat) (cs : Array Value) (T : TypeId), w.heap[j]? = some (.cells cs T (0, 0)) → T ≠ 3 → (w.setCell ⟨g1, k, none⟩ (.int .i64 (x : Nat))).heap[j]? = some (.cells cs T (0, 0)) := fun j cs T hj hT => by
    rw [Below.heap_setCell _ _ _ _ (fun e => by
      have e' : j = g1 := e
      have := h.r1
      unfold LB at this
      rw [← e', hj] at this
      cases this
      exact hT rfl)]
    exact hj
  refine ⟨hne _ _ _ h.res (by decide), hne _ _ _ h.by_ (by decide), h.r1.next hx, ?_, h.ne, h.neX, h.l1, h.l2, h.lX, h.bel.trans (D5.Below.setCell' _ _ h.l1)⟩
  unfold LB
  rw [Below.heap_setCell _ _ _ _ (by exact h.ne.symm)]
  exact h.r2
theorem CS.set2 {w0 w : World} {U X g1 g2 n1 n2 : Nat} {f1 f2 : Nat → Nat} {k x : Nat} (h : CS w0 w U X g1 g2 n1 n2 f1 (upTo f2 k)) (hx : f2 k = x) : CS w0 (w.setCell ⟨g2, k, none⟩ (.int .i64 (x : Nat))) U X g1 g2 n1 n2 f1 (upTo f2 (k + 1)) := by
  have hne : ∀ (j : Nat) (cs : Array Value) (T : TypeId), w.heap[j]? = some (.cells cs T (0, 0)) → T ≠ 3 → (w.setCell ⟨g2, k, none⟩ (.int .i64 (x : Nat))).heap[j]? = some (.cells cs T (0, 0)) := fun j cs T hj hT => by
    rw [Below.heap_setCell _ _ _ _ (fun e => by
      have e' : j = g2 := e
      have := h.r2
      unfold LB at this
      rw [← e', hj] at this
      cases this
      exact hT rfl)]
    exact hj
  refine ⟨hne _ _ _ h.res (by decide), hne _ _ _ h.by_ (by decide), ?_, h.r2.next hx, h.ne, h.neX, h.l1, h.l2, h.lX, h.bel.trans (D5.Below.setCell' _ _ h.l2)⟩
  unfold LB
  rw [Below.heap_setCell _ _ _ _ (by exact h.ne)]
  exact h.r1
theorem CS.cells {w0 w : World} {U X g1 g2 n1 n2 : Nat} {f1 f2 : Nat → Nat} (h : CS w0 w U X g1 g2 n1 n2 f1 f2) : w.cell? ⟨X, 0, none⟩ = some (.slice (some ⟨g1, 0, none⟩) n1 n1) ∧ w.cell? ⟨X, 1, none⟩ = some (.slice (some ⟨g2, 0, none⟩) n2 n2) := by
  have := h.by_
  exact ⟨by simp [World.cell?, this], by simp [World.cell?, this]⟩
theorem CS.done {w0 w : World} {U X g1 g2 n1 n2 : Nat} {f1 f2 : Nat → Nat} (h : CS w0 w U X g1 g2 n1 n2 f1 f2) (a b : Value) : LB ((w.setCell ⟨U, 0, none⟩ a).setCell ⟨U, 1, none⟩ b) g1 n1 f1 ∧ LB ((w.setCell ⟨U, 0, none⟩ a).setCell ⟨U, 1, none⟩ b) g2 n2 f2 ∧ Below U w0 ((w.setCell ⟨U, 0, none⟩ a).setCell ⟨U, 1, none⟩ b) ∧ ((w.setCell ⟨U, 0, none⟩ a).setCell ⟨U, 1, none⟩ b).heap[U]? = some (.cells #[a, b] 89 (0, 0)) := by
  have hne : ∀ (g n : Nat) (f : Nat → Nat), LB w g n f → LB ((w.setCell ⟨U, 0, none⟩ a).setCell ⟨U, 1, none⟩ b) g n f := fun g n f hl => by
    have hg : g ≠ U := fun e => by
      subst e
      unfold LB at hl
      rw [h.res] at hl
      simp at hl
    unfold LB at hl ⊢
    rw [Below.heap_setCell _ _ _ _ (by exact hg), Below.heap_setCell _ _ _ _ (by exact hg)]
    exact hl
  exact ⟨hne _ _ _ h.r1, hne _ _ _ h.r2, (h.bel.trans (D5.Below.setCell' _ _ (Nat.le_refl _))).trans (D5.Below.setCell' _ _ (Nat.le_refl _)), D5.block_setCell (i := 1) (D5.block_setCell (i := 0) h.res)⟩
theorem codes_ret {fn : Func} {p : Tmp} {W : World} {U : Nat} {a b : Value} {tmps : Array Value} (ha : a.oneCell' = true) (hb : b.oneCell' = true) (hr : fn.results = #[.cell p 89]) (hp : tmps.getD p undef = .pointer (some ⟨U, 0, none⟩)) (hbk : W.heap[U]? = some (.cells #[a, b] 89 (0, 0))) : (results fn tmps).run Tryd.prog W = .ok (.agg #[a, b]) W := by
  have x0 : W.cell? ⟨U, 0, none⟩ = some a := by simp [World.cell?, hbk]
  have x1 : W.cell? ⟨U, 1, none⟩ = some b := by simp [World.cell?, hbk]
  rw [D5.results_cell hr, hp]
  go_simp
theorem fixS_list : inN fixS = (List.range 288).map fun i => (fixL i : Int) := by decide +kernel
theorem fix30_list : inN fix30 = (List.range 30).map fun i => (((fun _ => 5) i : Nat) : Int) := by decide +kernel
set_option maxHeartbeats 4000000 in
theorem fixedCodes_ok (w : World) : Calls Tryd.prog 47 #[] w fun e w' => ∃ g1 g2, e = .returned (.agg #[.slice (some ⟨g1, 0, none⟩) 288 288, .slice (some ⟨g2, 0, none⟩) 30 30]) ∧ IRow w' (some ⟨g1, 0, none⟩) (inN fixS) ∧ IRow w' (some ⟨g2, 0, none⟩) (inN fix30) ∧ Below w.heap.size w w' := by
  have hmk1 : ∀ W : World, (Instr.makeSlice 44 (.int .i64 288) (.int .i64 288)).run Tryd.prog W = .ok (.slice (some ⟨W.heap.size, 0, none⟩) 288 288) (W.alloc (.cells (lcells 288 (fun _ => 0)) 3)) := fun W => make_ints 288 (by omega) W
  have hmk2 : ∀ W : World, (Instr.makeSlice 44 (.int .i64 30) (.int .i64 30)).run Tryd.prog W = .ok (.slice (some ⟨W.heap.size, 0, none⟩) 30 30) (W.alloc (.cells (lcells 30 (fun _ => 0)) 3)) := fun W => make_ints 30 (by omega) W
  go_enter Tryd.func47, Tryd.ntmps47
  go_upto_region 1 with fail
  go_cut [1] (fun v1 wc => ∃ X g1 g2, v1 = .pointer (some ⟨X, 0, none⟩) ∧ Hid (CS w wc w.heap.size X g1 g2 288 30 (fun _ => 0) (fun _ => 0)))
  case first =>
    go_region_with fail
    all_goals
      clear hmk1 hmk2
      go_wp2_with fail
      go_meet
      case rel =>
        have h4 := four_allocs w
        first
          | exact ⟨_, w.heap.size + 1, w.heap.size + 1 + 1, rfl, ⟨(h4 _ _ _ _).1, (by first | exact (h4 _ _ _ _).2.1 | exact (h4 _ _ _ _).2.2.1 | exact (h4 _ _ _ _).2.2.2.1), (by first | exact (h4 _ _ _ _).2.1 | exact (h4 _ _ _ _).2.2.1 | exact (h4 _ _ _ _).2.2.2.1), (by first | exact (h4 _ _ _ _).2.1 | exact (h4 _ _ _ _).2.2.1 | exact (h4 _ _ _ _).2.2.2.1), by omega, by omega, by omega, by omega, by omega, (h4 _ _ _ _).2.2.2.2⟩⟩
          | exact ⟨_, w.heap.size + 1, w.heap.size + 1 + 1 + 1, rfl, ⟨(h4 _ _ _ _).1, (by first | exact (h4 _ _ _ _).2.1 | exact (h4 _ _ _ _).2.2.1 | exact (h4 _ _ _ _).2.2.2.1), (by first | exact (h4 _ _ _ _).2.1 | exact (h4 _ _ _ _).2.2.1 | exact (h4 _ _ _ _).2.2.2.1), (by first | exact (h4 _ _ _ _).2.1 | exact (h4 _ _ _ _).2.2.1 | exact (h4 _ _ _ _).2.2.2.1), by omega, by omega, by omega, by omega, by omega, (h4 _ _ _ _).2.2.2.2⟩⟩
          | exact ⟨_, w.heap.size + 1 + 1, w.heap.size + 1, rfl, ⟨(h4 _ _ _ _).1, (by first | exact (h4 _ _ _ _).2.1 | exact (h4 _ _ _ _).2.2.1 | exact (h4 _ _ _ _).2.2.2.1), (by first | exact (h4 _ _ _ _).2.1 | exact (h4 _ _ _ _).2.2.1 | exact (h4 _ _ _ _).2.2.2.1), (by first | exact (h4 _ _ _ _).2.1 | exact (h4 _ _ _ _).2.2.1 | exact (h4 _ _ _ _).2.2.2.1), by omega, by omega, by omega, by omega, by omega, (h4 _ _ _ _).2.2.2.2⟩⟩
          | exact ⟨_, w.heap.size + 1 + 1, w.heap.size + 1 + 1 + 1, rfl, ⟨(h4 _ _ _ _).1, (by first | exact (h4 _ _ _ _).2.1 | exact (h4 _ _ _ _).2.2.1 | exact (h4 _ _ _ _).2.2.2.1), (by first | exact (h4 _ _ _ _).2.1 | exact (h4 _ _ _ _).2.2.1 | exact (h4 _ _ _ _).2.2.2.1), (by first | exact (h4 _ _ _ _).2.1 | exact (h4 _ _ _ _).2.2.1 | exact (h4 _ _ _ _).2.2.2.1), by omega, by omega, by omega, by omega, by omega, (h4 _ _ _ _).2.2.2.2⟩⟩
          | exact ⟨_, w.heap.size + 1 + 1 + 1, w.heap.size + 1, rfl, ⟨(h4 _ _ _ _).1, (by first | exact (h4 _ _ _ _).2.1 | exact (h4 _ _ _ _).2.2.1 | exact (h4 _ _ _ _).2.2.2.1), (by first | exact (h4 _ _ _ _).2.1 | exact (h4 _ _ _ _).2.2.1 | exact (h4 _ _ _ _).2.2.2.1), (by first | exact (h4 _ _ _ _).2.1 | exact (h4 _ _ _ _).2.2.1 | exact (h4 _ _ _ _).2.2.2.1), by omega, by omega, by omega, by omega, by omega, (h4 _ _ _ _).2.2.2.2⟩⟩
          | exact ⟨_, w.heap.size + 1 + 1 + 1, w.heap.size + 1 + 1, rfl, ⟨(h4 _ _ _ _).1, (by first | exact (h4 _ _ _ _).2.1 | exact (h4 _ _ _ _).2.2.1 | exact (h4 _ _ _ _).2.2.2.1), (by first | exact (h4 _ _ _ _).2.1 | exact (h4 _ _ _ _).2.2.1 | exact (h4 _ _ _ _).2.2.2.1), (by first | exact (h4 _ _ _ _).2.1 | exact (h4 _ _ _ _).2.2.1 | exact (h4 _ _ _ _).2.2.2.1), by omega, by omega, by omega, by omega, by omega, (h4 _ _ _ _).2.2.2.2⟩⟩
  case rest =>
    obtain ⟨X, g1, g2, rfl, HS⟩ := hcut
    obtain ⟨U, hU⟩ : ∃ U, w.heap.size = U := ⟨_, rfl⟩
    rw [hU] at HS ⊢
    clear hmk1 hmk2
    obtain ⟨x0, x1⟩ := HS.out.cells
    go_upto_block 0 with fail
    go_cut [] (fun wd => Hid (CS w wd U X g1 g2 288 30 fixL (fun _ => 0)))
    case first =>
      as_aux_lemma =>
        go_wp2_with fail
        go_loopw [10] (fun v10 wr => ∃ i : Nat, v10 = .int .i64 (i : Nat) ∧ i ≤ 288 ∧ Hid (CS w wr U X g1 g2 288 30 (upTo fixL i) (fun _ => 0))) (fun v10 _ => 288 - (intOf v10).toNat)
        case atStart => exact ⟨0, rfl, by omega, ⟨HS.out.res, HS.out.by_, HS.out.r1.zero, HS.out.r2, HS.out.ne, HS.out.neX, HS.out.l1, HS.out.l2, HS.out.lX, HS.out.bel⟩⟩
        case round =>
          obtain ⟨i, rfl, hi, HR⟩ := hrel
          clear x0 x1
          obtain ⟨x0, x1⟩ := HR.out.cells
          by_cases hlt : i < 288
          · have hlti : (i : Int) < 288 := by omega
            obtain ⟨y0, y1⟩ := HR.out.r1.cell hlt
            by_cases c0 : i < 144
            · have c0i : (i : Int) < 144 := by omega
              have HZ : Hid (CS w (wr.setCell ⟨g1, i, none⟩ (.int .i64 (8 : Nat))) U X g1 g2 288 30 (upTo fixL (i + 1)) (fun _ => 0)) := HR.out.set1 (by unfold fixL; rw [if_pos c0])
              go_wp2
              exact ⟨⟨i + 1, by go_num, by omega, HZ⟩, by simp [intOf]; omega⟩
            · have c0i : ¬ (i : Int) < 144 := by omega
              by_cases c1 : i < 256
              · have c1i : (i : Int) < 256 := by omega
                have HZ : Hid (CS w (wr.setCell ⟨g1, i, none⟩ (.int .i64 (9 : Nat))) U X g1 g2 288 30 (upTo fixL (i + 1)) (fun _ => 0)) := HR.out.set1 (by unfold fixL; rw [if_neg c0, if_pos c1])
                go_wp2
                exact ⟨⟨i + 1, by go_num, by omega, HZ⟩, by simp [intOf]; omega⟩
              · have c1i : ¬ (i : Int) < 256 := by omega
                by_cases c2 : i < 280
                · have c2i : (i : Int) < 280 := by omega
                  have HZ : Hid (CS w (wr.setCell ⟨g1, i, none⟩ (.int .i64 (7 : Nat))) U X g1 g2 288 30 (upTo fixL (i + 1)) (fun _ => 0)) := HR.out.set1 (by unfold fixL; rw [if_neg c0, if_neg c1, if_pos c2])
                  go_wp2
                  exact ⟨⟨i + 1, by go_num, by omega, HZ⟩, by simp [intOf]; omega⟩
                · have c2i : ¬ (i : Int) < 280 := by omega
                  have HZ : Hid (CS w (wr.setCell ⟨g1, i, none⟩ (.int .i64 (8 : Nat))) U X g1 g2 288 30 (upTo fixL (i + 1)) (fun _ => 0)) := HR.out.set1 (by unfold fixL; rw [if_neg c0, if_neg c1, if_neg c2])
                  go_wp2
                  exact ⟨⟨i + 1, by go_num, by omega, HZ⟩, by simp [intOf]; omega⟩
          · obtain rfl : i = 288 := by omega
            have HE : Hid (CS w wr U X g1 g2 288 30 fixL (fun _ => 0)) := ⟨HR.out.res, HR.out.by_, HR.out.r1.all, HR.out.r2, HR.out.ne, HR.out.neX, HR.out.l1, HR.out.l2, HR.out.lX, HR.out.bel⟩
            go_wp2_with fail
            go_meet
            case rel => exact HE.out
    case rest =>
      have H2 : Hid (CS w wc U X g1 g2 288 30 fixL (fun _ => 0)) := hcut.out
      clear hcut HS x0 x1
      obtain ⟨x0, x1⟩ := H2.out.cells
      go_upto_block 3 with fail
      go_cut [] (fun wd => Hid (CS w wd U X g1 g2 288 30 fixL (fun _ => 5)))
      case first =>
        as_aux_lemma =>
          go_wp2_with fail
          go_loopw [42] (fun v42 wr => ∃ i : Nat, v42 = .int .i64 (i : Nat) ∧ i ≤ 30 ∧ Hid (CS w wr U X g1 g2 288 30 fixL (upTo (fun _ => 5) i))) (fun v42 _ => 30 - (intOf v42).toNat)
          case atStart => exact ⟨0, rfl, by omega, ⟨H2.out.res, H2.out.by_, H2.out.r1, H2.out.r2.zero, H2.out.ne, H2.out.neX, H2.out.l1, H2.out.l2, H2.out.lX, H2.out.bel⟩⟩
          case round =>
            obtain ⟨i, rfl, hi, HR⟩ := hrel
            clear x0 x1
            obtain ⟨x0, x1⟩ := HR.out.cells
            by_cases hlt : i < 30
            · have hlti : (i : Int) < 30 := by omega
              obtain ⟨y0, y1⟩ := HR.out.r2.cell hlt
              have HZ : Hid (CS w (wr.setCell ⟨g2, i, none⟩ (.int .i64 (5 : Nat))) U X g1 g2 288 30 fixL (upTo (fun _ => 5) (i + 1))) := HR.out.set2 rfl
              go_wp2
              exact ⟨⟨i + 1, by go_num, by omega, HZ⟩, by simp [intOf]; omega⟩
            · obtain rfl : i = 30 := by omega
              have HE : Hid (CS w wr U X g1 g2 288 30 fixL (fun _ => 5)) := ⟨HR.out.res, HR.out.by_, HR.out.r1, HR.out.r2.all, HR.out.ne, HR.out.neX, HR.out.l1, HR.out.l2, HR.out.lX, HR.out.bel⟩
              go_wp2_with fail
              go_meet
              case rel => exact HE.out
      case rest =>
        have H3 : Hid (CS w wc U X g1 g2 288 30 fixL (fun _ => 5)) := hcut.out
        clear hcut H2 x0 x1
        obtain ⟨x0, x1⟩ := H3.out.cells
        have hu := H3.out.res
        have z0 : wc.cell? ⟨U, 0, none⟩ = some (.slice none 0 0) := by simp [World.cell?, hu]
        have z1 : wc.cell? ⟨U, 1, none⟩ = some (.slice none 0 0) := by simp [World.cell?, hu]
        have q0 : wc.frozen? ⟨U, 0, none⟩ = false := by simp [World.frozen?, hu]
        have q1 : wc.frozen? ⟨U, 1, none⟩ = false := by simp [World.frozen?, hu]
        clear hu
        go_wp2
        try simp only [Exit.inBlock, Exit.then]
        obtain ⟨d1, d2, d3, d4⟩ := H3.out.done (.slice (some ⟨g1, 0, none⟩) 288 288) (.slice (some ⟨g2, 0, none⟩) 30 30)
        refine bodyPost_ret (v := .agg #[.slice (some ⟨g1, 0, none⟩) 288 288, .slice (some ⟨g2, 0, none⟩) 30 30]) ?_ rfl ?_
        · exact codes_ret rfl rfl rfl rfl d4
        refine ⟨g1, g2, rfl, ?_, ?_, ?_⟩
        · rw [fixS_list]; exact d1.row
        · rw [fix30_list]; exact d2.row
        · first | exact d3 | (rw [hU]; exact d3)
end Go.Proofs.YtbcflkdaeboflaaDoor
