/- Layer 5: the fixed codes. -/
/- Layer 5: blocks of the fixed code; Stored and Fixed. -/
/- Layer 5: Stored and Fixed. -/
import Derived.Test.YtlbadjfcffoakaaDoorV31
import Derived.Test.YtlbadjfcffoakaaDoorV09
namespace Go.Proofs.YtlbadjfcffoakaaDoor
open Go.RowKit
set_option linter.unusedVariables false
set_option maxRecDepth 20000

structure CS (w0 w : World) (U X g1 g2 n1 n2 : Nat) (f1 f2 : Nat → Nat) : Prop where
  res : w.heap[U]? = some (.cells #[.slice none 0 0, .slice none 0 0] 81 (0, 0))
  by_ : w.heap[X]? = some (.cells #[.slice (some ⟨g1, 0, none⟩) n1 n1, .slice (some ⟨g2, 0, none⟩) n2 n2] 81 (0, 0))
  r1 : LB w g1 n1 f1
  r2 : LB w g2 n2 f2
  ne : g1 ≠ g2
  neX : U ≠ X
  l1 : U ≤ g1
  l2 : U ≤ g2
  lX : U ≤ X
  bel : Below U w0 w
theorem made_cells (N : Nat) : madeCells #[.int .i64 0] N = lcells N (fun _ => 0) := by
  have h := made_zero (default : World) N
  unfold LB at h
  rw [heap_alloc_new] at h
  simpa using h
theorem make_ints (N : Nat) (h : N ≤ 1000) (W : World) : (Instr.makeSlice 41 (.int .i64 (N : Nat)) (.int .i64 (N : Nat))).run Tryd.prog W = .ok (.slice (some ⟨W.heap.size, 0, none⟩) N N) (W.alloc (.cells (lcells N (fun _ => 0)) 3)) := by
  rw [← made_cells]
  exact run_make_row' (P := Tryd.prog) 41 3 (.int .i64 0) 8 Tryd.underlying41 intInfo rfl .i64 .i64 N (by omega) (by omega) W
theorem four_allocs (w : World) (o0 o1 o2 o3 : Obj) : ((((w.alloc o0).alloc o1).alloc o2).alloc o3).drew.heap[w.heap.size]? = some o0 ∧ ((((w.alloc o0).alloc o1).alloc o2).alloc o3).drew.heap[w.heap.size + 1]? = some o1 ∧ ((((w.alloc o0).alloc o1).alloc o2).alloc o3).drew.heap[w.heap.size + 1 + 1]? = some o2 ∧ ((((w.alloc o0).alloc o1).alloc o2).alloc o3).drew.heap[w.heap.size + 1 + 1 + 1]? = some o3 ∧ Below w.heap.size w ((((w.alloc o0).alloc o1).alloc o2).alloc o3).drew := by
  obtain ⟨w1, e1⟩ : ∃ w1, w.alloc o0 = w1 := ⟨_, rfl⟩
  have s1 : w1.heap.size = w.heap.size + 1 := by rw [← e1]; simp
  have a1 : w1.heap[w.heap.size]? = some o0 := by rw [← e1]; exact heap_alloc_new _ _
  obtain ⟨w2, e2⟩ : ∃ w2, w1.alloc o1 = w2 := ⟨_, rfl⟩
  have s2 : w2.heap.size = w.heap.size + 1 + 1 := by rw [← e2]; simp [s1]
  have a2 : w2.heap[w.heap.size + 1]? = some o1 := by rw [← e2, ← s1]; exact heap_alloc_new _ _
  obtain ⟨w3, e3⟩ : ∃ w3, w2.alloc o2 = w3 := ⟨_, rfl⟩
  have s3 : w3.heap.size = w.heap.size + 1 + 1 + 1 := by rw [← e3]; simp [s2]
  have a3 : w3.heap[w.heap.size + 1 + 1]? = some o2 := by rw [← e3, ← s2]; exact heap_alloc_new _ _
  rw [e1, e2, e3]
  have b : Below w.heap.size w (w3.alloc o3) := by rw [← e3, ← e2, ← e1]; exact ((((Below.refl _ _).alloc (Nat.le_refl _) _).alloc (by simp) _).alloc (by simp; omega) _).alloc (by simp; omega) _
  refine ⟨?_, ?_, ?_, ?_, ⟨b.os, b.tape, b.output, b.size, b.block⟩⟩
  · show (w3.alloc o3).heap[_]? = _
    rw [heap_alloc_old _ _ (by omega), ← e3, heap_alloc_old _ _ (by omega), ← e2, heap_alloc_old _ _ (by omega)]; exact a1
  · show (w3.alloc o3).heap[_]? = _
    rw [heap_alloc_old _ _ (by omega), ← e3, heap_alloc_old _ _ (by omega)]; exact a2
  · show (w3.alloc o3).heap[_]? = _
    rw [heap_alloc_old _ _ (by omega)]; exact a3
  · show (w3.alloc o3).heap[_]? = _
    rw [← s3]; exact heap_alloc_new _ _
theorem CS.set1 {w0 w : World} {U X g1 g2 n1 n2 : Nat} {f1 f2 : Nat → Nat} {k x : Nat} (h : CS w0 w U X g1 g2 n1 n2 (upTo f1 k) f2) (hx : f1 k = x) : CS w0 (w.setCell ⟨g1, k, none⟩ (.int .i64 (x : Nat))) U X g1 g2 n1 n2 (upTo f1 (k + 1)) f2 := by
  have hne : ∀ (j : Nat) (cs : Array Value) (T : TypeId), w.heap[j]? = some (.cells cs T (0, 0)) → T ≠ 3 → (w.setCell ⟨g1, k, none⟩ (.int .i64 (x : Nat))).heap[j]? = some (.cells cs T (0, 0)) := fun j cs T hj hT => by
    rw [Below.heap_setCell _ _ _ _ (fun e => by
      have e' : j = g1 := e
      have := h.r1
      unfold LB at this
      rw [← e', hj] at this
      cases this
      exact hT rfl)]
    exact hj
  refine ⟨hne _ _ _ h.res (by decide), hne _ _ _ h.by_ (by decide), h.r1.next hx, ?_, h.ne, h.neX, h.l1, h.l2, h.lX, h.bel.trans (D5.Below.setCell' _ _ h.l1)⟩
  unfold LB
  rw [Below.heap_setCell _ _ _ _ (by exact h.ne.symm)]
  exact h.r2
theorem CS.set2 {w0 w : World} {U X g1 g2 n1 n2 : Nat} {f1 f2 : Nat → Nat} {k x : Nat} (h : CS w0 w U X g1 g2 n1 n2 f1 (upTo f2 k)) (hx : f2 k = x) : CS w0 (w.setCell ⟨g2, k, none⟩ (.int .i64 (x : Nat))) U X g1 g2 n1 n2 f1 (upTo f2 (k + 1)) := by
  have hne : ∀ (j : Nat) (cs : Array Value) (T : TypeId), w.heap[j]? = some (.cells cs T (0, 0)) → T ≠ 3 → (w.setCell ⟨g2, k, none⟩ (.int .i64 (x : Nat))).heap[j]? = some (.cells cs T (0, 0)) := fun j cs T hj hT => by
    rw [Below.heap_setCell _ _ _ _ (fun e => by
      have e' : j = g2 := e
      have := h.r2
      unfold LB at this
      rw [← e', hj] at this
      cases this
      exact hT rfl)]
    exact hj
  refine ⟨hne _ _ _ h.res (by decide), hne _ _ _ h.by_ (by decide), ?_, h.r2.next hx, h.ne, h.neX, h.l1, h.l2, h.lX, h.bel.trans (D5.Below.setCell' _ _ h.l2)⟩
  unfold LB
  rw [Below.heap_setCell _ _ _ _ (by exact h.ne)]
  exact h.r1
theorem CS.cells {w0 w : World} {U X g1 g2 n1 n2 : Nat} {f1 f2 : Nat → Nat} (h : CS w0 w U X g1 g2 n1 n2 f1 f2) : w.cell? ⟨X, 0, none⟩ = some (.slice (some ⟨g1, 0, none⟩) n1 n1) ∧ w.cell? ⟨X, 1, none⟩ = some (.slice (some ⟨g2, 0, none⟩) n2 n2) := by
  have := h.by_
  exact ⟨by simp [World.cell?, this], by simp [World.cell?, this]⟩
theorem CS.done {w0 w : World} {U X g1 g2 n1 n2 : Nat} {f1 f2 : Nat → Nat} (h : CS w0 w U X g1 g2 n1 n2 f1 f2) (a b : Value) : LB ((w.setCell ⟨U, 0, none⟩ a).setCell ⟨U, 1, none⟩ b) g1 n1 f1 ∧ LB ((w.setCell ⟨U, 0, none⟩ a).setCell ⟨U, 1, none⟩ b) g2 n2 f2 ∧ Below U w0 ((w.setCell ⟨U, 0, none⟩ a).setCell ⟨U, 1, none⟩ b) ∧ ((w.setCell ⟨U, 0, none⟩ a).setCell ⟨U, 1, none⟩ b).heap[U]? = some (.cells #[a, b] 81 (0, 0)) := by
  have hne : ∀ (g n : Nat) (f : Nat → Nat), LB w g n f → LB ((w.setCell ⟨U, 0, none⟩ a).setCell ⟨U, 1, none⟩ b) g n f := fun g n f hl => by
    have hg : g ≠ U := fun e => by
      subst e
      unfold LB at hl
      rw [h.res] at hl
      simp at hl
    unfold LB at hl ⊢
    rw [Below.heap_setCell _ _ _ _ (by exact hg), Below.heap_setCell _ _ _ _ (by exact hg)]
    exact hl
  exact ⟨hne _ _ _ h.r1, hne _ _ _ h.r2, (h.bel.trans (D5.Below.setCell' _ _ (Nat.le_refl _))).trans (D5.Below.setCell' _ _ (Nat.le_refl _)), D5.block_setCell (i := 1) (D5.block_setCell (i := 0) h.res)⟩
theorem codes_ret {fn : Func} {p : Tmp} {W : World} {U : Nat} {a b : Value} {tmps : Array Value} (ha : a.oneCell' = true) (hb : b.oneCell' = true) (hr : fn.results = #[.cell p 81]) (hp : tmps.getD p undef = .pointer (some ⟨U, 0, none⟩)) (hbk : W.heap[U]? = some (.cells #[a, b] 81 (0, 0))) : (results fn tmps).run Tryd.prog W = .ok (.agg #[a, b]) W := by
  have x0 : W.cell? ⟨U, 0, none⟩ = some a := by simp [World.cell?, hbk]
  have x1 : W.cell? ⟨U, 1, none⟩ = some b := by simp [World.cell?, hbk]
  rw [D5.results_cell hr, hp]
  go_simp
theorem fixS_list : inN fixS = (List.range 288).map fun i => (fixL i : Int) := by decide +kernel
theorem fix30_list : inN fix30 = (List.range 30).map fun i => (((fun _ => 5) i : Nat) : Int) := by decide +kernel
set_option maxHeartbeats 4000000 in
theorem fixedCodes_ok (w : World) : Calls Tryd.prog 40 #[] w fun e w' => ∃ g1 g2, e = .returned (.agg #[.slice (some ⟨g1, 0, none⟩) 288 288, .slice (some ⟨g2, 0, none⟩) 30 30]) ∧ IRow w' (some ⟨g1, 0, none⟩) (inN fixS) ∧ IRow w' (some ⟨g2, 0, none⟩) (inN fix30) ∧ Below w.heap.size w w' := by
  have hmk1 : ∀ W : World, (Instr.makeSlice 41 (.int .i64 288) (.int .i64 288)).run Tryd.prog W = .ok (.slice (some ⟨W.heap.size, 0, none⟩) 288 288) (W.alloc (.cells (lcells 288 (fun _ => 0)) 3)) := fun W => make_ints 288 (by omega) W
  have hmk2 : ∀ W : World, (Instr.makeSlice 41 (.int .i64 30) (.int .i64 30)).run Tryd.prog W = .ok (.slice (some ⟨W.heap.size, 0, none⟩) 30 30) (W.alloc (.cells (lcells 30 (fun _ => 0)) 3)) := fun W => make_ints 30 (by omega) W
  go_enter Tryd.func40, Tryd.ntmps40
  go_upto_region 1 with fail
  go_cut [1] (fun v1 wc => ∃ X g1 g2, v1 = .pointer (some ⟨X, 0, none⟩) ∧ Hid (CS w wc w.heap.size X g1 g2 288 30 (fun _ => 0) (fun _ => 0)))
  case first =>
    go_region_with fail
    all_goals
      clear hmk1 hmk2
      go_wp2_with fail
      go_meet
      case rel =>
        have h4 := four_allocs w
        first
          | exact ⟨_, w.heap.size + 1, w.heap.size + 1 + 1, rfl, ⟨(h4 _ _ _ _).1, (by first | exact (h4 _ _ _ _).2.1 | exact (h4 _ _ _ _).2.2.1 | exact (h4 _ _ _ _).2.2.2.1), (by first | exact (h4 _ _ _ _).2.1 | exact (h4 _ _ _ _).2.2.1 | exact (h4 _ _ _ _).2.2.2.1), (by first | exact (h4 _ _ _ _).2.1 | exact (h4 _ _ _ _).2.2.1 | exact (h4 _ _ _ _).2.2.2.1), by omega, by omega, by omega, by omega, by omega, (h4 _ _ _ _).2.2.2.2⟩⟩
          | exact ⟨_, w.heap.size + 1, w.heap.size + 1 + 1 + 1, rfl, ⟨(h4 _ _ _ _).1, (by first | exact (h4 _ _ _ _).2.1 | exact (h4 _ _ _ _).2.2.1 | exact (h4 _ _ _ _).2.2.2.1), (by first | exact (h4 _ _ _ _).2.1 | exact (h4 _ _ _ _).2.2.1 | exact (h4 _ _ _ _).2.2.2.1), (by first | exact (h4 _ _ _ _).2.1 | exact (h4 _ _ _ _).2.2.1 | exact (h4 _ _ _ _).2.2.2.1), by omega, by omega, by omega, by omega, by omega, (h4 _ _ _ _).2.2.2.2⟩⟩
          | exact ⟨_, w.heap.size + 1 + 1, w.heap.size + 1, rfl, ⟨(h4 _ _ _ _).1, (by first | exact (h4 _ _ _ _).2.1 | exact (h4 _ _ _ _).2.2.1 | exact (h4 _ _ _ _).2.2.2.1), (by first | exact (h4 _ _ _ _).2.1 | exact (h4 _ _ _ _).2.2.1 | exact (h4 _ _ _ _).2.2.2.1), (by first | exact (h4 _ _ _ _).2.1 | exact (h4 _ _ _ _).2.2.1 | exact (h4 _ _ _ _).2.2.2.1), by omega, by omega, by omega, by omega, by omega, (h4 _ _ _ _).2.2.2.2⟩⟩
          | exact ⟨_, w.heap.size + 1 + 1, w.heap.size + 1 + 1 + 1, rfl, ⟨(h4 _ _ _ _).1, (by first | exact (h4 _ _ _ _).2.1 | exact (h4 _ _ _ _).2.2.1 | exact (h4 _ _ _ _).2.2.2.1), (by first | exact (h4 _ _ _ _).2.1 | exact (h4 _ _ _ _).2.2.1 | exact (h4 _ _ _ _).2.2.2.1), (by first | exact (h4 _ _ _ _).2.1 | exact (h4 _ _ _ _).2.2.1 | exact (h4 _ _ _ _).2.2.2.1), by omega, by omega, by omega, by omega, by omega, (h4 _ _ _ _).2.2.2.2⟩⟩
          | exact ⟨_, w.heap.size + 1 + 1 + 1, w.heap.size + 1, rfl, ⟨(h4 _ _ _ _).1, (by first | exact (h4 _ _ _ _).2.1 | exact (h4 _ _ _ _).2.2.1 | exact (h4 _ _ _ _).2.2.2.1), (by first | exact (h4 _ _ _ _).2.1 | exact (h4 _ _ _ _).2.2.1 | exact (h4 _ _ _ _).2.2.2.1), (by first | exact (h4 _ _ _ _).2.1 | exact (h4 _ _ _ _).2.2.1 | exact (h4 _ _ _ _).2.2.2.1), by omega, by omega, by omega, by omega, by omega, (h4 _ _ _ _).2.2.2.2⟩⟩
          | exact ⟨_, w.heap.size + 1 + 1 + 1, w.heap.size + 1 + 1, rfl, ⟨(h4 _ _ _ _).1, (by first | exact (h4 _ _ _ _).2.1 | exact (h4 _ _ _ _).2.2.1 | exact (h4 _ _ _ _).2.2.2.1), (by first | exact (h4 _ _ _ _).2.1 | exact (h4 _ _ _ _).2.2.1 | exact (h4 _ _ _ _).2.2.2.1), (by first | exact (h4 _ _ _ _).2.1 | exact (h4 _ _ _ _).2.2.1 | exact (h4 _ _ _ _).2.2.2.1), by omega, by omega, by omega, by omega, by omega, (h4 _ _ _ _).2.2.2.2⟩⟩
  case rest =>
    obtain ⟨X, g1, g2, rfl, HS⟩ := hcut
    obtain ⟨U, hU⟩ : ∃ U, w.heap.size = U := ⟨_, rfl⟩
    rw [hU] at HS ⊢
    clear hmk1 hmk2
    obtain ⟨x0, x1⟩ := HS.out.cells
    go_upto_block 0 with fail
    go_cut [] (fun wd => Hid (CS w wd U X g1 g2 288 30 fixL (fun _ => 0)))
    case first =>
      as_aux_lemma =>
        go_wp2_with fail
        go_loopw [10] (fun v10 wr => ∃ i : Nat, v10 = .int .i64 (i : Nat) ∧ i ≤ 288 ∧ Hid (CS w wr U X g1 g2 288 30 (upTo fixL i) (fun _ => 0))) (fun v10 _ => 288 - (intOf v10).toNat)
        case atStart => exact ⟨0, rfl, by omega, ⟨HS.out.res, HS.out.by_, HS.out.r1.zero, HS.out.r2, HS.out.ne, HS.out.neX, HS.out.l1, HS.out.l2, HS.out.lX, HS.out.bel⟩⟩
        case round =>
          obtain ⟨i, rfl, hi, HR⟩ := hrel
          clear x0 x1
          obtain ⟨x0, x1⟩ := HR.out.cells
          by_cases hlt : i < 288
          · have hlti : (i : Int) < 288 := by omega
            obtain ⟨y0, y1⟩ := HR.out.r1.cell hlt
            by_cases c0 : i < 144
            · have c0i : (i : Int) < 144 := by omega
              have HZ : Hid (CS w (wr.setCell ⟨g1, i, none⟩ (.int .i64 (8 : Nat))) U X g1 g2 288 30 (upTo fixL (i + 1)) (fun _ => 0)) := HR.out.set1 (by unfold fixL; rw [if_pos c0])
              go_wp2
              exact ⟨⟨i + 1, by go_num, by omega, HZ⟩, by simp [intOf]; omega⟩
            · have c0i : ¬ (i : Int) < 144 := by omega
              by_cases c1 : i < 256
              · have c1i : (i : Int) < 256 := by omega
                have HZ : Hid (CS w (wr.setCell ⟨g1, i, none⟩ (.int .i64 (9 : Nat))) U X g1 g2 288 30 (upTo fixL (i + 1)) (fun _ => 0)) := HR.out.set1 (by unfold fixL; rw [if_neg c0, if_pos c1])
                go_wp2
                exact ⟨⟨i + 1, by go_num, by omega, HZ⟩, by simp [intOf]; omega⟩
              · have c1i : ¬ (i : Int) < 256 := by omega
                by_cases c2 : i < 280
                · have c2i : (i : Int) < 280 := by omega
                  have HZ : Hid (CS w (wr.setCell ⟨g1, i, none⟩ (.int .i64 (7 : Nat))) U X g1 g2 288 30 (upTo fixL (i + 1)) (fun _ => 0)) := HR.out.set1 (by unfold fixL; rw [if_neg c0, if_neg c1, if_pos c2])
                  go_wp2
                  exact ⟨⟨i + 1, by go_num, by omega, HZ⟩, by simp [intOf]; omega⟩
                · have c2i : ¬ (i : Int) < 280 := by omega
                  have HZ : Hid (CS w (wr.setCell ⟨g1, i, none⟩ (.int .i64 (8 : Nat))) U X g1 g2 288 30 (upTo fixL (i + 1)) (fun _ => 0)) := HR.out.set1 (by unfold fixL; rw [if_neg c0, if_neg c1, if_neg c2])
                  go_wp2
                  exact ⟨⟨i + 1, by go_num, by omega, HZ⟩, by simp [intOf]; omega⟩
          · obtain rfl : i = 288 := by omega
            have HE : Hid (CS w wr U X g1 g2 288 30 fixL (fun _ => 0)) := ⟨HR.out.res, HR.out.by_, HR.out.r1.all, HR.out.r2, HR.out.ne, HR.out.neX, HR.out.l1, HR.out.l2, HR.out.lX, HR.out.bel⟩
            go_wp2_with fail
            go_meet
            case rel => exact HE.out
    case rest =>
      have H2 : Hid (CS w wc U X g1 g2 288 30 fixL (fun _ => 0)) := hcut.out
      clear hcut HS x0 x1
      obtain ⟨x0, x1⟩ := H2.out.cells
      go_upto_block 3 with fail
      go_cut [] (fun wd => Hid (CS w wd U X g1 g2 288 30 fixL (fun _ => 5)))
      case first =>
        as_aux_lemma =>
          go_wp2_with fail
          go_loopw [42] (fun v42 wr => ∃ i : Nat, v42 = .int .i64 (i : Nat) ∧ i ≤ 30 ∧ Hid (CS w wr U X g1 g2 288 30 fixL (upTo (fun _ => 5) i))) (fun v42 _ => 30 - (intOf v42).toNat)
          case atStart => exact ⟨0, rfl, by omega, ⟨H2.out.res, H2.out.by_, H2.out.r1, H2.out.r2.zero, H2.out.ne, H2.out.neX, H2.out.l1, H2.out.l2, H2.out.lX, H2.out.bel⟩⟩
          case round =>
            obtain ⟨i, rfl, hi, HR⟩ := hrel
            clear x0 x1
            obtain ⟨x0, x1⟩ := HR.out.cells
            by_cases hlt : i < 30
            · have hlti : (i : Int) < 30 := by omega
              obtain ⟨y0, y1⟩ := HR.out.r2.cell hlt
              have HZ : Hid (CS w (wr.setCell ⟨g2, i, none⟩ (.int .i64 (5 : Nat))) U X g1 g2 288 30 fixL (upTo (fun _ => 5) (i + 1))) := HR.out.set2 rfl
              go_wp2
              exact ⟨⟨i + 1, by go_num, by omega, HZ⟩, by simp [intOf]; omega⟩
            · obtain rfl : i = 30 := by omega
              have HE : Hid (CS w wr U X g1 g2 288 30 fixL (fun _ => 5)) := ⟨HR.out.res, HR.out.by_, HR.out.r1, HR.out.r2.all, HR.out.ne, HR.out.neX, HR.out.l1, HR.out.l2, HR.out.lX, HR.out.bel⟩
              go_wp2_with fail
              go_meet
              case rel => exact HE.out
      case rest =>
        have H3 : Hid (CS w wc U X g1 g2 288 30 fixL (fun _ => 5)) := hcut.out
        clear hcut H2 x0 x1
        obtain ⟨x0, x1⟩ := H3.out.cells
        have hu := H3.out.res
        have z0 : wc.cell? ⟨U, 0, none⟩ = some (.slice none 0 0) := by simp [World.cell?, hu]
        have z1 : wc.cell? ⟨U, 1, none⟩ = some (.slice none 0 0) := by simp [World.cell?, hu]
        have q0 : wc.frozen? ⟨U, 0, none⟩ = false := by simp [World.frozen?, hu]
        have q1 : wc.frozen? ⟨U, 1, none⟩ = false := by simp [World.frozen?, hu]
        clear hu
        go_wp2
        try simp only [Exit.inBlock, Exit.then]
        obtain ⟨d1, d2, d3, d4⟩ := H3.out.done (.slice (some ⟨g1, 0, none⟩) 288 288) (.slice (some ⟨g2, 0, none⟩) 30 30)
        refine bodyPost_ret (v := .agg #[.slice (some ⟨g1, 0, none⟩) 288 288, .slice (some ⟨g2, 0, none⟩) 30 30]) ?_ rfl ?_
        · exact codes_ret rfl rfl rfl rfl d4
        refine ⟨g1, g2, rfl, ?_, ?_, ?_⟩
        · rw [fixS_list]; exact d1.row
        · rw [fix30_list]; exact d2.row
        · first | exact d3 | (rw [hU]; exact d3)
end Go.Proofs.YtlbadjfcffoakaaDoor
namespace Go.Proofs.YtlbadjfcffoakaaDoor
open Go.RowKit
set_option linter.unusedVariables false
set_option maxRecDepth 20000

theorem fix30_len : fix30.length = 30 := by simp [fix30]
theorem fix30_15 : ∀ i, fix30.getD i 0 ≤ 15 := fun i => by
  by_cases h : i < 30
  · exact (fix30_cod i h).2.2.1
  · rw [List.getD_eq_getElem?_getD, List.getElem?_eq_none (by rw [fix30_len]; omega)]; simp
theorem fixS_c0 : isCode0 (inN fixS) := ⟨may_inN fixS_15 (by rw [fixS_len]; omega), by rw [nsOf_inN]; exact fixS_ew⟩
theorem fix30_c0 : isCode0 (inN fix30) := ⟨may_inN fix30_15 (by rw [fix30_len]; omega), by rw [nsOf_inN]; decide +kernel⟩
theorem box_cell {w : World} {U b : Nat} (h : w.heap[U]? = some (.cells #[.pointer (some ⟨b, 0, none⟩)] 51 (0, 0))) : w.cell? ⟨U, 0, none⟩ = some (.pointer (some ⟨b, 0, none⟩)) := by simp [World.cell?, h]
structure BX (w0 : World) (b U : Nat) (O : List Nat) (ao : Option Addr) (T : List (Nat × Nat × Nat)) (w : World) : Prop where
  box : w.heap[U]? = some (.cells #[.pointer (some ⟨b, 0, none⟩)] 51 (0, 0))
  pw : PW w b O
  pf : PF b w0 w
  tok : TokR w ao T
theorem BX.step {w0 w w' : World} {b U : Nat} {O O' : List Nat} {ao : Option Addr} {T : List (Nat × Nat × Nat)} (h : BX w0 b U O ao T w) (hw : PW w' b O') (hf : PF b w w') : BX w0 b U O' ao T w' := ⟨hf.kept h.pw h.box (by decide) (by decide), hw, h.pf.trans hf, h.tok.kept hf h.pw⟩
theorem BX.quiet {w0 w w' : World} {b U : Nat} {O : List Nat} {ao : Option Addr} {T : List (Nat × Nat × Nat)} (h : BX w0 b U O ao T w) (hb : Below w.heap.size w w') : BX w0 b U O ao T w' := h.step (WS.below h.pw hb) (PF.below hb)
theorem fixedB_length {L : List Nat} {T : List (Nat × Nat × Nat)} {last : Bool} (hf : ∀ t ∈ T, Fine t) : (fixedB L T last).length ≤ L.length + 18 + 48 * T.length := by
  unfold fixedB
  have := tokBits_length (c := fixS) (d := fix30) hf (fun t h => (fix_has (hf t h)).2)
  simp only [List.length_append, headB_length, symB_length]
  have := fixS_15 256
  omega
set_option maxHeartbeats 1000000 in
theorem pfixed (b : Nat) (L : List Nat) (T : List (Nat × Nat × Nat)) (ao : Option Addr) (cp : Nat) (last : Bool) (w : World) (hT : TokR w ao T) (hTl : T.length ≤ 1048576) (hfin : ∀ t ∈ T, Fine t) (hL : L.length ≤ 1099511627000) (hw : PW w b L) :
    Calls Tryd.prog 23 #[pkV b, .slice ao T.length cp, .bool last] w fun e w' => e = .returned (.tuple #[]) ∧ PW w' b (fixedB L T last) ∧ PF b w w' := by
  obtain ⟨N, hN⟩ : ∃ N, T.length = N := ⟨_, rfl⟩
  obtain ⟨W, hW⟩ : ∃ W, w.alloc (.cells #[.pointer (some ⟨b, 0, none⟩)] 51) = W := ⟨_, rfl⟩
  have hbel : Below w.heap.size w W := by rw [← hW]; exact (Below.refl _ _).alloc (Nat.le_refl _) _
  obtain ⟨U, hU⟩ : ∃ U, w.heap.size = U := ⟨_, rfl⟩
  have hb0 : W.heap[U]? = some (.cells #[.pointer (some ⟨b, 0, none⟩)] 51 (0, 0)) := by rw [← hW, ← hU]; exact heap_alloc_new _ _
  have H1 : Hid (BX w b U L ao T W) := ⟨hb0, WS.below hw hbel, PF.below hbel, hT.below hbel⟩
  obtain ⟨L1, hL1⟩ : ∃ L1, L ++ headB 1 last = L1 := ⟨_, rfl⟩
  have n1 : L1.length = L.length + 3 := by rw [← hL1, List.length_append, headB_length]
  have HE : Hid (fixedB L T last = L1 ++ (tokBits fixS fix30 T ++ symB fixS 256)) := by show _ = _; unfold fixedB; rw [hL1]
  have HC1 : Hid (∀ _ : Unit, Calls Tryd.prog 34 #[.agg #[.pointer (some ⟨b, 0, none⟩)], .int .i64 1, .bool last] W fun e w' => e = .returned (.tuple #[]) ∧ PW w' b L1 ∧ PF b W w') := fun _ => by rw [← hL1]; exact phead b L 1 last W (by omega) (by omega) H1.out.pw
  have HC2 : Hid (∀ W', Calls Tryd.prog 40 #[] W' fun e w' => ∃ g1 g2, e = .returned (.agg #[.slice (some ⟨g1, 0, none⟩) 288 288, .slice (some ⟨g2, 0, none⟩) 30 30]) ∧ IRow w' (some ⟨g1, 0, none⟩) (inN fixS) ∧ IRow w' (some ⟨g2, 0, none⟩) (inN fix30) ∧ Below W'.heap.size W' w') := fun W' => fixedCodes_ok W'
  have HC3 : Hid (∀ W' g1 g2, BX w b U L1 ao T W' → IRow W' (some ⟨g1, 0, none⟩) (inN fixS) → IRow W' (some ⟨g2, 0, none⟩) (inN fix30) → Calls Tryd.prog 39 #[.agg #[.pointer (some ⟨b, 0, none⟩)], .slice ao N cp, .agg #[.slice (some ⟨g1, 0, none⟩) 288 288, .slice (some ⟨g2, 0, none⟩) 30 30]] W' fun e w' => e = .returned (.tuple #[]) ∧ PW w' b (L1 ++ (tokBits fixS fix30 T ++ symB fixS 256)) ∧ PF b W' w') := fun W' g1 g2 h i1 i2 => by
    have := ptokens b L1 fixS fix30 T ao (some ⟨g1, 0, none⟩) (some ⟨g2, 0, none⟩) cp 288 30 W' h.tok hTl i1 i2 fixS_c0 fix30_c0 (by rw [fixS_len]; omega) (by rw [fix30_len]; omega) (fixS_cod 256 (by omega)) hfin (fun t ht => (fix_has (hfin t ht)).2) (by omega) h.pw
    rw [fixS_len, fix30_len, hN] at this
    exact this
  have z0 := box_cell hb0
  unfold pkV
  rw [hN]
  clear hb0 hbel hw hT hL1 n1 hL hfin hTl hN
  go_enter Tryd.func23, Tryd.ntmps23
  go_wp2_with fail
  refine (HC1.out ()).mono ?_
  rintro e w1 ⟨rfl, hw1, hf1⟩
  have H2 : Hid (BX w b U L1 ao T w1) := H1.out.step hw1 hf1
  clear hw1 hf1 z0 H1 HC1
  go_upto_region 2 with fail
  have HS0 : Hid (w1.drew.cell? ⟨U, 0, none⟩ = some (.pointer (some ⟨b, 0, none⟩))) := by have h0 := box_cell H2.out.box; exact h0
  go_region_held_law (fun w' => w'.cell? ⟨U, 0, none⟩ = some (.pointer (some ⟨b, 0, none⟩)))
    (first | assumption | exact HS0.out | go_keep)
    (first | (go_at_call 40; refine (HC2.out _).mono ?_; rintro e w3 ⟨g1, g2, he3, i1, i2, hb3⟩; subst he3; have hb3' : Below w1.heap.size w1 w3 := ⟨hb3.os, hb3.tape, hb3.output, hb3.size, hb3.block⟩; have H3 : Hid (BX w b U L1 ao T w3 ∧ IRow w3 (some ⟨g1, 0, none⟩) (inN fixS) ∧ IRow w3 (some ⟨g2, 0, none⟩) (inN fix30)) := ⟨H2.out.quiet hb3', i1, i2⟩; have KS := box_cell H3.out.1.box; clear hb3 hb3' i1 i2) | (go_at_call 39; refine (HC3.out _ g1 g2 H3.out.1 H3.out.2.1 H3.out.2.2).mono ?_; rintro e w5 ⟨he5, hw5, hf5⟩; subst he5; have H5 : Hid (BX w b U (L1 ++ (tokBits fixS fix30 T ++ symB fixS 256)) ao T w5) := H3.out.1.step hw5 hf5; have KS2 := box_cell H5.out.box; clear hw5 hf5))
  clear HS0 KS KS2 H3 H2 HC2 HC3
  go_wp2
  go_end0
  rw [HE.out]
  exact ⟨rfl, H5.out.pw, H5.out.pf⟩
end Go.Proofs.YtlbadjfcffoakaaDoor
namespace Go.Proofs.YtlbadjfcffoakaaDoor
open Go.RowKit
set_option linter.unusedVariables false
set_option maxRecDepth 20000

def storedZ : Nat → List Nat → ByteArray → List Nat
  | 0, L, s => storedB L s true
  | f + 1, L, s => if 65535 < s.size then storedZ f (storedB L (s.extract 0 65535) false) (s.extract 65535 s.size) else storedB L s true
theorem ext_left {s : ByteArray} {n : Nat} (h : n ≤ s.size) : (s.extract 0 n).size = n ∧ (s.extract n s.size).size = s.size - n := by
  rw [ByteArray.size_extract, ByteArray.size_extract]; omega
theorem bytesL_split {s : ByteArray} {n : Nat} (h : n ≤ s.size) : bytesL (s.extract 0 n) ++ bytesL (s.extract n s.size) = bytesL s := by
  unfold bytesL
  rw [← List.map_append]
  congr 1
  have e1 : (s.extract 0 n).data.toList = s.data.toList.take n := by simp [ByteArray.data_extract]
  have e2 : (s.extract n s.size).data.toList = s.data.toList.drop n := by
    simp only [ByteArray.data_extract, Array.toList_extract]
    rw [List.extract_eq_take_drop]
    exact List.take_of_length_le (by simp)
  rw [e1, e2, List.take_append_drop]
theorem storedZ_rd : ∀ (f : Nat) (L l : List Nat) (s : ByteArray), s.size ≤ 65535 * f → Rd L l → ∃ L0 l0, Rd L0 l0 ∧ l0.length ≤ (l ++ bytesL s).length ∧ Blk L0 (storedZ f L s) l0 (l ++ bytesL s) 1
  | 0, L, l, s, h, hr => ⟨L, l, hr, by rw [List.length_append]; omega, stored_blk (last := true) (by omega)⟩
  | f + 1, L, l, s, h, hr => by
    unfold storedZ
    by_cases h1 : 65535 < s.size
    · rw [if_pos h1]
      obtain ⟨e1, e2⟩ := ext_left (s := s) (n := 65535) (by omega)
      have hb : Blk L (storedB L (s.extract 0 65535) false) l (l ++ bytesL (s.extract 0 65535)) 0 := stored_blk (last := false) (by omega)
      have := storedZ_rd f _ _ (s.extract 65535 s.size) (by omega) (hr.step hb (by rw [List.length_append]; omega))
      rw [List.append_assoc, bytesL_split (by omega)] at this
      exact this
    · rw [if_neg h1]
      exact ⟨L, l, hr, by rw [List.length_append]; omega, stored_blk (last := true) (by omega)⟩
theorem storedZ_end {f : Nat} {L : List Nat} {s : ByteArray} (h : ¬ 65535 < s.size) : storedZ f L s = storedB L s true := by
  cases f with
  | zero => rfl
  | succ f => unfold storedZ; rw [if_neg h]
structure BW (w0 : World) (b U : Nat) (O : List Nat) (w : World) : Prop where
  box : w.heap[U]? = some (.cells #[.pointer (some ⟨b, 0, none⟩)] 51 (0, 0))
  pw : PW w b O
  bel : Below b w0 w
theorem BW.step {w0 w w' : World} {b U : Nat} {O O' : List Nat} (h : BW w0 b U O w) (hw : PW w' b O') (hf : PF b w w') : BW w0 b U O' w' := ⟨hf.kept h.pw h.box (by decide) (by decide), hw, h.bel.trans (hf.lower (Nat.le_of_lt h.pw.lt))⟩
theorem BW.any {w0 w : World} {b U : Nat} {O : List Nat} (h : BW w0 b U O w) (w' : World) (h1 : w'.os = w.os) (h2 : w'.tape = w.tape) (h3 : w'.output = w.output) (h4 : w'.heap = w.heap) : BW w0 b U O w' :=
  have hb : Below w.heap.size w w' := ⟨h1, h2, h3, by rw [h4]; exact Nat.le_refl _, fun k _ => by rw [h4]⟩
  h.step (WS.below h.pw hb) (PF.below hb)
theorem bw_start (w : World) : BW w w.heap.size (w.heap.size + 1) [] ((w.alloc (.cells #[.pointer (some ⟨w.heap.size, 0, none⟩), .slice none 0 0, .int .i64 0] 74)).alloc (.cells #[.pointer (some ⟨w.heap.size, 0, none⟩)] 51)) := by
  have hb : Below w.heap.size w (w.alloc (.cells #[.pointer (some ⟨w.heap.size, 0, none⟩), .slice none 0 0, .int .i64 0] 74)) := (Below.refl _ _).alloc (Nat.le_refl _) _
  refine ⟨?_, WS.below (WS.new w w.heap.size) ((Below.refl _ _).alloc (Nat.le_refl _) _), hb.alloc (by simp) _⟩
  have := heap_alloc_new (w.alloc (.cells #[.pointer (some ⟨w.heap.size, 0, none⟩), .slice none 0 0, .int .i64 0] 74)) (.cells #[.pointer (some ⟨w.heap.size, 0, none⟩)] 51)
  rw [show (w.alloc (.cells #[.pointer (some ⟨w.heap.size, 0, none⟩), .slice none 0 0, .int .i64 0] 74)).heap.size = w.heap.size + 1 by simp] at this
  exact this
def strLen : Value → Nat
  | .string t => t.size
  | _ => 0
set_option maxHeartbeats 1000000 in
theorem dstored_ok (s : ByteArray) (w : World) (hs : s.size ≤ 1048576) : Calls Tryd.prog 9 #[.string s] w fun e w' => e = .returned (.string (toBA (pack (storedZ 17 [] s)))) ∧ Below w.heap.size w w' := by
  obtain ⟨Z, hZ⟩ : ∃ Z, storedZ 17 [] s = Z := ⟨_, rfl⟩
  rw [hZ]
  have HZ : Hid (storedZ 17 [] s = Z) := hZ
  have HB := bw_start w
  have HNW : Hid (∀ _ : Unit, Calls Tryd.prog 20 #[] w fun e w' => e = .returned (.pointer (some ⟨w.heap.size, 0, none⟩)) ∧ w' = w.alloc (.cells #[.pointer (some ⟨w.heap.size, 0, none⟩), .slice none 0 0, .int .i64 0] 74)) := fun _ => newWriter w
  have HBH : Hid (BW w w.heap.size (w.heap.size + 1) [] ((w.alloc (.cells #[.pointer (some ⟨w.heap.size, 0, none⟩), .slice none 0 0, .int .i64 0] 74)).alloc (.cells #[.pointer (some ⟨w.heap.size, 0, none⟩)] 51))) := HB
  clear hZ HB
  go_enter Tryd.func9, Tryd.ntmps9
  go_wp2_with fail
  refine (HNW.out ()).mono ?_
  rintro e w1 ⟨rfl, rfl⟩
  clear HNW
  go_upto_block 0 with fail
  obtain ⟨W, hW⟩ : ∃ W, ((w.alloc (.cells #[.pointer (some ⟨w.heap.size, 0, none⟩), .slice none 0 0, .int .i64 0] 74)).alloc (.cells #[.pointer (some ⟨w.heap.size, 0, none⟩)] 51)) = W := ⟨_, rfl⟩
  obtain ⟨b, hb⟩ : ∃ b, w.heap.size = b := ⟨_, rfl⟩
  obtain ⟨U, hU⟩ : ∃ U, b + 1 = U := ⟨_, rfl⟩
  rw [hW, hb, hU] at HBH
  rw [hW, hb, hU]
  clear hW hU
  have HPS : Hid (∀ W' L (T : ByteArray) (last : Bool), BW w b U L W' → T.size ≤ 65535 → L.length ≤ 8400000 → Calls Tryd.prog 21 #[.agg #[.pointer (some ⟨b, 0, none⟩)], .string T, .bool last] W' fun e w' => e = .returned (.tuple #[]) ∧ PW w' b (storedB L T last) ∧ PF b W' w') := fun W' L T last h h1 h2 => pstored b L T last W' h1 (by omega) h.pw
  go_cut [0] (fun v0 wc => ∃ S : ByteArray, v0 = .string S ∧ S.size ≤ 65535 ∧ Hid (∃ L, BW w b U L wc ∧ storedB L S true = Z ∧ L.length ≤ 8400000))
  case first =>
    as_aux_lemma =>
      go_wp2_with fail
      go_loopw [0] (fun v0 wr => ∃ S : ByteArray, v0 = .string S ∧ S.size ≤ 1048576 ∧ Hid (∃ f L, BW w b U L wr ∧ storedZ f L S = Z ∧ S.size ≤ 65535 * f ∧ L.length + 8 * S.size + 42 * f ≤ 8400000)) (fun v0 _ => strLen v0)
      case atStart => exact ⟨s, rfl, hs, 17, [], HBH.out, HZ.out, by omega, by simp; omega⟩
      case round =>
        obtain ⟨S, rfl, hS, HR⟩ := hrel
        by_cases hlt : 65535 < S.size
        · have hlti : (65535 : Int) < (S.size : Int) := by omega
          obtain ⟨f, L, h1, h2, h3, h4⟩ := HR.out
          obtain ⟨f, rfl⟩ : ∃ f', f = f' + 1 := ⟨f - 1, by omega⟩
          unfold storedZ at h2
          rw [if_pos hlt] at h2
          obtain ⟨e1, e2⟩ := ext_left (s := S) (n := 65535) (by omega)
          obtain ⟨A, hA⟩ : ∃ A, S.extract 0 65535 = A := ⟨_, rfl⟩
          obtain ⟨B, hB⟩ : ∃ B, S.extract 65535 S.size = B := ⟨_, rfl⟩
          rw [hA] at h2 e1
          rw [hB] at h2 e2
          have hln := storedB_length L A false
          have HNX : Hid (BW w b U L wr ∧ storedZ f (storedB L A false) B = Z ∧ B.size ≤ 65535 * f ∧ (storedB L A false).length + 8 * B.size + 42 * f ≤ 8400000 ∧ A.size = 65535 ∧ B.size < S.size ∧ L.length ≤ 8400000) := ⟨h1, h2, by omega, by omega, e1, by omega, by omega⟩
          have hBs : B.size ≤ 1048576 := by omega
          clear h1 h2 h3 h4 e1 e2 hln HR
          go_upto_region 3 with fail
          have HS0 : Hid (wr.drew.cell? ⟨U, 0, none⟩ = some (.pointer (some ⟨b, 0, none⟩))) := by have h0 := box_cell HNX.out.1.box; exact h0
          have HC : Hid (∀ W' v, BW w b U L W' → v = Value.string A → Calls Tryd.prog 21 #[.agg #[.pointer (some ⟨b, 0, none⟩)], v, .bool false] W' fun e w' => e = .returned (.tuple #[]) ∧ BW w b U (storedB L A false) w') := fun W' v h hv => by
            rw [hv]
            exact (HPS.out W' L A false h (by rw [HNX.out.2.2.2.2.1]; exact Nat.le_refl _) HNX.out.2.2.2.2.2.2).mono fun e w' ⟨a1, a2, a3⟩ => ⟨a1, h.step a2 a3⟩
          go_region_held_law (fun w' => w'.cell? ⟨U, 0, none⟩ = some (.pointer (some ⟨b, 0, none⟩)))
            (first | assumption | exact HS0.out | go_keep)
            (first | (go_at_call 21; refine (HC.out wr.drew _ (HNX.out.1.any wr.drew rfl rfl rfl rfl) (by first | rfl | (rw [hA]))).mono ?_; rintro e w3 ⟨he3, hw3⟩; subst he3; have H3 : Hid (BW w b U (storedB L A false) w3) := hw3; have KS := box_cell hw3.box; clear hw3))
          clear HS0 KS HC
          go_wp2
          have HZ2 : Hid (∃ f L, BW w b U L w3 ∧ storedZ f L B = Z ∧ B.size ≤ 65535 * f ∧ L.length + 8 * B.size + 42 * f ≤ 8400000) := ⟨f, storedB L A false, H3.out, HNX.out.2.1, HNX.out.2.2.1, HNX.out.2.2.2.1⟩
          exact ⟨⟨B, by first | rfl | rw [hB], hBs, HZ2⟩, by show strLen _ < strLen _; simp [strLen]; have := HNX.out.2.2.2.2.2.1; first | exact this | (rw [hB]; exact this)⟩
        · have hlti : ¬ (65535 : Int) < (S.size : Int) := by omega
          obtain ⟨f, L, h1, h2, h3, h4⟩ := HR.out
          rw [storedZ_end hlt] at h2
          have HE : Hid (∃ L, BW w b U L wr ∧ storedB L S true = Z ∧ L.length ≤ 8400000) := ⟨L, h1, h2, by omega⟩
          clear h1 h2 h3 h4 HR
          go_wp2_with fail
          go_meet
          case rel => exact ⟨S, rfl, by omega, HE.out⟩
  case rest =>
    obtain ⟨S, rfl, hS, HR⟩ := hcut
    obtain ⟨L, h1, h2, h3⟩ := HR.out
    have z0 := box_cell h1.box
    have HC : Hid (∀ _ : Unit, Calls Tryd.prog 21 #[.agg #[.pointer (some ⟨b, 0, none⟩)], .string S, .bool true] wc fun e w' => e = .returned (.tuple #[]) ∧ BW w b U Z w') := fun _ => (HPS.out wc L S true h1 hS h3).mono fun e w' ⟨a1, a2, a3⟩ => ⟨a1, by rw [← h2]; exact h1.step a2 a3⟩
    clear HR h1 h2 h3 HPS
    go_wp2_with fail
    refine (HC.out ()).mono ?_
    rintro e w2 ⟨rfl, hw2⟩
    have H2 : Hid (BW w b U Z w2) := hw2
    have z1 := box_cell hw2.box
    have HD : Hid (∀ _ : Unit, Calls Tryd.prog 22 #[.pointer (some ⟨b, 0, none⟩)] w2 fun e w' => e = .returned (.string (toBA (pack Z))) ∧ w' = w2) := fun _ => wdone b b Z w2 hw2.pw
    clear hw2 HC z0
    go_wp2_with fail
    refine (HD.out ()).mono ?_
    rintro e w3 ⟨rfl, rfl⟩
    go_wp2
    go_ret
    refine ⟨rfl, ?_⟩
    first | exact H2.out.bel | (rw [hb]; exact H2.out.bel)
theorem Stored_ok (s : ByteArray) (w : World) (hs : s.size ≤ 1048576) : Calls Tryd.prog 5 #[.string s] w fun e w' => e = .returned (.tuple #[.string (toBA (pack (storedZ 17 [] s))), .int .i64 0]) ∧ Below w.heap.size w w' := by
  have HC : Hid (∀ _ : Unit, Calls Tryd.prog 9 #[.string s] w fun e w' => e = .returned (.string (toBA (pack (storedZ 17 [] s)))) ∧ Below w.heap.size w w') := fun _ => dstored_ok s w hs
  have hi : ¬ (1048576 : Int) < (s.size : Int) := by omega
  go_enter Tryd.func5, Tryd.ntmps5
  go_wp2_with fail
  refine (HC.out ()).mono ?_
  rintro e w1 ⟨rfl, hb1⟩
  have H1 : Hid (Below w.heap.size w w1) := hb1
  clear hb1
  go_wp2
  go_ret2
  exact ⟨rfl, H1.out⟩
theorem Stored_long (s : ByteArray) (w : World) (hs : 1048576 < s.size) : Calls Tryd.prog 5 #[.string s] w fun e w' => e = .returned (.tuple #[.string ⟨#[]⟩, .int .i64 4]) ∧ Below w.heap.size w w' := by
  have hi : (1048576 : Int) < (s.size : Int) := by omega
  go_enter Tryd.func5, Tryd.ntmps5
  go_wp2
  go_ret2
  exact ⟨rfl, Below.refl _ _⟩
theorem Fixed_long (s : ByteArray) (w : World) (hs : 1048576 < s.size) : Calls Tryd.prog 6 #[.string s] w fun e w' => e = .returned (.tuple #[.string ⟨#[]⟩, .int .i64 4]) ∧ Below w.heap.size w w' := by
  have hi : (1048576 : Int) < (s.size : Int) := by omega
  go_enter Tryd.func6, Tryd.ntmps6
  go_wp2
  go_ret2
  exact ⟨rfl, Below.refl _ _⟩
theorem Deflate_long (s : ByteArray) (w : World) (hs : 1048576 < s.size) : Calls Tryd.prog 7 #[.string s] w fun e w' => e = .returned (.tuple #[.string ⟨#[]⟩, .int .i64 4]) ∧ Below w.heap.size w w' := by
  have hi : (1048576 : Int) < (s.size : Int) := by omega
  go_enter Tryd.func7, Tryd.ntmps7
  go_wp2
  go_ret2
  exact ⟨rfl, Below.refl _ _⟩
theorem tokR_own {w : World} {B : Nat} {v : Value} {T : List (Nat × Nat × Nat)} (h : w.ownsRow B 61 3 v T.length (D5.tcs T)) : ∃ ao cp, v = .slice ao T.length cp ∧ TokR w ao T := by
  rcases h.2 with ⟨rfl, h0⟩ | ⟨g, cap, cur, rfl, hB, hh, hnc, hcm, hcs, htk⟩
  · have : T = [] := List.length_eq_zero_iff.1 h0
    subst this
    exact ⟨none, 0, rfl, .inl rfl⟩
  · refine ⟨_, cap, rfl, .inr ⟨g, 0, cur, (0, 0), rfl, hh, fun i t ht j hj => ?_⟩⟩
    have h1 := D5.tcs_get T i t ht j hj
    obtain ⟨u, hu⟩ : ∃ u, (D5.tc t)[j]? = some u := ⟨(D5.tc t)[j]'(by show j < 3; exact hj), List.getElem?_eq_getElem _⟩
    rw [hu] at h1
    have h2 := h.cells (g := g) rfl (i * 3 + j) u h1
    rw [D5.add_zero_addr] at h2
    unfold World.cell? at h2
    rw [hh] at h2
    rw [hu, Nat.zero_add]
    simpa using h2
set_option maxHeartbeats 1000000 in
theorem dfixed_ok (T : List (Nat × Nat × Nat)) (ao : Option Addr) (cp : Nat) (w : World) (hT : TokR w ao T) (hTl : T.length ≤ 1048576) (hfin : ∀ t ∈ T, Fine t) : Calls Tryd.prog 10 #[.slice ao T.length cp] w fun e w' => e = .returned (.string (toBA (pack (fixedB [] T true)))) ∧ Below w.heap.size w w' := by
  obtain ⟨Z, hZ⟩ : ∃ Z, fixedB [] T true = Z := ⟨_, rfl⟩
  obtain ⟨N, hN⟩ : ∃ N, T.length = N := ⟨_, rfl⟩
  have HB := bw_start w
  have HNW : Hid (∀ _ : Unit, Calls Tryd.prog 20 #[] w fun e w' => e = .returned (.pointer (some ⟨w.heap.size, 0, none⟩)) ∧ w' = w.alloc (.cells #[.pointer (some ⟨w.heap.size, 0, none⟩), .slice none 0 0, .int .i64 0] 74)) := fun _ => newWriter w
  obtain ⟨W, hW⟩ : ∃ W, ((w.alloc (.cells #[.pointer (some ⟨w.heap.size, 0, none⟩), .slice none 0 0, .int .i64 0] 74)).alloc (.cells #[.pointer (some ⟨w.heap.size, 0, none⟩)] 51)) = W := ⟨_, rfl⟩
  have hTW : TokR W ao T := hT.below (by rw [← hW]; exact ((Below.refl _ _).alloc (Nat.le_refl _) _).alloc (by simp) _)
  obtain ⟨b, hb⟩ : ∃ b, w.heap.size = b := ⟨_, rfl⟩
  obtain ⟨U, hU⟩ : ∃ U, b + 1 = U := ⟨_, rfl⟩
  rw [hW, hb, hU] at HB
  have HBH : Hid (BW w b U [] W) := HB
  have HC : Hid (∀ _ : Unit, Calls Tryd.prog 23 #[.agg #[.pointer (some ⟨b, 0, none⟩)], .slice ao N cp, .bool true] W fun e w' => e = .returned (.tuple #[]) ∧ BW w b U Z w') := fun _ => by
    have := pfixed b [] T ao cp true W hTW hTl hfin (by simp) HB.pw
    rw [hN, hZ] at this
    exact this.mono fun e w' ⟨a1, a2, a3⟩ => ⟨a1, HB.step a2 a3⟩
  have z0 := box_cell HB.box
  rw [hZ, hN]
  have hWb := hW
  rw [hb] at hWb
  clear hZ HB hTW hT hfin hTl hN
  go_enter Tryd.func10, Tryd.ntmps10
  go_wp2_with fail
  refine (HNW.out ()).mono ?_
  rintro e w1 ⟨rfl, rfl⟩
  clear HNW
  go_wp2_with fail
  try rw [hWb]
  clear hWb hW
  refine (HC.out ()).mono ?_
  rintro e w2 ⟨rfl, hw2⟩
  have H2 : Hid (BW w b U Z w2) := hw2
  have z1 := box_cell hw2.box
  have HD : Hid (∀ _ : Unit, Calls Tryd.prog 22 #[.pointer (some ⟨b, 0, none⟩)] w2 fun e w' => e = .returned (.string (toBA (pack Z))) ∧ w' = w2) := fun _ => wdone b b Z w2 hw2.pw
  clear hw2 HC z0 HBH
  go_wp2_with fail
  refine (HD.out ()).mono ?_
  rintro e w3 ⟨rfl, rfl⟩
  go_wp2
  go_ret
  refine ⟨rfl, ?_⟩
  first | exact H2.out.bel | (rw [hb]; exact H2.out.bel)
theorem tokF_length (s : ByteArray) : ∀ f k, (D5.tokF s f k).length ≤ f
  | 0, k => by simp [D5.tokF]
  | f + 1, k => by
    unfold D5.tokF
    split
    · simp
    · split
      · simp only [List.length_cons]; have := tokF_length s f (k + 1); omega
      · simp only [List.length_cons]; have := tokF_length s f (k + (D5.copyAt s k).1); omega
theorem tells_length {s : ByteArray} : ∀ {T : List (Nat × Nat × Nat)} {k k' : Nat}, Tells s k T k' → T.length + k ≤ k'
  | [], k, k', h => by have h : k = k' := h; subst h; simp
  | t :: T, k, k', h => by
    rcases h with ⟨_, _, h2⟩ | ⟨n, d, _, h1, h2⟩
    · have := tells_length h2; simp only [List.length_cons]; omega
    · have := tells_length h2; have := h1.long; simp only [List.length_cons]; omega
theorem tokens_length (s : ByteArray) : (D5.tokensOf s).length ≤ s.size := by have := tells_length (tokens_tell s); omega
theorem tokens_fine (s : ByteArray) : ∀ t ∈ D5.tokensOf s, Fine t := (tokens_tell s).fine
set_option maxHeartbeats 1000000 in
theorem Fixed_ok (s : ByteArray) (w : World) (hs : s.size ≤ 1048576) : Calls Tryd.prog 6 #[.string s] w fun e w' => e = .returned (.tuple #[.string (toBA (pack (fixedB [] (D5.tokensOf s) true))), .int .i64 0]) ∧ Below w.heap.size w w' := by
  have HT : Hid (∀ _ : Unit, Calls Tryd.prog 11 #[.string s] w fun e w' => ∃ v, e = .returned v ∧ w'.ownsRow (w.heap.size + 3) 61 3 v (D5.tokensOf s).length (D5.tcs (D5.tokensOf s)) ∧ Below w.heap.size w w') := fun _ => D5.tokensOf_ok s w hs
  have htl := tokens_length s
  have htf := tokens_fine s
  obtain ⟨T, hT⟩ : ∃ T, D5.tokensOf s = T := ⟨_, rfl⟩
  rw [hT] at HT htl htf ⊢
  have HTF : Hid (T.length ≤ 1048576 ∧ ∀ t ∈ T, Fine t) := ⟨by omega, htf⟩
  have hi : ¬ (1048576 : Int) < (s.size : Int) := by omega
  obtain ⟨Z, hZ⟩ : ∃ Z, toBA (pack (fixedB [] T true)) = Z := ⟨_, rfl⟩
  rw [hZ]
  have HZ : Hid (toBA (pack (fixedB [] T true)) = Z) := hZ
  clear hT htl htf hZ
  go_enter Tryd.func6, Tryd.ntmps6
  go_wp2_with fail
  refine (HT.out ()).mono ?_
  rintro e w1 ⟨v, rfl, ho, hb1⟩
  obtain ⟨ao, cp, rfl, hr⟩ := tokR_own ho
  have HC : Hid (∀ _ : Unit, Calls Tryd.prog 10 #[.slice ao T.length cp] w1 fun e w' => e = .returned (.string Z) ∧ Below w1.heap.size w1 w') := fun _ => by
    have := dfixed_ok T ao cp w1 hr HTF.out.1 HTF.out.2
    rw [HZ.out] at this
    exact this
  have HB1 : Hid (Below w.heap.size w w1) := hb1
  clear ho hb1 hr HT
  go_wp2_with fail
  refine (HC.out ()).mono ?_
  rintro e w2 ⟨rfl, hb2⟩
  have HB2 : Hid (Below w.heap.size w w2) := HB1.out.trans (hb2.mono HB1.out.size)
  clear hb2 HC
  go_wp2
  go_ret2
  exact ⟨rfl, HB2.out⟩
end Go.Proofs.YtlbadjfcffoakaaDoor
