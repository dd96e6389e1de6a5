/- What comes behind the last word of each length. -/
/- The canonical words, and whether a code is whole. -/
import Derived.Test.YtbcflkdaeboflaaDoorV04
import Derived.Deep.WholeRow
import Derived.Laws.CopyOwn
namespace Go.Proofs.YtbcflkdaeboflaaDoor
open Go.RowKit
set_option linter.unusedVariables false
set_option maxRecDepth 20000

def may (xs : List Int) : Bool := decide (xs.length ≤ 288) && xs.all fun l => decide (0 ≤ l) && decide (l ≤ 15)
def nsOf (xs : List Int) : List Nat := xs.map Int.toNat
def ew (ns : List Nat) : Nat → Nat
  | 0 => 0
  | l + 1 => endW ns (l + 1)
theorem ew_succ (ns : List Nat) (l : Nat) : ew ns (l + 1) = lcnt ns (l + 1) ns.length + 2 * ew ns l := by
  cases l with
  | zero => simp [ew, endW, fstW]
  | succ l => show endW ns (l + 1 + 1) = _; unfold endW; rw [fstW_succ ns (l + 1) (by omega)]; simp only [ew, endW]; omega
theorem lcnt_le (ns : List Nat) (l n : Nat) : lcnt ns l n ≤ n := by
  induction n with
  | zero => simp [lcnt]
  | succ n ih => simp only [lcnt]; split <;> omega
theorem ew_le (ns : List Nat) (h : ns.length ≤ 288) : ∀ l, ew ns l + 288 ≤ 288 * 2 ^ l
  | 0 => by simp [ew]
  | l + 1 => by
    have h1 := ew_le ns h l
    have h2 := lcnt_le ns (l + 1) ns.length
    rw [ew_succ, Nat.pow_succ]; omega
theorem ew_small (ns : List Nat) (h : ns.length ≤ 288) (l : Nat) (hl : l ≤ 15) : ew ns l ≤ 9437184 := by
  have h1 := ew_le ns h l
  have h2 : 2 ^ l ≤ 2 ^ 15 := Nat.pow_le_pow_right (by omega) hl
  omega
theorem nsOf_get (xs : List Int) (i : Nat) : (nsOf xs).getD i 0 = (xs.getD i 0).toNat := by
  unfold nsOf
  rcases Nat.lt_or_ge i xs.length with h | h
  · rw [getD_in (by simpa using h), getD_in h]; simp
  · rw [getD_out (by simpa using h), getD_out h]; rfl
theorem nsOf_length (xs : List Int) : (nsOf xs).length = xs.length := by simp [nsOf]
theorem may_get {xs : List Int} (h : may xs = true) (i : Nat) : 0 ≤ xs.getD i 0 ∧ xs.getD i 0 ≤ 15 := by
  unfold may at h
  rw [Bool.and_eq_true, List.all_eq_true] at h
  rcases Nat.lt_or_ge i xs.length with hi | hi
  · have := h.2 (xs.getD i 0) (by rw [getD_in hi]; exact List.getElem_mem hi)
    simpa using this
  · rw [getD_out hi]; omega
theorem may_len {xs : List Int} (h : may xs = true) : xs.length ≤ 288 := by
  unfold may at h
  rw [Bool.and_eq_true] at h
  simpa using h.1
theorem may_no {xs : List Int} {j : Nat} (hj : j < xs.length) (h : xs.getD j 0 < 0 ∨ 15 < xs.getD j 0) : may xs = false := by
  cases e : may xs with
  | false => rfl
  | true => have := may_get e j; omega
theorem may_yes {xs : List Int} (h1 : xs.length ≤ 288) (h : ∀ j, j < xs.length → 0 ≤ xs.getD j 0 ∧ xs.getD j 0 ≤ 15) : may xs = true := by
  unfold may
  rw [Bool.and_eq_true, List.all_eq_true]
  refine ⟨by simpa using h1, fun x hx => ?_⟩
  obtain ⟨j, hj, rfl⟩ := List.getElem_of_mem hx
  have := h j hj
  rw [getD_in hj] at this
  simpa using this

theorem lcells_get (n : Nat) (c : Nat → Nat) (i : Nat) (hi : i < n) : (lcells n c)[i]? = some (.int .i64 (c i : Nat)) := by simp [lcells, hi]
theorem lcells_size (n : Nat) (c : Nat → Nat) : (lcells n c).size = n := by simp [lcells]
theorem z16 : (#[.int .i64 0, .int .i64 0, .int .i64 0, .int .i64 0, .int .i64 0, .int .i64 0, .int .i64 0, .int .i64 0, .int .i64 0, .int .i64 0, .int .i64 0, .int .i64 0, .int .i64 0, .int .i64 0, .int .i64 0, .int .i64 0] : Array Value) = lcells 16 (fun _ => 0) := by
  unfold lcells
  rw [show List.range 16 = [0, 1, 2, 3, 4, 5, 6, 7, 8, 9, 10, 11, 12, 13, 14, 15] from by decide]
  rfl
theorem g16 (g : Nat → Nat) : (#[.int .i64 (g 0 : Nat), .int .i64 (g 1 : Nat), .int .i64 (g 2 : Nat), .int .i64 (g 3 : Nat), .int .i64 (g 4 : Nat), .int .i64 (g 5 : Nat), .int .i64 (g 6 : Nat), .int .i64 (g 7 : Nat), .int .i64 (g 8 : Nat), .int .i64 (g 9 : Nat), .int .i64 (g 10 : Nat), .int .i64 (g 11 : Nat), .int .i64 (g 12 : Nat), .int .i64 (g 13 : Nat), .int .i64 (g 14 : Nat), .int .i64 (g 15 : Nat)] : Array Value) = lcells 16 g := by
  unfold lcells
  rw [show List.range 16 = [0, 1, 2, 3, 4, 5, 6, 7, 8, 9, 10, 11, 12, 13, 14, 15] from by decide]
  rfl
theorem g16i (g : Nat → Nat) (gi : Nat → Int) (h : ∀ i, ((g i : Nat) : Int) = gi i) : (#[.int .i64 (gi 0), .int .i64 (gi 1), .int .i64 (gi 2), .int .i64 (gi 3), .int .i64 (gi 4), .int .i64 (gi 5), .int .i64 (gi 6), .int .i64 (gi 7), .int .i64 (gi 8), .int .i64 (gi 9), .int .i64 (gi 10), .int .i64 (gi 11), .int .i64 (gi 12), .int .i64 (gi 13), .int .i64 (gi 14), .int .i64 (gi 15)] : Array Value) = lcells 16 g := by
  rw [← g16]
  simp only [h]
theorem lcells_one (n : Nat) (c : Nat → Nat) : (lcells n c).all (·.oneCell') = true := by
  unfold lcells
  simp [Value.oneCell']
theorem perInfo : (Tryd.prog.info? 136).map (fun i => (i.zero, i.size)) = some (some (.agg (lcells 16 (fun _ => 0))), 16) := by kernel_rfl
theorem perSize : (Tryd.prog.info? 136).map (·.size) = some 16 := by kernel_rfl
theorem results_cell_tmp {fn : Func} {p q : Tmp} {ty : TypeId} (h : fn.results = #[.cell p ty, .tmp q]) (tmps : Array Value) (P : Program) (w : World) :
    (results fn tmps).run P w = ((asAddr (tmps.getD p undef)).run P w).andThen fun a w₁ => ((loadVar ty a).run P w₁).andThen fun v w₂ => .ok (.tuple #[v, tmps.getD q undef]) w₂ := by
  simp only [results, h]
  simp [Sem.run_bind, Result.andThen]

def EndsEnd (w : World) (xs : List Int) (e : Ending) (w' : World) : Prop :=
  ((may xs = true ∧ ew (nsOf xs) 15 ≤ 32768 ∧ e = .returned (.tuple #[.agg (lcells 16 (ew (nsOf xs))), .int .i64 0])) ∨
   (¬ (may xs = true ∧ ew (nsOf xs) 15 ≤ 32768) ∧ e = .returned (.tuple #[.agg (lcells 16 (fun _ => 0)), .int .i64 30]))) ∧ Below w.heap.size w w'
theorem run_loadCells_at {P : Program} (w : World) (g : Nat) (t : TypeId) (c : Array Value) (n : Nat) (hn : c.size = n) (hg : w.heap[g]? = some (.cells c t (0, 0))) :
    (loadCellsFrom ⟨g, 0, none⟩ 0 n #[]).run P w = .ok c w := by
  subst hn
  have := run_loadCells_list (P := P) w ⟨g, 0, none⟩ c.toList (fun j v hv => by
    rw [add_zero_addr, cell_of_row _ _ j c t (0, 0) hg]
    simpa using hv)
  simpa [loadCells] using this
theorem oper_load {P : Program} {o : Oper} {a : Act} {w : World} {K : Act → World → Prop} {Q : Exit → Act → World → Prop} (t : TypeId) (x : Operand) (ad : Addr) (v : Value) (ho : o.op = .load t x) (hx : a.eval x = .pointer (some ad))
    (hr : (loadVar t ad).run P w = .ok v w) (h : K (a.put o.dst v) w) : Oper.wp P o a w K Q := by
  have hl : (Instr.loadAt t (.pointer (some ad))).run P w = .ok v w := by
    simp only [Instr.loadAt, Instr.sureAddr, Sem.run_bind, Sem.run_pure, Result.andThen]
    exact hr
  unfold Oper.wp
  simp [execOp, ho, hx, hl, Result.andThen]
  exact h
theorem run_storeCells_blk {P : Program} (w : World) (g : Nat) (t ty : TypeId) (old cells : Array Value) (hg : w.heap[g]? = some (.cells old t (0, 0))) (hi : (P.info? ty).map (·.size) = some cells.size)
    (ho : old.size = cells.size) (h1 : cells.all (·.oneCell') = true) :
    (storeCells ⟨g, 0, none⟩ cells.toList 0).run P w = .ok () (w.setRow g cells) := by
  have := run_storeVar_row (P := P) w g t ty old cells hg hi ho h1
  cases hq : P.info? ty with
  | none => simp [hq] at hi
  | some i =>
    have hs : cells.size = i.size := by simp [hq] at hi; omega
    simpa [storeVar, sizeOf, typeInfo, hq, Value.cells, hs] using this
theorem below_setRow {B g : Nat} {w w' : World} (h : Below B w w') (hg : B ≤ g) (c : Array Value) : Below B w (w'.setRow g c) :=
  ⟨h.os, h.tape, h.output, by simpa using h.size, fun k hk => (setRow_other w' g k c (by omega)).trans (h.block k hk)⟩
/-- The row of what was counted so far: none of length 0. -/
def cnts (ns : List Nat) (j l : Nat) : Nat := if l = 0 then 0 else lcnt ns l j
/-- .. of which the first k lengths tell what comes behind. -/
def endsTo (ns : List Nat) (k l : Nat) : Nat := if l < k then ew ns l else lcnt ns l ns.length
theorem setCell_block {w : World} {b i : Nat} {cs : Array Value} {t : TypeId} {u : Value} (h : w.heap[b]? = some (.cells cs t (0, 0))) : (w.setCell ⟨b, i, none⟩ u).heap[b]? = some (.cells (cs.setIfInBounds i u) t (0, 0)) := by
  have hlt := lt_heap h
  have h' : w.heap[b] = .cells cs t (0, 0) := by simpa [Array.getElem?_eq_getElem hlt] using h
  show (w.heap.modify b _)[b]? = _
  rw [Array.getElem?_eq_getElem (by simpa using hlt), Array.getElem_modify_self, h']
  rfl
def EndSt (w wr : World) (ns : List Nat) (l : Nat) : Prop := ∃ v : World, v.heap.size = w.heap.size ∧ Below w.heap.size w v ∧ wr = (v.alloc (.cells #[.int .i64 0, .int .i64 0, .int .i64 0, .int .i64 0, .int .i64 0, .int .i64 0, .int .i64 0, .int .i64 0, .int .i64 0, .int .i64 0, .int .i64 0, .int .i64 0, .int .i64 0, .int .i64 0, .int .i64 0, .int .i64 0] 136)).alloc (.cells (lcells 16 (endsTo ns l)) 136)
theorem EndSt.ends {w wr : World} {ns : List Nat} {l : Nat} (h : EndSt w wr ns l) : wr.heap[w.heap.size + 1]? = some (.cells (lcells 16 (endsTo ns l)) 136 (0, 0)) := by
  obtain ⟨v, hs, hb, rfl⟩ := h
  have := heap_alloc_last (v.alloc (.cells #[.int .i64 0, .int .i64 0, .int .i64 0, .int .i64 0, .int .i64 0, .int .i64 0, .int .i64 0, .int .i64 0, .int .i64 0, .int .i64 0, .int .i64 0, .int .i64 0, .int .i64 0, .int .i64 0, .int .i64 0, .int .i64 0] 136)) (.cells (lcells 16 (endsTo ns l)) 136)
  rw [show (v.alloc (.cells #[.int .i64 0, .int .i64 0, .int .i64 0, .int .i64 0, .int .i64 0, .int .i64 0, .int .i64 0, .int .i64 0, .int .i64 0, .int .i64 0, .int .i64 0, .int .i64 0, .int .i64 0, .int .i64 0, .int .i64 0, .int .i64 0] 136)).heap.size = w.heap.size + 1 by simp [hs]] at this
  exact this
theorem EndSt.cell {w wr : World} {ns : List Nat} {l : Nat} (h : EndSt w wr ns l) {i : Nat} (hi : i < 16) : wr.cell? ⟨w.heap.size + 1, i, none⟩ = some (.int .i64 (endsTo ns l i : Nat)) ∧ wr.frozen? ⟨w.heap.size + 1, i, none⟩ = false := by
  have h1 := h.ends
  have h2 := lcells_get 16 (endsTo ns l) i hi
  exact ⟨by simp [World.cell?, h1, h2], by simp [World.frozen?, h1]⟩
theorem setCell_last (W : World) (A : Array Value) (t : TypeId) (l : Nat) (v : Value) : ((W.alloc (.cells A t)).drew.setCell ⟨W.heap.size, l, none⟩ v) = W.drew.alloc (.cells (A.setIfInBounds l v) t) := by
  unfold World.setCell World.alloc World.drew
  simp only
  congr 1
  apply Array.ext_getElem?
  intro i
  rw [Array.getElem?_modify, Array.getElem?_push, Array.getElem?_push]
  by_cases e : i = W.heap.size
  · subst e; simp
  · rw [if_neg (Ne.symm e), if_neg e, if_neg e]
theorem EndSt.next {w wr : World} {ns : List Nat} {l v : Nat} (h : EndSt w wr ns l) (hl : 1 ≤ l) (hv : v = endsTo ns l l + 2 * endsTo ns l (l - 1)) : EndSt w (wr.drew.setCell ⟨w.heap.size + 1, l, none⟩ (.int .i64 (v : Nat))) ns (l + 1) := by
  obtain ⟨u, hs, hb, rfl⟩ := h
  refine ⟨u.drew, hs, hb.drew, ?_⟩
  have e := setCell_last (u.alloc (.cells #[.int .i64 0, .int .i64 0, .int .i64 0, .int .i64 0, .int .i64 0, .int .i64 0, .int .i64 0, .int .i64 0, .int .i64 0, .int .i64 0, .int .i64 0, .int .i64 0, .int .i64 0, .int .i64 0, .int .i64 0, .int .i64 0] 136)) (lcells 16 (endsTo ns l)) 136 l (.int .i64 (v : Nat))
  rw [show (u.alloc (.cells #[.int .i64 0, .int .i64 0, .int .i64 0, .int .i64 0, .int .i64 0, .int .i64 0, .int .i64 0, .int .i64 0, .int .i64 0, .int .i64 0, .int .i64 0, .int .i64 0, .int .i64 0, .int .i64 0, .int .i64 0, .int .i64 0] 136)).heap.size = w.heap.size + 1 by simp [hs]] at e
  rw [e, lcells_set]
  suffices hl2 : lcells 16 (fun i => if i = l then v else endsTo ns l i) = lcells 16 (endsTo ns (l + 1)) by
    rw [hl2]; rfl
  refine lcells_congr (fun i _ => ?_)
  unfold endsTo at hv ⊢
  rw [if_neg (by omega), if_pos (by omega)] at hv
  by_cases e : i = l
  · subst e
    rw [if_pos rfl, if_pos (by omega), hv]
    obtain ⟨k, rfl⟩ : ∃ k, i = k + 1 := ⟨i - 1, by omega⟩
    rw [ew_succ]; rfl
  · rw [if_neg e]
    by_cases e2 : i < l
    · rw [if_pos e2, if_pos (by omega)]
    · rw [if_neg e2, if_neg (by omega)]
set_option maxRecDepth 20000 in
set_option maxHeartbeats 4000000 in
theorem wordEnds_ok (xs : List Int) (a : Option Addr) (c N : Nat) (w : World) (hN : xs.length = N) (hrow : IRow w a xs) (hlen : N ≤ 9223372036854775807) :
    Calls Tryd.prog 79 #[.slice a N c] w fun e w' => EndsEnd w xs e w' := by
  have HR : Hid (IRow w a xs) := hrow
  have HN : Hid (xs.length = N) := hN
  have HNO : Hid (∀ w', ¬ (may xs = true ∧ ew (nsOf xs) 15 ≤ 32768) → Below w.heap.size w w' → EndsEnd w xs (.returned (.tuple #[.agg (lcells 16 (fun _ => 0)), .int .i64 30])) w') := fun w' h hb => ⟨.inr ⟨h, rfl⟩, hb⟩
  clear hrow hN
  go_enter Tryd.func79, Tryd.ntmps79
  by_cases h1 : 288 < N
  · as_aux_lemma =>
      have h1i : (288 : Int) < (N : Int) := by omega
      go_wp2
      refine bodyPost_ret (v := .tuple #[.agg (lcells 16 (fun _ => 0)), .int .i64 30]) ?_ rfl (HNO.out _ ?_ (((Below.refl _ _).alloc (Nat.le_refl _) _).alloc (by simp) _))
      · rw [results_cell_tmp rfl, ← z16]
        go_simp
      · rintro ⟨h, _⟩
        have := may_len h
        rw [HN.out] at this
        omega
  · have h1i : ¬ (288 : Int) < (N : Int) := by omega
    go_wp2
    go_loopw [6, 14] (fun _ v14 wr => ∃ j : Nat, v14 = .int .i64 j ∧ j ≤ N ∧ wr = (w.alloc (.cells #[.int .i64 0, .int .i64 0, .int .i64 0, .int .i64 0, .int .i64 0, .int .i64 0, .int .i64 0, .int .i64 0, .int .i64 0, .int .i64 0, .int .i64 0, .int .i64 0, .int .i64 0, .int .i64 0, .int .i64 0, .int .i64 0] 136)).alloc (.cells (lcells 16 (cnts (nsOf xs) j)) 136) ∧ Hid (∀ i, i < j → 0 ≤ xs.getD i 0 ∧ xs.getD i 0 ≤ 15)) (fun _ v14 _ => N - (intOf v14).toNat)
    case atStart =>
      refine ⟨0, rfl, by omega, ?_, fun i hi => by omega⟩
      have e : lcells 16 (cnts (nsOf xs) 0) = #[.int .i64 0, .int .i64 0, .int .i64 0, .int .i64 0, .int .i64 0, .int .i64 0, .int .i64 0, .int .i64 0, .int .i64 0, .int .i64 0, .int .i64 0, .int .i64 0, .int .i64 0, .int .i64 0, .int .i64 0, .int .i64 0] := by
        have : lcells 16 (cnts (nsOf xs) 0) = lcells 16 (fun _ => 0) := lcells_congr (fun i _ => by unfold cnts; split <;> rfl)
        rw [this, z16]
      rw [e]
    case round =>
      obtain ⟨j, rfl, hj, rfl, HS⟩ := hrel
      by_cases hlt : j < N
      · have hlti : (j : Int) < (N : Int) := by omega
        obtain ⟨b, off, rfl, hcell, hb⟩ := HR.out.at (show j < xs.length by rw [HN.out]; exact hlt)
        obtain ⟨F, hF⟩ : ∃ F, xs.getD j 0 = F := ⟨_, rfl⟩
        rw [hF] at hcell
        have HF : Hid (xs.getD j 0 = F) := hF
        have hcell2 : ∀ o1 o2, ((w.alloc o1).alloc o2).cell? ⟨b, off + j, none⟩ = some (.int .i64 F) := fun o1 o2 => by
          rw [World.cell?_alloc_past _ _ _ (by simp; omega), World.cell?_alloc_past _ _ _ hb]; exact hcell
        have hnext : Hid (lcells 16 (cnts (nsOf xs) (j + 1)) = if 0 < F ∧ F ≤ 15 then (lcells 16 (cnts (nsOf xs) j)).setIfInBounds F.toNat (.int .i64 ((cnts (nsOf xs) j F.toNat + 1 : Nat) : Int)) else lcells 16 (cnts (nsOf xs) j)) ∨ ¬ (0 ≤ F ∧ F ≤ 15) := by
          by_cases hr : 0 ≤ F ∧ F ≤ 15
          · left
            show _ = _
            have hg : (nsOf xs).getD j 0 = F.toNat := by rw [nsOf_get, hF]
            by_cases h0 : 0 < F
            · rw [if_pos ⟨h0, hr.2⟩, lcells_set]
              refine lcells_congr (fun i _ => ?_)
              unfold cnts
              simp only [lcnt, hg]
              by_cases e : i = F.toNat
              · subst e; rw [if_pos rfl, if_neg (by omega), if_pos rfl, if_neg (by omega)]
              · rw [if_neg e, if_neg (Ne.symm e)]; simp
            · rw [if_neg (by omega)]
              refine lcells_congr (fun i _ => ?_)
              unfold cnts
              simp only [lcnt, hg]
              by_cases e : i = 0
              · rw [if_pos e, if_pos e]
              · rw [if_neg e, if_neg e, if_neg (by omega)]; rfl
          · exact .inr hr
        clear hcell hF
        by_cases h0 : F < 0
        · as_aux_lemma =>
            go_wp2
            refine bodyPost_ret (v := .tuple #[.agg (lcells 16 (fun _ => 0)), .int .i64 30]) ?_ rfl (HNO.out _ ?_ (((Below.refl _ _).alloc (Nat.le_refl _) _).alloc (by simp) _))
            · rw [results_cell_tmp rfl, ← z16]
              go_simp
            · rintro ⟨h, _⟩
              rw [may_no (by rw [HN.out]; exact hlt) (.inl (by rw [HF.out]; exact h0))] at h
              cases h
        · by_cases h15 : 15 < F
          · as_aux_lemma =>
              go_wp2
              refine bodyPost_ret (v := .tuple #[.agg (lcells 16 (fun _ => 0)), .int .i64 30]) ?_ rfl (HNO.out _ ?_ (((Below.refl _ _).alloc (Nat.le_refl _) _).alloc (by simp) _))
              · rw [results_cell_tmp rfl, ← z16]
                go_simp
              · rintro ⟨h, _⟩
                rw [may_no (by rw [HN.out]; exact hlt) (.inr (by rw [HF.out]; exact h15))] at h
                cases h
          · obtain ⟨f, rfl⟩ : ∃ f : Nat, F = (f : Int) := ⟨F.toNat, by omega⟩
            have HX : Hid (lcells 16 (cnts (nsOf xs) (j + 1)) = if 0 < (f : Int) ∧ (f : Int) ≤ 15 then (lcells 16 (cnts (nsOf xs) j)).setIfInBounds f (.int .i64 ((cnts (nsOf xs) j f + 1 : Nat) : Int)) else lcells 16 (cnts (nsOf xs) j)) := by
              rcases hnext with h | h
              · exact h
              · omega
            have HS2 : Hid (∀ i, i < j + 1 → 0 ≤ xs.getD i 0 ∧ xs.getD i 0 ≤ 15) := fun i hi => by
              by_cases e : i = j
              · subst e; rw [HF.out]; omega
              · exact HS.out i (by omega)
            have hAg : (lcells 16 (cnts (nsOf xs) j))[f]? = some (.int .i64 (cnts (nsOf xs) j f : Nat)) := lcells_get 16 _ f (by omega)
            have hcn : cnts (nsOf xs) j f ≤ 288 := by unfold cnts; split; omega; exact Nat.le_trans (lcnt_le _ _ _) (by omega)
            have hAs := lcells_size 16 (cnts (nsOf xs) j)
            obtain ⟨A, hA⟩ : ∃ A, lcells 16 (cnts (nsOf xs) j) = A := ⟨_, rfl⟩
            obtain ⟨v, hv⟩ : ∃ v, cnts (nsOf xs) j f = v := ⟨_, rfl⟩
            rw [hA] at HX hAg hAs
            rw [hv] at HX hAg hcn
            rw [hA]
            have hf15 : (f : Int) < 16 := by omega
            have hft : ((f : Int)).toNat = f := by simp
            clear hnext hA hv
            by_cases hp : 0 < f
            · as_aux_lemma =>
                have hpi : (0 : Int) < (f : Int) := by omega
                go_wp2
                refine ⟨⟨j + 1, by go_num, by omega, ?_, HS2⟩, by simp [intOf]; omega⟩
                rw [HX.out, if_pos ⟨hpi, by omega⟩]
                rfl
            · as_aux_lemma =>
                have hpi : ¬ (0 : Int) < (f : Int) := by omega
                go_wp2
                refine ⟨⟨j + 1, by go_num, by omega, ?_, HS2⟩, by simp [intOf]; omega⟩
                rw [HX.out, if_neg (by omega)]
      · obtain rfl : j = N := by omega
        have hmay : may xs = true := may_yes (by rw [HN.out]; omega) (fun i hi => HS.out i (by rw [← HN.out]; exact hi))
        have HMY : Hid (may xs = true) := hmay
        have hst : lcells 16 (cnts (nsOf xs) j) = lcells 16 (endsTo (nsOf xs) 1) := lcells_congr (fun i _ => by
          unfold cnts endsTo
          by_cases e : i = 0
          · subst e; rfl
          · rw [if_neg e, if_neg (by omega), nsOf_length, HN.out])
        rw [hst]
        clear hst hmay
        have HSM : Hid (∀ l, l ≤ 15 → ew (nsOf xs) l ≤ 9437184) := fun l hl => ew_small _ (by rw [nsOf_length, HN.out]; omega) l hl
        have H0 : Hid (EndSt w ((w.alloc (.cells #[.int .i64 0, .int .i64 0, .int .i64 0, .int .i64 0, .int .i64 0, .int .i64 0, .int .i64 0, .int .i64 0, .int .i64 0, .int .i64 0, .int .i64 0, .int .i64 0, .int .i64 0, .int .i64 0, .int .i64 0, .int .i64 0] 136)).alloc (.cells (lcells 16 (endsTo (nsOf xs) 1)) 136)) (nsOf xs) 1) := ⟨w, rfl, Below.refl _ _, rfl⟩
        obtain ⟨W1, hW1⟩ : ∃ W, (w.alloc (.cells #[.int .i64 0, .int .i64 0, .int .i64 0, .int .i64 0, .int .i64 0, .int .i64 0, .int .i64 0, .int .i64 0, .int .i64 0, .int .i64 0, .int .i64 0, .int .i64 0, .int .i64 0, .int .i64 0, .int .i64 0, .int .i64 0] 136)).alloc (.cells (lcells 16 (endsTo (nsOf xs) 1)) 136) = W := ⟨_, rfl⟩
        rw [hW1] at H0 ⊢
        clear hW1
        go_wp2
        go_loopw [7] (fun v7 wr => ∃ l : Nat, v7 = .int .i64 l ∧ 1 ≤ l ∧ l ≤ 16 ∧ Hid (EndSt w wr (nsOf xs) l)) (fun v7 _ => 17 - (intOf v7).toNat)
        case atStart => exact ⟨1, rfl, by omega, by omega, H0⟩
        case round =>
          obtain ⟨l, rfl, hl1, hl2, HE⟩ := hrel
          by_cases hll : l ≤ 15
          · have hlli : (l : Int) ≤ 15 := by omega
            obtain ⟨k1, k2⟩ := HE.out.cell (show l < 16 by omega)
            obtain ⟨k3, _⟩ := HE.out.cell (show l - 1 < 16 by omega)
            obtain ⟨v1, hv1⟩ : ∃ v, endsTo (nsOf xs) l l = v := ⟨_, rfl⟩
            obtain ⟨v2, hv2⟩ : ∃ v, endsTo (nsOf xs) l (l - 1) = v := ⟨_, rfl⟩
            have hb1 : v1 ≤ 288 := by rw [← hv1]; unfold endsTo; rw [if_neg (by omega)]; exact Nat.le_trans (lcnt_le _ _ _) (by rw [nsOf_length, HN.out]; omega)
            have hb2 : v2 ≤ 9437184 := by rw [← hv2]; unfold endsTo; rw [if_pos (by omega)]; exact HSM.out _ (by omega)
            have H2 : Hid (EndSt w (wr.drew.setCell ⟨w.heap.size + 1, l, none⟩ (.int .i64 ((v1 + 2 * v2 : Nat) : Int))) (nsOf xs) (l + 1)) := HE.out.next hl1 (by rw [hv1, hv2])
            rw [hv1] at k1
            rw [hv2] at k3
            have p0 : (0 : Int) ≤ (l : Int) := by omega
            have p1 : (l : Int) < 16 := by omega
            have p2 : ((l : Int)).toNat = l := by simp
            have q0 : (0 : Int) ≤ (l : Int) - 1 := by omega
            have q1 : (l : Int) - 1 < 16 := by omega
            have q2 : ((l : Int) - 1).toNat = l - 1 := by omega
            have q3 : IntKind.i64.wrap ((l : Int) - 1) = (l : Int) - 1 := by rw [IntKind.wrap_i64]; omega
            have r1 : IntKind.i64.wrap (2 * (v2 : Int)) = 2 * (v2 : Int) := by rw [IntKind.wrap_i64]; omega
            have r2 : IntKind.i64.wrap ((v1 : Int) + 2 * (v2 : Int)) = (v1 : Int) + 2 * (v2 : Int) := by rw [IntKind.wrap_i64]; omega
            have e1 : ((v1 + 2 * v2 : Nat) : Int) = (v1 : Int) + 2 * (v2 : Int) := by omega
            rw [e1] at H2
            clear hv1 hv2 e1
            go_wp2_with fail
            go_region
            all_goals
              go_wp2
              exact ⟨⟨l + 1, by go_num, by omega, by omega, H2⟩, by simp [intOf]; omega⟩
          · obtain rfl : l = 16 := by omega
            have hew : lcells 16 (endsTo (nsOf xs) 16) = lcells 16 (ew (nsOf xs)) := lcells_congr (fun i hi => by unfold endsTo; rw [if_pos hi])
            obtain ⟨u, hus, hub, rfl⟩ := HE.out
            clear HE
            rw [hew]
            have hB : Hid (∀ o1 o2, Below w.heap.size w ((u.alloc o1).alloc o2)) := fun o1 o2 => (hub.alloc (by omega) _).alloc (by simp; omega) _
            rw [← hus]
            have HUS : Hid (u.heap.size = w.heap.size) := hus
            clear hus hub
            obtain ⟨gi, hgi⟩ : ∃ gi : Nat → Int, ∀ i, ((ew (nsOf xs) i : Nat) : Int) = gi i := ⟨_, fun _ => rfl⟩
            have HGI : Hid (∀ i, ((ew (nsOf xs) i : Nat) : Int) = gi i) := hgi
            have e1 : ∀ i, i < 16 → (lcells 16 (ew (nsOf xs)))[i]? = some (.int .i64 (gi i)) := fun i hi => by rw [lcells_get 16 _ i hi, hgi]
            obtain ⟨A, hA⟩ : ∃ A, lcells 16 (ew (nsOf xs)) = A := ⟨_, rfl⟩
            rw [hA] at e1
            rw [hA]
            clear hew hA hgi
            by_cases hbig : 32768 < gi 15
            · as_aux_lemma =>
                go_wp2
                refine bodyPost_ret (v := .tuple #[.agg (lcells 16 (fun _ => 0)), .int .i64 30]) ?_ rfl (HNO.out _ ?_ (hB.out _ _))
                · rw [results_cell_tmp rfl, ← z16]
                  go_simp
                · rintro ⟨_, h⟩
                  have := HGI.out 15
                  omega
            · as_aux_lemma =>
                go_wp2
                refine bodyPost_ret (v := .tuple #[.agg (lcells 16 (ew (nsOf xs))), .int .i64 0]) ?_ rfl ⟨.inl ⟨HMY.out, by have := HGI.out 15; omega, rfl⟩, hB.out _ _⟩
                rw [results_cell_tmp rfl, ← g16i _ gi HGI.out]
                go_simp
end Go.Proofs.YtbcflkdaeboflaaDoor
namespace Go.Proofs.YtbcflkdaeboflaaDoor
open Go.RowKit
set_option linter.unusedVariables false
set_option maxRecDepth 20000

/-- The word of each symbol, 0 of one without. -/
def cw (ns : List Nat) (i : Nat) : Nat := if ns.getD i 0 = 0 then 0 else codeW ns i
/-- The next word of each length, i symbols on. -/
def nxt (ns : List Nat) (i l : Nat) : Nat := if l = 0 then 0 else fstW ns l + lcnt ns l i
def nx0 (ns : List Nat) (k l : Nat) : Nat := if l < k then fstW ns l else 0
def wds (ns : List Nat) (i s : Nat) : Nat := if s < i then cw ns s else 0
theorem fstW_ew (ns : List Nat) (l : Nat) (h : 1 ≤ l) : fstW ns l = 2 * ew ns (l - 1) := by
  obtain ⟨k, rfl⟩ : ∃ k, l = k + 1 := ⟨l - 1, by omega⟩
  cases k with
  | zero => rfl
  | succ k => rw [fstW_succ ns (k + 1) (by omega)]; rfl
theorem fstW_zero (ns : List Nat) : fstW ns 0 = 0 := rfl
theorem setRow_last (w : World) (A B : Array Value) (t : TypeId) : (w.alloc (.cells A t)).setRow w.heap.size B = w.alloc (.cells B t) := by
  have h : (w.alloc (.cells A t)).heap[w.heap.size]? = some (.cells A t (0, 0)) := heap_alloc_last w (.cells A t)
  unfold World.setRow World.alloc
  congr 1
  apply Array.ext_getElem?
  intro i
  simp only [Array.getElem?_modify, Array.getElem?_push]
  by_cases e : i = w.heap.size
  · subst e; simp
  · rw [if_neg (Ne.symm e), if_neg e, if_neg e]
def CodesEnd (w : World) (xs : List Int) (e : Ending) (w' : World) : Prop :=
  ((may xs = true ∧ ew (nsOf xs) 15 ≤ 32768 ∧ ∃ L, e = .returned (.tuple #[.slice (some ⟨L, 0, none⟩) xs.length xs.length, .int .i64 0]) ∧ LB w' L xs.length (cw (nsOf xs)) ∧ w.heap.size ≤ L) ∨
   (¬ (may xs = true ∧ ew (nsOf xs) 15 ≤ 32768) ∧ e = .returned (.tuple #[.slice none 0 0, .int .i64 30]))) ∧ Below w.heap.size w w'

end Go.Proofs.YtbcflkdaeboflaaDoor
