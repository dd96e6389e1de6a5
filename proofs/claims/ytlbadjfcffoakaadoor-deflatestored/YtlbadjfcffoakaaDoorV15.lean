/- What comes behind the last word of each length. -/
/- The canonical words, and whether a code is whole. -/
/- The canonical words: the function itself. -/
import Derived.Test.YtlbadjfcffoakaaDoorV14
import Derived.Test.YtlbadjfcffoakaaDoorV02
import Derived.Deep.WholeRow
import Derived.Laws.CopyOwn
namespace Go.Proofs.YtlbadjfcffoakaaDoor
open Go.RowKit
set_option linter.unusedVariables false
set_option maxRecDepth 20000

def may (xs : List Int) : Bool := decide (xs.length ≤ 288) && xs.all fun l => decide (0 ≤ l) && decide (l ≤ 15)
def nsOf (xs : List Int) : List Nat := xs.map Int.toNat
def ew (ns : List Nat) : Nat → Nat
  | 0 => 0
  | l + 1 => endW ns (l + 1)
theorem ew_succ (ns : List Nat) (l : Nat) : ew ns (l + 1) = lcnt ns (l + 1) ns.length + 2 * ew ns l := by
  cases l with
  | zero => simp [ew, endW, fstW]
  | succ l => show endW ns (l + 1 + 1) = _; unfold endW; rw [fstW_succ ns (l + 1) (by omega)]; simp only [ew, endW]; omega
theorem lcnt_le (ns : List Nat) (l n : Nat) : lcnt ns l n ≤ n := by
  induction n with
  | zero => simp [lcnt]
  | succ n ih => simp only [lcnt]; split <;> omega
theorem ew_le (ns : List Nat) (h : ns.length ≤ 288) : ∀ l, ew ns l + 288 ≤ 288 * 2 ^ l
  | 0 => by simp [ew]
  | l + 1 => by
    have h1 := ew_le ns h l
    have h2 := lcnt_le ns (l + 1) ns.length
    rw [ew_succ, Nat.pow_succ]; omega
theorem ew_small (ns : List Nat) (h : ns.length ≤ 288) (l : Nat) (hl : l ≤ 15) : ew ns l ≤ 9437184 := by
  have h1 := ew_le ns h l
  have h2 : 2 ^ l ≤ 2 ^ 15 := Nat.pow_le_pow_right (by omega) hl
  omega
theorem nsOf_get (xs : List Int) (i : Nat) : (nsOf xs).getD i 0 = (xs.getD i 0).toNat := by
  unfold nsOf
  rcases Nat.lt_or_ge i xs.length with h | h
  · rw [getD_in (by simpa using h), getD_in h]; simp
  · rw [getD_out (by simpa using h), getD_out h]; rfl
theorem nsOf_length (xs : List Int) : (nsOf xs).length = xs.length := by simp [nsOf]
theorem may_get {xs : List Int} (h : may xs = true) (i : Nat) : 0 ≤ xs.getD i 0 ∧ xs.getD i 0 ≤ 15 := by
  unfold may at h
  rw [Bool.and_eq_true, List.all_eq_true] at h
  rcases Nat.lt_or_ge i xs.length with hi | hi
  · have := h.2 (xs.getD i 0) (by rw [getD_in hi]; exact List.getElem_mem hi)
    simpa using this
  · rw [getD_out hi]; omega
theorem may_len {xs : List Int} (h : may xs = true) : xs.length ≤ 288 := by
  unfold may at h
  rw [Bool.and_eq_true] at h
  simpa using h.1
theorem may_no {xs : List Int} {j : Nat} (hj : j < xs.length) (h : xs.getD j 0 < 0 ∨ 15 < xs.getD j 0) : may xs = false := by
  cases e : may xs with
  | false => rfl
  | true => have := may_get e j; omega
theorem may_yes {xs : List Int} (h1 : xs.length ≤ 288) (h : ∀ j, j < xs.length → 0 ≤ xs.getD j 0 ∧ xs.getD j 0 ≤ 15) : may xs = true := by
  unfold may
  rw [Bool.and_eq_true, List.all_eq_true]
  refine ⟨by simpa using h1, fun x hx => ?_⟩
  obtain ⟨j, hj, rfl⟩ := List.getElem_of_mem hx
  have := h j hj
  rw [getD_in hj] at this
  simpa using this

theorem lcells_get (n : Nat) (c : Nat → Nat) (i : Nat) (hi : i < n) : (lcells n c)[i]? = some (.int .i64 (c i : Nat)) := by simp [lcells, hi]
theorem lcells_size (n : Nat) (c : Nat → Nat) : (lcells n c).size = n := by simp [lcells]
theorem z16 : (#[.int .i64 0, .int .i64 0, .int .i64 0, .int .i64 0, .int .i64 0, .int .i64 0, .int .i64 0, .int .i64 0, .int .i64 0, .int .i64 0, .int .i64 0, .int .i64 0, .int .i64 0, .int .i64 0, .int .i64 0, .int .i64 0] : Array Value) = lcells 16 (fun _ => 0) := by
  unfold lcells
  rw [show List.range 16 = [0, 1, 2, 3, 4, 5, 6, 7, 8, 9, 10, 11, 12, 13, 14, 15] from by decide]
  rfl
theorem g16 (g : Nat → Nat) : (#[.int .i64 (g 0 : Nat), .int .i64 (g 1 : Nat), .int .i64 (g 2 : Nat), .int .i64 (g 3 : Nat), .int .i64 (g 4 : Nat), .int .i64 (g 5 : Nat), .int .i64 (g 6 : Nat), .int .i64 (g 7 : Nat), .int .i64 (g 8 : Nat), .int .i64 (g 9 : Nat), .int .i64 (g 10 : Nat), .int .i64 (g 11 : Nat), .int .i64 (g 12 : Nat), .int .i64 (g 13 : Nat), .int .i64 (g 14 : Nat), .int .i64 (g 15 : Nat)] : Array Value) = lcells 16 g := by
  unfold lcells
  rw [show List.range 16 = [0, 1, 2, 3, 4, 5, 6, 7, 8, 9, 10, 11, 12, 13, 14, 15] from by decide]
  rfl
theorem g16i (g : Nat → Nat) (gi : Nat → Int) (h : ∀ i, ((g i : Nat) : Int) = gi i) : (#[.int .i64 (gi 0), .int .i64 (gi 1), .int .i64 (gi 2), .int .i64 (gi 3), .int .i64 (gi 4), .int .i64 (gi 5), .int .i64 (gi 6), .int .i64 (gi 7), .int .i64 (gi 8), .int .i64 (gi 9), .int .i64 (gi 10), .int .i64 (gi 11), .int .i64 (gi 12), .int .i64 (gi 13), .int .i64 (gi 14), .int .i64 (gi 15)] : Array Value) = lcells 16 g := by
  rw [← g16]
  simp only [h]
theorem lcells_one (n : Nat) (c : Nat → Nat) : (lcells n c).all (·.oneCell') = true := by
  unfold lcells
  simp [Value.oneCell']
theorem perInfo : (Tryd.prog.info? 126).map (fun i => (i.zero, i.size)) = some (some (.agg (lcells 16 (fun _ => 0))), 16) := by kernel_rfl
theorem perSize : (Tryd.prog.info? 126).map (·.size) = some 16 := by kernel_rfl
theorem results_cell_tmp {fn : Func} {p q : Tmp} {ty : TypeId} (h : fn.results = #[.cell p ty, .tmp q]) (tmps : Array Value) (P : Program) (w : World) :
    (results fn tmps).run P w = ((asAddr (tmps.getD p undef)).run P w).andThen fun a w₁ => ((loadVar ty a).run P w₁).andThen fun v w₂ => .ok (.tuple #[v, tmps.getD q undef]) w₂ := by
  simp only [results, h]
  simp [Sem.run_bind, Result.andThen]

def EndsEnd (w : World) (xs : List Int) (e : Ending) (w' : World) : Prop :=
  ((may xs = true ∧ ew (nsOf xs) 15 ≤ 32768 ∧ e = .returned (.tuple #[.agg (lcells 16 (ew (nsOf xs))), .int .i64 0])) ∨
   (¬ (may xs = true ∧ ew (nsOf xs) 15 ≤ 32768) ∧ e = .returned (.tuple #[.agg (lcells 16 (fun _ => 0)), .int .i64 30]))) ∧ Below w.heap.size w w'
theorem run_loadCells_at {P : Program} (w : World) (g : Nat) (t : TypeId) (c : Array Value) (n : Nat) (hn : c.size = n) (hg : w.heap[g]? = some (.cells c t (0, 0))) :
    (loadCellsFrom ⟨g, 0, none⟩ 0 n #[]).run P w = .ok c w := by
  subst hn
  have := run_loadCells_list (P := P) w ⟨g, 0, none⟩ c.toList (fun j v hv => by
    rw [add_zero_addr, cell_of_row _ _ j c t (0, 0) hg]
    simpa using hv)
  simpa [loadCells] using this
theorem oper_load {P : Program} {o : Oper} {a : Act} {w : World} {K : Act → World → Prop} {Q : Exit → Act → World → Prop} (t : TypeId) (x : Operand) (ad : Addr) (v : Value) (ho : o.op = .load t x) (hx : a.eval x = .pointer (some ad))
    (hr : (loadVar t ad).run P w = .ok v w) (h : K (a.put o.dst v) w) : Oper.wp P o a w K Q := by
  have hl : (Instr.loadAt t (.pointer (some ad))).run P w = .ok v w := by
    simp only [Instr.loadAt, Instr.sureAddr, Sem.run_bind, Sem.run_pure, Result.andThen]
    exact hr
  unfold Oper.wp
  simp [execOp, ho, hx, hl, Result.andThen]
  exact h
theorem run_storeCells_blk {P : Program} (w : World) (g : Nat) (t ty : TypeId) (old cells : Array Value) (hg : w.heap[g]? = some (.cells old t (0, 0))) (hi : (P.info? ty).map (·.size) = some cells.size)
    (ho : old.size = cells.size) (h1 : cells.all (·.oneCell') = true) :
    (storeCells ⟨g, 0, none⟩ cells.toList 0).run P w = .ok () (w.setRow g cells) := by
  have := run_storeVar_row (P := P) w g t ty old cells hg hi ho h1
  cases hq : P.info? ty with
  | none => simp [hq] at hi
  | some i =>
    have hs : cells.size = i.size := by simp [hq] at hi; omega
    simpa [storeVar, sizeOf, typeInfo, hq, Value.cells, hs] using this
theorem below_setRow {B g : Nat} {w w' : World} (h : Below B w w') (hg : B ≤ g) (c : Array Value) : Below B w (w'.setRow g c) :=
  ⟨h.os, h.tape, h.output, by simpa using h.size, fun k hk => (setRow_other w' g k c (by omega)).trans (h.block k hk)⟩
def cnts (ns : List Nat) (j l : Nat) : Nat := if l = 0 then 0 else lcnt ns l j
def endsTo (ns : List Nat) (k l : Nat) : Nat := if l < k then ew ns l else lcnt ns l ns.length
theorem setCell_block {w : World} {b i : Nat} {cs : Array Value} {t : TypeId} {u : Value} (h : w.heap[b]? = some (.cells cs t (0, 0))) : (w.setCell ⟨b, i, none⟩ u).heap[b]? = some (.cells (cs.setIfInBounds i u) t (0, 0)) := by
  have hlt := lt_heap h
  have h' : w.heap[b] = .cells cs t (0, 0) := by simpa [Array.getElem?_eq_getElem hlt] using h
  show (w.heap.modify b _)[b]? = _
  rw [Array.getElem?_eq_getElem (by simpa using hlt), Array.getElem_modify_self, h']
  rfl
def EndSt (w wr : World) (ns : List Nat) (l : Nat) : Prop := ∃ v : World, v.heap.size = w.heap.size ∧ Below w.heap.size w v ∧ wr = (v.alloc (.cells #[.int .i64 0, .int .i64 0, .int .i64 0, .int .i64 0, .int .i64 0, .int .i64 0, .int .i64 0, .int .i64 0, .int .i64 0, .int .i64 0, .int .i64 0, .int .i64 0, .int .i64 0, .int .i64 0, .int .i64 0, .int .i64 0] 126)).alloc (.cells (lcells 16 (endsTo ns l)) 126)
theorem EndSt.ends {w wr : World} {ns : List Nat} {l : Nat} (h : EndSt w wr ns l) : wr.heap[w.heap.size + 1]? = some (.cells (lcells 16 (endsTo ns l)) 126 (0, 0)) := by
  obtain ⟨v, hs, hb, rfl⟩ := h
  have := heap_alloc_last (v.alloc (.cells #[.int .i64 0, .int .i64 0, .int .i64 0, .int .i64 0, .int .i64 0, .int .i64 0, .int .i64 0, .int .i64 0, .int .i64 0, .int .i64 0, .int .i64 0, .int .i64 0, .int .i64 0, .int .i64 0, .int .i64 0, .int .i64 0] 126)) (.cells (lcells 16 (endsTo ns l)) 126)
  rw [show (v.alloc (.cells #[.int .i64 0, .int .i64 0, .int .i64 0, .int .i64 0, .int .i64 0, .int .i64 0, .int .i64 0, .int .i64 0, .int .i64 0, .int .i64 0, .int .i64 0, .int .i64 0, .int .i64 0, .int .i64 0, .int .i64 0, .int .i64 0] 126)).heap.size = w.heap.size + 1 by simp [hs]] at this
  exact this
theorem EndSt.cell {w wr : World} {ns : List Nat} {l : Nat} (h : EndSt w wr ns l) {i : Nat} (hi : i < 16) : wr.cell? ⟨w.heap.size + 1, i, none⟩ = some (.int .i64 (endsTo ns l i : Nat)) ∧ wr.frozen? ⟨w.heap.size + 1, i, none⟩ = false := by
  have h1 := h.ends
  have h2 := lcells_get 16 (endsTo ns l) i hi
  exact ⟨by simp [World.cell?, h1, h2], by simp [World.frozen?, h1]⟩
theorem setCell_last (W : World) (A : Array Value) (t : TypeId) (l : Nat) (v : Value) : ((W.alloc (.cells A t)).drew.setCell ⟨W.heap.size, l, none⟩ v) = W.drew.alloc (.cells (A.setIfInBounds l v) t) := by
  unfold World.setCell World.alloc World.drew
  simp only
  congr 1
  apply Array.ext_getElem?
  intro i
  rw [Array.getElem?_modify, Array.getElem?_push, Array.getElem?_push]
  by_cases e : i = W.heap.size
  · subst e; simp
  · rw [if_neg (Ne.symm e), if_neg e, if_neg e]
theorem EndSt.next {w wr : World} {ns : List Nat} {l v : Nat} (h : EndSt w wr ns l) (hl : 1 ≤ l) (hv : v = endsTo ns l l + 2 * endsTo ns l (l - 1)) : EndSt w (wr.drew.setCell ⟨w.heap.size + 1, l, none⟩ (.int .i64 (v : Nat))) ns (l + 1) := by
  obtain ⟨u, hs, hb, rfl⟩ := h
  refine ⟨u.drew, hs, hb.drew, ?_⟩
  have e := setCell_last (u.alloc (.cells #[.int .i64 0, .int .i64 0, .int .i64 0, .int .i64 0, .int .i64 0, .int .i64 0, .int .i64 0, .int .i64 0, .int .i64 0, .int .i64 0, .int .i64 0, .int .i64 0, .int .i64 0, .int .i64 0, .int .i64 0, .int .i64 0] 126)) (lcells 16 (endsTo ns l)) 126 l (.int .i64 (v : Nat))
  rw [show (u.alloc (.cells #[.int .i64 0, .int .i64 0, .int .i64 0, .int .i64 0, .int .i64 0, .int .i64 0, .int .i64 0, .int .i64 0, .int .i64 0, .int .i64 0, .int .i64 0, .int .i64 0, .int .i64 0, .int .i64 0, .int .i64 0, .int .i64 0] 126)).heap.size = w.heap.size + 1 by simp [hs]] at e
  rw [e, lcells_set]
  suffices hl2 : lcells 16 (fun i => if i = l then v else endsTo ns l i) = lcells 16 (endsTo ns (l + 1)) by
    rw [hl2]; rfl
  refine lcells_congr (fun i _ => ?_)
  unfold endsTo at hv ⊢
  rw [if_neg (by omega), if_pos (by omega)] at hv
  by_cases e : i = l
  · subst e
    rw [if_pos rfl, if_pos (by omega), hv]
    obtain ⟨k, rfl⟩ : ∃ k, i = k + 1 := ⟨i - 1, by omega⟩
    rw [ew_succ]; rfl
  · rw [if_neg e]
    by_cases e2 : i < l
    · rw [if_pos e2, if_pos (by omega)]
    · rw [if_neg e2, if_neg (by omega)]
set_option maxRecDepth 20000 in
set_option maxHeartbeats 4000000 in
theorem wordEnds_ok (xs : List Int) (a : Option Addr) (c N : Nat) (w : World) (hN : xs.length = N) (hrow : IRow w a xs) (hlen : N ≤ 9223372036854775807) :
    Calls Tryd.prog 68 #[.slice a N c] w fun e w' => EndsEnd w xs e w' := by
  have HR : Hid (IRow w a xs) := hrow
  have HN : Hid (xs.length = N) := hN
  have HNO : Hid (∀ w', ¬ (may xs = true ∧ ew (nsOf xs) 15 ≤ 32768) → Below w.heap.size w w' → EndsEnd w xs (.returned (.tuple #[.agg (lcells 16 (fun _ => 0)), .int .i64 30])) w') := fun w' h hb => ⟨.inr ⟨h, rfl⟩, hb⟩
  clear hrow hN
  go_enter Tryd.func68, Tryd.ntmps68
  by_cases h1 : 288 < N
  · as_aux_lemma =>
      have h1i : (288 : Int) < (N : Int) := by omega
      go_wp2
      refine bodyPost_ret (v := .tuple #[.agg (lcells 16 (fun _ => 0)), .int .i64 30]) ?_ rfl (HNO.out _ ?_ (((Below.refl _ _).alloc (Nat.le_refl _) _).alloc (by simp) _))
      · rw [results_cell_tmp rfl, ← z16]
        go_simp
      · rintro ⟨h, _⟩
        have := may_len h
        rw [HN.out] at this
        omega
  · have h1i : ¬ (288 : Int) < (N : Int) := by omega
    go_wp2
    go_loopw [6, 14] (fun _ v14 wr => ∃ j : Nat, v14 = .int .i64 j ∧ j ≤ N ∧ wr = (w.alloc (.cells #[.int .i64 0, .int .i64 0, .int .i64 0, .int .i64 0, .int .i64 0, .int .i64 0, .int .i64 0, .int .i64 0, .int .i64 0, .int .i64 0, .int .i64 0, .int .i64 0, .int .i64 0, .int .i64 0, .int .i64 0, .int .i64 0] 126)).alloc (.cells (lcells 16 (cnts (nsOf xs) j)) 126) ∧ Hid (∀ i, i < j → 0 ≤ xs.getD i 0 ∧ xs.getD i 0 ≤ 15)) (fun _ v14 _ => N - (intOf v14).toNat)
    case atStart =>
      refine ⟨0, rfl, by omega, ?_, fun i hi => by omega⟩
      have e : lcells 16 (cnts (nsOf xs) 0) = #[.int .i64 0, .int .i64 0, .int .i64 0, .int .i64 0, .int .i64 0, .int .i64 0, .int .i64 0, .int .i64 0, .int .i64 0, .int .i64 0, .int .i64 0, .int .i64 0, .int .i64 0, .int .i64 0, .int .i64 0, .int .i64 0] := by
        have : lcells 16 (cnts (nsOf xs) 0) = lcells 16 (fun _ => 0) := lcells_congr (fun i _ => by unfold cnts; split <;> rfl)
        rw [this, z16]
      rw [e]
    case round =>
      obtain ⟨j, rfl, hj, rfl, HS⟩ := hrel
      by_cases hlt : j < N
      · have hlti : (j : Int) < (N : Int) := by omega
        obtain ⟨b, off, rfl, hcell, hb⟩ := HR.out.at (show j < xs.length by rw [HN.out]; exact hlt)
        obtain ⟨F, hF⟩ : ∃ F, xs.getD j 0 = F := ⟨_, rfl⟩
        rw [hF] at hcell
        have HF : Hid (xs.getD j 0 = F) := hF
        have hcell2 : ∀ o1 o2, ((w.alloc o1).alloc o2).cell? ⟨b, off + j, none⟩ = some (.int .i64 F) := fun o1 o2 => by
          rw [World.cell?_alloc_past _ _ _ (by simp; omega), World.cell?_alloc_past _ _ _ hb]; exact hcell
        have hnext : Hid (lcells 16 (cnts (nsOf xs) (j + 1)) = if 0 < F ∧ F ≤ 15 then (lcells 16 (cnts (nsOf xs) j)).setIfInBounds F.toNat (.int .i64 ((cnts (nsOf xs) j F.toNat + 1 : Nat) : Int)) else lcells 16 (cnts (nsOf xs) j)) ∨ ¬ (0 ≤ F ∧ F ≤ 15) := by
          by_cases hr : 0 ≤ F ∧ F ≤ 15
          · left
            show _ = _
            have hg : (nsOf xs).getD j 0 = F.toNat := by rw [nsOf_get, hF]
            by_cases h0 : 0 < F
            · rw [if_pos ⟨h0, hr.2⟩, lcells_set]
              refine lcells_congr (fun i _ => ?_)
              unfold cnts
              simp only [lcnt, hg]
              by_cases e : i = F.toNat
              · subst e; rw [if_pos rfl, if_neg (by omega), if_pos rfl, if_neg (by omega)]
              · rw [if_neg e, if_neg (Ne.symm e)]; simp
            · rw [if_neg (by omega)]
              refine lcells_congr (fun i _ => ?_)
              unfold cnts
              simp only [lcnt, hg]
              by_cases e : i = 0
              · rw [if_pos e, if_pos e]
              · rw [if_neg e, if_neg e, if_neg (by omega)]; rfl
          · exact .inr hr
        clear hcell hF
        by_cases h0 : F < 0
        · as_aux_lemma =>
            go_wp2
            refine bodyPost_ret (v := .tuple #[.agg (lcells 16 (fun _ => 0)), .int .i64 30]) ?_ rfl (HNO.out _ ?_ (((Below.refl _ _).alloc (Nat.le_refl _) _).alloc (by simp) _))
            · rw [results_cell_tmp rfl, ← z16]
              go_simp
            · rintro ⟨h, _⟩
              rw [may_no (by rw [HN.out]; exact hlt) (.inl (by rw [HF.out]; exact h0))] at h
              cases h
        · by_cases h15 : 15 < F
          · as_aux_lemma =>
              go_wp2
              refine bodyPost_ret (v := .tuple #[.agg (lcells 16 (fun _ => 0)), .int .i64 30]) ?_ rfl (HNO.out _ ?_ (((Below.refl _ _).alloc (Nat.le_refl _) _).alloc (by simp) _))
              · rw [results_cell_tmp rfl, ← z16]
                go_simp
              · rintro ⟨h, _⟩
                rw [may_no (by rw [HN.out]; exact hlt) (.inr (by rw [HF.out]; exact h15))] at h
                cases h
          · obtain ⟨f, rfl⟩ : ∃ f : Nat, F = (f : Int) := ⟨F.toNat, by omega⟩
            have HX : Hid (lcells 16 (cnts (nsOf xs) (j + 1)) = if 0 < (f : Int) ∧ (f : Int) ≤ 15 then (lcells 16 (cnts (nsOf xs) j)).setIfInBounds f (.int .i64 ((cnts (nsOf xs) j f + 1 : Nat) : Int)) else lcells 16 (cnts (nsOf xs) j)) := by
              rcases hnext with h | h
              · exact h
              · omega
            have HS2 : Hid (∀ i, i < j + 1 → 0 ≤ xs.getD i 0 ∧ xs.getD i 0 ≤ 15) := fun i hi => by
              by_cases e : i = j
              · subst e; rw [HF.out]; omega
              · exact HS.out i (by omega)
            have hAg : (lcells 16 (cnts (nsOf xs) j))[f]? = some (.int .i64 (cnts (nsOf xs) j f : Nat)) := lcells_get 16 _ f (by omega)
            have hcn : cnts (nsOf xs) j f ≤ 288 := by unfold cnts; split; omega; exact Nat.le_trans (lcnt_le _ _ _) (by omega)
            have hAs := lcells_size 16 (cnts (nsOf xs) j)
            obtain ⟨A, hA⟩ : ∃ A, lcells 16 (cnts (nsOf xs) j) = A := ⟨_, rfl⟩
            obtain ⟨v, hv⟩ : ∃ v, cnts (nsOf xs) j f = v := ⟨_, rfl⟩
            rw [hA] at HX hAg hAs
            rw [hv] at HX hAg hcn
            rw [hA]
            have hf15 : (f : Int) < 16 := by omega
            have hft : ((f : Int)).toNat = f := by simp
            clear hnext hA hv
            by_cases hp : 0 < f
            · as_aux_lemma =>
                have hpi : (0 : Int) < (f : Int) := by omega
                go_wp2
                refine ⟨⟨j + 1, by go_num, by omega, ?_, HS2⟩, by simp [intOf]; omega⟩
                rw [HX.out, if_pos ⟨hpi, by omega⟩]
                rfl
            · as_aux_lemma =>
                have hpi : ¬ (0 : Int) < (f : Int) := by omega
                go_wp2
                refine ⟨⟨j + 1, by go_num, by omega, ?_, HS2⟩, by simp [intOf]; omega⟩
                rw [HX.out, if_neg (by omega)]
      · obtain rfl : j = N := by omega
        have hmay : may xs = true := may_yes (by rw [HN.out]; omega) (fun i hi => HS.out i (by rw [← HN.out]; exact hi))
        have HMY : Hid (may xs = true) := hmay
        have hst : lcells 16 (cnts (nsOf xs) j) = lcells 16 (endsTo (nsOf xs) 1) := lcells_congr (fun i _ => by
          unfold cnts endsTo
          by_cases e : i = 0
          · subst e; rfl
          · rw [if_neg e, if_neg (by omega), nsOf_length, HN.out])
        rw [hst]
        clear hst hmay
        have HSM : Hid (∀ l, l ≤ 15 → ew (nsOf xs) l ≤ 9437184) := fun l hl => ew_small _ (by rw [nsOf_length, HN.out]; omega) l hl
        have H0 : Hid (EndSt w ((w.alloc (.cells #[.int .i64 0, .int .i64 0, .int .i64 0, .int .i64 0, .int .i64 0, .int .i64 0, .int .i64 0, .int .i64 0, .int .i64 0, .int .i64 0, .int .i64 0, .int .i64 0, .int .i64 0, .int .i64 0, .int .i64 0, .int .i64 0] 126)).alloc (.cells (lcells 16 (endsTo (nsOf xs) 1)) 126)) (nsOf xs) 1) := ⟨w, rfl, Below.refl _ _, rfl⟩
        obtain ⟨W1, hW1⟩ : ∃ W, (w.alloc (.cells #[.int .i64 0, .int .i64 0, .int .i64 0, .int .i64 0, .int .i64 0, .int .i64 0, .int .i64 0, .int .i64 0, .int .i64 0, .int .i64 0, .int .i64 0, .int .i64 0, .int .i64 0, .int .i64 0, .int .i64 0, .int .i64 0] 126)).alloc (.cells (lcells 16 (endsTo (nsOf xs) 1)) 126) = W := ⟨_, rfl⟩
        rw [hW1] at H0 ⊢
        clear hW1
        go_wp2
        go_loopw [7] (fun v7 wr => ∃ l : Nat, v7 = .int .i64 l ∧ 1 ≤ l ∧ l ≤ 16 ∧ Hid (EndSt w wr (nsOf xs) l)) (fun v7 _ => 17 - (intOf v7).toNat)
        case atStart => exact ⟨1, rfl, by omega, by omega, H0⟩
        case round =>
          obtain ⟨l, rfl, hl1, hl2, HE⟩ := hrel
          by_cases hll : l ≤ 15
          · have hlli : (l : Int) ≤ 15 := by omega
            obtain ⟨k1, k2⟩ := HE.out.cell (show l < 16 by omega)
            obtain ⟨k3, _⟩ := HE.out.cell (show l - 1 < 16 by omega)
            obtain ⟨v1, hv1⟩ : ∃ v, endsTo (nsOf xs) l l = v := ⟨_, rfl⟩
            obtain ⟨v2, hv2⟩ : ∃ v, endsTo (nsOf xs) l (l - 1) = v := ⟨_, rfl⟩
            have hb1 : v1 ≤ 288 := by rw [← hv1]; unfold endsTo; rw [if_neg (by omega)]; exact Nat.le_trans (lcnt_le _ _ _) (by rw [nsOf_length, HN.out]; omega)
            have hb2 : v2 ≤ 9437184 := by rw [← hv2]; unfold endsTo; rw [if_pos (by omega)]; exact HSM.out _ (by omega)
            have H2 : Hid (EndSt w (wr.drew.setCell ⟨w.heap.size + 1, l, none⟩ (.int .i64 ((v1 + 2 * v2 : Nat) : Int))) (nsOf xs) (l + 1)) := HE.out.next hl1 (by rw [hv1, hv2])
            rw [hv1] at k1
            rw [hv2] at k3
            have p0 : (0 : Int) ≤ (l : Int) := by omega
            have p1 : (l : Int) < 16 := by omega
            have p2 : ((l : Int)).toNat = l := by simp
            have q0 : (0 : Int) ≤ (l : Int) - 1 := by omega
            have q1 : (l : Int) - 1 < 16 := by omega
            have q2 : ((l : Int) - 1).toNat = l - 1 := by omega
            have q3 : IntKind.i64.wrap ((l : Int) - 1) = (l : Int) - 1 := by rw [IntKind.wrap_i64]; omega
            have r1 : IntKind.i64.wrap (2 * (v2 : Int)) = 2 * (v2 : Int) := by rw [IntKind.wrap_i64]; omega
            have r2 : IntKind.i64.wrap ((v1 : Int) + 2 * (v2 : Int)) = (v1 : Int) + 2 * (v2 : Int) := by rw [IntKind.wrap_i64]; omega
            have e1 : ((v1 + 2 * v2 : Nat) : Int) = (v1 : Int) + 2 * (v2 : Int) := by omega
            rw [e1] at H2
            clear hv1 hv2 e1
            go_wp2_with fail
            go_region
            all_goals
              go_wp2
              exact ⟨⟨l + 1, by go_num, by omega, by omega, H2⟩, by simp [intOf]; omega⟩
          · obtain rfl : l = 16 := by omega
            have hew : lcells 16 (endsTo (nsOf xs) 16) = lcells 16 (ew (nsOf xs)) := lcells_congr (fun i hi => by unfold endsTo; rw [if_pos hi])
            obtain ⟨u, hus, hub, rfl⟩ := HE.out
            clear HE
            rw [hew]
            have hB : Hid (∀ o1 o2, Below w.heap.size w ((u.alloc o1).alloc o2)) := fun o1 o2 => (hub.alloc (by omega) _).alloc (by simp; omega) _
            rw [← hus]
            have HUS : Hid (u.heap.size = w.heap.size) := hus
            clear hus hub
            obtain ⟨gi, hgi⟩ : ∃ gi : Nat → Int, ∀ i, ((ew (nsOf xs) i : Nat) : Int) = gi i := ⟨_, fun _ => rfl⟩
            have HGI : Hid (∀ i, ((ew (nsOf xs) i : Nat) : Int) = gi i) := hgi
            have e1 : ∀ i, i < 16 → (lcells 16 (ew (nsOf xs)))[i]? = some (.int .i64 (gi i)) := fun i hi => by rw [lcells_get 16 _ i hi, hgi]
            obtain ⟨A, hA⟩ : ∃ A, lcells 16 (ew (nsOf xs)) = A := ⟨_, rfl⟩
            rw [hA] at e1
            rw [hA]
            clear hew hA hgi
            by_cases hbig : 32768 < gi 15
            · as_aux_lemma =>
                go_wp2
                refine bodyPost_ret (v := .tuple #[.agg (lcells 16 (fun _ => 0)), .int .i64 30]) ?_ rfl (HNO.out _ ?_ (hB.out _ _))
                · rw [results_cell_tmp rfl, ← z16]
                  go_simp
                · rintro ⟨_, h⟩
                  have := HGI.out 15
                  omega
            · as_aux_lemma =>
                go_wp2
                refine bodyPost_ret (v := .tuple #[.agg (lcells 16 (ew (nsOf xs))), .int .i64 0]) ?_ rfl ⟨.inl ⟨HMY.out, by have := HGI.out 15; omega, rfl⟩, hB.out _ _⟩
                rw [results_cell_tmp rfl, ← g16i _ gi HGI.out]
                go_simp
end Go.Proofs.YtlbadjfcffoakaaDoor
namespace Go.Proofs.YtlbadjfcffoakaaDoor
open Go.RowKit
set_option linter.unusedVariables false
set_option maxRecDepth 20000

def cw (ns : List Nat) (i : Nat) : Nat := if ns.getD i 0 = 0 then 0 else codeW ns i
def nxt (ns : List Nat) (i l : Nat) : Nat := if l = 0 then 0 else fstW ns l + lcnt ns l i
def nx0 (ns : List Nat) (k l : Nat) : Nat := if l < k then fstW ns l else 0
def wds (ns : List Nat) (i s : Nat) : Nat := if s < i then cw ns s else 0
theorem fstW_ew (ns : List Nat) (l : Nat) (h : 1 ≤ l) : fstW ns l = 2 * ew ns (l - 1) := by
  obtain ⟨k, rfl⟩ : ∃ k, l = k + 1 := ⟨l - 1, by omega⟩
  cases k with
  | zero => rfl
  | succ k => rw [fstW_succ ns (k + 1) (by omega)]; rfl
theorem fstW_zero (ns : List Nat) : fstW ns 0 = 0 := rfl
theorem setRow_last (w : World) (A B : Array Value) (t : TypeId) : (w.alloc (.cells A t)).setRow w.heap.size B = w.alloc (.cells B t) := by
  have h : (w.alloc (.cells A t)).heap[w.heap.size]? = some (.cells A t (0, 0)) := heap_alloc_last w (.cells A t)
  unfold World.setRow World.alloc
  congr 1
  apply Array.ext_getElem?
  intro i
  simp only [Array.getElem?_modify, Array.getElem?_push]
  by_cases e : i = w.heap.size
  · subst e; simp
  · rw [if_neg (Ne.symm e), if_neg e, if_neg e]
def CodesEnd (w : World) (xs : List Int) (e : Ending) (w' : World) : Prop :=
  ((may xs = true ∧ ew (nsOf xs) 15 ≤ 32768 ∧ ∃ L, e = .returned (.tuple #[.slice (some ⟨L, 0, none⟩) xs.length xs.length, .int .i64 0]) ∧ LB w' L xs.length (cw (nsOf xs)) ∧ w.heap.size ≤ L) ∨
   (¬ (may xs = true ∧ ew (nsOf xs) 15 ≤ 32768) ∧ e = .returned (.tuple #[.slice none 0 0, .int .i64 30]))) ∧ Below w.heap.size w w'

end Go.Proofs.YtlbadjfcffoakaaDoor
namespace Go.Proofs.YtlbadjfcffoakaaDoor
open Go.RowKit
set_option linter.unusedVariables false
set_option maxRecDepth 20000

theorem nx0_last (ns : List Nat) : lcells 16 (nx0 ns 16) = lcells 16 (nxt ns 0) := lcells_congr (fun i hi => by
  unfold nx0 nxt
  rw [if_pos hi]
  split
  · subst_vars; rfl
  · simp [lcnt])
theorem nx0_step (ns : List Nat) (k : Nat) : (lcells 16 (nx0 ns k)).setIfInBounds k (.int .i64 ((fstW ns k : Nat) : Int)) = lcells 16 (nx0 ns (k + 1)) := by
  rw [lcells_set]
  refine lcells_congr (fun i _ => ?_)
  unfold nx0
  by_cases e : i = k
  · subst e; rw [if_pos rfl, if_pos (by omega)]
  · rw [if_neg e]
    by_cases e2 : i < k
    · rw [if_pos e2, if_pos (by omega)]
    · rw [if_neg e2, if_neg (by omega)]
theorem nxt_step (ns : List Nat) (i l : Nat) (hl : 0 < l) (hg : ns.getD i 0 = l) : (lcells 16 (nxt ns i)).setIfInBounds l (.int .i64 ((nxt ns i l + 1 : Nat) : Int)) = lcells 16 (nxt ns (i + 1)) := by
  rw [lcells_set]
  refine lcells_congr (fun k _ => ?_)
  unfold nxt
  simp only [lcnt, hg]
  by_cases e : k = l
  · subst e; rw [if_pos rfl, if_neg (by omega), if_neg (by omega), if_pos rfl]; omega
  · rw [if_neg e, if_neg (Ne.symm e)]; simp
theorem nxt_skip (ns : List Nat) (i : Nat) (hg : ns.getD i 0 = 0) : lcells 16 (nxt ns i) = lcells 16 (nxt ns (i + 1)) := lcells_congr (fun k _ => by
  unfold nxt
  simp only [lcnt, hg]
  by_cases e : k = 0
  · rw [if_pos e, if_pos e]
  · rw [if_neg e, if_neg e, if_neg (Ne.symm e)]; rfl)
theorem wds_step (ns : List Nat) (N i l : Nat) (hl : 0 < l) (hg : ns.getD i 0 = l) : (lcells N (wds ns i)).setIfInBounds i (.int .i64 ((nxt ns i l : Nat) : Int)) = lcells N (wds ns (i + 1)) := by
  rw [lcells_set]
  refine lcells_congr (fun k _ => ?_)
  unfold wds
  by_cases e : k = i
  · subst e
    rw [if_pos rfl, if_pos (by omega)]
    unfold cw nxt codeW
    rw [if_neg (by omega), if_neg (by omega), hg]
  · rw [if_neg e]
    by_cases e2 : k < i
    · rw [if_pos e2, if_pos (by omega)]
    · rw [if_neg e2, if_neg (by omega)]
theorem wds_skip (ns : List Nat) (N i : Nat) (hg : ns.getD i 0 = 0) : lcells N (wds ns i) = lcells N (wds ns (i + 1)) := lcells_congr (fun k _ => by
  unfold wds
  by_cases e : k = i
  · subst e; rw [if_neg (by omega), if_pos (by omega)]; unfold cw; rw [if_pos hg]
  · by_cases e2 : k < i
    · rw [if_pos e2, if_pos (by omega)]
    · rw [if_neg e2, if_neg (by omega)])
theorem wds_all (ns : List Nat) (N : Nat) : lcells N (wds ns N) = lcells N (cw ns) := lcells_congr (fun k hk => by unfold wds; rw [if_pos hk])
theorem nxt_small (ns : List Nat) (h : ns.length ≤ 288) (i l : Nat) (hi : i ≤ 288) (hl : l ≤ 15) : nxt ns i l ≤ 18874656 := by
  unfold nxt
  split
  · omega
  · rw [fstW_ew ns l (by omega)]
    have h1 := ew_small ns h (l - 1) (by omega)
    have h2 := lcnt_le ns l i
    omega
theorem made_lcells (N : Nat) : madeCells #[.int .i64 0] N = lcells N (fun _ => 0) := by
  apply Array.ext'
  rw [toList_madeCells_one]
  unfold lcells
  apply List.ext_getElem
  · simp
  · intro i h1 h2; simp

set_option maxRecDepth 20000 in
set_option maxHeartbeats 4000000 in
theorem codes_ok (xs : List Int) (a : Option Addr) (c N : Nat) (w : World) (hN : xs.length = N) (hrow : IRow w a xs) (hlen : N ≤ 9223372036854775807) :
    Calls Tryd.prog 69 #[.slice a N c] w fun e w' => CodesEnd w xs e w' := by
  have HE : Hid (Calls Tryd.prog 68 #[.slice a N c] w fun e w' => EndsEnd w xs e w') := wordEnds_ok xs a c N w hN hrow hlen
  have HR : Hid (IRow w a xs) := hrow
  have HN : Hid (xs.length = N) := hN
  clear hN hrow
  go_enter Tryd.func69, Tryd.ntmps69
  go_wp2_with fail
  refine Calls.mono HE.out ?_
  rintro e w1 ⟨hcase, hb1⟩
  have HB : Hid (Below w.heap.size w w1) := hb1
  have hgen : ∃ (g : Nat → Nat) (q : Int), e = .returned (.tuple #[.agg (lcells 16 g), .int .i64 q]) ∧ Hid ((may xs = true ∧ ew (nsOf xs) 15 ≤ 32768 ∧ g = ew (nsOf xs) ∧ q = 0) ∨ (¬ (may xs = true ∧ ew (nsOf xs) 15 ≤ 32768) ∧ q = 30)) := by
    rcases hcase with ⟨h1, h2, rfl⟩ | ⟨h1, rfl⟩
    · exact ⟨_, _, rfl, .inl ⟨h1, h2, rfl, rfl⟩⟩
    · exact ⟨_, _, rfl, .inr ⟨h1, rfl⟩⟩
  obtain ⟨g, q, rfl, HG⟩ := hgen
  have hAg : ∀ i, i < 16 → (lcells 16 g)[i]? = some (.int .i64 (g i : Nat)) := fun i hi => lcells_get 16 g i hi
  have hsv := run_storeCells_blk (P := Tryd.prog) (w1.alloc (.cells #[.int .i64 0, .int .i64 0, .int .i64 0, .int .i64 0, .int .i64 0, .int .i64 0, .int .i64 0, .int .i64 0, .int .i64 0, .int .i64 0, .int .i64 0, .int .i64 0, .int .i64 0, .int .i64 0, .int .i64 0, .int .i64 0] 126)) w1.heap.size 126 126 _ (lcells 16 g) (heap_alloc_last _ _) (by rw [lcells_size]; exact perSize) (by rw [lcells_size]; rfl) (lcells_one _ _)
  rw [setRow_last] at hsv
  have hAs := lcells_size 16 g
  obtain ⟨A, hA⟩ : ∃ A, lcells 16 g = A := ⟨_, rfl⟩
  rw [hA] at hAg hsv hAs
  rw [hA]
  have HSV : Hid _ := hsv
  clear hcase hb1 hsv hA
  go_wp2
  simp only [HSV.out, Result.andThen]
  rw [Oper.upon_skip]
  clear hAs HSV
  rcases HG.out with ⟨hmay, hfit, rfl, rfl⟩ | ⟨hno, rfl⟩
  · have HM : Hid (may xs = true ∧ ew (nsOf xs) 15 ≤ 32768) := ⟨hmay, hfit⟩
    have hN288 : N ≤ 288 := by rw [← HN.out]; exact may_len hmay
    have HSM : Hid (∀ l, l ≤ 15 → ew (nsOf xs) l ≤ 9437184) := fun l hl => ew_small _ (by rw [nsOf_length, HN.out]; exact hN288) l hl
    obtain ⟨i0, hi, hz0, hz1, hz2⟩ := info_split intInfo
    have HI : Hid (Tryd.prog.info? 3 = some i0 ∧ i0.zero = some (.int .i64 0) ∧ i0.size = 1 ∧ i0.bytes = 8) := ⟨hi, hz0, hz1, hz2⟩
    clear hi hz0 hz1 hz2 hmay hfit HG HE
    go_wp2
    go_loopw [7] (fun v7 wr => ∃ l : Nat, v7 = .int .i64 l ∧ 1 ≤ l ∧ l ≤ 16 ∧ wr = (w1.alloc (.cells A 126)).alloc (.cells (lcells 16 (nx0 (nsOf xs) l)) 126)) (fun v7 _ => 17 - (intOf v7).toNat)
    case atStart =>
      refine ⟨1, rfl, by omega, by omega, ?_⟩
      have e : lcells 16 (nx0 (nsOf xs) 1) = lcells 16 (fun _ => 0) := lcells_congr (fun i _ => by
        unfold nx0; split
        · rw [show i = 0 by omega]; rfl
        · rfl)
      rw [e, ← z16]
    case round =>
      obtain ⟨l, rfl, hl1, hl2, rfl⟩ := hrel
      by_cases hll : l ≤ 15
      · have hlli : (l : Int) ≤ 15 := by omega
        have k1 := hAg (l - 1) (by omega)
        obtain ⟨v, hv⟩ : ∃ v, ew (nsOf xs) (l - 1) = v := ⟨_, rfl⟩
        have hvb : v ≤ 9437184 := by rw [← hv]; exact HSM.out _ (by omega)
        have HST : Hid ((lcells 16 (nx0 (nsOf xs) l)).setIfInBounds l (.int .i64 (2 * (v : Int))) = lcells 16 (nx0 (nsOf xs) (l + 1))) := by
          show _ = _
          rw [← nx0_step, fstW_ew _ _ hl1, hv]
          congr 2
        rw [hv] at k1
        have hBg := lcells_get 16 (nx0 (nsOf xs) l) l (by omega)
        obtain ⟨B, hBB⟩ : ∃ B, lcells 16 (nx0 (nsOf xs) l) = B := ⟨_, rfl⟩
        rw [hBB] at HST hBg
        rw [hBB]
        have p0 : (0 : Int) ≤ (l : Int) := by omega
        have p1 : (l : Int) < 16 := by omega
        have p2 : ((l : Int)).toNat = l := by simp
        have q0 : (0 : Int) ≤ (l : Int) - 1 := by omega
        have q1 : (l : Int) - 1 < 16 := by omega
        have q2 : ((l : Int) - 1).toNat = l - 1 := by omega
        have q3 : IntKind.i64.wrap ((l : Int) - 1) = (l : Int) - 1 := by rw [IntKind.wrap_i64]; omega
        have r1 : IntKind.i64.wrap (2 * (v : Int)) = 2 * (v : Int) := by rw [IntKind.wrap_i64]; omega
        clear hv hBB
        go_wp2
        refine ⟨⟨l + 1, by go_num, by omega, by omega, ?_⟩, by simp [intOf]; omega⟩
        rw [← HST.out]
      · have hlli : ¬ (l : Int) ≤ 15 := by omega
        obtain rfl : l = 16 := by omega
        rw [nx0_last]
        have HMK := made_lcells N
        clear hll hl1 hl2
        go_wp2_with (at_make; refine wpList_make_row _ rfl _ _ 41 rfl 3 i0 (.int .i64 0) Tryd.underlying41 HI.out.1 HI.out.2.1 HI.out.2.2.1 rfl .i64 .i64 N rfl rfl (by rw [HI.out.2.2.2]; omega) (by omega) ?_; rw [HMK])
        go_loopw [9, 10, 35] (fun _ _ v35 wr => ∃ i : Nat, v35 = .int .i64 i ∧ i ≤ N ∧ wr = ((w1.alloc (.cells A 126)).alloc (.cells (lcells 16 (nxt (nsOf xs) i)) 126)).alloc (.cells (lcells N (wds (nsOf xs) i)) 3)) (fun _ _ v35 _ => N - (intOf v35).toNat)
        case atStart =>
          refine ⟨0, rfl, by omega, ?_⟩
          rw [show lcells N (wds (nsOf xs) 0) = lcells N (fun _ => 0) from lcells_congr (fun i _ => by unfold wds; rw [if_neg (by omega)])]
        case round =>
          obtain ⟨i, rfl, hi, rfl⟩ := hrel
          by_cases hlt : i < N
          · have hlti : (i : Int) < (N : Int) := by omega
            obtain ⟨b, off, rfl, hcell, hb⟩ := (HR.out.below HB.out).at (show i < xs.length by rw [HN.out]; exact hlt)
            obtain ⟨f, hf⟩ : ∃ f : Nat, xs.getD i 0 = (f : Int) := ⟨(xs.getD i 0).toNat, by have := (may_get HM.out.1 i).1; omega⟩
            have hf15 : f ≤ 15 := by have := (may_get HM.out.1 i).2; omega
            have hfn : (nsOf xs).getD i 0 = f := by rw [nsOf_get, hf]; simp
            rw [hf] at hcell
            have hcell2 : ∀ o1 o2 o3, (((w1.alloc o1).alloc o2).alloc o3).cell? ⟨b, off + i, none⟩ = some (.int .i64 (f : Int)) := fun o1 o2 o3 => by
              rw [World.cell?_alloc_past _ _ _ (by simp; omega), World.cell?_alloc_past _ _ _ (by simp; omega), World.cell?_alloc_past _ _ _ hb]; exact hcell
            have HFN : Hid ((nsOf xs).getD i 0 = f) := hfn
            clear hcell hf hfn hb
            by_cases hp : 0 < f
            · have hpi : (0 : Int) < (f : Int) := by omega
              have hBg := lcells_get 16 (nxt (nsOf xs) i) f (by omega)
              have hCg := lcells_get N (wds (nsOf xs) i) i hlt
              have hvb := nxt_small (nsOf xs) (by rw [nsOf_length, HN.out]; exact hN288) i f (by omega) hf15
              have hs1 := nxt_step (nsOf xs) i f hp HFN.out
              have hs2 := wds_step (nsOf xs) N i f hp HFN.out
              obtain ⟨v, hv⟩ : ∃ v, nxt (nsOf xs) i f = v := ⟨_, rfl⟩
              obtain ⟨B, hBB⟩ : ∃ B, lcells 16 (nxt (nsOf xs) i) = B := ⟨_, rfl⟩
              obtain ⟨C, hCC⟩ : ∃ C, lcells N (wds (nsOf xs) i) = C := ⟨_, rfl⟩
              rw [hBB, hv] at hs1 hBg
              rw [hCC, hv] at hs2
              rw [hCC] at hCg
              rw [hv] at hvb
              rw [hBB, hCC]
              have HS : Hid (B.setIfInBounds f (.int .i64 ((v : Int) + 1)) = lcells 16 (nxt (nsOf xs) (i + 1)) ∧ C.setIfInBounds i (.int .i64 (v : Int)) = lcells N (wds (nsOf xs) (i + 1))) := ⟨hs1, hs2⟩
              have p1 : (f : Int) < 16 := by omega
              clear hs1 hs2 hv hBB hCC
              go_wp2
              refine ⟨⟨i + 1, by go_num, by omega, ?_⟩, by simp [intOf]; omega⟩
              rw [← HS.out.1, ← HS.out.2]
            · have hpi : ¬ (0 : Int) < (f : Int) := by omega
              have hs1 := nxt_skip (nsOf xs) i (by rw [HFN.out]; omega)
              have hs2 := wds_skip (nsOf xs) N i (by rw [HFN.out]; omega)
              rw [hs1, hs2]
              clear hs1 hs2
              go_wp2
              exact ⟨⟨i + 1, by go_num, by omega, rfl⟩, by simp [intOf]; omega⟩
          · obtain rfl : i = N := by omega
            rw [wds_all]
            go_wp2
            go_ret2
            have hbel : ∀ o1 o2 o3, Below w1.heap.size w1 (((w1.alloc o1).alloc o2).alloc o3) := fun o1 o2 o3 => (((Below.refl _ _).alloc (Nat.le_refl _) _).alloc (by simp) _).alloc (by simp; omega) _
            refine ⟨.inl ⟨HM.out.1, HM.out.2, w1.heap.size + 1 + 1, by rw [HN.out]; rfl, ?_, by have := HB.out.size; omega⟩, HB.out.trans ((hbel _ _ _).mono HB.out.size)⟩
            rw [HN.out]
            have := heap_alloc_last ((w1.alloc (.cells A 126)).alloc (.cells (lcells 16 (nxt (nsOf xs) i)) 126)) (.cells (lcells i (cw (nsOf xs))) 3)
            simpa [LB] using this
  · go_wp2
    go_ret2
    exact ⟨.inr ⟨hno, rfl⟩, HB.out.trans ((Below.refl _ _).alloc HB.out.size _)⟩
end Go.Proofs.YtlbadjfcffoakaaDoor
