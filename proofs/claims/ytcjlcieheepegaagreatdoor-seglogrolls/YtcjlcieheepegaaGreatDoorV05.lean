/- CRC-32C of the program and of the document: contracts. -/
/- CRC-32C of the program (Crc, CrcMore) and of the document (more, Crc, CrcMore): contracts. -/
/- Crc and CrcMore, the program's and the document's. -/
import Derived.Test.YtcjlcieheepegaaGreatDoorV04
import Derived.Deep.WholeRow
import Derived.Laws.CopyOwn
namespace Go.Proofs.YtcjlcieheepegaaGreatDoor.S2
open Go.RowKit
set_option linter.unusedVariables false
set_option maxRecDepth 20000

/-- w' is w but for block b, for draws and for new blocks. -/
structure Only (b : Nat) (w w' : World) : Prop where
  os : w'.os = w.os
  tape : w'.tape = w.tape
  output : w'.output = w.output
  size : w.heap.size ≤ w'.heap.size
  block : ∀ k, k < w.heap.size → k ≠ b → w'.heap[k]? = w.heap[k]?
theorem Only.refl (b : Nat) (w : World) : Only b w w := ⟨rfl, rfl, rfl, Nat.le_refl _, fun _ _ _ => rfl⟩
theorem Only.trans {b : Nat} {u v w : World} (h : Only b u v) (k : Only b v w) : Only b u w :=
  ⟨k.os.trans h.os, k.tape.trans h.tape, k.output.trans h.output, Nat.le_trans h.size k.size, fun i hl hi => (k.block i (Nat.lt_of_lt_of_le hl h.size) hi).trans (h.block i hl hi)⟩
theorem Only.drewN {b : Nat} {w w' : World} (h : Only b w w') (n : Nat) : Only b w (w'.drewN n) := ⟨h.os, h.tape, h.output, h.size, h.block⟩
theorem Only.undrew {b : Nat} {w w' : World} {n : Nat} (h : Only b (w.drewN n) w') : Only b w w' := ⟨h.os, h.tape, h.output, h.size, h.block⟩
theorem Only.setCell (b i : Nat) (w : World) (u : Value) : Only b w (w.setCell ⟨b, i, none⟩ u) :=
  ⟨rfl, rfl, rfl, by simp [World.setCell], fun k _ hk => Below.heap_setCell _ _ _ _ hk⟩
theorem Only.of_below {b : Nat} {w w' : World} (h : Below w.heap.size w w') : Only b w w' := ⟨h.os, h.tape, h.output, h.size, fun k hk _ => h.block k hk⟩
theorem Only.below {b B : Nat} {w w' : World} (h : Only b w w') (hb : B ≤ b) (hB : B ≤ w.heap.size) : Below B w w' :=
  ⟨h.os, h.tape, h.output, h.size, fun k hk => h.block k (by omega) (by omega)⟩
theorem below_drewN {B : Nat} {w w' : World} (h : Below B w w') (n : Nat) : Below B w (w'.drewN n) := ⟨h.os, h.tape, h.output, h.size, h.block⟩
theorem below_undrew {B : Nat} {w w' : World} {n : Nat} (h : Below B (w.drewN n) w') : Below B w w' := ⟨h.os, h.tape, h.output, h.size, h.block⟩
theorem block_setCell {w : World} {b i : Nat} {cs : Array Value} {t : TypeId} {u : Value} (h : w.heap[b]? = some (.cells cs t (0, 0))) : (w.setCell ⟨b, i, none⟩ u).heap[b]? = some (.cells (cs.setIfInBounds i u) t (0, 0)) := by
  have hlt := lt_of_block h
  have h' : w.heap[b] = .cells cs t (0, 0) := by simpa [Array.getElem?_eq_getElem hlt] using h
  show (w.heap.modify b _)[b]? = _
  rw [Array.getElem?_eq_getElem (by simpa using hlt), Array.getElem_modify_self, h']
  rfl

/-- The table as it grows: d divides a place, or bt does and the place is below h. -/
def tv (d bt h i : Nat) : Nat := if i % d = 0 ∨ (i % bt = 0 ∧ i < h) then cTn 8 i else 0
def tc (d bt h : Nat) : Array Value := ((List.range 256).map fun i => Value.int .u32 (tv d bt h i : Nat)).toArray
theorem tc_size (d bt h : Nat) : (tc d bt h).size = 256 := by simp [tc]
theorem tc_get (d bt h i : Nat) (hi : i < 256) : (tc d bt h)[i]? = some (.int .u32 (tv d bt h i : Nat)) := by
  simp [tc, hi]
theorem tc_ext {d bt h d' bt' h' : Nat} (e : ∀ i, i < 256 → tv d bt h i = tv d' bt' h' i) : tc d bt h = tc d' bt' h' := by
  unfold tc
  congr 1
  apply List.map_congr_left
  intro i hi
  rw [e i (by simpa using hi)]
theorem tc_zero : tc 256 1 0 = Array.replicate 256 (.int .u32 0) := by
  apply Array.ext_getElem?
  intro i
  by_cases hi : i < 256
  · rw [tc_get _ _ _ _ hi]
    have : tv 256 1 0 i = 0 := by
      unfold tv
      by_cases h0 : i = 0
      · subst h0; rfl
      · rw [if_neg (by omega)]
    rw [this]
    simp [hi]
  · rw [Array.getElem?_eq_none (by rw [tc_size]; omega)]
    simp [hi]
/-- The eight bits' shares, from the highest bit down. -/
def Pow8 (d j : Nat) : Prop := (d = 256 ∧ j = 0) ∨ (d = 128 ∧ j = 1) ∨ (d = 64 ∧ j = 2) ∨ (d = 32 ∧ j = 3) ∨ (d = 16 ∧ j = 4) ∨ (d = 8 ∧ j = 5) ∨ (d = 4 ∧ j = 6) ∨ (d = 2 ∧ j = 7) ∨ (d = 1 ∧ j = 8)
theorem share_at (j : Nat) (hj : j < 8) : cT (cTn j 1) = cTn 8 (2 ^ (7 - j)) ∧ cTn (j + 1) 1 = cT (cTn j 1) := by
  have h : ∀ j : Fin 8, (cT (cTn j.val 1) == cTn 8 (2 ^ (7 - j.val)) && cTn (j.val + 1) 1 == cT (cTn j.val 1)) = true := by decide +kernel
  have := h ⟨j, hj⟩
  simpa using this
theorem pow8_share {d j : Nat} (p : Pow8 d j) (hd : d ≠ 1) : cT (cTn j 1) = cTn 8 (d / 2) ∧ cTn (j + 1) 1 = cT (cTn j 1) := by
  have hj : j < 8 := by unfold Pow8 at p; omega
  have e := share_at j hj
  have hp : 2 ^ (7 - j) = d / 2 := by
    rcases p with ⟨rfl, rfl⟩ | ⟨rfl, rfl⟩ | ⟨rfl, rfl⟩ | ⟨rfl, rfl⟩ | ⟨rfl, rfl⟩ | ⟨rfl, rfl⟩ | ⟨rfl, rfl⟩ | ⟨rfl, rfl⟩ | ⟨rfl, rfl⟩
    all_goals first | rfl | exact absurd rfl hd
  rw [hp] at e
  exact e
theorem pow8_next {d j : Nat} (p : Pow8 d j) (hd : d ≠ 1) : Pow8 (d / 2) (j + 1) := by
  rcases p with ⟨rfl, rfl⟩ | ⟨rfl, rfl⟩ | ⟨rfl, rfl⟩ | ⟨rfl, rfl⟩ | ⟨rfl, rfl⟩ | ⟨rfl, rfl⟩ | ⟨rfl, rfl⟩ | ⟨rfl, rfl⟩ | ⟨rfl, rfl⟩
  all_goals first | exact absurd rfl hd | (unfold Pow8; omega)
theorem pow8_le {d j : Nat} (p : Pow8 d j) : 1 ≤ d ∧ d ≤ 256 ∧ d / 2 ≤ 128 := by
  rcases p with ⟨rfl, rfl⟩ | ⟨rfl, rfl⟩ | ⟨rfl, rfl⟩ | ⟨rfl, rfl⟩ | ⟨rfl, rfl⟩ | ⟨rfl, rfl⟩ | ⟨rfl, rfl⟩ | ⟨rfl, rfl⟩ | ⟨rfl, rfl⟩ <;> omega
theorem pow8_bounds {d j h : Nat} (p : Pow8 d j) (hd : d ≠ 1) (hh : h % d = 0) (hlt : h < 256) : 0 < d / 2 ∧ 2 * (d / 2) = d ∧ h + d / 2 < 256 ∧ h + d ≤ 256 ∧ (h + d) % d = 0 := by
  rcases p with ⟨rfl, rfl⟩ | ⟨rfl, rfl⟩ | ⟨rfl, rfl⟩ | ⟨rfl, rfl⟩ | ⟨rfl, rfl⟩ | ⟨rfl, rfl⟩ | ⟨rfl, rfl⟩ | ⟨rfl, rfl⟩ | ⟨rfl, rfl⟩
  all_goals first | exact absurd rfl hd | omega
theorem pow8_store {d j h : Nat} (p : Pow8 d j) (hd : d ≠ 1) (hh : h % d = 0) (hlt : h < 256) :
    (tc d (d / 2) h).setIfInBounds (h + d / 2) (.int .u32 (cTn 8 h ^^^ cTn 8 (d / 2) : Nat)) = tc d (d / 2) (h + d) := by
  have hx : cTn 8 (h + d / 2) = cTn 8 h ^^^ cTn 8 (d / 2) := by
    rw [← cTn_xor]
    congr 1
    rcases p with ⟨rfl, rfl⟩ | ⟨rfl, rfl⟩ | ⟨rfl, rfl⟩ | ⟨rfl, rfl⟩ | ⟨rfl, rfl⟩ | ⟨rfl, rfl⟩ | ⟨rfl, rfl⟩ | ⟨rfl, rfl⟩ | ⟨rfl, rfl⟩
    · exact (xor_join 8 h 128 hh (by omega)).symm
    · exact (xor_join 7 h 64 hh (by omega)).symm
    · exact (xor_join 6 h 32 hh (by omega)).symm
    · exact (xor_join 5 h 16 hh (by omega)).symm
    · exact (xor_join 4 h 8 hh (by omega)).symm
    · exact (xor_join 3 h 4 hh (by omega)).symm
    · exact (xor_join 2 h 2 hh (by omega)).symm
    · exact (xor_join 1 h 1 hh (by omega)).symm
    · exact absurd rfl hd
  have hin : h + d / 2 < 256 := by
    clear hx
    rcases p with ⟨rfl, rfl⟩ | ⟨rfl, rfl⟩ | ⟨rfl, rfl⟩ | ⟨rfl, rfl⟩ | ⟨rfl, rfl⟩ | ⟨rfl, rfl⟩ | ⟨rfl, rfl⟩ | ⟨rfl, rfl⟩ | ⟨rfl, rfl⟩ <;> omega
  apply Array.ext_getElem?
  intro i
  rw [Array.getElem?_setIfInBounds, tc_size]
  by_cases hi : i < 256
  · rw [tc_get _ _ _ _ hi, tc_get _ _ _ _ hi]
    by_cases he : h + d / 2 = i
    · subst he
      rw [if_pos rfl, if_pos hi]
      unfold tv
      rw [if_pos (by right; clear hx; rcases p with ⟨rfl, rfl⟩ | ⟨rfl, rfl⟩ | ⟨rfl, rfl⟩ | ⟨rfl, rfl⟩ | ⟨rfl, rfl⟩ | ⟨rfl, rfl⟩ | ⟨rfl, rfl⟩ | ⟨rfl, rfl⟩ | ⟨rfl, rfl⟩ <;> omega), hx]
    · rw [if_neg he]
      congr 3
      unfold tv
      by_cases ha : i % d = 0 ∨ i % (d / 2) = 0 ∧ i < h
      · rw [if_pos ha, if_pos (by omega)]
      · rw [if_neg ha, if_neg (by clear hx; rcases p with ⟨rfl, rfl⟩ | ⟨rfl, rfl⟩ | ⟨rfl, rfl⟩ | ⟨rfl, rfl⟩ | ⟨rfl, rfl⟩ | ⟨rfl, rfl⟩ | ⟨rfl, rfl⟩ | ⟨rfl, rfl⟩ | ⟨rfl, rfl⟩ <;> omega)]
  · rw [Array.getElem?_eq_none (by rw [tc_size]; omega), Array.getElem?_eq_none (by rw [tc_size]; omega), if_neg (by omega)]
theorem pow8_shut {d j : Nat} (p : Pow8 d j) (hd : d ≠ 1) : tc d (d / 2) 256 = tc (d / 2) 1 0 := tc_ext fun i hi => by
  unfold tv
  by_cases ha : i % (d / 2) = 0
  · rw [if_pos (by omega), if_pos (by omega)]
  · rw [if_neg (by rcases p with ⟨rfl, rfl⟩ | ⟨rfl, rfl⟩ | ⟨rfl, rfl⟩ | ⟨rfl, rfl⟩ | ⟨rfl, rfl⟩ | ⟨rfl, rfl⟩ | ⟨rfl, rfl⟩ | ⟨rfl, rfl⟩ | ⟨rfl, rfl⟩ <;> omega), if_neg (by omega)]
theorem pow8_open (d : Nat) : tc d 1 0 = tc d (d / 2) 0 := tc_ext fun i hi => by
  unfold tv
  by_cases ha : i % d = 0
  · rw [if_pos (by omega), if_pos (by omega)]
  · rw [if_neg (by omega), if_neg (by omega)]
/-- The whole table. -/
def tab : Array Value := tc 1 1 0
theorem tab_size : tab.size = 256 := tc_size _ _ _
theorem tab_get (i : Nat) (hi : i < 256) : tab[i]? = some (.int .u32 (cTn 8 i : Nat)) := by
  unfold tab
  rw [tc_get _ _ _ _ hi]
  unfold tv
  rw [if_pos (by omega)]
theorem tab_one : tab.all (·.oneCell') = true := by
  unfold tab tc
  simp [Value.oneCell']
theorem run_loadCells_at {P : Program} (w : World) (g : Nat) (t : TypeId) (c : Array Value) (n : Nat) (hn : c.size = n) (hg : w.heap[g]? = some (.cells c t (0, 0))) :
    (loadCellsFrom ⟨g, 0, none⟩ 0 n #[]).run P w = .ok c w := by
  subst hn
  have := run_loadCells_list (P := P) w ⟨g, 0, none⟩ c.toList (fun j v hv => by
    have hadd : (⟨g, 0, none⟩ : Addr).add j = ⟨g, j, none⟩ := by unfold Addr.add; split <;> simp_all
    rw [hadd, cell_of_row _ _ j c t (0, 0) hg]
    simpa using hv)
  simpa [loadCells] using this
theorem oper_load {P : Program} {o : Oper} {a : Act} {w : World} {K : Act → World → Prop} {Q : Exit → Act → World → Prop} (t : TypeId) (x : Operand) (ad : Addr) (v : Value) (ho : o.op = .load t x) (hx : a.eval x = .pointer (some ad))
    (hr : (loadVar t ad).run P w = .ok v w) (h : K (a.put o.dst v) w) : Oper.wp P o a w K Q := by
  have hl : (Instr.loadAt t (.pointer (some ad))).run P w = .ok v w := by
    simp only [Instr.loadAt, Instr.sureAddr, Sem.run_bind, Sem.run_pure, Result.andThen]
    exact hr
  unfold Oper.wp
  simp [execOp, ho, hx, hl, Result.andThen]
  exact h
theorem run_storeCells_blk {P : Program} (w : World) (g : Nat) (t ty : TypeId) (old cells : Array Value) (hg : w.heap[g]? = some (.cells old t (0, 0))) (hi : (P.info? ty).map (·.size) = some cells.size)
    (ho : old.size = cells.size) (h1 : cells.all (·.oneCell') = true) :
    (storeCells ⟨g, 0, none⟩ cells.toList 0).run P w = .ok () (w.setRow g cells) := by
  have := run_storeVar_row (P := P) w g t ty old cells hg hi ho h1
  cases hq : P.info? ty with
  | none => simp [hq] at hi
  | some i =>
    have hs : cells.size = i.size := by simp [hq] at hi; omega
    simpa [storeVar, sizeOf, typeInfo, hq, Value.cells, hs] using this
theorem results_cell {fn : Func} {p : Tmp} {ty : TypeId} (h : fn.results = #[.cell p ty]) (tmps : Array Value) (P : Program) (w : World) :
    (results fn tmps).run P w = ((asAddr (tmps.getD p undef)).run P w).andThen fun a w₁ => (loadVar ty a).run P w₁ := by
  simp only [results, h]
  simp [Sem.run_bind, Result.andThen]
theorem info256 : (Tryz.prog.info? 219).map (fun i => (i.zero, i.size)) = some (some (.agg (Array.replicate 256 (.int .u32 0))), 256) := by kernel_rfl
set_option maxRecDepth 100000 in
set_option maxHeartbeats 1000000 in
theorem byteShares (w : World) :
    Calls Tryz.prog 170 #[] w fun e w' => e = .returned (.agg tab) ∧ Below w.heap.size w w' := by
  obtain ⟨hz, hi⟩ := zero_of_info info256
  go_enter Tryz.func170, Tryz.ntmps170
  go_wp2
  rw [← tc_zero]
  go_loopw [2, 3] (fun sh bt wr => ∃ d j n : Nat, Pow8 d j ∧ n = d / 2 ∧ bt = .int .i64 (n : Nat) ∧ sh = .int .u32 (cTn j 1 : Nat) ∧ wr = (w.alloc (.cells (tc 256 1 0) 219)).alloc (.cells (tc d 1 0) 219)) (fun _ bt _ => (intOf bt).toNat)
  case atStart => exact ⟨256, 0, 128, .inl ⟨rfl, rfl⟩, rfl, rfl, rfl, rfl⟩
  case round =>
    obtain ⟨d, j, n, hp, hn, rfl, rfl, rfl⟩ := hrel
    by_cases hd : d = 1
    · subst hd
      obtain rfl : n = 0 := by omega
      have hsz := tc_size 1 1 0
      have hg1 : ((w.alloc (.cells (tc 256 1 0) 219)).alloc (.cells (tc 1 1 0) 219)).heap[w.heap.size + 1]? = some (.cells (tc 1 1 0) 219 (0, 0)) := by
        have := heap_alloc_last (w.alloc (.cells (tc 256 1 0) 219)) (.cells (tc 1 1 0) 219)
        simpa using this
      have hg0 : ((w.alloc (.cells (tc 256 1 0) 219)).alloc (.cells (tc 1 1 0) 219)).heap[w.heap.size]? = some (.cells (tc 256 1 0) 219 (0, 0)) := by
        show ((w.heap.push _).push _)[w.heap.size]? = _
        rw [Array.getElem?_push, if_neg (by simp), Array.getElem?_push, if_pos rfl]
      have hlc := run_loadVar_row (P := Tryz.prog) _ (w.heap.size + 1) 219 219 (tc 1 1 0) (0, 0) _ hg1 Tryz.underlying219 rfl (by rw [hsz]; exact hi)
      have hsv := run_storeCells_blk (P := Tryz.prog) _ w.heap.size 219 219 (tc 256 1 0) (tc 1 1 0) hg0 (by rw [hsz]; exact hi) (by rw [tc_size, tc_size]) tab_one
      have H : Hid (_ ∧ _ ∧ _ ∧ _) := ⟨hg1, hg0, hlc, hsv⟩
      clear hg1 hg0 hlc hsv
      go_wp2
      refine oper_load 219 (.tmp 1) ⟨w.heap.size + 1, 0, none⟩ (.agg (tc 1 1 0)) rfl rfl H.out.2.2.1 ?_
      go_wp2
      simp only [H.out.2.2.2, Result.andThen]
      rw [Oper.upon_skip]
      go_wp2
      have hld := run_loadVar_row (P := Tryz.prog) _ w.heap.size 219 219 (tc 1 1 0) (0, 0) _ (setRow_heap _ w.heap.size _ (tc 1 1 0) _ _ H.out.2.1) Tryz.underlying219 rfl (by rw [hsz]; exact hi)
      refine bodyPost_ret (v := .agg tab) ?_ rfl ⟨rfl, ?_⟩
      · rw [results_cell rfl]
        simp [asAddr, Result.andThen]
        exact hld
      · exact below_setRow (((Below.refl _ _).alloc (Nat.le_refl _) _).alloc (by simp) _) (Nat.le_refl _) _
    · have hpos : 0 < n := by have := pow8_bounds (h := 0) hp hd (by simp) (by omega); omega
      have HP : Hid (Pow8 d j ∧ d ≠ 1 ∧ n = d / 2) := ⟨hp, hd, hn⟩
      have hlt := cTn_lt j 1 (by omega)
      have hnl : n ≤ 128 := by have := pow8_le hp; omega
      clear hp hd hn
      go_wp2_with fail
      refine (crcStep _ _ hlt).mono ?_
      rintro e w' ⟨rfl, rfl⟩
      clear hlt
      rw [pow8_open d, (pow8_share HP.out.1 HP.out.2.1).1, ← HP.out.2.2]
      have hs := cTn_lt 8 n (by omega)
      go_wp2
      go_loopw [4] (fun hi wr => ∃ h : Nat, h % d = 0 ∧ h ≤ 256 ∧ hi = .int .i64 h ∧ wr = (w.alloc (.cells (tc 256 1 0) 219)).alloc (.cells (tc d n h) 219)) (fun hi _ => 256 - (intOf hi).toNat)
      case atStart => exact ⟨0, Nat.zero_mod _, by omega, rfl, rfl⟩
      case round =>
        obtain ⟨h, hm, hle, rfl, rfl⟩ := hrel
        by_cases hh : h < 256
        · obtain ⟨b1, b2, b3, b4, b5⟩ := pow8_bounds HP.out.1 HP.out.2.1 hm hh
          have hin : h + n < 256 := by rw [HP.out.2.2]; exact b3
          have hst := pow8_store HP.out.1 HP.out.2.1 hm hh
          rw [← HP.out.2.2] at hst
          have hc : (tc d n h)[h]? = some (.int .u32 (cTn 8 h : Nat)) := by rw [tc_get _ _ _ _ hh]; unfold tv; rw [if_pos (.inl hm)]
          have hc2 : (tc d n h)[h + n]? = some (.int .u32 (tv d n h (h + n) : Nat)) := tc_get _ _ _ _ hin
          have hx := u32_xor_nat (cTn 8 h) (cTn 8 n) (cTn_lt 8 h (by omega)) hs
          have HB : Hid (h % d = 0 ∧ h + d ≤ 256 ∧ (h + d) % d = 0 ∧ 2 * n = d ∧ 0 < d) := ⟨hm, b4, b5, by rw [HP.out.2.2]; exact b2, by omega⟩
          have HS : Hid _ := hst
          clear b1 b2 b3 b4 b5 hm hst
          go_wp2
          go_roundw
          case rel =>
            obtain ⟨q1, q2, q3, q4, q5⟩ := HB.out
            refine ⟨h + d, q3, q2, congrArg (Value.int .i64) (by omega), by rw [HS.out]⟩
          case measure =>
            obtain ⟨q1, q2, q3, q4, q5⟩ := HB.out
            simp [intOf]; omega
        · obtain rfl : h = 256 := by omega
          go_wp2
          obtain ⟨q1, q2, q3⟩ := HP.out
          have q4 := pow8_share q1 q2
          refine ⟨⟨d / 2, j + 1, n / 2, pow8_next q1 q2, by rw [q3], by simp, ?_, ?_⟩, by simp [intOf]; omega⟩
          · rw [q4.2, q4.1, q3]
          · rw [q3, pow8_shut q1 q2]
end Go.Proofs.YtcjlcieheepegaaGreatDoor.S2
namespace Go.Proofs.YtcjlcieheepegaaGreatDoor.S2
open Go.RowKit
set_option linter.unusedVariables false
set_option maxRecDepth 20000

theorem take_BL (s : ByteArray) (i : Nat) (h : i < s.size) : (BL s).take (i + 1) = (BL s).take i ++ [s[i].toNat] := by
  rw [List.take_add_one, BL_get? s i h]; rfl
theorem take_all (s : ByteArray) : (BL s).take s.size = BL s := List.take_of_length_le (by rw [BL_length]; exact Nat.le_refl _)
/-- A byte by the table. -/
theorem tab_step (c b : Nat) (hb : b < 256) : c / 256 ^^^ cTn 8 ((c % 256) ^^^ b) = cB c b := by
  unfold cB
  have hc : c = (c / 256) * 2 ^ 8 ^^^ c % 256 := by
    rw [xor_join 8 _ _ (by simp) (by omega)]
    omega
  have e : c ^^^ b = ((c % 256) ^^^ b) ^^^ (c / 256) * 2 ^ 8 := by
    conv => lhs; rw [hc]
    rw [Nat.xor_comm ((c / 256) * 2 ^ 8), Nat.xor_assoc, Nat.xor_assoc, Nat.xor_comm b]
  rw [e, cT_high 8 _ _ ⟨c / 256, rfl⟩, Nat.mul_div_cancel _ (by decide), Nat.xor_comm]
theorem u32_not (c : Nat) (hc : c < 4294967296) : bits .xor .u32 IntKind.u32.max (c : Int) = ((4294967295 ^^^ c : Nat) : Int) := by
  have hm : IntKind.u32.max = ((4294967295 : Nat) : Int) := by decide
  rw [hm]
  exact u32_xor_nat 4294967295 c (by omega) hc
theorem u32_unsigned : IntKind.u32.signed = false := rfl
set_option maxRecDepth 100000 in
set_option maxHeartbeats 1000000 in
theorem crcMore (c : Nat) (s : ByteArray) (w : World) (hc : c < 4294967296) (hs : s.size ≤ 140737488351232) :
    Calls Tryz.prog 127 #[.int .u32 c, .string s] w fun e w' => e = .returned (.int .u32 (crcFrom c (BL s) : Nat)) ∧ Below w.heap.size w w' := by
  obtain ⟨hz, hi⟩ := zero_of_info info256
  go_enter Tryz.func127, Tryz.ntmps127
  go_wp2_with fail
  refine (byteShares _).mono ?_
  rintro e w1 ⟨rfl, hb1⟩
  have HB : Hid (Below w.heap.size w (w1.alloc (.cells tab 219))) := hb1.alloc hb1.size _
  have hsc := run_storeCells_new (P := Tryz.prog) w1 219 (Array.replicate 256 (.int .u32 0)) tab (by rw [tab_size]; exact hi) (by simp [tab_size]) tab_one
  have hts := tab_size
  clear hb1
  have hsg := u32_unsigned
  have hn := u32_not c hc
  go_wp2
  clear hsc hts hz hi hn
  go_loop [6, 13] (fun x i => ∃ j y : Nat, j ≤ s.size ∧ i = .int .i64 j ∧ x = .int .u32 (y : Nat) ∧ y = cM (4294967295 ^^^ c) ((BL s).take j)) (fun _ i => s.size - (intOf i).toNat)
  case atStart => exact ⟨0, _, Nat.zero_le _, rfl, rfl, rfl⟩
  case round =>
    obtain ⟨j, y, hj, rfl, rfl, hy⟩ := hrel
    have hyl : y < 4294967296 := by rw [hy]; exact cM_lt _ _ (xor32_lt (by omega) hc) (fun x hx => BL_lt s x (List.mem_of_mem_take hx))
    have HY : Hid (y = cM (4294967295 ^^^ c) ((BL s).take j)) := hy
    clear hy
    by_cases hlt : j < s.size
    · have hb := UInt8.toNat_lt s[j]
      obtain ⟨b, hbe⟩ : ∃ b, s[j].toNat = b := ⟨_, rfl⟩
      rw [hbe] at hb
      have h8 : bits .xor .u8 ((y : Int) % 256) (b : Int) = ((y % 256 ^^^ b : Nat) : Int) := u8_xor_nat (y % 256) b (by omega) hb
      have hin : y % 256 ^^^ b < 256 := Nat.xor_lt_two_pow (n := 8) (by omega) (by omega)
      have hcell := tab_get _ hin
      have hx : bits .xor .u32 ((y : Int) / 256) ((cTn 8 (y % 256 ^^^ b) : Nat) : Int) = ((cB y b : Nat) : Int) := by
        rw [← tab_step y b hb]
        exact u32_xor_nat (y / 256) _ (by omega) (cTn_lt _ _ (by omega))
      have HX : Hid (s[j].toNat = b) := hbe
      obtain ⟨z, hz⟩ : ∃ z, y % 256 ^^^ b = z := ⟨_, rfl⟩
      rw [hz] at h8 hin hcell hx
      clear hz
      go_wp2
      go_round
      case rel =>
        refine ⟨j + 1, cB y b, by omega, by go_num, rfl, ?_⟩
        rw [take_BL s j hlt, HX.out, cM_append, HY.out]
        rfl
      case measure => simp [intOf]; omega
    · obtain rfl : j = s.size := by omega
      have hn := u32_not y hyl
      have HR : Hid (4294967295 ^^^ y = crcFrom c (BL s)) := by
        show _ = _
        rw [HY.out, take_all]
        rfl
      go_wp2
      go_ret
      exact ⟨ret_int (by rw [← HR.out]), HB.out⟩
end Go.Proofs.YtcjlcieheepegaaGreatDoor.S2
namespace Go.Proofs.YtcjlcieheepegaaGreatDoor.S2
open Go.RowKit
set_option linter.unusedVariables false
set_option maxRecDepth 20000

theorem crc (s : ByteArray) (w : World) (hs : s.size ≤ 140737488351232) :
    Calls Tryz.prog 93 #[.string s] w fun e w' => e = .returned (.int .i64 (crcOf (BL s) : Nat)) ∧ Below w.heap.size w w' := by
  have hl := crcFrom_lt 0 (BL s) (by omega) (BL_lt s)
  go_enter Tryz.func93, Tryz.ntmps93
  go_wp2_with fail
  refine (crcMore 0 s _ (by omega) hs).mono ?_
  rintro e w1 ⟨rfl, hb1⟩
  have HB : Hid (Below w.heap.size w w1) := hb1
  clear hb1
  go_wp2
  go_ret
  exact ⟨ret_int (by rw [crcOf_zero]), HB.out⟩
theorem rem2 (y : Nat) : ((y : Int).tmod 2 == 1) = decide (y % 2 = 1) := by
  have e : (y : Int).tmod 2 = ((y % 2 : Nat) : Int) := by rw [Int.tmod_eq_emod_of_nonneg (by omega)]; omega
  rw [e]
  rcases Nat.mod_two_eq_zero_or_one y with h | h <;> rw [h] <;> rfl
set_option maxRecDepth 20000 in
theorem refMore (c : Nat) (s : ByteArray) (w : World) (hc : c < 4294967296) (hs : s.size ≤ 140737488351232) :
    Calls Tryz.prog 48 #[.int .i64 c, .string s] w fun e w' => e = .returned (.int .i64 (cM c (BL s) : Nat)) ∧ w' = w := by
  go_enter Tryz.func48, Tryz.ntmps48
  go_wp2
  go_loop [0, 5] (fun x i => ∃ j y : Nat, j ≤ s.size ∧ i = .int .i64 j ∧ x = .int .i64 (y : Nat) ∧ y = cM c ((BL s).take j)) (fun _ i => s.size - (intOf i).toNat)
  case atStart => exact ⟨0, _, Nat.zero_le _, rfl, rfl, rfl⟩
  case round =>
    obtain ⟨j, y, hj, rfl, rfl, hy⟩ := hrel
    have hyl : y < 4294967296 := by rw [hy]; exact cM_lt _ _ hc (fun x hx => BL_lt s x (List.mem_of_mem_take hx))
    have HY : Hid (y = cM c ((BL s).take j)) := hy
    clear hy
    by_cases hlt : j < s.size
    · have hb := UInt8.toNat_lt s[j]
      have hw : wrap64 (s[j].toNat : Int) = (s[j].toNat : Int) := IntWalk.wrap64_in _ ⟨by omega, by omega⟩
      have hx := i64_xor_nat y s[j].toNat (by omega) (by omega)
      have hz : y ^^^ s[j].toNat < 4294967296 := xor32_lt hyl (by omega)
      have HX : Hid ((BL s).take (j + 1) = (BL s).take j ++ [s[j].toNat]) := take_BL s j hlt
      obtain ⟨z, hze⟩ : ∃ z, y ^^^ s[j].toNat = z := ⟨_, rfl⟩
      have HZ : Hid (cTn 8 z = cB y s[j].toNat) := by show _ = _; rw [← hze]; rfl
      rw [hze] at hx hz
      clear hze
      go_wp2
      go_loop [0, 6] (fun x i => ∃ k y : Nat, k ≤ 8 ∧ i = .int .i64 k ∧ x = .int .i64 (y : Nat) ∧ cTn k z = y ∧ y < 4294967296) (fun _ i => 8 - (intOf i).toNat)
      case atStart => exact ⟨0, _, Nat.zero_le _, rfl, rfl, rfl, hz⟩
      case round =>
        obtain ⟨k, v, hk, rfl, rfl, hv, hvl⟩ := hrel
        have HV : Hid (cTn (k + 1) z = cT v) := by
          show _ = _
          rw [cTn_add k 1, hv]
          rfl
        have HV0 : Hid (cTn k z = v) := hv
        clear hv
        by_cases hk8 : k < 8
        · have hr := rem2 v
          have hvt := cT_lt v hvl
          by_cases hp : v % 2 = 1
          · rw [decide_eq_true hp] at hr
            have hxx := i64_xor_nat (v / 2) 2197175160 (by omega) (by omega)
            have HC : Hid (cT v = v / 2 ^^^ 2197175160) := by show _ = _; unfold cT; rw [if_pos hp]
            go_wp2
            go_round
            case rel => exact ⟨k + 1, cT v, by omega, by go_num, congrArg (Value.int .i64) (by rw [HC.out]; exact hxx), HV.out, hvt⟩
            case measure => simp [intOf]; omega
          · rw [decide_eq_false hp] at hr
            have HC : Hid (cT v = v / 2) := by show _ = _; unfold cT; rw [if_neg hp]
            go_wp2
            go_round
            case rel => exact ⟨k + 1, cT v, by omega, by go_num, congrArg (Value.int .i64) (by rw [HC.out]; omega), HV.out, hvt⟩
            case measure => simp [intOf]; omega
        · obtain rfl : k = 8 := by omega
          go_wp2
          refine ⟨⟨j + 1, v, by omega, by go_num, rfl, ?_⟩, by simp [intOf]; omega⟩
          rw [HX.out, cM_append, ← HY.out, ← HV0.out, HZ.out]
          rfl
    · obtain rfl : j = s.size := by omega
      have HR : Hid (y = cM c (BL s)) := by
        show _ = _
        rw [HY.out, take_all]
      go_wp2
      go_ret
      exact ⟨ret_int (by rw [← HR.out]), rfl⟩
theorem refCrc (s : ByteArray) (w : World) (hs : s.size ≤ 140737488351232) :
    Calls Tryz.prog 29 #[.string s] w fun e w' => e = .returned (.int .i64 (crcOf (BL s) : Nat)) ∧ w' = w := by
  have hl := cM_lt (BL s) 4294967295 (by omega) (BL_lt s)
  have hx := i64_xor_nat 4294967295 (cM 4294967295 (BL s)) (by omega) (by omega)
  go_enter Tryz.func29, Tryz.ntmps29
  go_wp2_with fail
  refine (refMore 4294967295 s _ (by omega) hs).mono ?_
  rintro e w1 ⟨rfl, rfl⟩
  go_wp2
  go_ret
  exact ⟨ret_int hx, rfl⟩
end Go.Proofs.YtcjlcieheepegaaGreatDoor.S2
