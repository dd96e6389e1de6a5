/- Layer 15: a table lies in memory, what its calls leave alone; the small functions. -/
/- Layer 15: New, Waiting, Find. -/
/- Layer 15: the end of a table's batches; batches that may be. -/
/- Layer 15: a batch without records that may be: batch.Check. -/
/- Layer 15: what is put into a table: the memory's side. -/
/- Layer 15: Put. -/
import Derived.Test.YtpjjenhimnkdcaaV08
import Derived.Deep.RegionHeldLaw
import Derived.Deep.DeepCutAuto
import Derived.Deep.AppendLies
namespace Go.Proofs.Ytpjjenhimnkdcaa
open Go.RowKit Go.Maps
set_option linter.unusedVariables false
set_option maxRecDepth 20000

/-- A table lies in memory: at most q wait; its batches L, in their order; who waits: V. -/
structure TS (w : World) (t mb q : Nat) (L : List Bt) (V : List Wt) : Prop where
  blk : ∃ ov wv, w.heap[t]? = some (.cells #[.pointer (some ⟨t, 0, none⟩), .int .i64 (q : Nat), .map (some mb), ov, wv] 55 (0, 0)) ∧ w.ownsRow 0 30 2 ov L.length (ics L) ∧ w.ownsRow 0 63 3 wv V.length (wcs V)
  map : MO w mb L
  ok : ∀ b ∈ L, b.OK
  rise : L.Pairwise fun a b => a.fin ≤ b.base
  uniq : L.Pairwise fun a b => ¬ (a.prod = b.prod ∧ a.seq = b.seq)
  lenL : L.length ≤ 1000
  lenV : V.length ≤ q
  hq : q ≤ 64
/-- Block k is there, and is none of the table's own. -/
def Ap (w : World) (t mb k : Nat) : Prop := k < w.heap.size ∧ k ≠ t ∧ k ≠ mb ∧ ∀ cs ty m, w.heap[t]? = some (.cells cs ty m) → (cs.getD 3 undef).ownBlock ≠ some k ∧ (cs.getD 4 undef).ownBlock ≠ some k
/-- What a call on a table leaves alone. -/
structure TFr (t mb : Nat) (w w' : World) : Prop where
  os : w'.os = w.os
  tape : w'.tape = w.tape
  output : w'.output = w.output
  size : w.heap.size ≤ w'.heap.size
  kept : ∀ k, Ap w t mb k → w'.heap[k]? = w.heap[k]? ∧ Ap w' t mb k
theorem TFr.refl (t mb : Nat) (w : World) : TFr t mb w w := ⟨rfl, rfl, rfl, Nat.le_refl _, fun k h => ⟨rfl, h⟩⟩
theorem TFr.trans {t mb : Nat} {u v w : World} (h : TFr t mb u v) (k : TFr t mb v w) : TFr t mb u w :=
  ⟨k.os.trans h.os, k.tape.trans h.tape, k.output.trans h.output, Nat.le_trans h.size k.size, fun i hi => ⟨(k.kept i (h.kept i hi).2).1.trans (h.kept i hi).1, (k.kept i (h.kept i hi).2).2⟩⟩
theorem TFr.below {t mb : Nat} {w w' : World} (h : Below w.heap.size w w') (ht : t < w.heap.size) : TFr t mb w w' :=
  ⟨h.os, h.tape, h.output, h.size, fun k hk => ⟨h.block k hk.1, Nat.lt_of_lt_of_le hk.1 h.size, hk.2.1, hk.2.2.1, fun cs ty m e => hk.2.2.2 cs ty m (by rw [← h.block t ht]; exact e)⟩⟩
theorem rowLt {w : World} {B : Nat} {E : TypeId} {size n : Nat} {v : Value} {xs : List Value} (h : w.ownsRow B E size v n xs) {k : Nat} (hk : v.ownBlock = some k) : k < w.heap.size ∧ ∃ cs, w.heap[k]? = some (.cells cs E (0, 0)) := by
  rcases h.2 with ⟨e, _⟩ | ⟨g, cap, cur, e1, _, e3, _⟩
  · rw [e] at hk; simp [Value.ownBlock] at hk
  · rw [e1] at hk
    have : g = k := by simpa [Value.ownBlock] using hk
    subst this
    exact ⟨lt_of_block e3, cur, e3⟩
theorem rowBlock {w w' : World} {B : Nat} {E : TypeId} {size n : Nat} {v : Value} {xs : List Value} (h : w.ownsRow B E size v n xs) (hb : ∀ g, v.ownBlock = some g → w'.heap[g]? = w.heap[g]?) : w'.ownsRow B E size v n xs := by
  refine ⟨h.1, ?_⟩
  rcases h.2 with e | ⟨g, cap, cur, e1, e2, e3, e4⟩
  · exact .inl e
  · exact .inr ⟨g, cap, cur, e1, e2, (hb g (by rw [e1]; rfl)).trans e3, e4⟩
theorem TS.lt {w : World} {t mb q : Nat} {L : List Bt} {V : List Wt} (h : TS w t mb q L V) : t < w.heap.size := by
  obtain ⟨ov, wv, hb, _⟩ := h.blk
  exact lt_of_block hb
theorem TS.below {w w' : World} {t mb q : Nat} {L : List Bt} {V : List Wt} (h : TS w t mb q L V) (hb : Below w.heap.size w w') : TS w' t mb q L V := by
  obtain ⟨ov, wv, h1, h2, h3⟩ := h.blk
  exact ⟨⟨ov, wv, (hb.block t h.lt).trans h1, owns_below h2 hb, owns_below h3 hb⟩, h.map.block (hb.block mb h.map.lt), h.ok, h.rise, h.uniq, h.lenL, h.lenV, h.hq⟩
theorem TS.drewN {w : World} {t mb q : Nat} {L : List Bt} {V : List Wt} (h : TS w t mb q L V) (n : Nat) : TS (w.drewN n) t mb q L V := ⟨h.blk, h.map, h.ok, h.rise, h.uniq, h.lenL, h.lenV, h.hq⟩
/-- A block that was made behind the table is apart from it. -/
theorem TS.fresh {w w' : World} {t mb q : Nat} {L : List Bt} {V : List Wt} (h : TS w t mb q L V) (hb : Below w.heap.size w w') {k : Nat} (h1 : w.heap.size ≤ k) (h2 : k < w'.heap.size) : Ap w' t mb k := by
  obtain ⟨ov, wv, h3, h4, h5⟩ := h.blk
  have ht := h.lt
  have hm := h.map.lt
  refine ⟨h2, by omega, by omega, fun cs ty m e => ?_⟩
  rw [hb.block t ht, h3] at e
  cases e
  refine ⟨fun e => ?_, fun e => ?_⟩
  · have := (rowLt h4 (k := k) (by simpa using e)).1; omega
  · have := (rowLt h5 (k := k) (by simpa using e)).1; omega
theorem TS.cells {w : World} {t mb q : Nat} {L : List Bt} {V : List Wt} (h : TS w t mb q L V) : w.cell? ⟨t, 0, none⟩ = some (.pointer (some ⟨t, 0, none⟩)) ∧ w.cell? ⟨t, 1, none⟩ = some (.int .i64 (q : Nat)) ∧ w.cell? ⟨t, 2, none⟩ = some (.map (some mb)) := by
  obtain ⟨ov, wv, h1, _⟩ := h.blk
  exact ⟨by simp [World.cell?, h1], by simp [World.cell?, h1], by simp [World.cell?, h1]⟩
theorem rowForm {w : World} {B : Nat} {E : TypeId} {size n : Nat} {v : Value} {xs : List Value} (h : w.ownsRow B E size v n xs) : ∃ a c, v = .slice a n c := by
  rcases h.2 with ⟨e, h0⟩ | ⟨g, cap, cur, e, _⟩
  · exact ⟨none, 0, by rw [e, h0]⟩
  · exact ⟨_, _, e⟩
theorem TS.rows {w : World} {t mb q : Nat} {L : List Bt} {V : List Wt} (h : TS w t mb q L V) : ∃ oa oc wa wc, w.heap[t]? = some (.cells #[.pointer (some ⟨t, 0, none⟩), .int .i64 (q : Nat), .map (some mb), .slice oa L.length oc, .slice wa V.length wc] 55 (0, 0)) ∧ w.ownsRow 0 30 2 (.slice oa L.length oc) L.length (ics L) ∧ w.ownsRow 0 63 3 (.slice wa V.length wc) V.length (wcs V) := by
  obtain ⟨ov, wv, h1, h2, h3⟩ := h.blk
  obtain ⟨oa, oc, rfl⟩ := rowForm h2
  obtain ⟨wa, wc, rfl⟩ := rowForm h3
  exact ⟨oa, oc, wa, wc, h1, h2, h3⟩

theorem below_ad (W : World) (o : Obj) : Below W.heap.size W (W.alloc o).drew := ⟨rfl, rfl, rfl, by simp, fun k hk => (((Below.refl W.heap.size W).alloc (Nat.le_refl _) o).block k hk)⟩
theorem below_a (W : World) (o : Obj) : Below W.heap.size W (W.alloc o) := (Below.refl W.heap.size W).alloc (Nat.le_refl _) o
theorem below_d (W : World) : Below W.heap.size W W.drew := ⟨rfl, rfl, rfl, Nat.le_refl _, fun _ _ => rfl⟩
theorem cellB {W W' : World} (hb : Below W.heap.size W W') {b i : Nat} {v : Value} (h : W.cell? ⟨b, i, none⟩ = some v) : W'.cell? ⟨b, i, none⟩ = some v := by
  rw [cell_below hb (by
    rcases Nat.lt_or_ge b W.heap.size with hl | hl
    · exact hl
    · have e : W.heap[b]? = none := Array.getElem?_eq_none hl
      simp [World.cell?, e] at h)]
  exact h

theorem eqSelfT (a : Addr) (w : World) : (binOp .eql 24 (.pointer (some a)) (.pointer (some a))).run Try.prog w = .ok (.bool true) w := by
  obtain ⟨j, hj⟩ : ∃ j, Try.prog.info? 55 = some j := Option.isSome_iff_exists.1 (by kernel_rfl)
  exact run_eql_ptr_same w a Try.underlying24 hj
theorem eqNilT (a : Addr) (w : World) : (binOp .eql 24 (.pointer none) (.pointer (some a))).run Try.prog w = .ok (.bool false) w :=
  eql_nil_ptr w a Try.underlying24
theorem given_yes (t : Nat) (w : World) (h0 : w.cell? ⟨t, 0, none⟩ = some (.pointer (some ⟨t, 0, none⟩))) :
    Calls Try.prog 20 #[.pointer (some ⟨t, 0, none⟩)] w fun e w' => e = .returned (.bool true) ∧ w' = w := by
  have e1 := eqSelfT ⟨t, 0, none⟩
  go_enter Try.func20, Try.ntmps20
  go_wp2
  go_ret
  exact ⟨rfl, rfl⟩
theorem given_zero (t : Nat) (w : World) (h0 : w.cell? ⟨t, 0, none⟩ = some (.pointer none)) :
    Calls Try.prog 20 #[.pointer (some ⟨t, 0, none⟩)] w fun e w' => e = .returned (.bool false) ∧ w' = w := by
  have e1 := eqNilT ⟨t, 0, none⟩
  go_enter Try.func20, Try.ntmps20
  go_wp2
  go_ret
  exact ⟨rfl, rfl⟩
theorem given_nil (w : World) :
    Calls Try.prog 20 #[.pointer none] w fun e w' => e = .returned (.bool false) ∧ w' = w := by
  go_enter Try.func20, Try.ntmps20
  go_wp2
  go_ret
  exact ⟨rfl, rfl⟩
theorem within_ok (n a b : Int) (w : World) :
    Calls Try.prog 19 #[.int .i64 n, .int .i64 a, .int .i64 b] w fun e w' => e = .returned (.bool (decide (a ≤ n) && decide (n ≤ b))) ∧ w' = w := by
  by_cases h : a ≤ n
  · have e : (decide (a ≤ n) && decide (n ≤ b)) = decide (n ≤ b) := by rw [decide_eq_true h]; rfl
    rw [e]
    clear e
    go_enter Try.func19, Try.ntmps19
    go_wp2
    go_ret
    exact ⟨rfl, rfl⟩
  · have e : (decide (a ≤ n) && decide (n ≤ b)) = false := by rw [decide_eq_false h]; rfl
    rw [e]
    clear e
    go_enter Try.func19, Try.ntmps19
    go_wp2
    go_ret
    exact ⟨rfl, rfl⟩
theorem endOf_ok (b : Bt) (w : World) (hb : b.OK) :
    Calls Try.prog 32 #[b.v] w fun e w' => e = .returned (.int .i64 b.fin) ∧ Below w.heap.size w w' := by
  have HB : Hid (Below w.heap.size w (w.alloc (.cells #[.int .i64 b.base, .int .i64 b.cnt, .int .i64 b.view, .int .i64 b.prod, .int .i64 b.seq, .slice none 0 0] 33))) := (Below.refl _ _).alloc (Nat.le_refl _) _
  have hw : IntKind.i64.wrap (b.base + b.cnt) = b.fin := by have := hb.b0; have := hb.b1; have := hb.c0; have := hb.c1; unfold Bt.fin; rw [IntKind.wrap_i64]; omega
  have hw' : wrap64 (b.base + b.cnt) = b.fin := by have := hb.b0; have := hb.b1; have := hb.c0; have := hb.c1; unfold Bt.fin wrap64; omega
  clear hb
  obtain ⟨f, hf⟩ : ∃ f, b.fin = f := ⟨_, rfl⟩
  rw [hf] at hw hw' ⊢
  go_enter Try.func32, Try.ntmps32
  go_wp2
  go_ret
  exact ⟨by first | rfl | rw [hw] | rw [hw'], HB.out⟩
theorem stateOf_ok (b : Bt) (c : Int) (w : World) (hb : b.OK) :
    Calls Try.prog 26 #[b.v, .int .i64 c] w fun e w' => e = .returned (.int .i64 (if b.fin ≤ c then 1 else 2)) ∧ Below w.heap.size w w' := by
  have HB : Hid (Below w.heap.size w (w.alloc (.cells #[.int .i64 b.base, .int .i64 b.cnt, .int .i64 b.view, .int .i64 b.prod, .int .i64 b.seq, .slice none 0 0] 33))) := (Below.refl _ _).alloc (Nat.le_refl _) _
  have HE : Hid (∀ W, Calls Try.prog 32 #[b.v] W fun e w' => e = .returned (.int .i64 b.fin) ∧ Below W.heap.size W w') := fun W => endOf_ok b W hb
  clear hb
  obtain ⟨f, hf⟩ : ∃ f, b.fin = f := ⟨_, rfl⟩
  rw [hf] at HE ⊢
  clear hf
  by_cases h : f ≤ c
  · rw [if_pos h]
    go_enter Try.func26, Try.ntmps26
    go_wp2_with fail
    refine (HE.out _).mono ?_
    rintro e w1 ⟨rfl, hb1⟩
    have H1 : Hid (Below w.heap.size w w1) := HB.out.trans (hb1.mono HB.out.size)
    clear hb1
    go_wp2
    go_ret
    exact ⟨rfl, H1.out⟩
  · rw [if_neg h]
    go_enter Try.func26, Try.ntmps26
    go_wp2_with fail
    refine (HE.out _).mono ?_
    rintro e w1 ⟨rfl, hb1⟩
    have H1 : Hid (Below w.heap.size w w1) := HB.out.trans (hb1.mono HB.out.size)
    clear hb1
    go_wp2
    go_ret
    exact ⟨rfl, H1.out⟩
theorem full_ok (w : World) (t mb q : Nat) (L : List Bt) (V : List Wt) (h : TS w t mb q L V) :
    Calls Try.prog 25 #[.pointer (some ⟨t, 0, none⟩)] w fun e w' => e = .returned (.bool (decide (q ≤ V.length))) ∧ Below w.heap.size w w' := by
  obtain ⟨oa, oc, wa, wc, hb, _⟩ := h.rows
  have c1 : w.cell? ⟨t, 1, none⟩ = some (.int .i64 (q : Nat)) := by simp [World.cell?, hb]
  have c4 : w.cell? ⟨t, 4, none⟩ = some (.slice wa V.length wc) := by simp [World.cell?, hb]
  clear hb h
  go_enter Try.func25, Try.ntmps25
  go_wp2_with fail
  go_quiet (fail)
  go_wp2
  go_ret
  exact ⟨rfl, ⟨rfl, rfl, rfl, Nat.le_refl _, fun _ _ => rfl⟩⟩
end Go.Proofs.Ytpjjenhimnkdcaa
namespace Go.Proofs.Ytpjjenhimnkdcaa
open Go.RowKit Go.Maps
set_option linter.unusedVariables false
set_option maxRecDepth 20000

theorem results_cell_tmp {fn : Func} {p q : Tmp} {ty : TypeId} (h : fn.results = #[.cell p ty, .tmp q]) (tmps : Array Value) (P : Program) (w : World) :
    (results fn tmps).run P w = ((asAddr (tmps.getD p undef)).run P w).andThen fun a w₁ => ((loadVar ty a).run P w₁).andThen fun v w₂ => .ok (.tuple #[v, tmps.getD q undef]) w₂ := by
  simp only [results, h]
  simp [Sem.run_bind, Result.andThen]
theorem bl_set' {B b i : Nat} {w w' : World} {u : Value} (hb : B ≤ b) : Below B w (w'.setCell ⟨b, i, none⟩ u) ↔ Below B w w' :=
  ⟨fun h => ⟨h.os, h.tape, h.output, by have := h.size; simpa [World.setCell] using this, fun k hk => by rw [← h.block k hk]; exact (Below.heap_setCell _ _ _ _ (by show k ≠ b; omega)).symm⟩, fun h => h.setCell hb _⟩
theorem frozen0 {w : World} {b : Nat} {t : TypeId} {cs : Array Value} (h : w.heap[b]? = some (.cells cs t (0, 0))) (i : Nat) : w.frozen? ⟨b, i, none⟩ = false := by simp [World.frozen?, h]
theorem block_set {w : World} {b i : Nat} {cs : Array Value} {t : TypeId} {u : Value} (h : w.heap[b]? = some (.cells cs t (0, 0))) : (w.setCell ⟨b, i, none⟩ u).heap[b]? = some (.cells (cs.setIfInBounds i u) t (0, 0)) := by
  have hlt := lt_of_block h
  have h' : w.heap[b] = .cells cs t (0, 0) := by simpa [Array.getElem?_eq_getElem hlt] using h
  show (w.heap.modify b _)[b]? = _
  rw [Array.getElem?_eq_getElem (by simpa using hlt), Array.getElem_modify_self, h']
  rfl
theorem bl_drew {B : Nat} {w w' : World} : Below B w w'.drew ↔ Below B w w' := ⟨fun h => ⟨h.os, h.tape, h.output, h.size, h.block⟩, fun h => ⟨h.os, h.tape, h.output, h.size, h.block⟩⟩
theorem bl_alloc {B : Nat} {w w' : World} {o : Obj} (hB : B ≤ w.heap.size) (h : Below B w w') : Below B w (w'.alloc o) := h.alloc (Nat.le_trans hB h.size) o
/-- What New leaves. -/
structure NewE (w : World) (q : Nat) (e : Ending) (w' : World) : Prop where
  ret : e = .returned (.tuple #[.pointer (some ⟨w.heap.size + 1, 0, none⟩), .int .i64 0])
  ts : TS w' (w.heap.size + 1) w.heap.size q [] []
  bel : Below w.heap.size w w'
  ap : ∀ k, k < w.heap.size → Ap w' (w.heap.size + 1) w.heap.size k
set_option maxHeartbeats 1000000 in
theorem new_ok (q : Nat) (w : World) (h1 : 1 ≤ q) (h2 : q ≤ 64) :
    Calls Try.prog 8 #[.int .i64 (q : Nat)] w (NewE w q) := by
  have HW : Hid (∀ W, Calls Try.prog 19 #[.int .i64 (q : Nat), .int .i64 1, .int .i64 64] W fun e w' => e = .returned (.bool true) ∧ w' = W) := fun W => by
    have := within_ok (q : Nat) 1 64 W
    rw [decide_eq_true (show (1 : Int) ≤ (q : Nat) by omega), decide_eq_true (show ((q : Nat) : Int) ≤ 64 by omega)] at this
    exact this
  have HQ : Hid (1 ≤ q ∧ q ≤ 64) := ⟨h1, h2⟩
  clear h1 h2
  go_enter Try.func8, Try.ntmps8
  go_wp2_with fail
  refine (HW.out _).mono ?_
  rintro e w1 ⟨rfl, hw⟩
  obtain rfl := hw.symm
  have hmm := @run_makeMap Try.prog
  go_wp2
  go_ret2
  have hz : (w.alloc (.map #[] 0)).heap.size = w.heap.size + 1 := by simp
  have hb : ((w.alloc (.map #[] 0)).alloc (.cells #[.pointer (some ⟨w.heap.size + 1, 0, none⟩), .int .i64 (q : Nat), .map (some w.heap.size), .slice none 0 0, .slice none 0 0] 55)).heap[w.heap.size + 1]? = some (.cells #[.pointer (some ⟨w.heap.size + 1, 0, none⟩), .int .i64 (q : Nat), .map (some w.heap.size), .slice none 0 0, .slice none 0 0] 55 (0, 0)) := by
    rw [← hz]; exact heap_alloc_new _ _
  have hB : Below w.heap.size w ((w.alloc (.map #[] 0)).alloc (.cells #[.pointer (some ⟨w.heap.size + 1, 0, none⟩), .int .i64 (q : Nat), .map (some w.heap.size), .slice none 0 0, .slice none 0 0] 55)) :=
    ((Below.refl _ _).alloc (Nat.le_refl _) _).alloc (by simp) _
  have hm : MO ((w.alloc (.map #[] 0)).alloc (.cells #[.pointer (some ⟨w.heap.size + 1, 0, none⟩), .int .i64 (q : Nat), .map (some w.heap.size), .slice none 0 0, .slice none 0 0] 55)) w.heap.size [] :=
    ⟨.map [], (World.ownsMap_made w _ _ _).alloc _, MK.nil, rfl⟩
  refine ⟨rfl, ⟨⟨_, _, hb, World.ownsRow_nil _ _ _ _, World.ownsRow_nil _ _ _ _⟩, hm, by simp, List.Pairwise.nil, List.Pairwise.nil, by simp, by simp, HQ.out.2⟩, hB, fun k hk => ⟨Nat.lt_of_lt_of_le hk hB.size, by omega, by omega, fun cs ty m e => ?_⟩⟩
  rw [hb] at e
  cases e
  simp [Value.ownBlock]
theorem waiting_ok (w : World) (t mb q : Nat) (L : List Bt) (V : List Wt) (h : TS w t mb q L V) :
    Calls Try.prog 14 #[.pointer (some ⟨t, 0, none⟩)] w fun e w' => e = .returned (.int .i64 (V.length : Nat)) ∧ w' = w := by
  obtain ⟨oa, oc, wa, wc, hb, _⟩ := h.rows
  have c4 : w.cell? ⟨t, 4, none⟩ = some (.slice wa V.length wc) := by simp [World.cell?, hb]
  have HG : Hid (∀ W, W = w → Calls Try.prog 20 #[.pointer (some ⟨t, 0, none⟩)] W fun e w' => e = .returned (.bool true) ∧ w' = W) := fun W e => by subst e; exact given_yes t W h.cells.1
  clear hb h
  go_enter Try.func14, Try.ntmps14
  go_wp2_with fail
  refine (HG.out _ rfl).mono ?_
  rintro e w1 ⟨rfl, hw⟩
  obtain rfl := hw.symm
  go_wp2
  go_ret
  exact ⟨rfl, rfl⟩
def zb6 : Array Value := #[.int .i64 0, .int .i64 0, .int .i64 0, .int .i64 0, .int .i64 0, .slice none 0 0]
theorem cells6 {w : World} {b : Nat} {t : TypeId} {a0 a1 a2 a3 a4 a5 : Value} (h : w.heap[b]? = some (.cells #[a0, a1, a2, a3, a4, a5] t (0, 0))) :
    w.cell? ⟨b, 0, none⟩ = some a0 ∧ w.cell? ⟨b, 1, none⟩ = some a1 ∧ w.cell? ⟨b, 2, none⟩ = some a2 ∧ w.cell? ⟨b, 3, none⟩ = some a3 ∧ w.cell? ⟨b, 4, none⟩ = some a4 ∧ w.cell? ⟨b, 5, none⟩ = some a5 :=
  ⟨by simp [World.cell?, h], by simp [World.cell?, h], by simp [World.cell?, h], by simp [World.cell?, h], by simp [World.cell?, h], by simp [World.cell?, h]⟩
set_option maxHeartbeats 1000000 in
theorem find_ok (w : World) (t mb q : Nat) (L : List Bt) (V : List Wt) (h : TS w t mb q L V) (p s : Int) (p0 : 0 ≤ p) (p1 : p ≤ 2147483647) (s0 : 0 ≤ s) (s1 : s ≤ 2147483647) :
    Calls Try.prog 9 #[.pointer (some ⟨t, 0, none⟩), idV p s] w fun e w' => e = .returned (.tuple #[(fb L p s).v, .int .i64 (if (fnd L p s).isSome then 0 else 3)]) ∧ Below w.heap.size w w' := by
  obtain ⟨U, hU⟩ : ∃ U, w.heap.size = U := ⟨_, rfl⟩
  have HA : Below w.heap.size w ((w.alloc (.cells #[.int .i64 p, .int .i64 s] 30)).alloc (.cells #[.int .i64 0, .int .i64 0, .int .i64 0, .int .i64 0, .int .i64 0, .slice none 0 0] 33)) := ((Below.refl _ _).alloc (Nat.le_refl _) _).alloc (by simp) _
  have hbU : ((w.alloc (.cells #[.int .i64 p, .int .i64 s] 30)).alloc (.cells #[.int .i64 0, .int .i64 0, .int .i64 0, .int .i64 0, .int .i64 0, .slice none 0 0] 33)).heap[w.heap.size]? = some (.cells #[.int .i64 p, .int .i64 s] 30 (0, 0)) := by
    rw [(below_a _ _).block _ (by simp)]; exact heap_alloc_new _ _
  have hbU1 : ((w.alloc (.cells #[.int .i64 p, .int .i64 s] 30)).alloc (.cells #[.int .i64 0, .int .i64 0, .int .i64 0, .int .i64 0, .int .i64 0, .slice none 0 0] 33)).heap[w.heap.size + 1]? = some (.cells #[.int .i64 0, .int .i64 0, .int .i64 0, .int .i64 0, .int .i64 0, .slice none 0 0] 33 (0, 0)) := by
    have hz : (w.alloc (.cells #[.int .i64 p, .int .i64 s] 30)).heap.size = w.heap.size + 1 := by simp
    rw [← hz]; exact heap_alloc_new _ _
  have hsz : ((w.alloc (.cells #[.int .i64 p, .int .i64 s] 30)).alloc (.cells #[.int .i64 0, .int .i64 0, .int .i64 0, .int .i64 0, .int .i64 0, .slice none 0 0] 33)).heap.size = w.heap.size + 2 := by simp
  have hT := h.below HA
  rw [hU] at HA hbU hbU1 hsz ⊢
  generalize hW : ((w.alloc (.cells #[.int .i64 p, .int .i64 s] 30)).alloc (.cells #[.int .i64 0, .int .i64 0, .int .i64 0, .int .i64 0, .int .i64 0, .slice none 0 0] 33)) = W at HA hbU hbU1 hsz hT
  have HT : Hid (TS W t mb q L V) := hT
  have HB : Hid (Below U w W) := HA
  have HG : Hid (Calls Try.prog 20 #[.pointer (some ⟨t, 0, none⟩)] W fun e w' => e = .returned (.bool true) ∧ w' = W) := given_yes t W hT.cells.1
  have c2 := hT.cells.2.2
  have hl := fun W' (hb : Below W.heap.size W W') => (look_m (hT.below hb).map p s p0 p1 s0 s1).1
  have hl0 := hl W (Below.refl _ _)
  have hl1 := hl W.drew (below_d W)
  have hl2 := fun o => hl (W.alloc o).drew (below_ad W o)
  have c3 := fun o => cellB (below_ad W o) c2
  have z0 : W.cell? ⟨U, 0, none⟩ = some (.int .i64 p) := by simp [World.cell?, hbU]
  have z1 : W.cell? ⟨U, 1, none⟩ = some (.int .i64 s) := by simp [World.cell?, hbU]
  have x0 := fun o => cellB (below_ad W o) z0
  have x1 := fun o => cellB (below_ad W o) z1
  have hne : t ≠ U := by have := h.lt; omega
  have hfr := frozen0 hbU1
  obtain ⟨y0, y1, y2, y3, y4, y5⟩ := cells6 hbU1
  have HZ : Hid ((fnd L p s).isSome = false → fb L p s = bt0) := fun h => by
    unfold fb
    cases e : fnd L p s with
    | none => rfl
    | some b => rw [e] at h; cases h
  have hUw : U ≤ w.heap.size := by omega
  have hle : U ≤ U + 1 := by omega
  clear hT HA h hbU hbU1 p0 p1 s0 s1 hl
  obtain ⟨b, hb⟩ : ∃ b, fb L p s = b := ⟨_, rfl⟩
  obtain ⟨f, hf⟩ : ∃ f, (fnd L p s).isSome = f := ⟨_, rfl⟩
  rw [hb, hf] at hl0 hl1 hl2 HZ ⊢
  clear hb hf
  obtain ⟨b0, b1, b2, b3, b4⟩ := b
  simp only [Bt.v] at hl0 hl1 hl2 ⊢
  go_enter Try.func9, Try.ntmps9
  go_wp2_with fail
  try rw [hW]
  try rw [hU]
  clear hW
  refine HG.out.mono ?_
  rintro e w1 ⟨rfl, hw⟩
  obtain rfl := hw.symm
  cases f
  · have hz := HZ.out rfl
    cases hz
    go_upto_region 3 with fail
    go_region
    go_wp2
    refine bodyPost_ret (v := ?v1) ?c1 rfl ?c2
    case c1 =>
      rw [results_cell_tmp rfl]
      go_simp
      all_goals exact rfl
    case c2 =>
      refine ⟨rfl, bl_drew.2 (bl_alloc hUw ?_)⟩
      simp only [bl_set' hle]
      exact HB.out
  · go_upto_region 3 with fail
    go_region
    go_wp2
    refine bodyPost_ret (v := ?v2) ?c3 rfl ?c4
    case c3 =>
      rw [results_cell_tmp rfl]
      go_simp
      all_goals exact rfl
    case c4 =>
      refine ⟨rfl, bl_drew.2 (bl_alloc hUw ?_)⟩
      simp only [bl_set' hle]
      exact HB.out
end Go.Proofs.Ytpjjenhimnkdcaa
namespace Go.Proofs.Ytpjjenhimnkdcaa
open Go.RowKit Go.Maps
set_option linter.unusedVariables false
set_option maxRecDepth 20000

theorem rowCell {w : World} {B : Nat} {E : TypeId} {size n c g : Nat} {xs : List Value} (h : w.ownsRow B E size (.slice (some ⟨g, 0, none⟩) n c) n xs) {j : Nat} {u : Value} (hj : xs[j]? = some u) : w.cell? ⟨g, j, none⟩ = some u := by
  have := h.cells (g := g) rfl j u hj
  rwa [add_zero_addr] at this
theorem rowSome {w : World} {B : Nat} {E : TypeId} {size n c : Nat} {a : Option Addr} {xs : List Value} (h : w.ownsRow B E size (.slice a n c) n xs) (hn : 0 < n) : ∃ g, a = some ⟨g, 0, none⟩ ∧ g < w.heap.size := by
  rcases h.2 with ⟨e, h0⟩ | ⟨g, cap, cur, e, _, h3, _⟩
  · omega
  · cases e; exact ⟨g, rfl, lt_of_block h3⟩
theorem TS.last {w : World} {t mb q : Nat} {M : List Bt} {b : Bt} {V : List Wt} (h : TS w t mb q (M ++ [b]) V) : fnd M b.prod b.seq = none ∧ fnd (M ++ [b]) b.prod b.seq = some b := by
  have hn : fnd M b.prod b.seq = none := fnd_of_none fun x hx e => (List.pairwise_append.1 h.uniq).2.2 x hx b (by simp) e
  exact ⟨hn, by rw [fnd_append, hn, fnd_one]; simp⟩
theorem endL_snoc (M : List Bt) (b : Bt) : endL (M ++ [b]) = b.fin := by simp [endL]
set_option maxHeartbeats 1000000 in
theorem end_ok (w : World) (t mb q : Nat) (L : List Bt) (V : List Wt) (h : TS w t mb q L V) :
    Calls Try.prog 22 #[.pointer (some ⟨t, 0, none⟩)] w fun e w' => e = .returned (.int .i64 (endL L)) ∧ Below w.heap.size w w' := by
  obtain ⟨oa, oc, wa, wc, hb, ho, _⟩ := h.rows
  rcases List.eq_nil_or_concat L with rfl | ⟨M, b, rfl⟩
  · have c3 : w.cell? ⟨t, 3, none⟩ = some (.slice oa 0 oc) := by simp [World.cell?, hb]
    clear hb h ho
    go_enter Try.func22, Try.ntmps22
    go_wp2
    go_ret
    exact ⟨rfl, Below.refl _ _⟩
  · rw [List.concat_eq_append] at *
    obtain ⟨g, rfl, hg⟩ := rowSome ho (by simp)
    have hl : (M ++ [b]).length = M.length + 1 := by simp
    have c3 : w.cell? ⟨t, 3, none⟩ = some (.slice (some ⟨g, 0, none⟩) (M.length + 1) oc) := by simp [World.cell?, hb]
    have c2 := h.cells.2.2
    have hget := flat_get (fun b : Bt => [Value.int .i64 b.prod, Value.int .i64 b.seq]) 2 (fun _ => rfl) (M ++ [b]) M.length b (by simp)
    have k0 : w.cell? ⟨g, M.length * 2, none⟩ = some (.int .i64 b.prod) := rowCell ho (by have := hget 0 (by omega); simpa [ics] using this)
    have k1 : w.cell? ⟨g, M.length * 2 + 1, none⟩ = some (.int .i64 b.seq) := rowCell ho (by have := hget 1 (by omega); simpa [ics] using this)
    have hok := h.ok b (by simp)
    have hfb : fb (M ++ [b]) b.prod b.seq = b := by unfold fb; rw [h.last.2]; rfl
    have hlk := (look_m (W := w.drew) (h.below (below_d w)).map b.prod b.seq hok.p0 hok.p1 hok.s0 hok.s1).2
    rw [hfb] at hlk
    rw [endL_snoc]
    have HE : Hid (∀ W, Calls Try.prog 32 #[b.v] W fun e w' => e = .returned (.int .i64 b.fin) ∧ Below W.heap.size W w') := fun W => endOf_ok b W hok
    have hlen : M.length ≤ 1000 := by have := h.lenL; rw [hl] at this; omega
    clear hb h ho hget hok hfb hl
    obtain ⟨N, hN⟩ : ∃ N, M.length + 1 = N := ⟨_, rfl⟩
    rw [hN] at c3
    obtain ⟨n, hn⟩ : ∃ n, M.length = n := ⟨_, rfl⟩
    rw [hn] at k0 k1 hlen hN
    have hw1 : IntKind.i64.wrap ((N : Int) - 1) = (n : Int) := by rw [IntKind.wrap_i64]; omega
    have hw2 : wrap64 ((N : Int) - 1) = (n : Int) := by unfold wrap64; omega
    have hi : (n : Int) < (N : Int) := by omega
    have hi2 : n < N := by omega
    have hN0 : ((N : Int) == 0) = false := by simp; omega
    clear hn hN hlen
    obtain ⟨f, hf⟩ : ∃ f, b.fin = f := ⟨_, rfl⟩
    rw [hf] at HE ⊢
    clear hf
    go_enter Try.func22, Try.ntmps22
    go_upto_region 3 with fail
    go_region_with (go_at_call 32; refine (HE.out _).mono ?_; rintro e w3 ⟨rfl, hb3⟩; have H3 : Hid (Below w.heap.size w w3) := ⟨hb3.os, hb3.tape, hb3.output, hb3.size, hb3.block⟩; clear hb3)
    all_goals
      go_wp2
      go_ret
      exact ⟨rfl, H3.out⟩
end Go.Proofs.Ytpjjenhimnkdcaa
namespace Go.Proofs.Ytpjjenhimnkdcaa
open Go.RowKit Go.Maps
set_option linter.unusedVariables false
set_option maxRecDepth 20000

theorem isWithin_yes (n a b : Int) (w : World) (h1 : a ≤ n) (h2 : n ≤ b) : Calls Try.prog 48 #[.int .i64 n, .int .i64 a, .int .i64 b] w fun e w' => e = .returned (.bool true) ∧ w' = w := by
  go_enter Try.func48, Try.ntmps48
  go_wp2
  go_ret
  exact ⟨rfl, rfl⟩
set_option maxHeartbeats 1000000 in
theorem numbersMayBe_yes (b : Bt) (ok : b.OK) (w : World) :
    Calls Try.prog 39 #[b.v] w fun e w' => e = .returned (.bool true) ∧ Below w.heap.size w w' := by
  obtain ⟨base, cnt, view, prod, seq⟩ := b
  obtain ⟨o1, o2, o3, o4, o5, o6, o7, o8, o9, o10⟩ := ok
  simp only at o1 o2 o3 o4 o5 o6 o7 o8 o9 o10
  have HB : Hid (Below w.heap.size w (w.alloc (.cells #[.int .i64 base, .int .i64 cnt, .int .i64 view, .int .i64 prod, .int .i64 seq, .slice none 0 0] 33))) := (Below.refl _ _).alloc (Nat.le_refl _) _
  have H1 : Hid (∀ W, Calls Try.prog 48 #[.int .i64 base, .int .i64 0, .int .i64 1099511627520] W fun e w' => e = .returned (.bool true) ∧ w' = W) := fun W => isWithin_yes _ _ _ W o1 o2
  have H2 : Hid (∀ W, Calls Try.prog 48 #[.int .i64 cnt, .int .i64 1, .int .i64 256] W fun e w' => e = .returned (.bool true) ∧ w' = W) := fun W => isWithin_yes _ _ _ W o3 o4
  have H3 : Hid (∀ W, Calls Try.prog 48 #[.int .i64 view, .int .i64 0, .int .i64 2147483647] W fun e w' => e = .returned (.bool true) ∧ w' = W) := fun W => isWithin_yes _ _ _ W o5 o6
  have H4 : Hid (∀ W, Calls Try.prog 48 #[.int .i64 prod, .int .i64 0, .int .i64 2147483647] W fun e w' => e = .returned (.bool true) ∧ w' = W) := fun W => isWithin_yes _ _ _ W o7 o8
  have H5 : Hid (∀ W, Calls Try.prog 48 #[.int .i64 seq, .int .i64 0, .int .i64 2147483647] W fun e w' => e = .returned (.bool true) ∧ w' = W) := fun W => isWithin_yes _ _ _ W o9 o10
  clear o1 o2 o3 o4 o5 o6 o7 o8 o9 o10
  simp only [Bt.v]
  go_enter Try.func39, Try.ntmps39
  go_wp2_with fail
  refine (H1.out _).mono ?_
  rintro e W ⟨rfl, hW⟩
  obtain rfl := hW.symm
  clear hW
  go_wp2_with fail
  refine (H2.out _).mono ?_
  rintro e W ⟨rfl, hW⟩
  obtain rfl := hW.symm
  clear hW
  go_wp2_with fail
  refine (H3.out _).mono ?_
  rintro e W ⟨rfl, hW⟩
  obtain rfl := hW.symm
  clear hW
  go_wp2_with fail
  refine (H4.out _).mono ?_
  rintro e W ⟨rfl, hW⟩
  obtain rfl := hW.symm
  clear hW
  go_wp2_with fail
  refine (H5.out _).mono ?_
  rintro e W ⟨rfl, hW⟩
  obtain rfl := hW.symm
  clear hW
  go_wp2
  go_ret
  exact ⟨rfl, HB.out⟩
theorem recordsWithin_nil (b : Bt) (w : World) :
    Calls Try.prog 40 #[b.v] w fun e w' => e = .returned (.bool true) ∧ Below w.heap.size w w' := by
  have HB : Hid (Below w.heap.size w (w.alloc (.cells #[.int .i64 b.base, .int .i64 b.cnt, .int .i64 b.view, .int .i64 b.prod, .int .i64 b.seq, .slice none 0 0] 33))) := (Below.refl _ _).alloc (Nat.le_refl _) _
  go_enter Try.func40, Try.ntmps40
  go_wp2
  go_loopw [8] (fun i wr => i = .int .i64 0 ∧ Below w.heap.size w wr) (fun _ _ => 0)
  case atStart => exact ⟨rfl, HB.out⟩
  case round =>
    obtain ⟨rfl, hr⟩ := hrel
    have HR : Hid (Below w.heap.size w wr) := hr
    clear hr
    go_wp2
    go_ret
    exact ⟨rfl, HR.out⟩
set_option maxHeartbeats 1000000 in
theorem plainOf_ok (b : Bt) (ok : b.OK) (w : World) :
    Calls Try.prog 31 #[b.v] w fun e w' => e = .returned (.tuple #[.string ⟨#[]⟩, .int .i64 0]) ∧ Below w.heap.size w w' := by
  have HB : Hid (Below w.heap.size w (w.alloc (.cells #[.int .i64 b.base, .int .i64 b.cnt, .int .i64 b.view, .int .i64 b.prod, .int .i64 b.seq, .slice none 0 0] 33))) := (Below.refl _ _).alloc (Nat.le_refl _) _
  have hbU : (w.alloc (.cells #[.int .i64 b.base, .int .i64 b.cnt, .int .i64 b.view, .int .i64 b.prod, .int .i64 b.seq, .slice none 0 0] 33)).heap[w.heap.size]? = some (.cells #[.int .i64 b.base, .int .i64 b.cnt, .int .i64 b.view, .int .i64 b.prod, .int .i64 b.seq, .slice none 0 0] 33 (0, 0)) := heap_alloc_new _ _
  have HN : Hid (∀ W, Calls Try.prog 39 #[b.v] W fun e w' => e = .returned (.bool true) ∧ Below W.heap.size W w') := fun W => numbersMayBe_yes b ok W
  have HR : Hid (∀ W, Calls Try.prog 40 #[b.v] W fun e w' => e = .returned (.bool true) ∧ Below W.heap.size W w') := fun W => recordsWithin_nil b W
  have HY : Hid (∀ W, Calls Try.prog 34 #[.slice none 0 0, .int .i64 b.base] W fun e w' => e = .returned (.tuple #[.string ⟨#[]⟩, .int .i64 0]) ∧ Below W.heap.size W w') := fun W => by
    have := bytes_ok none 0 [] b.base W (RIn.nil _ _) (fun r hr => by simp at hr) (by simp)
    have e : offB b.base = true := by
      have := ok.b0; have := ok.b1
      unfold offB; rw [decide_eq_true (by omega), decide_eq_true (by omega)]; rfl
    unfold bytesV at this
    rw [e] at this
    exact this
  obtain ⟨U, hU⟩ : ∃ U, w.heap.size = U := ⟨_, rfl⟩
  rw [hU] at hbU HB ⊢
  generalize hW : (w.alloc (.cells #[.int .i64 b.base, .int .i64 b.cnt, .int .i64 b.view, .int .i64 b.prod, .int .i64 b.seq, .slice none 0 0] 33)) = W at hbU HB
  obtain ⟨base, cnt, view, prod, seq⟩ := b
  simp only [Bt.v] at *
  have HC : Hid (W.heap[U]? = some (.cells #[.int .i64 base, .int .i64 cnt, .int .i64 view, .int .i64 prod, .int .i64 seq, .slice none 0 0] 33 (0, 0))) := hbU
  obtain ⟨y0, y1, y2, y3, y4, y5⟩ : W.cell? ⟨U, 0, none⟩ = some (.int .i64 base) ∧ W.cell? ⟨U, 1, none⟩ = some (.int .i64 cnt) ∧ W.cell? ⟨U, 2, none⟩ = some (.int .i64 view) ∧ W.cell? ⟨U, 3, none⟩ = some (.int .i64 prod) ∧ W.cell? ⟨U, 4, none⟩ = some (.int .i64 seq) ∧ W.cell? ⟨U, 5, none⟩ = some (.slice none 0 0) :=
    ⟨by simp [World.cell?, hbU], by simp [World.cell?, hbU], by simp [World.cell?, hbU], by simp [World.cell?, hbU], by simp [World.cell?, hbU], by simp [World.cell?, hbU]⟩
  clear hbU ok
  go_enter Try.func31, Try.ntmps31
  go_wp2_with fail
  try rw [hW]
  try rw [hU]
  clear hW
  refine (HN.out _).mono ?_
  rintro e w1 ⟨rfl, hb1⟩
  have HB1 : Hid (Below U w w1 ∧ w1.heap[U]? = some (.cells #[.int .i64 base, .int .i64 cnt, .int .i64 view, .int .i64 prod, .int .i64 seq, .slice none 0 0] 33 (0, 0))) := ⟨HB.out.trans (hb1.mono (by have := lt_of_block HC.out; omega)), (hb1.block U (lt_of_block HC.out)).trans HC.out⟩
  have x0 := cellB hb1 y0
  have x1 := cellB hb1 y1
  have x2 := cellB hb1 y2
  have x3 := cellB hb1 y3
  have x4 := cellB hb1 y4
  have x5 := cellB hb1 y5
  clear hb1 y0 y1 y2 y3 y4 y5
  go_wp2_with fail
  refine (HR.out _).mono ?_
  rintro e w2 ⟨rfl, hb2⟩
  have HB2 : Hid (Below U w w2 ∧ w2.heap[U]? = some (.cells #[.int .i64 base, .int .i64 cnt, .int .i64 view, .int .i64 prod, .int .i64 seq, .slice none 0 0] 33 (0, 0))) := ⟨HB1.out.1.trans (hb2.mono (by have := lt_of_block HB1.out.2; omega)), (hb2.block U (lt_of_block HB1.out.2)).trans HB1.out.2⟩
  have y0 := cellB hb2 x0
  have y5 := cellB hb2 x5
  clear hb2 x0 x1 x2 x3 x4 x5
  go_wp2_with fail
  refine (HY.out _).mono ?_
  rintro e w3 ⟨rfl, hb3⟩
  have HB3 : Hid (Below U w w3) := HB2.out.1.trans (hb3.mono (by have := lt_of_block HB2.out.2; omega))
  clear hb3
  go_wp2
  go_ret2
  exact ⟨rfl, HB3.out⟩
theorem bcheck_ok (b : Bt) (ok : b.OK) (w : World) :
    Calls Try.prog 21 #[b.v] w fun e w' => e = .returned (.int .i64 0) ∧ Below w.heap.size w w' := by
  have HB : Hid (Below w.heap.size w (w.alloc (.cells #[.int .i64 b.base, .int .i64 b.cnt, .int .i64 b.view, .int .i64 b.prod, .int .i64 b.seq, .slice none 0 0] 33))) := (Below.refl _ _).alloc (Nat.le_refl _) _
  have HN : Hid (∀ W, Calls Try.prog 31 #[b.v] W fun e w' => e = .returned (.tuple #[.string ⟨#[]⟩, .int .i64 0]) ∧ Below W.heap.size W w') := fun W => plainOf_ok b ok W
  clear ok
  obtain ⟨base, cnt, view, prod, seq⟩ := b
  simp only [Bt.v] at *
  go_enter Try.func21, Try.ntmps21
  go_wp2_with fail
  refine (HN.out _).mono ?_
  rintro e w1 ⟨rfl, hb1⟩
  have HB1 : Hid (Below w.heap.size w w1) := HB.out.trans (hb1.mono HB.out.size)
  clear hb1
  go_wp2
  go_ret
  exact ⟨rfl, HB1.out⟩
end Go.Proofs.Ytpjjenhimnkdcaa
namespace Go.Proofs.Ytpjjenhimnkdcaa
open Go.RowKit Go.Maps
set_option linter.unusedVariables false
set_option maxRecDepth 20000

theorem TFr.grow {t mb : Nat} {w w1 : World} {row : Option Nat} (h : w.grownBy w1 row) (hr : ∀ k, Ap w t mb k → row ≠ some k) (ht : row ≠ some t) (hlt : t < w.heap.size) : TFr t mb w w1 :=
  ⟨h.os, h.tape, h.output, h.size, fun k hk => ⟨h.block k hk.1 (fun e => hr k hk e.symm), Nat.lt_of_lt_of_le hk.1 h.size, hk.2.1, hk.2.2.1, fun cs ty m e => hk.2.2.2 cs ty m (by rw [← h.block t hlt (fun e => ht e.symm)]; exact e)⟩⟩
theorem TFr.store3 {t mb : Nat} {w w1 : World} {T : TypeId} {a0 a1 a2 ov wv : Value} (h : TFr t mb w w1) (hb : w1.heap[t]? = some (.cells #[a0, a1, a2, ov, wv] T (0, 0))) (v : Value) (hv : ∀ k, Ap w t mb k → v.ownBlock ≠ some k) : TFr t mb w (w1.setCell ⟨t, 3, none⟩ v) :=
  ⟨h.os, h.tape, h.output, by have := h.size; simpa [World.setCell] using this, fun k hk => by
    obtain ⟨h1, h2⟩ := h.kept k hk
    have hb' := block_set (i := 3) (u := v) hb
    refine ⟨(Below.heap_setCell _ _ _ _ (by exact hk.2.1)).trans h1, by have := h2.1; simpa [World.setCell] using this, hk.2.1, hk.2.2.1, fun cs ty m e => ?_⟩
    rw [hb'] at e
    cases e
    exact ⟨by simpa using hv k hk, by simpa using (h2.2.2.2 _ _ _ hb).2⟩⟩
theorem TFr.store4 {t mb : Nat} {w w1 : World} {T : TypeId} {a0 a1 a2 ov wv : Value} (h : TFr t mb w w1) (hb : w1.heap[t]? = some (.cells #[a0, a1, a2, ov, wv] T (0, 0))) (v : Value) (hv : ∀ k, Ap w t mb k → v.ownBlock ≠ some k) : TFr t mb w (w1.setCell ⟨t, 4, none⟩ v) :=
  ⟨h.os, h.tape, h.output, by have := h.size; simpa [World.setCell] using this, fun k hk => by
    obtain ⟨h1, h2⟩ := h.kept k hk
    have hb' := block_set (i := 4) (u := v) hb
    refine ⟨(Below.heap_setCell _ _ _ _ (by exact hk.2.1)).trans h1, by have := h2.1; simpa [World.setCell] using this, hk.2.1, hk.2.2.1, fun cs ty m e => ?_⟩
    rw [hb'] at e
    cases e
    exact ⟨by simpa using (h2.2.2.2 _ _ _ hb).1, by simpa using hv k hk⟩⟩
theorem TS.apart {w : World} {t mb q : Nat} {L : List Bt} {V : List Wt} (h : TS w t mb q L V) : t ≠ mb := by
  obtain ⟨ov, wv, h1, _⟩ := h.blk
  obtain ⟨es, c, h2⟩ := h.map.blk
  rintro rfl
  rw [h1] at h2; cases h2
theorem rowNe {w : World} {B : Nat} {E T : TypeId} {size n k : Nat} {v : Value} {xs : List Value} {cs : Array Value} {m : Nat × Nat} (h : w.ownsRow B E size v n xs) (hb : w.heap[k]? = some (.cells cs T m)) (hT : T ≠ E) : v.ownBlock ≠ some k := fun e => by
  obtain ⟨_, cs', h'⟩ := rowLt h e
  rw [hb] at h'; cases h'; exact hT rfl
theorem rowNeM {w : World} {B : Nat} {E : TypeId} {size n k : Nat} {v : Value} {xs : List Value} {es : Array MapEntry} {c : Nat} (h : w.ownsRow B E size v n xs) (hb : w.heap[k]? = some (.map es c)) : v.ownBlock ≠ some k := fun e => by
  obtain ⟨_, cs', h'⟩ := rowLt h e
  rw [hb] at h'; cases h'
theorem fin_mono {L : List Bt} (h : L.Pairwise fun a b => a.fin ≤ b.base) (hok : ∀ b ∈ L, b.OK) (M : List Bt) (l : Bt) (e : L = M ++ [l]) : ∀ a ∈ L, a.fin ≤ l.fin := by
  subst e
  intro a ha
  rcases List.mem_append.1 ha with h1 | h1
  · have h2 := (List.pairwise_append.1 h).2.2 a h1 l (by simp)
    have h3 := (hok l (by simp)).c0
    unfold Bt.fin at *
    omega
  · have : a = l := by simpa using h1
    rw [this]; exact Int.le_refl _
theorem endL_le {L : List Bt} (h : L.Pairwise fun a b => a.fin ≤ b.base) (hok : ∀ b ∈ L, b.OK) : ∀ a ∈ L, a.fin ≤ endL L := by
  rcases List.eq_nil_or_concat L with rfl | ⟨M, b, rfl⟩
  · intro a ha; simp at ha
  · rw [List.concat_eq_append] at *
    rw [endL_snoc]
    exact fin_mono h hok M b rfl
/-- A batch that was put. -/
theorem TS.put {w w1 w2 : World} {t mb q g cap : Nat} {L : List Bt} {V : List Wt} {b : Bt} {o : Obj} (h : TS w t mb q L V) (ok : b.OK) (hn : fnd L b.prod b.seq = none) (hlow : endL L ≤ b.base) (hlen : L.length < 1000)
    (hm : MO w1 mb (L ++ [b])) (hg1 : w.grownBy w1 (some mb))
    {oa : Option Addr} {oc : Nat} {wv : Value} (hblk : w.heap[t]? = some (.cells #[.pointer (some ⟨t, 0, none⟩), .int .i64 (q : Nat), .map (some mb), .slice oa L.length oc, wv] 55 (0, 0)))
    (hown : w2.ownsRow 0 30 2 (.slice (some ⟨g, 0, none⟩) (L.length + 1) cap) (L.length + 1) (ics L ++ [.int .i64 b.prod, .int .i64 b.seq])) (hg2 : (w1.alloc o).grownBy w2 (Value.slice oa L.length oc).ownBlock) (hat : (Value.slice oa L.length oc).ownBlock = some g ∨ g = (w1.alloc o).heap.size) :
    TS (w2.setCell ⟨t, 3, none⟩ (.slice (some ⟨g, 0, none⟩) (L.length + 1) cap)) t mb q (L ++ [b]) V ∧ TFr t mb w (w2.setCell ⟨t, 3, none⟩ (.slice (some ⟨g, 0, none⟩) (L.length + 1) cap)) := by
  obtain ⟨ov, wv', h1, h2, h3⟩ := h.blk
  rw [hblk] at h1
  cases h1
  have hta := h.apart
  have ht := h.lt
  have htb1 : w1.heap[t]? = w.heap[t]? := hg1.block t ht (by simpa using hta)
  have hba := below_a w1 o
  have ht1 : t < w1.heap.size := Nat.lt_of_lt_of_le ht hg1.size
  have htb2 : (w1.alloc o).heap[t]? = w.heap[t]? := (hba.block t ht1).trans htb1
  have hovt : (Value.slice oa L.length oc).ownBlock ≠ some t := rowNe h2 hblk (by decide)
  have htb3 : w2.heap[t]? = some (.cells #[.pointer (some ⟨t, 0, none⟩), .int .i64 (q : Nat), .map (some mb), .slice oa L.length oc, wv] 55 (0, 0)) :=
    (hg2.block t (Nat.lt_of_lt_of_le ht1 hba.size) (fun e => hovt e.symm)).trans (htb2.trans hblk)
  obtain ⟨es, c, hmb⟩ := h.map.blk
  have hmlt := h.map.lt
  obtain ⟨es1, c1, hmb1⟩ := hm.blk
  have F1 : TFr t mb w w1 := TFr.grow hg1 (fun k hk e => hk.2.2.1 (by simpa using e.symm)) (fun e => hta (by simpa using e.symm)) ht
  have F2 : TFr t mb w (w1.alloc o) := F1.trans (TFr.below hba ht1)
  have F3 : TFr t mb w w2 := by
    have hb' : (w1.alloc o).heap[t]? = _ := htb2.trans hblk
    refine F2.trans (TFr.grow hg2 (fun k hk => ?_) hovt (Nat.lt_of_lt_of_le ht1 hba.size))
    have := (hk.2.2.2 _ _ _ hb').1
    simpa using this
  have hgm : g ≠ mb := by
    rcases hat with e | e
    · rintro rfl
      exact rowNeM h2 hmb e
    · have := hba.size; have := hg1.size; omega
  have hgt : g ≠ t := by
    rcases hat with e | e
    · rintro rfl; exact hovt e
    · have := hba.size; omega
  have hF := F3.store3 htb3 (.slice (some ⟨g, 0, none⟩) (L.length + 1) cap) (fun k hk e => by
    have e' : g = k := by simpa [Value.ownBlock] using e
    subst e'
    rcases hat with e2 | e2
    · have := (hk.2.2.2 _ _ _ hblk).1
      exact this (by simpa using e2)
    · have := hk.1; have := hba.size; have := hg1.size; omega)
  have hb4 := block_set (i := 3) (u := .slice (some ⟨g, 0, none⟩) (L.length + 1) cap) htb3
  have hovm : (Value.slice oa L.length oc).ownBlock ≠ some mb := rowNeM h2 hmb
  refine ⟨⟨⟨_, _, hb4, ?_, ?_⟩, ?_, ?_, ?_, ?_, ?_, h.lenV, h.hq⟩, hF⟩
  · have : w2.ownsRow 0 30 2 (.slice (some ⟨g, 0, none⟩) (L ++ [b]).length cap) (L ++ [b]).length (ics (L ++ [b])) := by rw [ics_append, List.length_append]; exact hown
    have e : (L ++ [b]).length = L.length + 1 := by simp
    rw [e] at this ⊢
    refine rowBlock this fun g' hg' => ?_
    have : g = g' := by simpa [Value.ownBlock] using hg'
    subst this
    exact Below.heap_setCell _ _ _ _ (by exact hgt)
  · refine rowBlock h3 fun g' hg' => ?_
    obtain ⟨l1, cs', l2⟩ := rowLt h3 hg'
    have n1 : g' ≠ t := by rintro rfl; rw [hblk] at l2; cases l2
    have n2 : g' ≠ mb := by rintro rfl; rw [hmb] at l2; cases l2
    have n3 : (Value.slice oa L.length oc).ownBlock ≠ some g' := rowNe h2 l2 (by decide)
    rw [Below.heap_setCell _ _ _ _ (by exact n1), hg2.block g' (Nat.lt_of_lt_of_le (Nat.lt_of_lt_of_le l1 hg1.size) hba.size) (fun e => n3 e.symm), hba.block g' (Nat.lt_of_lt_of_le l1 hg1.size), hg1.block g' l1 (by simpa using n2)]
  · refine hm.block ?_
    have lm1 : mb < w1.heap.size := hm.lt
    rw [Below.heap_setCell _ _ _ _ (by exact hta.symm), hg2.block mb (Nat.lt_of_lt_of_le lm1 hba.size) (fun e => hovm e.symm), hba.block mb lm1]
  · intro x hx
    rcases List.mem_append.1 hx with h' | h'
    · exact h.ok x h'
    · have : x = b := by simpa using h'
      rw [this]; exact ok
  · refine List.pairwise_append.2 ⟨h.rise, by simp, fun x hx y hy => ?_⟩
    have : y = b := by simpa using hy
    subst this
    exact Int.le_trans (endL_le h.rise h.ok x hx) hlow
  · refine List.pairwise_append.2 ⟨h.uniq, by simp, fun x hx y hy => ?_⟩
    have : y = b := by simpa using hy
    subst this
    exact fnd_none hn x hx
  · simp; omega
end Go.Proofs.Ytpjjenhimnkdcaa
namespace Go.Proofs.Ytpjjenhimnkdcaa
open Go.RowKit Go.Maps
set_option linter.unusedVariables false
set_option maxRecDepth 20000

theorem idInfo : (Try.prog.info? 30).map (fun i => (i.zero, i.size, i.bytes)) = some (some (.agg #[.int .i64 0, .int .i64 0]), 2, 16) := by kernel_rfl
theorem news2 (W : World) (a b : Value) (t : TypeId) : ∀ j u, [a, b][j]? = some u → (W.alloc (.cells #[a, b] t)).drew.cell? ((⟨W.heap.size, 0, none⟩ : Addr).add j) = some u := by
  intro j u h
  have hb : (W.alloc (.cells #[a, b] t)).drew.heap[W.heap.size]? = some (.cells #[a, b] t (0, 0)) := heap_alloc_new _ _
  rw [add_zero_addr]
  have : j < 2 := by have := (List.getElem?_eq_some_iff.1 h).1; simpa using this
  match j, this, h with
  | 0, _, h =>
    have e : a = u := by simpa using h
    subst e; unfold World.cell?; rw [hb]; rfl
  | 1, _, h =>
    have e : b = u := by simpa using h
    subst e; unfold World.cell?; rw [hb]; rfl
theorem one2 (a b : Int) : ∀ u ∈ [Value.int .i64 a, .int .i64 b], u.oneCell' = true := by
  intro u hu; simp at hu; rcases hu with rfl | rfl <;> rfl
/-- A world behind some steps of Put: the table, the batch's block, the id's block. -/
structure PS (w W : World) (t mb q : Nat) (L : List Bt) (V : List Wt) (U U1 : Nat) (b : Bt) : Prop where
  ts : TS W t mb q L V
  bel : Below w.heap.size w W
  hU : w.heap.size ≤ U
  blk : W.heap[U]? = some (.cells #[.int .i64 b.base, .int .i64 b.cnt, .int .i64 b.view, .int .i64 b.prod, .int .i64 b.seq, .slice none 0 0] 33 (0, 0))
  idb : W.heap[U1]? = some (.cells #[.int .i64 b.prod, .int .i64 b.seq] 30 (0, 0))
theorem PS.below {w W W' : World} {t mb q : Nat} {L : List Bt} {V : List Wt} {U U1 : Nat} {b : Bt} (h : PS w W t mb q L V U U1 b) (hb : Below W.heap.size W W') : PS w W' t mb q L V U U1 b :=
  ⟨h.ts.below hb, h.bel.trans (hb.mono h.bel.size), h.hU, (hb.block U (lt_of_block h.blk)).trans h.blk, (hb.block U1 (lt_of_block h.idb)).trans h.idb⟩
theorem PS.set5 {w W : World} {t mb q : Nat} {L : List Bt} {V : List Wt} {U U1 : Nat} {b : Bt} (h : PS w W t mb q L V U U1 b) : PS w (W.setCell ⟨U, 5, none⟩ (.slice none 0 0)) t mb q L V U U1 b := by
  obtain ⟨ov, wv, h1, h2, h3⟩ := h.ts.blk
  obtain ⟨es, c, h4⟩ := h.ts.map.blk
  have hb := h.blk
  have ne : ∀ k o, W.heap[k]? = some o → (∀ cs m, o ≠ Obj.cells cs 33 m) → (W.setCell ⟨U, 5, none⟩ (.slice none 0 0)).heap[k]? = W.heap[k]? := fun k o hk hne =>
    Below.heap_setCell _ _ _ _ (by
      show k ≠ U
      rintro rfl
      rw [hb] at hk; cases hk
      exact hne _ _ rfl)
  refine ⟨⟨⟨ov, wv, (ne t _ h1 (fun cs m e => by cases e)).trans h1, rowBlock h2 fun g hg => ?_, rowBlock h3 fun g hg => ?_⟩, h.ts.map.block (ne mb _ h4 (fun cs m e => by cases e)), h.ts.ok, h.ts.rise, h.ts.uniq, h.ts.lenL, h.ts.lenV, h.ts.hq⟩, (bl_set' h.hU).2 h.bel, h.hU, ?_, ?_⟩
  · obtain ⟨_, cs, e⟩ := rowLt h2 hg
    exact ne g _ e (fun cs m e => by cases e)
  · obtain ⟨_, cs, e⟩ := rowLt h3 hg
    exact ne g _ e (fun cs m e => by cases e)
  · rw [block_set hb]; rfl
  · exact (ne U1 _ h.idb (fun cs m e => by cases e)).trans h.idb
set_option maxHeartbeats 4000000 in
theorem put_yes (w : World) (t mb q : Nat) (L : List Bt) (V : List Wt) (b : Bt) (h : TS w t mb q L V) (ok : b.OK) (hn : fnd L b.prod b.seq = none) (hlow : endL L ≤ b.base) (hlen : L.length < 1000) :
    Calls Try.prog 10 #[.pointer (some ⟨t, 0, none⟩), b.v] w fun e w' => e = .returned (.int .i64 0) ∧ TS w' t mb q (L ++ [b]) V ∧ TFr t mb w w' := by
  obtain ⟨i0, hi, hz0, hz1, hz2⟩ := info_split idInfo
  have HI : Hid (Try.prog.info? 30 = some i0 ∧ i0.zero = some (.agg #[.int .i64 0, .int .i64 0]) ∧ i0.size = 2 ∧ i0.bytes = 16) := ⟨hi, hz0, hz1, hz2⟩
  clear hi hz0 hz1 hz2
  have HH : Hid (TS w t mb q L V ∧ b.OK ∧ fnd L b.prod b.seq = none ∧ endL L ≤ b.base ∧ L.length < 1000) := ⟨h, ok, hn, hlow, hlen⟩
  obtain ⟨U, hU⟩ : ∃ U, w.heap.size = U := ⟨_, rfl⟩
  have hbU : (w.alloc (.cells #[.int .i64 b.base, .int .i64 b.cnt, .int .i64 b.view, .int .i64 b.prod, .int .i64 b.seq, .slice none 0 0] 33)).heap[w.heap.size]? = some (.cells #[.int .i64 b.base, .int .i64 b.cnt, .int .i64 b.view, .int .i64 b.prod, .int .i64 b.seq, .slice none 0 0] 33 (0, 0)) := heap_alloc_new _ _
  have HB0 : Below w.heap.size w (w.alloc (.cells #[.int .i64 b.base, .int .i64 b.cnt, .int .i64 b.view, .int .i64 b.prod, .int .i64 b.seq, .slice none 0 0] 33)) := below_a _ _
  have hT := h.below HB0
  rw [hU] at hbU HB0
  generalize hW : (w.alloc (.cells #[.int .i64 b.base, .int .i64 b.cnt, .int .i64 b.view, .int .i64 b.prod, .int .i64 b.seq, .slice none 0 0] 33)) = W at hbU HB0 hT
  have HG : Hid (Calls Try.prog 20 #[.pointer (some ⟨t, 0, none⟩)] W fun e w' => e = .returned (.bool true) ∧ w' = W) := given_yes t W hT.cells.1
  have HC : Hid (∀ W, Calls Try.prog 21 #[b.v] W fun e w' => e = .returned (.int .i64 0) ∧ Below W.heap.size W w') := fun W => bcheck_ok b ok W
  have HEN : Hid (∀ W, TS W t mb q L V → Calls Try.prog 22 #[.pointer (some ⟨t, 0, none⟩)] W fun e w' => e = .returned (.int .i64 (endL L)) ∧ Below W.heap.size W w') := fun W h => end_ok W t mb q L V h
  have HT : Hid (TS W t mb q L V ∧ Below U w W ∧ W.heap[U]? = some (.cells #[.int .i64 b.base, .int .i64 b.cnt, .int .i64 b.view, .int .i64 b.prod, .int .i64 b.seq, .slice none 0 0] 33 (0, 0))) := ⟨hT, HB0, hbU⟩
  obtain ⟨y0, y1, y2, y3, y4, y5⟩ := cells6 hbU
  have HLK : Hid (∀ W, TS W t mb q L V → (Instr.lookup 52 (.map (some mb)) (.agg #[.int .i64 b.prod, .int .i64 b.seq]) true).run Try.prog W = .ok (.tuple #[.agg #[.int .i64 0, .int .i64 0, .int .i64 0, .int .i64 0, .int .i64 0, .slice none 0 0], .bool false]) W) := fun W hW => by
    have := (look_m hW.map b.prod b.seq ok.p0 ok.p1 ok.s0 ok.s1).1
    have e : fb L b.prod b.seq = bt0 := by unfold fb; rw [hn]; rfl
    rw [e, hn] at this
    exact this
  obtain ⟨en, hen⟩ : ∃ en, endL L = en := ⟨_, rfl⟩
  rw [hen] at HEN hlow
  have hlt : ¬ b.base < en := by omega
  have HL : Hid (L.length < 1000) := hlen
  clear h ok hn hlow hT HB0 hbU hen hlen
  have HV : Hid (b.v = b.v) := rfl
  obtain ⟨base, cnt, view, prod, seq⟩ := b
  simp only [Bt.v] at *
  go_enter Try.func10, Try.ntmps10
  go_wp2_with fail
  try rw [hW]
  try rw [hU]
  clear hW
  refine HG.out.mono ?_
  rintro e w0 ⟨rfl, hw⟩
  obtain rfl := hw.symm
  clear HG hw
  go_wp2_with fail
  refine (HC.out _).mono ?_
  rintro e w1 ⟨rfl, hb1⟩
  have x3 := cellB hb1 y3
  have x4 := cellB hb1 y4
  have HT1 : Hid (TS w1 t mb q L V ∧ Below U w w1 ∧ w1.heap[U]? = some (.cells #[.int .i64 base, .int .i64 cnt, .int .i64 view, .int .i64 prod, .int .i64 seq, .slice none 0 0] 33 (0, 0))) := ⟨HT.out.1.below hb1, HT.out.2.1.trans (hb1.mono (Nat.le_of_lt (lt_of_block HT.out.2.2))), (hb1.block U (lt_of_block HT.out.2.2)).trans HT.out.2.2⟩
  clear hb1 HT y0 y1 y2 y3 y4 y5
  obtain ⟨U1, hU1⟩ : ∃ U1, w1.heap.size = U1 := ⟨_, rfl⟩
  have HP2 : Hid (PS w (w1.alloc (.cells #[.int .i64 prod, .int .i64 seq] 30)) t mb q L V U U1 ⟨base, cnt, view, prod, seq⟩) := by
    have hb := below_a w1 (.cells #[.int .i64 prod, .int .i64 seq] 30)
    refine ⟨HT1.out.1.below hb, by rw [hU]; exact HT1.out.2.1.trans (hb.mono (Nat.le_of_lt (lt_of_block HT1.out.2.2))), Nat.le_of_eq hU, (hb.block U (lt_of_block HT1.out.2.2)).trans HT1.out.2.2, by rw [← hU1]; exact heap_alloc_new _ _⟩
  go_upto_region 4 with fail
  try rw [hU1]
  generalize (w1.alloc (.cells #[.int .i64 prod, .int .i64 seq] 30)) = w2 at HP2
  have c2 := fun W hb => cellB (W' := W) hb HP2.out.ts.cells.2.2
  have c20 := c2 _ (below_d w2)
  have c21 := fun o => c2 _ (below_ad w2 o)
  have l20 := HLK.out _ (HP2.out.ts.below (below_d w2))
  have l21 := fun o => HLK.out _ (HP2.out.ts.below (below_ad w2 o))
  have z0 : w2.cell? ⟨U1, 0, none⟩ = some (.int .i64 prod) := by simp [World.cell?, HP2.out.idb]
  have z1 : w2.cell? ⟨U1, 1, none⟩ = some (.int .i64 seq) := by simp [World.cell?, HP2.out.idb]
  have z01 := fun o => cellB (below_ad w2 o) z0
  have z11 := fun o => cellB (below_ad w2 o) z1
  clear c2 hU1 x3 x4 HT1
  go_region
  have HP3 : Hid (PS w (w2.alloc (.cells #[.int .i64 0, .int .i64 0, .int .i64 0, .int .i64 0, .int .i64 0, .slice none 0 0] 33)).drew t mb q L V U U1 ⟨base, cnt, view, prod, seq⟩) := HP2.out.below (below_ad _ _)
  clear c20 c21 l20 l21 z0 z1 z01 z11
  go_upto_region 5 with fail
  generalize (w2.alloc (.cells #[.int .i64 0, .int .i64 0, .int .i64 0, .int .i64 0, .int .i64 0, .slice none 0 0] 33)).drew = w3 at HP3
  clear HP2
  obtain ⟨y0, -, -, -, -, -⟩ := cells6 HP3.out.blk
  go_region_with (go_at_call 22; refine (HEN.out _ (HP3.out.ts.below (below_d _))).mono ?_; rintro e w4 ⟨rfl, hb4⟩; have HP4 : Hid (PS w w4 t mb q L V U U1 ⟨base, cnt, view, prod, seq⟩) := HP3.out.below ⟨hb4.os, hb4.tape, hb4.output, hb4.size, hb4.block⟩; have y04 := (cells6 HP4.out.blk).1; clear hb4)
  all_goals
    have HP5 : Hid (PS w (w4.setCell ⟨U, 5, none⟩ (.slice none 0 0)) t mb q L V U U1 ⟨base, cnt, view, prod, seq⟩) := HP4.out.set5
    obtain ⟨-, -, -, -, -, y5⟩ := cells6 HP4.out.blk
    have hfr := frozen0 HP4.out.blk 5
    go_upto_region 8 with fail
    generalize (w4.setCell ⟨U, 5, none⟩ (.slice none 0 0)) = w5 at HP5
    clear HP4 HP3 y0 y04 y5 hfr
    obtain ⟨y0, y1, y2, y3, y4, y5⟩ := cells6 HP5.out.blk
    have z0 : w5.cell? ⟨U1, 0, none⟩ = some (.int .i64 prod) := by simp [World.cell?, HP5.out.idb]
    have z1 : w5.cell? ⟨U1, 1, none⟩ = some (.int .i64 seq) := by simp [World.cell?, HP5.out.idb]
    have c2 := HP5.out.ts.cells.2.2
    obtain ⟨w6, hrun, hm6, hg6⟩ := MO.put (W := w5.drew) (HP5.out.ts.below (below_d w5)).map ⟨base, cnt, view, prod, seq⟩ HH.out.2.1 HH.out.2.2.1 (Nat.le_of_lt HL.out)
    simp only [Bt.v, idV] at hrun
    have HM6 : Hid (MO w6 mb (L ++ [⟨base, cnt, view, prod, seq⟩]) ∧ w5.grownBy w6 (some mb)) := ⟨hm6, ⟨hg6.os, hg6.tape, hg6.output, hg6.size, hg6.block⟩⟩
    clear hm6 hg6
    go_region
    go_upto_region 9 with fail
    clear y0 y1 y2 y3 y4 y5 z0 z1 c2 hrun
    obtain ⟨oa, oc, wa, wc, hblk, hor, hwr⟩ := HP5.out.ts.rows
    have hta := HP5.out.ts.apart
    have htl := HP5.out.ts.lt
    have hblk6 : w6.heap[t]? = _ := (HM6.out.2.block t htl (by simpa using hta)).trans hblk
    obtain ⟨es, c, hmb⟩ := HP5.out.ts.map.blk
    have hovm : (Value.slice oa L.length oc).ownBlock ≠ some mb := rowNeM hor hmb
    have hovt : (Value.slice oa L.length oc).ownBlock ≠ some t := rowNe hor hblk (by decide)
    have hor6 : w6.ownsRow 0 30 2 (.slice oa L.length oc) L.length (ics L) := rowBlock hor fun g hg => HM6.out.2.block g (rowLt hor hg).1 (fun e => hovm (by rw [hg, e]))
    have hid6 : w6.heap[U1]? = _ := (HM6.out.2.block U1 (lt_of_block HP5.out.idb) (fun e => by
      have e' : U1 = mb := by simpa using e
      have := HP5.out.idb; rw [e', hmb] at this; cases this)).trans HP5.out.idb
    have d3 : w6.cell? ⟨t, 3, none⟩ = some (.slice oa L.length oc) := by simp [World.cell?, hblk6]
    have d31 := cellB (below_d w6) d3
    have d32 := fun o => cellB (below_ad w6 o) d3
    have z0 : w6.cell? ⟨U1, 0, none⟩ = some (.int .i64 prod) := by simp [World.cell?, hid6]
    have z1 : w6.cell? ⟨U1, 1, none⟩ = some (.int .i64 seq) := by simp [World.cell?, hid6]
    have z01 := fun o => cellB (below_ad w6 o) z0
    have z11 := fun o => cellB (below_ad w6 o) z1
    have HOW : Hid (∀ o, (w6.alloc o).drew.ownsRow 0 30 2 (.slice oa L.length oc) L.length (ics L)) := fun o => owns_below hor6 (below_ad w6 o)
    have HNW : Hid (∀ j u, [Value.int .i64 prod, Value.int .i64 seq][j]? = some u → (w6.alloc (.cells #[.int .i64 prod, .int .i64 seq] 30)).drew.cell? ((⟨w6.heap.size, 0, none⟩ : Addr).add j) = some u) := news2 w6 _ _ _
    have HX : Hid (w6.heap[t]? = some (.cells #[.pointer (some ⟨t, 0, none⟩), .int .i64 (q : Nat), .map (some mb), .slice oa L.length oc, .slice wa V.length wc] 55 (0, 0)) ∧ w5.heap[t]? = some (.cells #[.pointer (some ⟨t, 0, none⟩), .int .i64 (q : Nat), .map (some mb), .slice oa L.length oc, .slice wa V.length wc] 55 (0, 0)) ∧ (Value.slice oa L.length oc).ownBlock ≠ some t) := ⟨hblk6, hblk, hovt⟩
    clear hblk hor hwr hta htl hblk6 hmb hovm hovt hor6 hid6
    go_region_law
      (refine step_append_lies _ rfl _ _ 22 rfl 0 30 i0 (.agg #[.int .i64 0, .int .i64 0]) 2 16 Try.underlying22 HI.out.1 HI.out.2.1 HI.out.2.2.1 HI.out.2.2.2 rfl (by decide) (.slice oa L.length oc) L.length (ics L) rfl (HOW.out _) ⟨w6.heap.size, 0, none⟩ 1 1 [.int .i64 prod, .int .i64 seq] rfl rfl HNW.out (one2 _ _) (by decide) (by have := HL.out; unfold maxLen; omega) (by have := HL.out; omega) (Nat.zero_le _) _ rfl ?_; intro g7 cap7 w7 hown hgrow hat hgl; have hgr' : (w6.alloc (.cells #[.int .i64 prod, .int .i64 seq] 30)).grownBy w7 (Value.slice oa L.length oc).ownBlock := ⟨hgrow.os, hgrow.tape, hgrow.output, hgrow.size, hgrow.block⟩; have hb7 : w7.heap[t]? = some (.cells #[.pointer (some ⟨t, 0, none⟩), .int .i64 (q : Nat), .map (some mb), .slice oa L.length oc, .slice wa V.length wc] 55 (0, 0)) := (hgr'.block t (by have := lt_of_block HX.out.1; simp; omega) (fun e => HX.out.2.2 e.symm)).trans (((below_a w6 _).block t (lt_of_block HX.out.1)).trans HX.out.1); have e3 : w7.cell? ⟨t, 3, none⟩ = some (.slice oa L.length oc) := (by simp [World.cell?, hb7]); have f3 := frozen0 hb7 3; have HGR : Hid (w7.ownsRow 0 30 2 (.slice (some ⟨g7, 0, none⟩) (L.length + 1) cap7) (L.length + 1) (ics L ++ [.int .i64 prod, .int .i64 seq]) ∧ (w6.alloc (.cells #[.int .i64 prod, .int .i64 seq] 30)).grownBy w7 (Value.slice oa L.length oc).ownBlock ∧ ((Value.slice oa L.length oc).ownBlock = some g7 ∨ g7 = (w6.alloc (.cells #[.int .i64 prod, .int .i64 seq] 30)).heap.size)) := ⟨hown, hgr', hat⟩; clear hown hgrow hat hgl hgr' hb7)
    all_goals
      have hfin := TS.put (o := .cells #[.int .i64 prod, .int .i64 seq] 30) HP5.out.ts HH.out.2.1 HH.out.2.2.1 HH.out.2.2.2.1 HL.out HM6.out.1 HM6.out.2 HX.out.2.1 HGR.out.1 HGR.out.2.1 HGR.out.2.2
      have HFN : Hid (TS _ t mb q (L ++ [⟨base, cnt, view, prod, seq⟩]) V ∧ TFr t mb w _) := ⟨hfin.1, (TFr.below HP5.out.bel (by have := HH.out.1.lt; exact this)).trans hfin.2⟩
      clear hfin HGR HX HOW HNW z0 z1 z01 z11 d3 d31 d32 e3 f3
      go_wp2
      go_ret
      exact ⟨rfl, HFN.out.1, HFN.out.2⟩
end Go.Proofs.Ytpjjenhimnkdcaa
