/- Layer 5: a packer writes tokens. -/
/- Layer 5: a packer stores bytes. -/
/- Layer 5: blocks that were written are read, one behind the other. -/
import Derived.Test.YtlbadjfcffoakaaDoorV30
import Derived.Test.YtlbadjfcffoakaaDoorV08
import Derived.Test.YtlbadjfcffoakaaDoorV28
import Derived.Deep.RegionWith
import Derived.Test.YtlbadjfcffoakaaDoorV29
namespace Go.Proofs.YtlbadjfcffoakaaDoor
open Go.RowKit
set_option linter.unusedVariables false
set_option maxRecDepth 20000

def TokR (w : World) (ao : Option Addr) (T : List (Nat × Nat × Nat)) : Prop := T = [] ∨ ∃ g off cur m, ao = some ⟨g, off, none⟩ ∧ w.heap[g]? = some (.cells cur 61 m) ∧ ∀ i t, T[i]? = some t → ∀ j, j < 3 → cur[off + i * 3 + j]? = (D5.tc t)[j]?
theorem TokR.kept {w w' : World} {b : Nat} {L : List Nat} {ao : Option Addr} {T : List (Nat × Nat × Nat)} (h : TokR w ao T) (hf : PF b w w') (hw : PW w b L) : TokR w' ao T := by
  rcases h with h | ⟨g, off, cur, m, h1, h2, h3⟩
  · exact .inl h
  · exact .inr ⟨g, off, cur, m, h1, hf.kept hw h2 (by decide) (by decide), h3⟩
theorem TokR.below {w w' : World} {ao : Option Addr} {T : List (Nat × Nat × Nat)} (h : TokR w ao T) (hb : Below w.heap.size w w') : TokR w' ao T := by
  rcases h with h | ⟨g, off, cur, m, h1, h2, h3⟩
  · exact .inl h
  · exact .inr ⟨g, off, cur, m, h1, (hb.block g (lt_of_block h2)).trans h2, h3⟩
theorem TokR.at {w : World} {ao : Option Addr} {T : List (Nat × Nat × Nat)} (h : TokR w ao T) {i : Nat} {t : Nat × Nat × Nat} (ht : T[i]? = some t) : ∃ g off, ao = some ⟨g, off, none⟩ ∧ w.cell? ⟨g, off + i * 3, none⟩ = some (.int .u8 (t.1 : Nat)) ∧ w.cell? ⟨g, off + i * 3 + 1, none⟩ = some (.int .u16 (t.2.1 : Nat)) ∧ w.cell? ⟨g, off + i * 3 + 2, none⟩ = some (.int .u16 (t.2.2 : Nat)) := by
  rcases h with h | ⟨g, off, cur, m, h1, h2, h3⟩
  · subst h; simp at ht
  · refine ⟨g, off, h1, ?_, ?_, ?_⟩
    · have := h3 i t ht 0 (by omega); simp [World.cell?, h2]; simpa [D5.tc] using this
    · have := h3 i t ht 1 (by omega); simp [World.cell?, h2]; simpa [D5.tc] using this
    · have := h3 i t ht 2 (by omega); simp [World.cell?, h2]; simpa [D5.tc] using this
def Fine (t : Nat × Nat × Nat) : Prop := (t.2.2 = 0 ∧ t.1 < 256) ∨ (3 ≤ t.2.1 ∧ t.2.1 ≤ 258 ∧ 1 ≤ t.2.2 ∧ t.2.2 ≤ 32768)
theorem Tells.fine {s : ByteArray} : ∀ {T : List (Nat × Nat × Nat)} {k k' : Nat}, Tells s k T k' → ∀ t ∈ T, Fine t
  | [], k, k', h => fun t ht => by simp at ht
  | x :: T, k, k', h => fun t ht => by
    rcases h with ⟨e, h1, h2⟩ | ⟨n, d, e, h1, h2⟩
    · rcases List.mem_cons.1 ht with rfl | ht
      · rw [e]; exact .inl ⟨rfl, D5.bt_lt _ _⟩
      · exact h2.fine t ht
    · rcases List.mem_cons.1 ht with rfl | ht
      · rw [e]; exact .inr ⟨h1.long, h1.most, h1.back, h1.far⟩
      · exact h2.fine t ht
theorem tokB_length {c d : List Nat} {t : Nat × Nat × Nat} (hf : Fine t) (hh : Has c d t) : (tokB c d t).length ≤ 48 := by
  unfold tokB
  unfold Has at hh
  by_cases h : t.2.2 = 0
  · rw [if_pos h] at hh ⊢
    rw [symB_length]; have := hh.2.2.1; omega
  · rw [if_neg h] at hh ⊢
    rcases hf with hf | hf
    · exact absurd hf.1 h
    · have h1 := (lenK_ok hf.1 hf.2.1).small
      have h2 := (distK_ok hf.2.2.1 hf.2.2.2).small
      have h3 := hh.1.2.2.1
      have h4 := hh.2.2.2.1
      simp only [List.length_append, symB_length, bitsOf_length]
      omega
theorem tokBits_length {c d : List Nat} : ∀ {T : List (Nat × Nat × Nat)}, (∀ t ∈ T, Fine t) → (∀ t ∈ T, Has c d t) → (tokBits c d T).length ≤ 48 * T.length
  | [], _, _ => by simp [tokBits]
  | t :: T, h1, h2 => by
    have a := tokB_length (h1 t (List.mem_cons_self ..)) (h2 t (List.mem_cons_self ..))
    have b := tokBits_length (c := c) (d := d) (T := T) (fun x hx => h1 x (List.mem_cons_of_mem _ hx)) (fun x hx => h2 x (List.mem_cons_of_mem _ hx))
    simp only [tokBits, List.length_append, List.length_cons]
    omega
structure TkS (w0 : World) (b U : Nat) (c d : List Nat) (lo hi t1 t2 : Nat) (R1 R2 : Nat → Value) (ao : Option Addr) (T : List (Nat × Nat × Nat)) (hi1 : Nat) (O : List Nat) (w : World) : Prop where
  pw : PW w b O
  pf : PF b w0 w
  box : w.heap[U]? = some (.cells #[.pointer (some ⟨b, 0, none⟩)] 51 (0, 0))
  tab1 : TabT w lo hi1 t1 c R1
  tab2 : TabT w hi1 hi t2 d R2
  tok : TokR w ao T
  hle : hi ≤ w.heap.size
  hle1 : hi1 ≤ hi
theorem TkS.step {w0 : World} {b U : Nat} {c d : List Nat} {lo hi t1 t2 : Nat} {R1 R2 : Nat → Value} {ao : Option Addr} {T : List (Nat × Nat × Nat)} {hi1 : Nat} {O O' : List Nat} {w w' : World} (h : TkS w0 b U c d lo hi t1 t2 R1 R2 ao T hi1 O w) (hw : PW w' b O') (hf : PF b w w') : TkS w0 b U c d lo hi t1 t2 R1 R2 ao T hi1 O' w' :=
  ⟨hw, h.pf.trans hf, hf.kept h.pw h.box (by decide) (by decide), h.tab1.kept hf h.pw, h.tab2.kept hf h.pw, h.tok.kept hf h.pw, Nat.le_trans h.hle hf.size, h.hle1⟩
theorem TkS.quiet {w0 : World} {b U : Nat} {c d : List Nat} {lo hi t1 t2 : Nat} {R1 R2 : Nat → Value} {ao : Option Addr} {T : List (Nat × Nat × Nat)} {hi1 : Nat} {O : List Nat} {w w' : World} (h : TkS w0 b U c d lo hi t1 t2 R1 R2 ao T hi1 O w) (hb : Below w.heap.size w w') : TkS w0 b U c d lo hi t1 t2 R1 R2 ao T hi1 O w' := h.step (WS.below h.pw hb) (PF.below hb)
theorem tks_box {w0 : World} {b U : Nat} {c d : List Nat} {lo hi t1 t2 : Nat} {R1 R2 : Nat → Value} {ao : Option Addr} {T : List (Nat × Nat × Nat)} {hi1 : Nat} {O : List Nat} {w : World} (h : TkS w0 b U c d lo hi t1 t2 R1 R2 ao T hi1 O w) : w.cell? ⟨U, 0, none⟩ = some (.pointer (some ⟨b, 0, none⟩)) := by
  have := h.box; simp [World.cell?, this]
theorem tks_any {w0 : World} {b U : Nat} {c d : List Nat} {lo hi t1 t2 : Nat} {R1 R2 : Nat → Value} {ao : Option Addr} {T : List (Nat × Nat × Nat)} {hi1 : Nat} {O : List Nat} {w : World} (h : TkS w0 b U c d lo hi t1 t2 R1 R2 ao T hi1 O w) (w' : World) (h1 : w'.os = w.os) (h2 : w'.tape = w.tape) (h3 : w'.output = w.output) (h4 : w'.heap = w.heap) : TkS w0 b U c d lo hi t1 t2 R1 R2 ao T hi1 O w' :=
  h.quiet ⟨h1, h2, h3, by rw [h4]; exact Nat.le_refl _, fun k _ => by rw [h4]⟩
theorem tks_cells1 {w0 : World} {b U : Nat} {c d : List Nat} {lo hi t1 t2 : Nat} {R1 R2 : Nat → Value} {ao : Option Addr} {T : List (Nat × Nat × Nat)} {hi1 : Nat} {O : List Nat} {w : World} {X x n dd : Nat} (h : TkS w0 b U c d lo hi t1 t2 R1 R2 ao T hi1 O w) (ht : D5.TokB w X x n dd) : w.cell? ⟨U, 0, none⟩ = some (.pointer (some ⟨b, 0, none⟩)) ∧ w.cell? ⟨X, 1, none⟩ = some (.int .u16 (n : Nat)) := ⟨tks_box h, ht.cells.1.2.1⟩
theorem tks_cells2 {w0 : World} {b U : Nat} {c d : List Nat} {lo hi t1 t2 : Nat} {R1 R2 : Nat → Value} {ao : Option Addr} {T : List (Nat × Nat × Nat)} {hi1 : Nat} {O : List Nat} {w : World} {X x n dd : Nat} (h : TkS w0 b U c d lo hi t1 t2 R1 R2 ao T hi1 O w) (ht : D5.TokB w X x n dd) : w.cell? ⟨U, 0, none⟩ = some (.pointer (some ⟨b, 0, none⟩)) ∧ w.cell? ⟨X, 2, none⟩ = some (.int .u16 (dd : Nat)) := ⟨tks_box h, ht.cells.1.2.2⟩
set_option maxHeartbeats 1000000 in
theorem ptokens (b : Nat) (L : List Nat) (c d : List Nat) (T : List (Nat × Nat × Nat)) (ao a1 a2 : Option Addr) (cp c1 c2 : Nat) (w : World) (hT : TokR w ao T) (hTl : T.length ≤ 1048576) (h1 : IRow w a1 (inN c)) (h2 : IRow w a2 (inN d)) (hc : isCode0 (inN c)) (hd : isCode0 (inN d)) (hcl : c.length ≤ 288) (hdl : d.length ≤ 288) (hend : Cod c 256) (hfin : ∀ t ∈ T, Fine t) (hhas : ∀ t ∈ T, Has c d t) (hL : L.length ≤ 1099511627776) (hw : PW w b L) :
    Calls Tryd.prog 39 #[pkV b, .slice ao T.length cp, .agg #[.slice a1 c.length c1, .slice a2 d.length c2]] w fun e w' => e = .returned (.tuple #[]) ∧ PW w' b (L ++ (tokBits c d T ++ symB c 256)) ∧ PF b w w' := by
  obtain ⟨N, hN⟩ : ∃ N, T.length = N := ⟨_, rfl⟩
  obtain ⟨n1, hn1⟩ : ∃ N, c.length = N := ⟨_, rfl⟩
  obtain ⟨n2, hn2⟩ : ∃ N, d.length = N := ⟨_, rfl⟩
  obtain ⟨W, hW⟩ : ∃ W, (w.alloc (.cells #[.pointer (some ⟨b, 0, none⟩)] 51)).alloc (.cells #[.slice a1 n1 c1, .slice a2 n2 c2] 81) = W := ⟨_, rfl⟩
  have hbel : Below w.heap.size w W := by rw [← hW]; exact ((Below.refl _ _).alloc (Nat.le_refl _) _).alloc (by simp) _
  obtain ⟨U, hU⟩ : ∃ U, w.heap.size = U := ⟨_, rfl⟩
  have hb0 : W.heap[U]? = some (.cells #[.pointer (some ⟨b, 0, none⟩)] 51 (0, 0)) := by rw [← hW, heap_alloc_old _ _ (by simp; omega), ← hU]; exact heap_alloc_new _ _
  have hb1 : W.heap[U + 1]? = some (.cells #[.slice a1 n1 c1, .slice a2 n2 c2] 81 (0, 0)) := by
    rw [← hW]
    have := heap_alloc_new (w.alloc (.cells #[.pointer (some ⟨b, 0, none⟩)] 51)) (.cells #[.slice a1 n1 c1, .slice a2 n2 c2] 81)
    rw [show (w.alloc (.cells #[.pointer (some ⟨b, 0, none⟩)] 51)).heap.size = U + 1 by simp; omega] at this
    exact this
  have HT1 : Hid (∀ _ : Unit, Calls Tryd.prog 56 #[.slice a1 n1 c1] W fun e w' => TabEndT W (inN c) e w') := fun _ => newTableT_ok (inN c) a1 c1 n1 W (by rw [inN_length]; exact hn1) (h1.below (by exact hbel)) (by omega)
  have HT2 : Hid (∀ W', Below W.heap.size W W' → Calls Tryd.prog 56 #[.slice a2 n2 c2] W' fun e w' => TabEndT W' (inN d) e w') := fun W' hb => newTableT_ok (inN d) a2 c2 n2 W' (by rw [inN_length]; exact hn2) ((h2.below (by exact hbel)).below hb) (by omega)
  have H1 : Hid (W.heap[U]? = some (.cells #[.pointer (some ⟨b, 0, none⟩)] 51 (0, 0)) ∧ W.heap[U + 1]? = some (.cells #[.slice a1 n1 c1, .slice a2 n2 c2] 81 (0, 0)) ∧ PW W b L ∧ PF b w W ∧ TokR W ao T) := ⟨hb0, hb1, WS.below hw hbel, PF.below hbel, hT.below hbel⟩
  have z1 : W.cell? ⟨U + 1, 0, none⟩ = some (.slice a1 n1 c1) := by simp [World.cell?, hb1]
  unfold pkV
  rw [hN, hn1, hn2]
  have HALL : Hid ((∀ t ∈ T, Fine t) ∧ (∀ t ∈ T, Has c d t) ∧ L.length ≤ 1099511627776 ∧ T.length ≤ 1048576 ∧ c.length ≤ 288 ∧ d.length ≤ 288 ∧ Cod c 256 ∧ T.length = N) := ⟨hfin, hhas, hL, hTl, hcl, hdl, hend, hN⟩
  have hNb : N ≤ 1048576 := by omega
  clear hb0 hb1 hbel hw hT h1 h2 hfin hhas hL hTl hcl hdl hend hN hn1 hn2
  go_enter Tryd.func39, Tryd.ntmps39
  go_wp2_with fail
  refine (HT1.out ()).mono ?_
  rintro e w1 ⟨h1, hb1⟩
  obtain ⟨_, t1, R1, rfl, ht1⟩ := h1.resolve_right (fun h => h.1 hc)
  rw [nsOf_inN] at ht1
  have H2 : Hid (w1.heap[U]? = some (.cells #[.pointer (some ⟨b, 0, none⟩)] 51 (0, 0)) ∧ PW w1 b L ∧ PF b w w1 ∧ TokR w1 ao T ∧ TabT w1 W.heap.size w1.heap.size t1 c R1 ∧ Below W.heap.size W w1) :=
    ⟨(hb1.block _ (lt_of_block H1.out.1)).trans H1.out.1, WS.below H1.out.2.2.1 hb1, H1.out.2.2.2.1.trans (PF.below hb1), H1.out.2.2.2.2.below hb1, ht1, hb1⟩
  have y1 : w1.cell? ⟨U + 1, 1, none⟩ = some (.slice a2 n2 c2) := by
    have := (hb1.block _ (lt_of_block H1.out.2.1)).trans H1.out.2.1
    simp [World.cell?, this]
  clear h1 hb1 ht1 z1 HT1
  go_wp2_with fail
  refine (HT2.out w1 H2.out.2.2.2.2.2).mono ?_
  rintro e w2 ⟨h1, hb2⟩
  obtain ⟨_, t2, R2, rfl, ht2⟩ := h1.resolve_right (fun h => h.1 hd)
  rw [nsOf_inN] at ht2
  have H3 : Hid (TkS w b U c d W.heap.size w2.heap.size t1 t2 R1 R2 ao T w1.heap.size L w2) :=
    ⟨WS.below H2.out.2.1 hb2, H2.out.2.2.1.trans (PF.below hb2), (hb2.block _ (lt_of_block H2.out.1)).trans H2.out.1, H2.out.2.2.2.2.1.below (Nat.le_refl _) hb2, ht2, H2.out.2.2.2.1.below hb2, Nat.le_refl _, hb2.size⟩
  obtain ⟨lo, hlo⟩ : ∃ lo, W.heap.size = lo := ⟨_, rfl⟩
  obtain ⟨hi, hhi⟩ : ∃ hi, w2.heap.size = hi := ⟨_, rfl⟩
  obtain ⟨hi1, hhi1⟩ : ∃ hi1, w1.heap.size = hi1 := ⟨_, rfl⟩
  rw [hlo, hhi, hhi1] at H3
  clear h1 hb2 ht2 y1 HT2 H1 H2 hlo hhi hhi1
  go_upto_block 0 with fail
  go_cut [] (fun wc => Hid (TkS w b U c d lo hi t1 t2 R1 R2 ao T hi1 (L ++ tokBits c d T) wc))
  case first =>
    as_aux_lemma =>
      go_wp2_with fail
      go_loopw [26] (fun v26 wr => ∃ i : Nat, v26 = .int .i64 (i : Nat) ∧ i ≤ N ∧ Hid (TkS w b U c d lo hi t1 t2 R1 R2 ao T hi1 (L ++ tokBits c d (T.take i)) wr)) (fun v26 _ => N - (intOf v26).toNat)
      case atStart => exact ⟨0, rfl, Nat.zero_le _, by rw [List.take_zero]; show TkS _ _ _ _ _ _ _ _ _ _ _ _ _ _ (L ++ []) _; rw [List.append_nil]; exact H3.out⟩
      case round =>
        obtain ⟨i, rfl, hi', HS⟩ := hrel
        by_cases hlt : i < N
        · have hlti : (i : Int) < (N : Int) := by omega
          obtain ⟨hfin, hhas, hL, hTl, hcl, hdl, hend, hN⟩ := HALL.out
          have hiT : i < T.length := by omega
          obtain ⟨t, ht⟩ : ∃ t, T[i]? = some t := ⟨T[i], List.getElem?_eq_getElem hiT⟩
          have hmem : t ∈ T := List.mem_of_getElem? ht
          have hft := hfin t hmem
          have hht := hhas t hmem
          have htake : T.take (i + 1) = T.take i ++ [t] := by rw [List.take_add_one, ht]; rfl
          have HTK : Hid (tokBits c d (T.take (i + 1)) = tokBits c d (T.take i) ++ tokB c d t) := by show _ = _; rw [htake, tokBits_snoc]
          obtain ⟨O, hO⟩ : ∃ O, L ++ tokBits c d (T.take i) = O := ⟨_, rfl⟩
          have hOb : O.length ≤ 1099611627776 := by
            rw [← hO, List.length_append]
            have := tokBits_length (c := c) (d := d) (T := T.take i) (fun x hx => hfin x (List.mem_of_mem_take hx)) (fun x hx => hhas x (List.mem_of_mem_take hx))
            have : (T.take i).length ≤ 1048576 := by rw [List.length_take]; omega
            omega
          have HO : Hid (∀ B, L ++ (tokBits c d (T.take i) ++ B) = O ++ B) := fun B => by rw [← List.append_assoc, hO]
          rw [hO] at HS
          obtain ⟨g, off, hao, y0, y1, y2⟩ := HS.out.tok.at ht
          obtain ⟨x, n, dd⟩ := t
          simp only at y0 y1 y2 hft hht HTK
          have HFT : Hid (Fine (x, n, dd) ∧ Has c d (x, n, dd)) := ⟨hft, hht⟩
          subst hao
          have HQ : Hid (TkS w b U c d lo hi t1 t2 R1 R2 (some ⟨g, off, none⟩) T hi1 O (wr.alloc (.cells #[.int .u8 (x : Nat), .int .u16 (n : Nat), .int .u16 (dd : Nat)] 61)) ∧ D5.TokB (wr.alloc (.cells #[.int .u8 (x : Nat), .int .u16 (n : Nat), .int .u16 (dd : Nat)] 61)) wr.heap.size x n dd) :=
            ⟨HS.out.quiet ((Below.refl _ _).alloc (Nat.le_refl _) _), heap_alloc_new _ _⟩
          have HOB : Hid (O.length ≤ 1099611627776) := hOb
          clear hiT hmem htake hO hft hht ht hfin hhas hL hTl hcl hdl hend hN hOb
          go_upto_region 6 with fail
          obtain ⟨wt, hwt⟩ : ∃ wt, wr.alloc (.cells #[.int .u8 (x : Nat), .int .u16 (n : Nat), .int .u16 (dd : Nat)] 61) = wt := ⟨_, rfl⟩
          obtain ⟨X, hX⟩ : ∃ X, wr.heap.size = X := ⟨_, rfl⟩
          rw [hwt, hX] at HQ ⊢
          obtain ⟨⟨x0, x1, x2⟩, _, _, _⟩ := HQ.out.2.cells
          have zb : wt.cell? ⟨U, 0, none⟩ = some (.pointer (some ⟨b, 0, none⟩)) := by have := HQ.out.1.box; simp [World.cell?, this]
          clear hwt hX y0 y1 y2
          by_cases hdd : dd = 0
          · have hddb : ((dd : Int) == 0) = true := by simp [hdd]
            have hx256 : x < 256 := by
              rcases HFT.out.1 with h | h
              · exact h.2
              · exact absurd hdd (by have := h.2.2.1; simp only at this; omega)
            have HC : Hid (Cod c x) := by
              have := HFT.out.2
              unfold Has at this
              rw [if_pos hdd] at this
              exact this
            have hxw := D5.wrapN64 x (by omega)
            have HP : Hid (∀ _ : Unit, Calls Tryd.prog 57 #[.pointer (some ⟨t1, 0, none⟩), .pointer (some ⟨b, 0, none⟩), .int .i64 (x : Nat)] wt fun e w' => (∃ u, e = .returned u) ∧ PW w' b (O ++ symB c x) ∧ PF b wt w') := fun _ => pput b lo hi1 t1 c R1 O x wt HQ.out.1.tab1 HALL.out.2.2.2.2.1 HC.out (by have := HOB.out; omega) HQ.out.1.pw
            have HE : Hid (tokB c d (x, n, dd) = symB c x) := by show _ = _; unfold tokB; rw [if_pos hdd]
            clear hdd
            go_wp2_with fail
            refine (HP.out ()).mono ?_
            rintro e w4 ⟨⟨u, rfl⟩, hw4, hf4⟩
            have HZ : Hid (TkS w b U c d lo hi t1 t2 R1 R2 (some ⟨g, off, none⟩) T hi1 (L ++ tokBits c d (T.take (i + 1))) w4) := by
              have := HQ.out.1.step hw4 hf4
              rw [HTK.out, HE.out, HO.out]
              exact this
            clear hw4 hf4 HP x0 x1 x2 zb
            go_wp2
            exact ⟨⟨i + 1, by go_num, by omega, HZ⟩, by simp [intOf]; omega⟩
          · have hddb : ((dd : Int) == 0) = false := by simp; omega
            have hfn : 3 ≤ n ∧ n ≤ 258 ∧ 1 ≤ dd ∧ dd ≤ 32768 := by
              rcases HFT.out.1 with h | h
              · exact absurd h.1 hdd
              · exact h
            have HC : Hid (Cod c (lenK n).1 ∧ Cod d (distK dd).1) := by
              have := HFT.out.2
              unfold Has at this
              rw [if_neg hdd] at this
              exact this
            have HNV : Hid (Value.int .i64 (IntKind.i64.wrap (n : Int)) = .int .i64 (n : Nat) ∧ Value.int .i64 (IntKind.i64.wrap (dd : Int)) = .int .i64 (dd : Nat)) := ⟨by rw [D5.wrapN n (by omega)], by rw [D5.wrapN dd (by omega)]⟩
            have hL1 := (lenK_ok hfn.1 hfn.2.1).small
            have hD1 := (distK_ok hfn.2.2.1 hfn.2.2.2).small
            have HLP : Hid (∀ W' v, v = Value.int .i64 (n : Nat) → Calls Tryd.prog 59 #[v] W' fun e w' => e = .returned (D5.pieceV (lenK n)) ∧ Below W'.heap.size W' w') := fun W' v hv => by rw [hv]; exact D5.lengthPiece_ok n hfn.1 hfn.2.1 W'
            have HDP : Hid (∀ W' v, v = Value.int .i64 (dd : Nat) → Calls Tryd.prog 60 #[v] W' fun e w' => e = .returned (D5.pieceV (distK dd)) ∧ Below W'.heap.size W' w') := fun W' v hv => by rw [hv]; exact D5.distancePiece_ok dd hfn.2.2.1 hfn.2.2.2 W'
            have HE : Hid (tokB c d (x, n, dd) = (symB c (lenK n).1 ++ bitsOf (lenK n).2.1 (lenK n).2.2) ++ (symB d (distK dd).1 ++ bitsOf (distK dd).2.1 (distK dd).2.2)) := by show _ = _; unfold tokB; rw [if_neg hdd, List.append_assoc]
            have HPP : Hid (∀ W', TkS w b U c d lo hi t1 t2 R1 R2 (some ⟨g, off, none⟩) T hi1 O W' → Calls Tryd.prog 58 #[.agg #[.pointer (some ⟨b, 0, none⟩)], .pointer (some ⟨t1, 0, none⟩), D5.pieceV (lenK n)] W' fun e w' => e = .returned (.tuple #[]) ∧ PW w' b (O ++ (symB c (lenK n).1 ++ bitsOf (lenK n).2.1 (lenK n).2.2)) ∧ PF b W' w') := fun W' h => ppiece b lo hi1 t1 c R1 O (lenK n) W' h.tab1 (Nat.le_trans h.hle1 h.hle) HALL.out.2.2.2.2.1 HC.out.1 hL1.2.2.1 (by omega) (by have := HOB.out; omega) h.pw
            have HPQ : Hid (∀ W' O', O'.length ≤ O.length + 100 → TkS w b U c d lo hi t1 t2 R1 R2 (some ⟨g, off, none⟩) T hi1 O' W' → Calls Tryd.prog 58 #[.agg #[.pointer (some ⟨b, 0, none⟩)], .pointer (some ⟨t2, 0, none⟩), D5.pieceV (distK dd)] W' fun e w' => e = .returned (.tuple #[]) ∧ PW w' b (O' ++ (symB d (distK dd).1 ++ bitsOf (distK dd).2.1 (distK dd).2.2)) ∧ PF b W' w') := fun W' O' hl h => ppiece b hi1 hi t2 d R2 O' (distK dd) W' h.tab2 h.hle HALL.out.2.2.2.2.2.1 HC.out.2 hD1.2.1 (by omega) (by have := HOB.out; omega) h.pw
            have HLen : Hid ((symB c (lenK n).1 ++ bitsOf (lenK n).2.1 (lenK n).2.2).length ≤ 100) := by
              show _ ≤ _
              rw [List.length_append, symB_length, bitsOf_length]
              have := HC.out.1.2.2.1
              omega
            obtain ⟨p1, hp1⟩ : ∃ p, lenK n = p := ⟨_, rfl⟩
            obtain ⟨p2, hp2⟩ : ∃ p, distK dd = p := ⟨_, rfl⟩
            rw [hp1] at HLP HPP HLen HE
            rw [hp2] at HDP HPQ HE
            obtain ⟨q1, hq1⟩ : ∃ q, D5.pieceV p1 = q := ⟨_, rfl⟩
            obtain ⟨q2, hq2⟩ : ∃ q, D5.pieceV p2 = q := ⟨_, rfl⟩
            rw [hq1] at HLP HPP
            rw [hq2] at HDP HPQ
            clear hdd hp1 hp2 hq1 hq2 hL1 hD1 hfn HC
            go_upto_region 8 with fail
            go_cut [] (fun wc => Hid (TkS w b U c d lo hi t1 t2 R1 R2 (some ⟨g, off, none⟩) T hi1 (O ++ (symB c p1.1 ++ bitsOf p1.2.1 p1.2.2)) wc ∧ D5.TokB wc X x n dd))
            case first =>
              clear HPQ HDP HE HTK HO HS H3 HFT HLen
              have HS0 : Hid (wt.drew.cell? ⟨U, 0, none⟩ = some (.pointer (some ⟨b, 0, none⟩)) ∧ wt.drew.cell? ⟨X, 1, none⟩ = some (.int .u16 (n : Nat))) := by have h0 := tks_cells1 HQ.out.1 HQ.out.2; exact h0
              go_region_held_law (fun w' => w'.cell? ⟨U, 0, none⟩ = some (.pointer (some ⟨b, 0, none⟩)) ∧ w'.cell? ⟨X, 1, none⟩ = some (.int .u16 (n : Nat)))
                (first | assumption | exact HS0.out | go_keep)
                (first | (go_at_call 59; refine (HLP.out _ _ (by first | exact HNV.out.1 | rfl)).mono ?_; rintro e w3 ⟨he3, hb3⟩; subst he3; have hb3' : Below wt.heap.size wt w3 := ⟨hb3.os, hb3.tape, hb3.output, hb3.size, hb3.block⟩; have HM3 : Hid (TkS w b U c d lo hi t1 t2 R1 R2 (some ⟨g, off, none⟩) T hi1 O w3 ∧ D5.TokB w3 X x n dd) := ⟨HQ.out.1.quiet hb3', (hb3'.block X (lt_of_block HQ.out.2)).trans HQ.out.2⟩; have KS := tks_cells1 HM3.out.1 HM3.out.2; clear hb3 hb3') | (go_at_call 58; refine (HPP.out _ (tks_any HM3.out.1 _ rfl rfl rfl rfl)).mono ?_; rintro e w5 ⟨he5, hw5, hf5⟩; subst he5; have hf5' : PF b w3 w5 := ⟨hf5.os, hf5.tape, hf5.output, hf5.size, hf5.block⟩; have H5 : Hid (TkS w b U c d lo hi t1 t2 R1 R2 (some ⟨g, off, none⟩) T hi1 (O ++ (symB c p1.1 ++ bitsOf p1.2.1 p1.2.2)) w5 ∧ D5.TokB w5 X x n dd) := ⟨HM3.out.1.step hw5 hf5', hf5'.kept HM3.out.1.pw HM3.out.2 (by decide) (by decide)⟩; have KS2 := tks_cells1 H5.out.1 H5.out.2; clear hw5 hf5 hf5'))
              clear HS0 KS KS2 HM3 HLP HPP x0 x1 x2 zb
              go_wp2_with fail
              go_meet
              case rel => exact H5.out
            case rest =>
              obtain ⟨w5, hw5⟩ : ∃ w5, w5 = wc := ⟨_, rfl⟩
              rw [← hw5] at hcut ⊢
              have H5 : Hid (TkS w b U c d lo hi t1 t2 R1 R2 (some ⟨g, off, none⟩) T hi1 (O ++ (symB c p1.1 ++ bitsOf p1.2.1 p1.2.2)) w5 ∧ D5.TokB w5 X x n dd) := hcut.out
              clear hcut hw5 x0 x1 x2 zb HQ HLP HPP
              obtain ⟨O1, hO1⟩ : ∃ O1, O ++ (symB c p1.1 ++ bitsOf p1.2.1 p1.2.2) = O1 := ⟨_, rfl⟩
              rw [hO1] at H5
              have HO1 : Hid (O ++ (symB c p1.1 ++ bitsOf p1.2.1 p1.2.2) = O1 ∧ O1.length ≤ O.length + 100) := ⟨hO1, by rw [← hO1, List.length_append]; have := HLen.out; omega⟩
              clear hO1
              obtain ⟨⟨x0, x1, x2⟩, _, _, _⟩ := H5.out.2.cells
              have zb := tks_box H5.out.1
              go_upto_region 9 with fail
              have HS0 : Hid (w5.drew.cell? ⟨U, 0, none⟩ = some (.pointer (some ⟨b, 0, none⟩)) ∧ w5.drew.cell? ⟨X, 2, none⟩ = some (.int .u16 (dd : Nat))) := by have h0 := tks_cells2 H5.out.1 H5.out.2; exact h0
              go_region_held_law (fun w' => w'.cell? ⟨U, 0, none⟩ = some (.pointer (some ⟨b, 0, none⟩)) ∧ w'.cell? ⟨X, 2, none⟩ = some (.int .u16 (dd : Nat)))
                (first | assumption | exact HS0.out | go_keep)
                (first | (go_at_call 60; refine (HDP.out _ _ (by first | exact HNV.out.2 | rfl)).mono ?_; rintro e w6 ⟨he3, hb3⟩; subst he3; have hb3' : Below w5.heap.size w5 w6 := ⟨hb3.os, hb3.tape, hb3.output, hb3.size, hb3.block⟩; have HM6 : Hid (TkS w b U c d lo hi t1 t2 R1 R2 (some ⟨g, off, none⟩) T hi1 O1 w6 ∧ D5.TokB w6 X x n dd) := ⟨H5.out.1.quiet hb3', (hb3'.block X (lt_of_block H5.out.2)).trans H5.out.2⟩; have KS := tks_cells2 HM6.out.1 HM6.out.2; clear hb3 hb3') | (go_at_call 58; refine (HPQ.out _ O1 HO1.out.2 (tks_any HM6.out.1 _ rfl rfl rfl rfl)).mono ?_; rintro e w7 ⟨he5, hw5, hf5⟩; subst he5; have hf5' : PF b w6 w7 := ⟨hf5.os, hf5.tape, hf5.output, hf5.size, hf5.block⟩; have H7 : Hid (TkS w b U c d lo hi t1 t2 R1 R2 (some ⟨g, off, none⟩) T hi1 (O1 ++ (symB d p2.1 ++ bitsOf p2.2.1 p2.2.2)) w7 ∧ D5.TokB w7 X x n dd) := ⟨HM6.out.1.step hw5 hf5', hf5'.kept HM6.out.1.pw HM6.out.2 (by decide) (by decide)⟩; have KS2 := tks_cells2 H7.out.1 H7.out.2; clear hw5 hf5 hf5'))
              clear x0 x1 x2 zb H5 HM6 HDP HPQ KS KS2 HS0
              have HZ : Hid (TkS w b U c d lo hi t1 t2 R1 R2 (some ⟨g, off, none⟩) T hi1 (L ++ tokBits c d (T.take (i + 1))) w7) := by
                have := H7.out.1
                rw [HTK.out, HE.out, HO.out, ← List.append_assoc, HO1.out.1]
                exact this
              go_wp2
              exact ⟨⟨i + 1, by go_num, by omega, HZ⟩, by simp [intOf]; omega⟩
        · obtain rfl : i = N := by omega
          have hlti : ¬ (i : Int) < (i : Int) := by omega
          have HE : Hid (TkS w b U c d lo hi t1 t2 R1 R2 ao T hi1 (L ++ tokBits c d T) wr) := by
            have := HS.out
            rw [← HALL.out.2.2.2.2.2.2.2, List.take_length] at this
            exact this
          go_wp2_with fail
          go_meet
          case rel => exact HE.out
  case rest =>
    have HS : Hid (TkS w b U c d lo hi t1 t2 R1 R2 ao T hi1 (L ++ tokBits c d T) wc) := hcut.out
    have zb : wc.cell? ⟨U, 0, none⟩ = some (.pointer (some ⟨b, 0, none⟩)) := by have := HS.out.box; simp [World.cell?, this]
    obtain ⟨hfin, hhas, hL, hTl, hcl, hdl, hend, hN⟩ := HALL.out
    have hlen := tokBits_length (c := c) (d := d) hfin hhas
    have HP : Hid (∀ _ : Unit, Calls Tryd.prog 57 #[.pointer (some ⟨t1, 0, none⟩), .pointer (some ⟨b, 0, none⟩), .int .i64 256] wc fun e w' => (∃ u, e = .returned u) ∧ PW w' b ((L ++ tokBits c d T) ++ symB c 256) ∧ PF b wc w') := fun _ => pput b lo hi1 t1 c R1 (L ++ tokBits c d T) 256 wc HS.out.tab1 hcl hend (by rw [List.length_append]; omega) HS.out.pw
    clear hcut hlen H3 hfin hhas hL hTl hcl hdl hend hN
    go_wp2_with fail
    refine (HP.out ()).mono ?_
    rintro e w4 ⟨⟨u, rfl⟩, hw4, hf4⟩
    have HZ : Hid (PW w4 b (L ++ (tokBits c d T ++ symB c 256)) ∧ PF b w w4) := ⟨by rw [← List.append_assoc]; exact hw4, HS.out.pf.trans hf4⟩
    clear hw4 hf4 HP zb
    go_wp2
    go_end0
    exact ⟨rfl, HZ.out⟩
end Go.Proofs.YtlbadjfcffoakaaDoor
namespace Go.Proofs.YtlbadjfcffoakaaDoor
open Go.RowKit
set_option linter.unusedVariables false
set_option maxRecDepth 20000

def storedB (L : List Nat) (s : ByteArray) (last : Bool) : List Nat := ((padded (L ++ headB 0 last) ++ bitsOf s.size 16) ++ bitsOf (65535 - s.size) 16) ++ textBits s
theorem padded_le (L : List Nat) : (padded L).length ≤ L.length + 7 ∧ (padded L).length % 8 = 0 := by rw [padded_length]; omega
theorem storedB_length (L : List Nat) (s : ByteArray) (last : Bool) : (storedB L s last).length ≤ L.length + 42 + 8 * s.size := by
  have := padded_le (L ++ headB 0 last)
  rw [List.length_append, headB_length] at this
  unfold storedB
  simp only [List.length_append, bitsOf_length, textBits_length]
  omega
set_option maxHeartbeats 1000000 in
theorem pstored (b : Nat) (L : List Nat) (s : ByteArray) (last : Bool) (w : World) (hs : s.size ≤ 65535) (hL : L.length ≤ 1099511627776) (hw : PW w b L) :
    Calls Tryd.prog 21 #[pkV b, .string s, .bool last] w fun e w' => e = .returned (.tuple #[]) ∧ PW w' b (storedB L s last) ∧ PF b w w' := by
  obtain ⟨W, hW⟩ : ∃ W, w.alloc (.cells #[.pointer (some ⟨b, 0, none⟩)] 51) = W := ⟨_, rfl⟩
  have hbel : Below w.heap.size w W := by rw [← hW]; exact (Below.refl _ _).alloc (Nat.le_refl _) _
  obtain ⟨U, hU⟩ : ∃ U, w.heap.size = U := ⟨_, rfl⟩
  have hb0 : W.heap[U]? = some (.cells #[.pointer (some ⟨b, 0, none⟩)] 51 (0, 0)) := by rw [← hW, ← hU]; exact heap_alloc_new _ _
  have hPW := WS.below hw hbel
  obtain ⟨L1, hL1⟩ : ∃ L1, L ++ headB 0 last = L1 := ⟨_, rfl⟩
  obtain ⟨L2, hL2⟩ : ∃ L2, padded L1 = L2 := ⟨_, rfl⟩
  obtain ⟨L3, hL3⟩ : ∃ L3, L2 ++ bitsOf s.size 16 = L3 := ⟨_, rfl⟩
  obtain ⟨L4, hL4⟩ : ∃ L4, L3 ++ bitsOf (65535 - s.size) 16 = L4 := ⟨_, rfl⟩
  have n1 : L1.length = L.length + 3 := by rw [← hL1, List.length_append, headB_length]
  have n2 := padded_le L1
  rw [hL2] at n2
  have n3 : L3.length = L2.length + 16 := by rw [← hL3, List.length_append, bitsOf_length]
  have n4 : L4.length = L3.length + 16 := by rw [← hL4, List.length_append, bitsOf_length]
  have HE : Hid (storedB L s last = L4 ++ textBits s) := by show _ = _; unfold storedB; rw [hL1, hL2, hL3, hL4]
  obtain ⟨m, hm⟩ : ∃ m, 65535 - s.size = m := ⟨_, rfl⟩
  rw [hm] at hL4
  have hmi : (65535 : Int) - (s.size : Int) = (m : Int) := by omega
  have hmw := D5.wrapN m (by omega)
  have H1 : Hid (W.heap[U]? = some (.cells #[.pointer (some ⟨b, 0, none⟩)] 51 (0, 0)) ∧ PW W b L ∧ PF b w W) := ⟨hb0, hPW, PF.below hbel⟩
  have HC1 : Hid (∀ _ : Unit, Calls Tryd.prog 34 #[.agg #[.pointer (some ⟨b, 0, none⟩)], .int .i64 0, .bool last] W fun e w' => e = .returned (.tuple #[]) ∧ PW w' b L1 ∧ PF b W w') := fun _ => by rw [← hL1]; exact phead b L 0 last W (by omega) (by omega) hPW
  have HC2 : Hid (∀ W', PW W' b L1 → Calls Tryd.prog 35 #[.pointer (some ⟨b, 0, none⟩)] W' fun e w' => e = .returned (.int .i64 0) ∧ PW w' b L2 ∧ PF b W' w') := fun W' h => by
    rw [← hL2]; exact (walign b b L1 W' (by omega) h).mono fun e w' ⟨a1, a2, a3⟩ => ⟨a1, a2, Fr.only a3⟩
  have HC3 : Hid (∀ W', PW W' b L2 → Calls Tryd.prog 36 #[.pointer (some ⟨b, 0, none⟩), .int .i64 (s.size : Nat), .int .i64 16] W' fun e w' => e = .returned (.int .i64 0) ∧ PW w' b L3 ∧ PF b W' w') := fun W' h => by rw [← hL3]; exact pbits b L2 s.size 16 W' (by omega) (by omega) (by omega) h
  have HC4 : Hid (∀ W', PW W' b L3 → Calls Tryd.prog 36 #[.pointer (some ⟨b, 0, none⟩), .int .i64 (m : Nat), .int .i64 16] W' fun e w' => e = .returned (.int .i64 0) ∧ PW w' b L4 ∧ PF b W' w') := fun W' h => by rw [← hL4]; exact pbits b L3 m 16 W' (by omega) (by omega) (by omega) h
  have HC5 : Hid (∀ W', PW W' b L4 → Calls Tryd.prog 37 #[.pointer (some ⟨b, 0, none⟩), .string s] W' fun e w' => e = .returned (.int .i64 0) ∧ PW w' b (L4 ++ textBits s) ∧ PF b W' w') := fun W' h => wbytes b b L4 s W' (by omega) (by omega) h (Nat.le_of_lt h.lt)
  have z0 : W.cell? ⟨U, 0, none⟩ = some (.pointer (some ⟨b, 0, none⟩)) := by simp [World.cell?, hb0]
  have HK : Hid (∀ W1 W2 La, W1.heap[U]? = some (.cells #[.pointer (some ⟨b, 0, none⟩)] 51 (0, 0)) → PW W1 b La → PF b W1 W2 → W2.heap[U]? = some (.cells #[.pointer (some ⟨b, 0, none⟩)] 51 (0, 0)) ∧ W2.cell? ⟨U, 0, none⟩ = some (.pointer (some ⟨b, 0, none⟩))) := fun W1 W2 La a1 a2 a3 => by
    have := a3.kept a2 a1 (by decide) (by decide)
    exact ⟨this, by simp [World.cell?, this]⟩
  unfold pkV
  clear hb0 hPW hbel hw hL1 hL2 hL3 hL4 n1 n2 n3 n4 hL hs hm
  go_enter Tryd.func21, Tryd.ntmps21
  go_wp2_with fail
  refine (HC1.out ()).mono ?_
  rintro e w1 ⟨rfl, hw1, hf1⟩
  obtain ⟨g1, y1⟩ := HK.out W w1 L H1.out.1 H1.out.2.1 hf1
  have H2 : Hid (PW w1 b L1 ∧ PF b w w1 ∧ w1.heap[U]? = some (.cells #[.pointer (some ⟨b, 0, none⟩)] 51 (0, 0))) := ⟨hw1, H1.out.2.2.trans hf1, g1⟩
  clear hw1 hf1 g1 z0
  go_wp2_with fail
  refine (HC2.out w1 H2.out.1).mono ?_
  rintro e w2 ⟨rfl, hw2, hf2⟩
  obtain ⟨g2, y2⟩ := HK.out w1 w2 L1 H2.out.2.2 H2.out.1 hf2
  have H3 : Hid (PW w2 b L2 ∧ PF b w w2 ∧ w2.heap[U]? = some (.cells #[.pointer (some ⟨b, 0, none⟩)] 51 (0, 0))) := ⟨hw2, H2.out.2.1.trans hf2, g2⟩
  clear hw2 hf2 g2 y1
  go_wp2_with fail
  refine (HC3.out w2 H3.out.1).mono ?_
  rintro e w3 ⟨rfl, hw3, hf3⟩
  obtain ⟨g3, y3⟩ := HK.out w2 w3 L2 H3.out.2.2 H3.out.1 hf3
  have H4 : Hid (PW w3 b L3 ∧ PF b w w3 ∧ w3.heap[U]? = some (.cells #[.pointer (some ⟨b, 0, none⟩)] 51 (0, 0))) := ⟨hw3, H3.out.2.1.trans hf3, g3⟩
  clear hw3 hf3 g3 y2
  go_wp2_with fail
  refine (HC4.out w3 H4.out.1).mono ?_
  rintro e w4 ⟨rfl, hw4, hf4⟩
  obtain ⟨g4, y4⟩ := HK.out w3 w4 L3 H4.out.2.2 H4.out.1 hf4
  have H5 : Hid (PW w4 b L4 ∧ PF b w w4 ∧ w4.heap[U]? = some (.cells #[.pointer (some ⟨b, 0, none⟩)] 51 (0, 0))) := ⟨hw4, H4.out.2.1.trans hf4, g4⟩
  clear hw4 hf4 g4 y3
  go_wp2_with fail
  refine (HC5.out w4 H5.out.1).mono ?_
  rintro e w5 ⟨rfl, hw5, hf5⟩
  have H6 : Hid (PW w5 b (L4 ++ textBits s) ∧ PF b w w5) := ⟨hw5, H5.out.2.1.trans hf5⟩
  clear hw5 hf5 y4
  go_wp2
  go_end0
  rw [HE.out]
  exact ⟨rfl, H6.out⟩
end Go.Proofs.YtlbadjfcffoakaaDoor
namespace Go.Proofs.YtlbadjfcffoakaaDoor
open Go.RowKit
set_option linter.unusedVariables false
set_option maxRecDepth 20000

def Blk (L L' l l' : List Nat) (last : Nat) : Prop := (∃ B, L' = L ++ B) ∧ ∀ (z : ByteArray) (most : Nat), BitsAt z 0 L' → l'.length ≤ most → blockF (toldF z) z most L.length l = (0, L'.length, l') ∧ num z L.length 1 = last
def Rd (L l : List Nat) : Prop := ∀ (z : ByteArray) (most : Nat), BitsAt z 0 L → l.length ≤ most → infF z most = blocksF (toldF z) z most (8 * z.size + 1 - L.length) L.length l
theorem Rd.nil : Rd [] [] := fun z most _ _ => rfl
theorem Rd.step {L L' l l' : List Nat} (h : Rd L l) (hb : Blk L L' l l' 0) (hl : l.length ≤ l'.length) : Rd L' l' := fun z most hz hm => by
  obtain ⟨⟨B, rfl⟩, hB⟩ := hb
  obtain ⟨h1, h2⟩ := hB z most hz hm
  have hle := hz.left.1
  rw [h z most hz.left (by omega), blocks_more (toldF_ok z) (by omega) (by omega) (by rw [h1]) (by rw [h2]; omega), h1]
theorem Rd.fin {L L' l l' : List Nat} {most : Nat} (h : Rd L l) (hb : Blk L L' l l' 1) (hl : l.length ≤ l'.length) (h01 : Bits01 L') (hm : l'.length ≤ most) : infF (toBA (pack L')) most = (0, L'.length, l') := by
  have hsz : (toBA (pack L')).size = (L'.length + 7) / 8 := by rw [show (toBA (pack L')).size = (pack L').length by simp [toBA, ByteArray.size], pack_length]
  have hz : BitsAt (toBA (pack L')) 0 L' := ⟨by rw [hsz]; omega, fun j hj => by rw [Nat.zero_add]; exact bitAt_pack h01 j (by omega)⟩
  obtain ⟨z, hzz⟩ : ∃ z, toBA (pack L') = z := ⟨_, rfl⟩
  rw [hzz] at hz ⊢
  obtain ⟨⟨B, rfl⟩, hB⟩ := hb
  obtain ⟨h1, h2⟩ := hB z most hz hm
  have hle := hz.left.1
  rw [h z most hz.left (by omega), blocks_end (by omega) (by rw [h1]) h2, h1]
theorem BitsAt.mid {z : ByteArray} {A B : List Nat} (h : BitsAt z 0 (A ++ B)) : BitsAt z A.length B := by have := h.right; rw [Nat.zero_add] at this; exact this
theorem head_at {z : ByteArray} {p kind : Nat} {last : Bool} (hk : kind < 4) (h : BitsAt z p (headB kind last)) : num z p 1 = lastB last ∧ num z (p + 1) 2 = kind ∧ p + 3 ≤ 8 * z.size := by
  have h1 := h.1
  rw [headB_length] at h1
  unfold headB at h
  have hr := h.right
  rw [bitsOf_length] at hr
  refine ⟨num_at h.left (by unfold lastB; split <;> omega), num_at hr (by omega), h1⟩
theorem fixS_cod (i : Nat) (h : i < 288) : Cod fixS i := by
  have := (show ∀ k : Fin 288, 1 ≤ fixS.getD k.val 0 ∧ cw fixS k.val < 2 ^ fixS.getD k.val 0 by decide +kernel) ⟨i, h⟩
  exact ⟨by rw [fixS_len]; exact h, this.1, fixS_15 i, this.2⟩
theorem fixD_cod (i : Nat) (h : i < 32) : Cod fixD i := by
  have := (show ∀ k : Fin 32, 1 ≤ fixD.getD k.val 0 ∧ cw fixD k.val < 2 ^ fixD.getD k.val 0 by decide +kernel) ⟨i, h⟩
  exact ⟨by rw [fixD_len]; exact h, this.1, fixD_15 i, this.2⟩
def fix30 : List Nat := List.replicate 30 5
theorem fix30_symB (i : Nat) (h : i < 30) : symB fix30 i = symB fixD i := (show ∀ k : Fin 30, symB fix30 k.val = symB fixD k.val by decide +kernel) ⟨i, h⟩
theorem fix30_cod (i : Nat) (h : i < 30) : Cod fix30 i := by
  have := (show ∀ k : Fin 30, 1 ≤ fix30.getD k.val 0 ∧ fix30.getD k.val 0 ≤ 15 ∧ cw fix30 k.val < 2 ^ fix30.getD k.val 0 by decide +kernel) ⟨i, h⟩
  exact ⟨by show i < (List.replicate 30 5).length; simpa using h, this.1, this.2.1, this.2.2⟩
theorem fix_tokB {t : Nat × Nat × Nat} (h : Fine t) : tokB fixS fix30 t = tokB fixS fixD t := by
  unfold tokB
  by_cases h0 : t.2.2 = 0
  · rw [if_pos h0, if_pos h0]
  · rw [if_neg h0, if_neg h0]
    rcases h with h | h
    · exact absurd h.1 h0
    · rw [fix30_symB _ (distK_ok h.2.2.1 h.2.2.2).small.1]
theorem fix_tokBits : ∀ {T : List (Nat × Nat × Nat)}, (∀ t ∈ T, Fine t) → tokBits fixS fix30 T = tokBits fixS fixD T
  | [], _ => rfl
  | t :: T, h => by
    show tokB fixS fix30 t ++ tokBits fixS fix30 T = tokB fixS fixD t ++ tokBits fixS fixD T
    rw [fix_tokB (h t (List.mem_cons_self ..)), fix_tokBits (fun x hx => h x (List.mem_cons_of_mem _ hx))]
theorem fix_has {t : Nat × Nat × Nat} (h : Fine t) : Has fixS fixD t ∧ Has fixS fix30 t := by
  unfold Has
  by_cases h0 : t.2.2 = 0
  · rw [if_pos h0, if_pos h0]
    rcases h with h | h
    · exact ⟨fixS_cod _ (by omega), fixS_cod _ (by omega)⟩
    · have := h.2.2.1; omega
  · rw [if_neg h0, if_neg h0]
    rcases h with h | h
    · exact absurd h.1 h0
    · have a := (lenK_ok h.1 h.2.1).small
      have b := (distK_ok h.2.2.1 h.2.2.2).small
      exact ⟨⟨fixS_cod _ (by omega), fixD_cod _ (by omega)⟩, fixS_cod _ (by omega), fix30_cod _ b.1⟩
def fixedB (L : List Nat) (T : List (Nat × Nat × Nat)) (last : Bool) : List Nat := (L ++ headB 1 last) ++ (tokBits fixS fix30 T ++ symB fixS 256)
theorem fixed_blk {L : List Nat} {s : ByteArray} {T : List (Nat × Nat × Nat)} {k k' : Nat} {last : Bool} (ht : Tells s k T k') (hk : k ≤ s.size) : Blk L (fixedB L T last) ((bytesL s).take k) ((bytesL s).take k') (lastB last) := by
  refine ⟨⟨headB 1 last ++ (tokBits fixS fix30 T ++ symB fixS 256), by unfold fixedB; rw [List.append_assoc]⟩, fun z most hz hm => ?_⟩
  unfold fixedB at hz ⊢
  rw [fix_tokBits ht.fine] at hz ⊢
  have hh := hz.left.mid
  have hb := hz.mid
  rw [List.length_append, headB_length] at hb
  obtain ⟨n1, n2, n3⟩ := head_at (by omega) hh
  have hkm : k' ≤ most := by
    have h1 := (ht.le.2 hk)
    rw [List.length_take, bytesL_length] at hm
    omega
  refine ⟨?_, n1⟩
  unfold blockF
  rw [if_neg (by omega), if_neg (by omega), n2, if_neg (by omega), if_pos rfl, toks_read (by rw [fixS_len]; omega) (by rw [fixD_len]; omega) (fixS_cod 256 (by omega)) T k k' (L.length + 3) ht hk (fun t h => (fix_has (ht.fine t h)).1) hkm hb]
  congr 2
  simp only [List.length_append, headB_length]
theorem textBits_bit (s : ByteArray) (i : Nat) (h : i < 8 * s.size) : (textBits s).getD i 0 = bitAt s i := by
  unfold textBits
  rw [List.getD_eq_getElem?_getD, List.getElem?_map, List.getElem?_range h]
  rfl
theorem bt_of_bits {z s : ByteArray} {q i : Nat} (h : BitsAt z (8 * q) (textBits s)) (hi : i < s.size) : D5.bt z (q + i) = D5.bt s i := by
  have e : ∀ j, j < 8 → bitAt z (8 * (q + i) + j) = bitAt s (8 * i + j) := fun j hj => by
    have := h.2 (8 * i + j) (by rw [textBits_length]; omega)
    rw [textBits_bit s _ (by omega)] at this
    rw [← this]; congr 1; omega
  have e1 : byteAt z (q + i) = byteAt s i := by
    rw [← num_byte, ← num_byte, num_bsum, num_bsum]
    exact bsum_congr fun j hj => e j hj
  exact e1
theorem extract_text {z s : ByteArray} {q : Nat} (h : BitsAt z (8 * q) (textBits s)) : bytesOf (z.extract q (q + s.size)) = bytesL s := by
  have hz := h.1
  rw [textBits_length] at hz
  have hsz : (z.extract q (q + s.size)).size = s.size := by rw [ByteArray.size_extract]; omega
  have hlen : (bytesOf (z.extract q (q + s.size))).length = s.size := by show (((z.extract q (q + s.size)).data.toList.map UInt8.toNat)).length = _; simp; omega
  refine List.ext_getElem (by rw [hlen, bytesL_length]) fun i h1 h2 => ?_
  have hi : i < s.size := by rw [bytesL_length] at h2; exact h2
  have e1 : (bytesOf (z.extract q (q + s.size))).getD i 0 = D5.bt (z.extract q (q + s.size)) i := bytesL_get _ i
  have e2 := bytesL_get s i
  rw [List.getD_eq_getElem?_getD, List.getElem?_eq_getElem h1] at e1
  rw [List.getD_eq_getElem?_getD, List.getElem?_eq_getElem h2] at e2
  simp only [Option.getD_some] at e1 e2
  rw [e1, e2, ← bt_of_bits h hi]
  unfold D5.bt
  congr 1
  rw [List.getD_eq_getElem?_getD, List.getD_eq_getElem?_getD]
  congr 1
  simp only [ByteArray.data_extract, Array.getElem?_toList, Array.getElem?_extract]
  rw [if_pos (by rw [show z.data.size = z.size from rfl]; omega)]
theorem stored_blk {L l : List Nat} {s : ByteArray} {last : Bool} (hs : s.size ≤ 65535) : Blk L (storedB L s last) l (l ++ bytesL s) (lastB last) := by
  have hpad : padded (L ++ headB 0 last) = L ++ (headB 0 last ++ List.replicate (padOf (L ++ headB 0 last).length) 0) := by unfold padded; rw [List.append_assoc]
  refine ⟨⟨((headB 0 last ++ List.replicate (padOf (L ++ headB 0 last).length) 0) ++ bitsOf s.size 16) ++ bitsOf (65535 - s.size) 16 ++ textBits s, by unfold storedB; rw [hpad]; simp only [List.append_assoc]⟩, fun z most hz hm => ?_⟩
  unfold storedB at hz
  have g5 := hz.mid
  have g4 := hz.left.mid
  have g3 := hz.left.left.mid
  have g2 := hz.left.left.left
  have hP := padded_length (L ++ headB 0 last)
  rw [List.length_append, headB_length] at hP
  have hh : BitsAt z L.length (headB 0 last) := by
    have : BitsAt z 0 (L ++ headB 0 last) := by unfold padded at g2; exact g2.left
    exact this.mid
  obtain ⟨n1, n2, n3⟩ := head_at (by omega) hh
  obtain ⟨q, hq⟩ : ∃ q, (padded (L ++ headB 0 last)).length = 8 * q := ⟨(L.length + 3 + 7) / 8, by rw [hP]; omega⟩
  have hq2 : (L.length + 3 + 7) / 8 * 8 = 8 * q := by rw [← hP, hq]
  rw [hq] at g3
  simp only [List.length_append, bitsOf_length, hq] at g4 g5
  have m1 := num_at g3 (by omega)
  have m2 := num_at g4 (by omega)
  rw [show 8 * q + 16 + 16 = 8 * (q + 4) by omega] at g5
  have hz5 := g5.1
  rw [textBits_length] at hz5
  rw [List.length_append, bytesL_length] at hm
  refine ⟨?_, n1⟩
  unfold blockF
  rw [if_neg (by omega), if_neg (by omega), n2, if_pos rfl]
  unfold storedF
  simp only
  rw [hq2, m1, m2, if_neg (by omega), if_neg (by omega), if_neg (by rw [xor16 _ (by omega)]; simp), if_neg (by omega), if_neg (by omega)]
  have e := extract_text g5
  unfold bytesOf at e
  rw [show (8 * q + 32) / 8 = q + 4 by omega, e]
  congr 2
  unfold storedB
  simp only [List.length_append, bitsOf_length, textBits_length, hq]
end Go.Proofs.YtlbadjfcffoakaaDoor
