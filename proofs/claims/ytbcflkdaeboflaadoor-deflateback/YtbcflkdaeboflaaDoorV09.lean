/- The writer's other calls: refusals, Align, Bytes, Place, Done. -/
/- Readers and writers that nobody made: taking and writing bits. -/
/- A table that nobody made; a reader or a writer that nobody made. A symbol is written. -/
/- A table that NewTable gave, its rows known to be rows of numbers. -/
import Derived.Test.YtbcflkdaeboflaaDoorV08
namespace Go.Proofs.YtbcflkdaeboflaaDoor
open Go.RowKit
set_option linter.unusedVariables false
set_option maxRecDepth 20000

/-- A block of another type than a row's is as it was when the row grows. -/
theorem row_kept {w w' : World} {B b size n : Nat} {E T : TypeId} {v : Value} {xs : List Value} {cs : Array Value} {mk : Nat × Nat} (hbl : w.heap[b]? = some (.cells cs T mk)) (hT : T ≠ E) (hown : w.ownsRow B E size v n xs) (hg : w.grownBy w' v.ownBlock) : w'.heap[b]? = w.heap[b]? :=
  hg.block b (lt_of_block hbl) (fun e => by
    rcases hown.2 with ⟨rfl, _⟩ | ⟨g', cap', cur, rfl, _, hh, _⟩
    · simp [Value.ownBlock] at e
    · have e' : b = g' := by simpa [Value.ownBlock] using e
      subst e'; rw [hbl] at hh; cases hh; exact hT rfl)
theorem WS.self {w : World} {B b : Nat} {L : List Nat} (h : WS w B b L) : w.cell? ⟨b, 0, none⟩ = some (.pointer (some ⟨b, 0, none⟩)) := by
  obtain ⟨v, hb, _⟩ := h; exact (cells3 hb).1
theorem WS.place {w : World} {B b : Nat} {L : List Nat} (h : WS w B b L) : w.cell? ⟨b, 2, none⟩ = some (.int .i64 (L.length : Nat)) := by
  obtain ⟨v, hb, _⟩ := h; exact (cells3 hb).2.2.1
theorem WS.lt {w : World} {B b : Nat} {L : List Nat} (h : WS w B b L) : b < w.heap.size := by
  obtain ⟨v, hb, _⟩ := h; exact lt_of_block hb
/-- A writer stays what it is where its own block and all rows of bytes stay. -/
theorem WS.kept {w w' : World} {B b : Nat} {L : List Nat} (h : WS w B b L) (hb : w'.heap[b]? = w.heap[b]?) (hrow : ∀ (g : Nat) (cur : Array Value), w.heap[g]? = some (.cells cur 5 (0, 0)) → w'.heap[g]? = w.heap[g]?) : WS w' B b L := by
  obtain ⟨v, h1, h2, h3, h4⟩ := h
  refine ⟨v, hb.trans h1, ⟨h2.1, ?_⟩, h3, h4⟩
  rcases h2.2 with hn | ⟨g, cap, cur, hv, hg, hh, r⟩
  · exact .inl hn
  · exact .inr ⟨g, cap, cur, hv, hg, (hrow g cur hh).trans hh, r⟩
theorem WS.below {w w' : World} {B b : Nat} {L : List Nat} (h : WS w B b L) (hb : Below w.heap.size w w') : WS w' B b L :=
  h.kept (hb.block b h.lt) (fun g cur hg => hb.block g (lt_of_block hg))
theorem WS.drewN {w : World} {B b : Nat} {L : List Nat} (h : WS w B b L) (n : Nat) : WS (w.drewN n) B b L := h
/-- Another writer's calls leave it as it was, where that one's rows are younger. -/
theorem WS.other {w w' : World} {B b B2 b2 : Nat} {L M : List Nat} (h : WS w B b L) (h2 : WS w B2 b2 M) (hne : b ≠ b2) (hf : Fr 5 w.heap.size b2 w w') : WS w' B b L := by
  obtain ⟨v2, hb2, _⟩ := h2
  refine h.kept (hf.block b h.lt hne (.inl h.lt)) (fun g cur hg => hf.block g (lt_of_block hg) ?_ (.inl (lt_of_block hg)))
  rintro rfl
  rw [hb2] at hg; cases hg
/-- A new writer's state. -/
theorem WS.new (w : World) (B : Nat) : WS (w.alloc (.cells #[.pointer (some ⟨w.heap.size, 0, none⟩), .slice none 0 0, .int .i64 0] 84)) B w.heap.size [] :=
  ⟨.slice none 0 0, heap_alloc_new _ _, World.ownsRow_nil _ _ _ _, (fun x hx => by cases hx), by simp⟩
theorem wbits_arg (B b : Nat) (L : List Nat) (x n : Int) (w : World) (h : n < 0 ∨ 57 < n ∨ x < 0 ∨ ∃ m : Nat, n = m ∧ m ≤ 57 ∧ (2 : Int) ^ m ≤ x) (hw : WS w B b L) :
    Calls Tryd.prog 54 #[.pointer (some ⟨b, 0, none⟩), .int .i64 x, .int .i64 n] w fun e w' => e = .returned (.int .i64 1) ∧ w' = w := by
  have h0 := hw.self
  clear hw
  by_cases h1 : n < 0
  · clear h
    go_enter Tryd.func54, Tryd.ntmps54
    go_wp2_with (go_at_call 50; refine (wgiven_yes _ _ h0).mono ?_; rintro e w' ⟨rfl, rfl⟩)
    go_ret
    exact ⟨rfl, rfl⟩
  · by_cases h2 : 57 < n
    · clear h
      go_enter Tryd.func54, Tryd.ntmps54
      go_wp2_with (go_at_call 50; refine (wgiven_yes _ _ h0).mono ?_; rintro e w' ⟨rfl, rfl⟩)
      go_ret
      exact ⟨rfl, rfl⟩
    · by_cases h3 : x < 0
      · clear h
        go_enter Tryd.func54, Tryd.ntmps54
        go_wp2_with (go_at_call 50; refine (wgiven_yes _ _ h0).mono ?_; rintro e w' ⟨rfl, rfl⟩)
        go_ret
        exact ⟨rfl, rfl⟩
      · rcases h with h | h | h | ⟨m, rfl, hm, hx⟩
        · omega
        · omega
        · omega
        have HX : Hid ((2 : Int) ^ m ≤ x) := hx
        clear hx
        go_enter Tryd.func54, Tryd.ntmps54
        go_wp2_with (go_at_call 50; refine (wgiven_yes _ _ h0).mono ?_; rintro e w' ⟨rfl, rfl⟩)
        · go_ret
          exact ⟨rfl, rfl⟩
        · exfalso
          have hh : ((0 ≤ (m : Int) ∧ (m : Int) ≤ 57) ∧ 0 ≤ x) ∧ x < wrap64 (2 ^ m) := by assumption
          have := HX.out
          rw [wrap_pow m hm] at hh
          omega
theorem walign (B b : Nat) (L : List Nat) (w : World) (hL : L.length ≤ 1125899906842600) (hw : WS w B b L) :
    Calls Tryd.prog 53 #[.pointer (some ⟨b, 0, none⟩)] w fun e w' => e = .returned (.int .i64 0) ∧ WS w' B b (padded L) ∧ Only b w w' := by
  have HW : Hid (WS w B b L) := hw
  have h0 := hw.self
  have h2 := hw.place
  obtain ⟨v, hbl, _⟩ := hw
  obtain ⟨_, _, _, _, f2⟩ := cells3 hbl
  clear hbl
  go_enter Tryd.func53, Tryd.ntmps53
  go_wp2_with (first | (go_at_call 50; refine (wgiven_yes _ _ h0).mono ?_; rintro e w' ⟨rfl, rfl⟩) | (go_at_call 72; refine (byteEnd _ _ (by omega) (by omega)).mono ?_; rintro e w' ⟨rfl, rfl⟩))
  go_ret
  refine ⟨rfl, ?_, Only.setCell b 2 _ _⟩
  obtain ⟨v, hbl, hown, h01, _⟩ := HW.out
  have hl := padded_length L
  refine ⟨v, ?_, ?_, padded_01 h01, by omega⟩
  · rw [hl]; exact block_setCell (i := 2) hbl
  · have e : ((padded L).length + 7) / 8 = (L.length + 7) / 8 := by omega
    have e2 : pcells (padded L) = pcells L := by unfold pcells; rw [pack_padded]
    rw [e, e2]
    rcases hown.2 with ⟨rfl, h0⟩ | ⟨g, cap, cur, rfl, hB, hh, r⟩
    · exact ⟨hown.1, .inl ⟨rfl, h0⟩⟩
    · refine ownsRow_block hown (Below.heap_setCell _ _ _ _ (fun e => ?_))
      have e' : g = b := e
      subst e'; rw [hbl] at hh; cases hh
theorem wdone (B b : Nat) (L : List Nat) (w : World) (hw : WS w B b L) :
    Calls Tryd.prog 31 #[.pointer (some ⟨b, 0, none⟩)] w fun e w' => e = .returned (.string (toBA (pack L))) ∧ w' = w := by
  have h0 := hw.self
  obtain ⟨v, hbl, hown, h01, _⟩ := hw
  obtain ⟨_, h1, _, _, _⟩ := cells3 hbl
  have hc : (convert 28 9 v).run Tryd.prog w = .ok (.string (toBA (pack L))) w := by
    refine conv_row w _ _ 5 B v (pack L) Tryd.underlying28 Tryd.underlying5 Tryd.underlying9 (by rw [pack_length]; exact hown) ?_
    intro x hx
    obtain ⟨j, _, rfl⟩ := List.mem_map.1 hx
    exact byteOf_lt h01 j
  clear hbl hown
  go_enter Tryd.func31, Tryd.ntmps31
  go_wp2_with (go_at_call 50; refine (wgiven_yes _ _ h0).mono ?_; rintro e w' ⟨rfl, rfl⟩)
  go_ret
  exact ⟨rfl, rfl⟩
theorem wbytes_bits (B b : Nat) (L : List Nat) (s : ByteArray) (w : World) (h8 : L.length % 8 ≠ 0) (hw : WS w B b L) :
    Calls Tryd.prog 55 #[.pointer (some ⟨b, 0, none⟩), .string s] w fun e w' => e = .returned (.int .i64 10) ∧ w' = w := by
  have h0 := hw.self
  have h2 := hw.place
  clear hw
  go_enter Tryd.func55, Tryd.ntmps55
  go_wp2_with (go_at_call 50; refine (wgiven_yes _ _ h0).mono ?_; rintro e w' ⟨rfl, rfl⟩)
  go_ret
  exact ⟨rfl, rfl⟩
set_option maxHeartbeats 400000 in
theorem wbytes (B b : Nat) (L : List Nat) (s : ByteArray) (w : World) (h8 : L.length % 8 = 0) (hL : L.length + 8 * s.size ≤ 1125899906842624) (hw : WS w B b L) (hB : B ≤ w.heap.size) :
    Calls Tryd.prog 55 #[.pointer (some ⟨b, 0, none⟩), .string s] w fun e w' => e = .returned (.int .i64 0) ∧ WS w' B b (L ++ textBits s) ∧ Fr 5 B b w w' := by
  have h0 := hw.self
  obtain ⟨v, hbl, hown, h01, hlen⟩ := hw
  obtain ⟨p, hp⟩ : ∃ p, p = L.length := ⟨_, rfl⟩
  rw [← hp] at hbl hown hlen h8 hL
  have HP : Hid (p = L.length) := hp
  obtain ⟨m, hm⟩ : ∃ m, m = (p + 7) / 8 := ⟨_, rfl⟩
  rw [← hm] at hown
  have hmb : m + s.size ≤ 140737488355328 := by omega
  have HM : Hid (m = (p + 7) / 8) := hm
  obtain ⟨_, c1, c2, f1, f2⟩ := cells3 hbl
  have hBw : B ≤ w.heap.size := hB
  clear hp hm
  obtain ⟨i0, hi, hz0, hz1, hz2⟩ := info_parts Tryd.infoU8
  go_enter Tryd.func55, Tryd.ntmps55
  go_wp2_with (first | (go_at_call 50; refine (wgiven_yes _ _ h0).mono ?_; rintro e w' ⟨rfl, rfl⟩) | (at_builtin; refine Lib.wpList_append_own_string _ rfl _ _ 28 9 rfl B 5 i0 Tryd.underlying28 Tryd.underlying9 hi hz0 hz1 hz2 v m (pcells L) rfl hown s rfl ?c1 ?c2 hBw ?_))
  case c1 => unfold maxLen; omega
  case c2 => exact hmb
  intro v1 w1 hown1 hgrow _
  obtain ⟨ao, ln, cp, hv1⟩ : ∃ ao ln cp, v1 = .slice ao ln cp := by
    rcases hown1.2 with ⟨rfl, _⟩ | ⟨g, cap, cur, rfl, _⟩
    · exact ⟨_, _, _, rfl⟩
    · exact ⟨_, _, _, rfl⟩
  rw [hv1] at hown1 ⊢
  have hbl1 := (row_kept hbl (by decide) hown hgrow).trans hbl
  have HE : Hid _ := (⟨hbl1, hown1, Fr.grown (b := b) hown hgrow, h01⟩ : _ ∧ _ ∧ _ ∧ _)
  obtain ⟨_, _, c2', f1', f2'⟩ := cells3 hbl1
  clear hbl1 hown1 hgrow hown hbl h01 hv1 c1 c2 f1 f2
  go_wp2
  go_ret
  obtain ⟨hbl1, hown1, hfr, h01⟩ := HE.out
  have hP := HP.out
  have hMm := HM.out
  have hts := textBits_length s
  have hblF := block_setCell (i := 2) (u := .int .i64 ((p : Int) + (s.size : Int) * 8)) (block_setCell (i := 1) (u := .slice ao ln cp) hbl1)
  refine ⟨rfl, ⟨.slice ao ln cp, ?_, ?_, h01.append (textBits_01 s), by rw [List.length_append]; omega⟩, hfr.trans ((Fr.only (Only.setCell b 1 _ _)).trans (Fr.only (Only.setCell b 2 _ _)))⟩
  · have e : (((L ++ textBits s).length : Nat) : Int) = (p : Int) + (s.size : Int) * 8 := by rw [List.length_append, hts, ← hP]; omega
    rw [e]; exact hblF
  · have e : ((L ++ textBits s).length + 7) / 8 = m + s.size := by rw [List.length_append]; omega
    have e2 : pcells (L ++ textBits s) = pcells L ++ Lib.strCells s := by
      unfold pcells
      rw [pack_text L s (by rw [← hP]; exact h8), List.map_append, List.map_map]
      rfl
    rw [e, e2]
    rcases hown1.2 with ⟨he, h0⟩ | ⟨g, cap, cur, he, hB, hh, r⟩
    · exact ⟨hown1.1, .inl ⟨he, h0⟩⟩
    · have hgb : g ≠ b := by rintro rfl; rw [hbl1] at hh; cases hh
      obtain ⟨rfl, rfl, rfl⟩ := Value.slice.inj he
      exact ownsRow_block (ownsRow_block hown1 (Below.heap_setCell _ _ _ _ hgb)) (Below.heap_setCell _ _ _ _ hgb)
end Go.Proofs.YtbcflkdaeboflaaDoor
namespace Go.Proofs.YtbcflkdaeboflaaDoor
open Go.RowKit
set_option linter.unusedVariables false
set_option maxRecDepth 20000

/-- A reader or writer that nobody made: nil, or a block that does not lead to itself. -/
def Nobody (w : World) (p : Option Addr) : Prop := p = none ∨ ∃ b, p = some ⟨b, 0, none⟩ ∧ w.cell? ⟨b, 0, none⟩ = some (.pointer none)
theorem no_wBits (p : Option Addr) (x n : Int) (w : World) (h : Nobody w p) :
    Calls Tryd.prog 54 #[.pointer p, .int .i64 x, .int .i64 n] w fun e w' => e = .returned (.int .i64 1) ∧ w' = w := by
  rcases h with rfl | ⟨b, rfl, h0⟩
  · go_enter Tryd.func54, Tryd.ntmps54
    go_wp2_with (go_at_call 50; refine (wgiven_nil _).mono ?_; rintro e w' ⟨rfl, rfl⟩)
    go_ret
    exact ⟨rfl, rfl⟩
  · go_enter Tryd.func54, Tryd.ntmps54
    go_wp2_with (go_at_call 50; refine (wgiven_zero _ _ h0).mono ?_; rintro e w' ⟨rfl, rfl⟩)
    go_ret
    exact ⟨rfl, rfl⟩
end Go.Proofs.YtbcflkdaeboflaaDoor
namespace Go.Proofs.YtbcflkdaeboflaaDoor
open Go.RowKit
set_option linter.unusedVariables false
set_option maxRecDepth 20000

/-- Nothing that NewTable gave. -/
def NoTab (w : World) (p : Option Addr) : Prop := p = none ∨ ∃ b, p = some ⟨b, 0, none⟩ ∧ w.cell? ⟨b, 0, none⟩ = some (.pointer none)
theorem no_given (p : Option Addr) (w : World) (h : NoTab w p) : Calls Tryd.prog 82 #[.pointer p] w fun e w' => e = .returned (.bool false) ∧ w' = w := by
  rcases h with rfl | ⟨b, rfl, h⟩
  · exact tgiven_nil w
  · exact tgiven_zero b w h
set_option maxRecDepth 20000 in
set_option maxHeartbeats 1000000 in
theorem no_put (p v : Option Addr) (n : Int) (w : World) (hno : NoTab w p) :
    Calls Tryd.prog 71 #[.pointer p, .pointer v, .int .i64 n] w fun e w' => e = .returned (.int .i64 1) ∧ w' = w := by
  have HN : Hid (NoTab w p) := hno
  clear hno
  go_enter Tryd.func71, Tryd.ntmps71
  go_wp2_with (go_at_call 82; refine (no_given _ _ HN.out).mono ?_; rintro e w' ⟨rfl, hw⟩; obtain rfl := hw.symm)
  go_ret
  exact ⟨rfl, rfl⟩
/-- A table's row of lengths, and of words. -/
theorem Tab.lens {w : World} {lo hi t : Nat} {ns : List Nat} {R : Nat → Value} (h : Tab w lo hi t ns R) : ∃ ao cap, w.cell? ⟨t, 1, none⟩ = some (.slice ao ns.length cap) ∧ ∀ j, j < ns.length → ∃ g, ao = some ⟨g, 0, none⟩ ∧ w.cell? ⟨g, j, none⟩ = some (.int .i64 ((ns.getD j 0 : Nat) : Int)) := by
  obtain ⟨ao, cap, e, h1⟩ := h.rows 0 (by omega)
  have c := h.cell (k := 0) (by omega)
  rw [e] at c
  have hx : tX ns ns.length 0 = (List.range ns.length).map (fun s => ns.getD s 0) := rfl
  rw [hx] at c h1
  simp only [List.length_map, List.length_range] at c h1
  refine ⟨ao, cap, c, fun j hj => ?_⟩
  rcases h1 with h1 | ⟨g, e1, _, _, e2⟩
  · omega
  · refine ⟨g, e1, ?_⟩
    rw [e2 j hj, getD_in (show j < ((List.range ns.length).map (fun s => ns.getD s 0)).length by simpa using hj)]
    simp
theorem Tab.words {w : World} {lo hi t : Nat} {ns : List Nat} {R : Nat → Value} (h : Tab w lo hi t ns R) : ∃ ao cap, w.cell? ⟨t, 2, none⟩ = some (.slice ao ns.length cap) ∧ ∀ j, j < ns.length → ∃ g, ao = some ⟨g, 0, none⟩ ∧ w.cell? ⟨g, j, none⟩ = some (.int .i64 ((rv (cw ns j) (ns.getD j 0) : Nat) : Int)) := by
  obtain ⟨ao, cap, e, h1⟩ := h.rows 1 (by omega)
  have c := h.cell (k := 1) (by omega)
  rw [e] at c
  have hx : tX ns ns.length 1 = (List.range ns.length).map (fun s => rv (cw ns s) (ns.getD s 0)) := rfl
  rw [hx] at c h1
  simp only [List.length_map, List.length_range] at c h1
  refine ⟨ao, cap, c, fun j hj => ?_⟩
  rcases h1 with h1 | ⟨g, e1, _, _, e2⟩
  · omega
  · refine ⟨g, e1, ?_⟩
    rw [e2 j hj, getD_in (show j < ((List.range ns.length).map (fun s => rv (cw ns s) (ns.getD s 0))).length by simpa using hj)]
    simp
set_option maxRecDepth 20000 in
set_option maxHeartbeats 1000000 in
theorem put_out (lo hi t : Nat) (ns : List Nat) (R : Nat → Value) (v : Option Addr) (x : Int) (w : World) (ht : Tab w lo hi t ns R) (hn : ns.length ≤ 288) (hx : x < 0 ∨ (ns.length : Int) ≤ x ∨ ns.getD x.toNat 0 = 0) :
    Calls Tryd.prog 71 #[.pointer (some ⟨t, 0, none⟩), .pointer v, .int .i64 x] w fun e w' => e = .returned (.int .i64 1) ∧ ∃ k, w' = w.drewN k := by
  have hself := ht.self
  obtain ⟨ao, cap, c1, hl⟩ := ht.lens
  obtain ⟨N, hN⟩ : ∃ N, ns.length = N := ⟨_, rfl⟩
  rw [hN] at c1 hl hn hx
  have hcase : x < 0 ∨ (¬ x < 0 ∧ (N : Int) ≤ x) ∨ (∃ j : Nat, x = (j : Int) ∧ j < N ∧ ns.getD j 0 = 0) := by
    rcases hx with h | h | h
    · exact .inl h
    · exact .inr (.inl ⟨by omega, h⟩)
    · by_cases h1 : x < 0
      · exact .inl h1
      · by_cases h2 : (N : Int) ≤ x
        · exact .inr (.inl ⟨h1, h2⟩)
        · exact .inr (.inr ⟨x.toNat, by omega, by omega, h⟩)
  clear hx ht
  rcases hcase with h | ⟨h, h2⟩ | ⟨j, rfl, hj, h0⟩
  · clear hl
    go_enter Tryd.func71, Tryd.ntmps71
    go_wp2_with (go_at_call 82; refine (tgiven_yes _ _ hself).mono ?_; rintro e w' ⟨rfl, hw⟩; obtain rfl := hw.symm)
    go_ret
    exact ⟨rfl, 0, rfl⟩
  · clear hl
    go_enter Tryd.func71, Tryd.ntmps71
    go_wp2_with (go_at_call 82; refine (tgiven_yes _ _ hself).mono ?_; rintro e w' ⟨rfl, hw⟩; obtain rfl := hw.symm)
    go_ret
    exact ⟨rfl, 0, rfl⟩
  · obtain ⟨g, rfl, c2⟩ := hl j hj
    rw [h0] at c2
    have c2 : w.cell? ⟨g, j, none⟩ = some (.int .i64 0) := c2
    have hji : (j : Int) < (N : Int) := by omega
    clear hl h0
    go_enter Tryd.func71, Tryd.ntmps71
    go_wp2_with (go_at_call 82; refine (tgiven_yes _ _ hself).mono ?_; rintro e w' ⟨rfl, hw⟩; obtain rfl := hw.symm)
    go_ret
    exact ⟨rfl, 0, rfl⟩
set_option maxRecDepth 20000 in
set_option maxHeartbeats 1000000 in
theorem put_in (lo hi t : Nat) (ns : List Nat) (R : Nat → Value) (v : Option Addr) (j : Nat) (w : World) (ht : Tab w lo hi t ns R) (hn : ns.length ≤ 288) (hj : j < ns.length) (h0 : 0 < ns.getD j 0) (P : Value → World → Prop)
    (hB : ∀ k, Calls Tryd.prog 54 #[.pointer v, .int .i64 ((rv (cw ns j) (ns.getD j 0) : Nat) : Int), .int .i64 ((ns.getD j 0 : Nat) : Int)] (w.drewN k) fun e w' => ∃ u, e = .returned (.int .i64 u) ∧ P (.int .i64 u) w') :
    Calls Tryd.prog 71 #[.pointer (some ⟨t, 0, none⟩), .pointer v, .int .i64 (j : Int)] w fun e w' => ∃ u, e = .returned (.int .i64 u) ∧ P (.int .i64 u) w' := by
  have hself := ht.self
  obtain ⟨ao, cap, c1, hl⟩ := ht.lens
  obtain ⟨ao2, cap2, c3, hl2⟩ := ht.words
  obtain ⟨g, rfl, c2⟩ := hl j hj
  obtain ⟨g2, rfl, c4⟩ := hl2 j hj
  obtain ⟨N, hN⟩ : ∃ N, ns.length = N := ⟨_, rfl⟩
  rw [hN] at c1 c3 hn hj
  obtain ⟨l, hll⟩ : ∃ l, ns.getD j 0 = l := ⟨_, rfl⟩
  rw [hll] at c2 c4 h0 hB
  obtain ⟨y, hy⟩ : ∃ y, rv (cw ns j) l = y := ⟨_, rfl⟩
  rw [hy] at c4 hB
  have HB : Hid _ := hB
  have hji : (j : Int) < (N : Int) := by omega
  have h0i : ¬ (l : Int) = 0 := by omega
  have h0b : ((l : Int) == 0) = false := by simpa using h0i
  clear hl hl2 ht hy hll hB
  go_enter Tryd.func71, Tryd.ntmps71
  go_wp2_with (go_at_call 82; refine (tgiven_yes _ _ hself).mono ?_; rintro e w' ⟨rfl, hw⟩; obtain rfl := hw.symm)
  have HB1 : Hid (Calls Tryd.prog 54 #[.pointer v, .int .i64 (y : Nat), .int .i64 (l : Nat)] w.drew fun e w' => ∃ u, e = .returned (.int .i64 u) ∧ P (.int .i64 u) w') := HB.out 1
  go_region_with (first | (go_at_call 54; refine Calls.mono HB1.out ?_; rintro e W2 ⟨u, rfl, hP⟩; have HP : Hid (P (.int .i64 u) W2) := hP; clear hP))
  all_goals
    go_wp2
    go_ret
    exact ⟨u, rfl, HP.out⟩
end Go.Proofs.YtbcflkdaeboflaaDoor
namespace Go.Proofs.YtbcflkdaeboflaaDoor
open Go.RowKit
set_option linter.unusedVariables false
set_option maxRecDepth 20000

/-- Its rows are rows of numbers. -/
def TabT (w : World) (lo hi t : Nat) (ns : List Nat) (R : Nat → Value) : Prop := Tab w lo hi t ns R ∧ ∀ k, k < 18 → ∀ g, (R k).ownBlock = some g → ∃ cur, w.heap[g]? = some (.cells cur 3 (0, 0))
theorem TabSt.tabT {w wr : World} {B t L N : Nat} {cws : Nat → Nat} {ns : List Nat} {R : Nat → Value} (h : TabSt w wr B t L N (ew ns 15) cws R (tX ns N)) (hN : ns.length = N) : TabT wr B wr.heap.size t ns R := by
  refine ⟨h.tab hN, fun k hk g hg => ?_⟩
  rcases (h.own k hk).2 with ⟨e1, e2⟩ | ⟨g', cap, cur, e1, e2, e3, e4⟩
  · rw [e1] at hg; simp [Value.ownBlock] at hg
  · rw [e1] at hg
    have : g' = g := by simpa [Value.ownBlock] using hg
    subst this
    exact ⟨cur, e3⟩
def TabEndT (w : World) (xs : List Int) (e : Ending) (w' : World) : Prop :=
  ((isCode0 xs ∧ ∃ t R, e = .returned (.tuple #[.pointer (some ⟨t, 0, none⟩), .int .i64 0]) ∧ TabT w' w.heap.size w'.heap.size t (nsOf xs) R) ∨ (¬ isCode0 xs ∧ e = .returned (.tuple #[.pointer none, .int .i64 30]))) ∧ Below w.heap.size w w'
set_option maxRecDepth 20000 in
set_option maxHeartbeats 4000000 in
theorem newTableT_ok (xs : List Int) (a : Option Addr) (c N : Nat) (w : World) (hN : xs.length = N) (hrow : IRow w a xs) (hlen : N ≤ 9223372036854775807) :
    Calls Tryd.prog 69 #[.slice a N c] w fun e w' => TabEndT w xs e w' := by
  have HE : Hid (Calls Tryd.prog 79 #[.slice a N c] w fun e w' => EndsEnd w xs e w') := wordEnds_ok xs a c N w hN hrow hlen
  have HC : Hid (∀ W, Below w.heap.size w W → Calls Tryd.prog 80 #[.slice a N c] W fun e w' => CodesEnd W xs e w') := fun W hW => codes_ok xs a c N W hN (hrow.below hW) hlen
  have HR : Hid (IRow w a xs) := hrow
  have HN : Hid (xs.length = N) := hN
  clear hN hrow
  go_enter Tryd.func69, Tryd.ntmps69
  go_wp2_with fail
  refine Calls.mono HE.out ?_
  rintro e w1 ⟨hcase, hb1⟩
  have HB : Hid (Below w.heap.size w w1) := hb1
  have hgen : ∃ (g : Nat → Nat) (q : Int), e = .returned (.tuple #[.agg (lcells 16 g), .int .i64 q]) ∧ Hid ((may xs = true ∧ ew (nsOf xs) 15 ≤ 32768 ∧ g = ew (nsOf xs) ∧ q = 0) ∨ (¬ (may xs = true ∧ ew (nsOf xs) 15 ≤ 32768) ∧ q = 30)) := by
    rcases hcase with ⟨h1, h2, rfl⟩ | ⟨h1, rfl⟩
    · exact ⟨_, _, rfl, .inl ⟨h1, h2, rfl, rfl⟩⟩
    · exact ⟨_, _, rfl, .inr ⟨h1, rfl⟩⟩
  obtain ⟨g, q, rfl, HG⟩ := hgen
  have hAg : (lcells 16 g)[15]? = some (.int .i64 (g 15 : Nat)) := lcells_get 16 g 15 (by omega)
  have hsv := run_storeCells_blk (P := Tryd.prog) (w1.alloc (.cells #[.int .i64 0, .int .i64 0, .int .i64 0, .int .i64 0, .int .i64 0, .int .i64 0, .int .i64 0, .int .i64 0, .int .i64 0, .int .i64 0, .int .i64 0, .int .i64 0, .int .i64 0, .int .i64 0, .int .i64 0, .int .i64 0] 136)) w1.heap.size 136 136 _ (lcells 16 g) (heap_alloc_last _ _) (by rw [lcells_size]; exact perSize) (by rw [lcells_size]; rfl) (lcells_one _ _)
  rw [setRow_last] at hsv
  have hAs := lcells_size 16 g
  obtain ⟨A, hA⟩ : ∃ A, lcells 16 g = A := ⟨_, rfl⟩
  rw [hA] at hAg hsv hAs
  rw [hA]
  have HSV : Hid _ := hsv
  clear hcase hb1 hsv hA
  go_wp2
  simp only [HSV.out, Result.andThen]
  rw [Oper.upon_skip]
  clear hAs HSV
  rcases HG.out with ⟨hmay, hfit, hge, rfl⟩ | ⟨hno, rfl⟩
  · have HM : Hid (may xs = true ∧ ew (nsOf xs) 15 ≤ 32768) := ⟨hmay, hfit⟩
    have hN288 : N ≤ 288 := by rw [← HN.out]; exact may_len hmay
    obtain ⟨sh, hsh⟩ : ∃ sh, g 15 = sh := ⟨_, rfl⟩
    rw [hsh] at hAg
    have HSH : Hid (ew (nsOf xs) 15 = sh) := by show _ = _; rw [← hsh, hge]
    have hw2 : Below w.heap.size w (w1.alloc (.cells A 136)) := HB.out.alloc HB.out.size _
    have hAl : (w1.alloc (.cells A 136)).heap[w1.heap.size]? = some (.cells A 136 (0, 0)) := heap_alloc_last _ _
    have hc15 : (w1.alloc (.cells A 136)).cell? ⟨w1.heap.size, 15, none⟩ = some (.int .i64 (sh : Nat)) := by unfold World.cell?; rw [hAl]; exact hAg
    have hpl : w1.heap.size < (w1.alloc (.cells A 136)).heap.size := by simp
    obtain ⟨W, hW⟩ : ∃ W, w1.alloc (.cells A 136) = W := ⟨_, rfl⟩
    obtain ⟨p, hp⟩ : ∃ p, w1.heap.size = p := ⟨_, rfl⟩
    rw [hW] at hw2 hc15 hpl ⊢
    rw [hp] at hc15 hpl ⊢
    have HBW : Hid (Below w.heap.size w W) := hw2
    clear hw2 hge hsh hW hp hAl hAg hmay hfit HG HE HB
    go_wp2_with fail
    refine (HC.out W HBW.out).mono ?_
    rintro e w3 ⟨hcase, hb3⟩
    rcases hcase with ⟨_, _, L, rfl, hlb, hnew⟩ | ⟨hno, rfl⟩
    · rw [HN.out] at hlb ⊢
      have hc16 : w3.cell? ⟨p, 15, none⟩ = some (.int .i64 (sh : Nat)) := by rw [hb3.cell hpl]; exact hc15
      have HB3 : Hid (Below w.heap.size w w3) := HBW.out.trans (hb3.mono HBW.out.size)
      have HLB : Hid (LB w3 L N (cw (nsOf xs))) := hlb
      clear hb3 hlb hnew hc15 hpl
      go_wp2
      obtain ⟨i0, hi, hz0, hz1, hz2⟩ := info_split intInfo
      have HI : Hid (Tryd.prog.info? 3 = some i0 ∧ i0.zero = some (.int .i64 0) ∧ i0.size = 1 ∧ i0.bytes = 8) := ⟨hi, hz0, hz1, hz2⟩
      clear hi hz0 hz1 hz2
      go_loopw [9, 10, 34] (fun _ _ v34 wr => ∃ (i : Nat) (R : Nat → Value), v34 = .int .i64 i ∧ i ≤ N ∧ Hid (TabSt w wr w.heap.size w3.heap.size L N sh (cw (nsOf xs)) R (tX (nsOf xs) i))) (fun _ _ v34 _ => N - (intOf v34).toNat)
      case atStart =>
        refine ⟨0, fun _ => .slice none 0 0, rfl, by omega, ?_⟩
        rw [tcs_zero]
        exact TabSt.start HB3.out HLB.out
      case round =>
        obtain ⟨i, R, rfl, hi, HS⟩ := hrel
        by_cases hlt : i < N
        · have hlti : (i : Int) < (N : Int) := by omega
          obtain ⟨b, off, rfl, hcell, hb⟩ := (HR.out.below HS.out.bel).at (show i < xs.length by rw [HN.out]; exact hlt)
          obtain ⟨f, hf⟩ : ∃ f : Nat, xs.getD i 0 = (f : Int) := ⟨(xs.getD i 0).toNat, by have := (may_get HM.out.1 i).1; omega⟩
          have hf15 : f ≤ 15 := by have := (may_get HM.out.1 i).2; omega
          have hfn : (nsOf xs).getD i 0 = f := by rw [nsOf_get, hf]; simp
          rw [hf] at hcell
          have HFN : Hid ((nsOf xs).getD i 0 = f) := hfn
          clear hf hfn hb
          obtain ⟨t, ht⟩ : ∃ t, w3.heap.size = t := ⟨_, rfl⟩
          rw [ht] at HS ⊢
          obtain ⟨V0, hV0⟩ : ∃ V, R 0 = V := ⟨_, rfl⟩
          have c0 := (HS.out.cell (k := 0) (by omega)).1
          rw [hV0] at c0
          have o0 := HS.out.own 0 (by omega)
          have hl0 : (tX (nsOf xs) i 0).length = i := by simp [tX]
          rw [hV0, hl0] at o0
          have HO : Hid (∀ o, (wr.alloc o).ownsRow w.heap.size 3 1 V0 i (ics (tX (nsOf xs) i 0)) ∧ w.heap.size ≤ (wr.alloc o).heap.size) := fun o => ⟨o0.alloc o, by have := HS.out.bsz; simp; omega⟩
          have HV0 : Hid (R 0 = V0 ∧ (tX (nsOf xs) i 0).length = i) := ⟨hV0, hl0⟩
          clear hV0 o0 hl0
          go_wp2_with (at_builtin; refine wpList_append_lies _ rfl _ _ 44 rfl w.heap.size 3 i0 (.int .i64 0) 1 8 Tryd.underlying44 HI.out.1 HI.out.2.1 HI.out.2.2.1 HI.out.2.2.2 rfl (by decide) V0 i (ics (tX (nsOf xs) i 0)) rfl (HO.out _).1 ⟨wr.heap.size, 0, none⟩ 1 1 [.int .i64 (f : Int)] rfl rfl ?c1 ?c2 (by decide) ?c3 ?c4 (HO.out _).2 _ rfl ?_)
          case c1 =>
            intro j u hj
            match j, hj with
            | 0, hj => simp at hj; subst hj; simp [Addr.add]
          case c2 => intro u hu; simp at hu; subst hu; rfl
          case c3 => unfold maxLen; omega
          case c4 => omega
          intro g1 cap1 wa hown hgrow hat hgl
          have hgrow' : ((wr.drewN 0).alloc (.cells #[.int .i64 (f : Int)] 3)).grownBy wa (R 0).ownBlock := by rw [HV0.out.1]; exact hgrow
          obtain ⟨s1, s2⟩ := HS.out.seen (k := 0) (by omega) hgrow'
          have H1 := HS.out.put (k := 0) (by omega) (x := f) HV0.out.2.symm hown hgrow' (by rw [HV0.out.1]; simpa using hat)
          obtain ⟨R1, hR1⟩ : ∃ R1, upd R 0 (.slice (some ⟨g1, 0, none⟩) (i + 1) cap1) = R1 := ⟨_, rfl⟩
          obtain ⟨X1, hX1⟩ : ∃ X1, upd (tX (nsOf xs) i) 0 (tX (nsOf xs) i 0 ++ [f]) = X1 := ⟨_, rfl⟩
          have HX1 : Hid (upd (tX (nsOf xs) i) 0 (tX (nsOf xs) i 0 ++ [f]) = X1) := hX1
          have e1 : R1 1 = R 1 := by rw [← hR1]; exact upd_ne _ _ _ (by omega)
          have e2 : X1 1 = tX (nsOf xs) i 1 := by rw [← hX1]; exact upd_ne _ _ _ (by omega)
          rw [hR1, hX1] at H1
          have H1 : Hid (TabSt w (wa.setCell ⟨t, 1, none⟩ (.slice (some ⟨g1, 0, none⟩) (i + 1) cap1)) w.heap.size t L N sh (cw (nsOf xs)) R1 X1) := H1
          obtain ⟨V1, hV1⟩ : ∃ V, R 1 = V := ⟨_, rfl⟩
          obtain ⟨k1, k2⟩ := s1 0 (by omega)
          have k1 : wa.cell? ⟨t, 1, none⟩ = some V0 := by rw [← HV0.out.1]; exact k1
          have k2 : wa.frozen? ⟨t, 1, none⟩ = false := k2
          obtain ⟨k3, k4⟩ := s1 1 (by omega)
          rw [hV1] at k3
          have k3 : wa.cell? ⟨t, 2, none⟩ = some V1 := k3
          have k4 : wa.frozen? ⟨t, 2, none⟩ = false := k4
          have k5 := (s2.cell hlt).1
          obtain ⟨cwi, hcwi⟩ : ∃ v, cw (nsOf xs) i = v := ⟨_, rfl⟩
          rw [hcwi] at k5
          have hLt := HS.out.neL
          have HTU : Hid (∀ W, Calls Tryd.prog 81 #[.int .i64 cwi, .int .i64 f] W fun e w' => e = .returned (.int .i64 (rv cwi f : Nat)) ∧ ∃ k, w' = W.drewN k) := fun W => by
            refine turn_ok cwi f hf15 ?_ W
            have := cw_fits HM.out.1 HM.out.2 i (by rw [HN.out]; exact hlt)
            rw [HFN.out, hcwi] at this
            exact this
          have HCW : Hid (cw (nsOf xs) i = cwi) := hcwi
          obtain ⟨y, hy⟩ : ∃ y, rv cwi f = y := ⟨_, rfl⟩
          rw [hy] at HTU
          have HY : Hid (rv (cw (nsOf xs) i) ((nsOf xs).getD i 0) = y ∧ R1 1 = V1 ∧ (X1 1).length = i) := ⟨by rw [HFN.out, hcwi]; exact hy, by rw [e1]; exact hV1, by rw [e2]; simp [tX]⟩
          clear hown hgrow hgrow' hat hgl s1 s2 hy hcwi e1 e2 hR1 hX1 hV1 HO c0
          go_wp2
          have q1 := H1.out.cell (k := 1) (by omega)
          rw [HY.out.2.1] at q1
          obtain ⟨q1, q2⟩ := q1
          have q1 : (wa.setCell ⟨t, 1, none⟩ (.slice (some ⟨g1, 0, none⟩) (i + 1) cap1)).cell? ⟨t, 2, none⟩ = some V1 := q1
          have q2 : (wa.setCell ⟨t, 1, none⟩ (.slice (some ⟨g1, 0, none⟩) (i + 1) cap1)).frozen? ⟨t, 2, none⟩ = false := q2
          have q3 := (H1.out.words.cell hlt).1
          rw [HCW.out] at q3
          obtain ⟨W1, hW1⟩ : ∃ W, wa.setCell ⟨t, 1, none⟩ (.slice (some ⟨g1, 0, none⟩) (i + 1) cap1) = W := ⟨_, rfl⟩
          rw [hW1] at H1 q1 q2 q3 ⊢
          clear hW1 k1 k2 k3 k4 k5
          go_region_law
            (first
              | (refine step_append_lies _ rfl _ _ 44 rfl w.heap.size 3 i0 (.int .i64 0) 1 8 Tryd.underlying44 HI.out.1 HI.out.2.1 HI.out.2.2.1 HI.out.2.2.2 rfl (by decide) V1 i (ics (X1 1)) rfl (HO2.out _).1 ⟨_, 0, none⟩ 1 1 [.int .i64 (y : Nat)] rfl rfl (news1 _ _ _) (one1 _) (by decide) (by unfold maxLen; omega) (by omega) (HO2.out _).2 _ rfl ?_; intro g2 cap2 wb hown hgrow hat hgl; have hgrow' : ((V2.drewN 0).alloc (.cells #[.int .i64 (y : Nat)] 3)).grownBy wb (R1 1).ownBlock := (by rw [HY.out.2.1]; exact hgrow); have hseen := HT2.out.seen (k := 1) (by omega) hgrow'; have KS1 := (⟨by rw [← HY.out.2.1]; exact (hseen.1 1 (by omega)).1, (hseen.1 1 (by omega)).2, by rw [← HCW.out]; exact (hseen.2.cell hlt).1⟩ : wb.cell? ⟨t, 2, none⟩ = some V1 ∧ wb.frozen? ⟨t, 2, none⟩ = false ∧ wb.cell? ⟨L, i, none⟩ = some (.int .i64 (cwi : Nat))); obtain ⟨KS1, KS1f, KS1c⟩ := KS1)
              | (go_simp; go_at_call 81; refine (HTU.out _).mono ?_; rintro e V2 ⟨rfl, qd, hV2⟩; have KS := (by rw [hV2]; exact ⟨q1, q2, q3⟩ : V2.cell? ⟨t, 2, none⟩ = some V1 ∧ V2.frozen? ⟨t, 2, none⟩ = false ∧ V2.cell? ⟨L, i, none⟩ = some (.int .i64 (cwi : Nat))); have HT2 : Hid (TabSt w V2 w.heap.size t L N sh (cw (nsOf xs)) R1 X1) := (by show TabSt _ _ _ _ _ _ _ _ _ _; rw [hV2]; exact ⟨H1.out.blk, H1.out.own, H1.out.apart, H1.out.notL, H1.out.words, ⟨H1.out.bel.os, H1.out.bel.tape, H1.out.bel.output, H1.out.bel.size, H1.out.bel.block⟩, H1.out.tge, H1.out.bsz⟩); have HO2 : Hid (∀ o, (V2.alloc o).ownsRow w.heap.size 3 1 V1 i (ics (X1 1)) ∧ w.heap.size ≤ (V2.alloc o).heap.size) := (fun o => ⟨by have h := HT2.out.own 1 (by omega); rw [HY.out.2.1, HY.out.2.2] at h; exact h.alloc o, by have := HT2.out.bsz; simp; omega⟩); have KS0 := (⟨by rw [World.cell?_alloc_past _ _ _ (lt_cell KS.1)]; exact KS.1, HT2.out.frozen_alloc _, by rw [World.cell?_alloc_past _ _ _ (lt_cell KS.2.2)]; exact KS.2.2⟩ : (V2.alloc (.cells #[.int .i64 (y : Nat)] 3)).cell? ⟨t, 2, none⟩ = some V1 ∧ (V2.alloc (.cells #[.int .i64 (y : Nat)] 3)).frozen? ⟨t, 2, none⟩ = false ∧ (V2.alloc (.cells #[.int .i64 (y : Nat)] 3)).cell? ⟨L, i, none⟩ = some (.int .i64 (cwi : Nat))); obtain ⟨KS, KSf, KSc⟩ := KS; obtain ⟨KS0, KS0f, KS0c⟩ := KS0; clear hV2))
          all_goals
            have H2 := HT2.out.put (k := 1) (by omega) (x := y) HY.out.2.2.symm hown hgrow' (by rw [HY.out.2.1]; simpa using hat)
            obtain ⟨R2, hR2⟩ : ∃ R2, upd R1 1 (.slice (some ⟨g2, 0, none⟩) (i + 1) cap2) = R2 := ⟨_, rfl⟩
            obtain ⟨X2, hX2⟩ : ∃ X2, upd X1 1 (X1 1 ++ [y]) = X2 := ⟨_, rfl⟩
            have HX2 : Hid (upd X1 1 (X1 1 ++ [y]) = X2) := hX2
            rw [hR2, hX2] at H2
            have H2 : Hid (TabSt w (wb.setCell ⟨t, 2, none⟩ (.slice (some ⟨g2, 0, none⟩) (i + 1) cap2)) w.heap.size t L N sh (cw (nsOf xs)) R2 X2) := H2
            obtain ⟨W2, hW2⟩ : ∃ W, wb.setCell ⟨t, 2, none⟩ (.slice (some ⟨g2, 0, none⟩) (i + 1) cap2) = W := ⟨_, rfl⟩
            rw [hW2] at H2 ⊢
            clear hown hgrow hgrow' hat hgl hseen KS KSf KSc KS0 KS0f KS0c KS1 KS1f KS1c HO2 HT2 hX2 hR2 hW2 q1 q2 q3
            by_cases hp : 0 < f
            · have hpi : (0 : Int) < (f : Int) := by omega
              obtain ⟨V2', hV2'⟩ : ∃ V, R2 (f + 2) = V := ⟨_, rfl⟩
              have r := H2.out.cell (k := f + 2) (by omega)
              rw [hV2'] at r
              obtain ⟨r1, r2⟩ := r
              obtain ⟨n2, hn2⟩ : ∃ n, (X2 (f + 2)).length = n := ⟨_, rfl⟩
              have o2 := H2.out.own (f + 2) (by omega)
              rw [hV2', hn2] at o2
              have HO3 : Hid (∀ o, (W2.drew.alloc o).ownsRow w.heap.size 3 1 V2' n2 (ics (X2 (f + 2))) ∧ w.heap.size ≤ (W2.drew.alloc o).heap.size) := fun o => ⟨World.ownsRow.alloc (w := W2.drew) o2 o, by have := H2.out.bsz; simp; omega⟩
              have HV2 : Hid (R2 (f + 2) = V2' ∧ (X2 (f + 2)).length = n2) := ⟨hV2', hn2⟩
              have hn288 : n2 ≤ 288 := by
                rw [← hn2, ← HX2.out, upd_ne _ _ _ (by omega), ← HX1.out, upd_ne _ _ _ (by omega)]
                unfold tX
                rw [if_neg (by omega), if_neg (by omega)]
                exact Nat.le_trans (Nat.le_trans (List.length_filter_le _ _) (by simp)) (show i ≤ 288 by omega)
              have f16 : (f : Int) < 16 := by omega
              rw [show f + 2 + 1 = 3 + f by omega] at r1 r2
              have r3 : (W2.alloc (.cells #[.int .i64 (i : Nat)] 3)).cell? ⟨t, 3 + f, none⟩ = some V2' := by rw [World.cell?_alloc_past _ _ _ (lt_cell r1)]; exact r1
              have HO4 : Hid (∀ o, (W2.alloc o).drew.ownsRow w.heap.size 3 1 V2' n2 (ics (X2 (f + 2))) ∧ w.heap.size ≤ (W2.alloc o).drew.heap.size) := fun o => ⟨World.ownsRow.alloc (w := W2) o2 o, by have := H2.out.bsz; simp; omega⟩
              clear o2 hV2' hn2
              go_wp2
              go_region_law
                (first
                  | (refine step_append_lies _ rfl _ _ 44 rfl w.heap.size 3 i0 (.int .i64 0) 1 8 Tryd.underlying44 HI.out.1 HI.out.2.1 HI.out.2.2.1 HI.out.2.2.2 rfl (by decide) V2' n2 (ics (X2 (f + 2))) rfl (by first | exact (HO3.out _).1 | exact (HO4.out _).1) ⟨W2.heap.size, 0, none⟩ 1 1 [.int .i64 (i : Nat)] rfl rfl (by first | exact news1 W2 _ _ | exact news1 W2.drew _ _) (one1 _) (by decide) (by unfold maxLen; omega) (by omega) (by first | exact (HO3.out _).2 | exact (HO4.out _).2) _ rfl ?_; intro g3 cap3 wc hown hgrow hat hgl; have hgrow' : ((W2.drewN 1).alloc (.cells #[.int .i64 (i : Nat)] 3)).grownBy wc (R2 (f + 2)).ownBlock := (by rw [HV2.out.1]; exact hgrow); have hseen := H2.out.seen (k := f + 2) (by omega) hgrow'; have KS1 := (⟨by rw [← HV2.out.1, show 3 + f = f + 2 + 1 by omega]; exact (hseen.1 (f + 2) (by omega)).1, by rw [show 3 + f = f + 2 + 1 by omega]; exact (hseen.1 (f + 2) (by omega)).2⟩ : wc.cell? ⟨t, 3 + f, none⟩ = some V2' ∧ wc.frozen? ⟨t, 3 + f, none⟩ = false); obtain ⟨KS1, KS1f⟩ := KS1))
              all_goals
                have H3 := H2.out.put (k := f + 2) (by omega) (x := i) HV2.out.2.symm hown hgrow' (by rw [HV2.out.1]; simpa using hat)
                rw [← HX2.out, ← HX1.out, tX_take (nsOf xs) i f y hp HFN.out HY.out.1, show f + 2 + 1 = 3 + f by omega] at H3
                have H3 : Hid _ := H3
                clear hown hgrow hgrow' hat hgl hseen KS1 KS1f r1 r2 r3
                go_wp2
                exact ⟨⟨i + 1, _, by go_num, by omega, H3⟩, by simp [intOf]; omega⟩
            · have hpi : ¬ (0 : Int) < (f : Int) := by omega
              have H3 := H2.out
              rw [← HX2.out, ← HX1.out, tX_skip (nsOf xs) i f y (by omega) HFN.out HY.out.1] at H3
              have H3 : Hid _ := H3
              go_wp2
              exact ⟨⟨i + 1, R2, by go_num, by omega, H3⟩, by simp [intOf]; omega⟩
        · have hlti : ¬ (i : Int) < (N : Int) := by omega
          obtain rfl : i = N := by omega
          have HT : Hid (TabT wr w.heap.size wr.heap.size w3.heap.size (nsOf xs) R ∧ Below w.heap.size w wr) := by
            have h := HS.out
            rw [← HSH.out] at h
            exact ⟨h.tabT (by rw [nsOf_length, HN.out]), h.bel⟩
          go_wp2
          go_ret2
          exact ⟨.inl ⟨HM.out, w3.heap.size, R, rfl, HT.out.1⟩, HT.out.2⟩
    · exact absurd HM.out hno
  · have HB2 : Hid (∀ o, Below w.heap.size w (w1.alloc o)) := fun o => HB.out.alloc HB.out.size _
    go_wp2
    go_ret2
    exact ⟨.inr ⟨hno, rfl⟩, HB2.out _⟩
end Go.Proofs.YtbcflkdaeboflaaDoor
