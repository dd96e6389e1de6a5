/- The writer's other calls: refusals, Align, Bytes, Place, Done. -/
import Derived.Test.YtjjbbfiogkpodaaWb
import Derived.Test.YtjjbbfiogkpodaaWn
namespace Go.Proofs.Ytjjbbfiogkpodaa
open Go.RowKit
set_option linter.unusedVariables false

/-- A block of another type than a row's is as it was when the row grows. -/
theorem row_kept {w w' : World} {B b size n : Nat} {E T : TypeId} {v : Value} {xs : List Value} {cs : Array Value} {mk : Nat × Nat} (hbl : w.heap[b]? = some (.cells cs T mk)) (hT : T ≠ E) (hown : w.ownsRow B E size v n xs) (hg : w.grownBy w' v.ownBlock) : w'.heap[b]? = w.heap[b]? :=
  hg.block b (lt_of_block hbl) (fun e => by
    rcases hown.2 with ⟨rfl, _⟩ | ⟨g', cap', cur, rfl, _, hh, _⟩
    · simp [Value.ownBlock] at e
    · have e' : b = g' := by simpa [Value.ownBlock] using e
      subst e'; rw [hbl] at hh; cases hh; exact hT rfl)
theorem WS.self {w : World} {B b : Nat} {L : List Nat} (h : WS w B b L) : w.cell? ⟨b, 0, none⟩ = some (.pointer (some ⟨b, 0, none⟩)) := by
  obtain ⟨v, hb, _⟩ := h; exact (cells3 hb).1
theorem WS.place {w : World} {B b : Nat} {L : List Nat} (h : WS w B b L) : w.cell? ⟨b, 2, none⟩ = some (.int .i64 (L.length : Nat)) := by
  obtain ⟨v, hb, _⟩ := h; exact (cells3 hb).2.2.1
theorem WS.lt {w : World} {B b : Nat} {L : List Nat} (h : WS w B b L) : b < w.heap.size := by
  obtain ⟨v, hb, _⟩ := h; exact lt_of_block hb
/-- A writer stays what it is where its own block and all rows of bytes stay. -/
theorem WS.kept {w w' : World} {B b : Nat} {L : List Nat} (h : WS w B b L) (hb : w'.heap[b]? = w.heap[b]?) (hrow : ∀ (g : Nat) (cur : Array Value), w.heap[g]? = some (.cells cur 5 (0, 0)) → w'.heap[g]? = w.heap[g]?) : WS w' B b L := by
  obtain ⟨v, h1, h2, h3, h4⟩ := h
  refine ⟨v, hb.trans h1, ⟨h2.1, ?_⟩, h3, h4⟩
  rcases h2.2 with hn | ⟨g, cap, cur, hv, hg, hh, r⟩
  · exact .inl hn
  · exact .inr ⟨g, cap, cur, hv, hg, (hrow g cur hh).trans hh, r⟩
theorem WS.below {w w' : World} {B b : Nat} {L : List Nat} (h : WS w B b L) (hb : Below w.heap.size w w') : WS w' B b L :=
  h.kept (hb.block b h.lt) (fun g cur hg => hb.block g (lt_of_block hg))
theorem WS.drewN {w : World} {B b : Nat} {L : List Nat} (h : WS w B b L) (n : Nat) : WS (w.drewN n) B b L := h
/-- Another writer's calls leave it as it was, where that one's rows are younger. -/
theorem WS.other {w w' : World} {B b B2 b2 : Nat} {L M : List Nat} (h : WS w B b L) (h2 : WS w B2 b2 M) (hne : b ≠ b2) (hf : Fr 5 w.heap.size b2 w w') : WS w' B b L := by
  obtain ⟨v2, hb2, _⟩ := h2
  refine h.kept (hf.block b h.lt hne (.inl h.lt)) (fun g cur hg => hf.block g (lt_of_block hg) ?_ (.inl (lt_of_block hg)))
  rintro rfl
  rw [hb2] at hg; cases hg
/-- A new writer's state. -/
theorem WS.new (w : World) (B : Nat) : WS (w.alloc (.cells #[.pointer (some ⟨w.heap.size, 0, none⟩), .slice none 0 0, .int .i64 0] 59)) B w.heap.size [] :=
  ⟨.slice none 0 0, heap_alloc_new _ _, World.ownsRow_nil _ _ _ _, (fun x hx => by cases hx), by simp⟩
theorem wbits_arg (B b : Nat) (L : List Nat) (x n : Int) (w : World) (h : n < 0 ∨ 57 < n ∨ x < 0 ∨ ∃ m : Nat, n = m ∧ m ≤ 57 ∧ (2 : Int) ^ m ≤ x) (hw : WS w B b L) :
    Calls Try.prog 18 #[.pointer (some ⟨b, 0, none⟩), .int .i64 x, .int .i64 n] w fun e w' => e = .returned (.int .i64 1) ∧ w' = w := by
  have h0 := hw.self
  clear hw
  by_cases h1 : n < 0
  · clear h
    go_enter Try.func18, Try.ntmps18
    go_wp2_with (go_at_call 37; refine (wgiven_yes _ _ h0).mono ?_; rintro e w' ⟨rfl, rfl⟩)
    go_ret
    exact ⟨rfl, rfl⟩
  · by_cases h2 : 57 < n
    · clear h
      go_enter Try.func18, Try.ntmps18
      go_wp2_with (go_at_call 37; refine (wgiven_yes _ _ h0).mono ?_; rintro e w' ⟨rfl, rfl⟩)
      go_ret
      exact ⟨rfl, rfl⟩
    · by_cases h3 : x < 0
      · clear h
        go_enter Try.func18, Try.ntmps18
        go_wp2_with (go_at_call 37; refine (wgiven_yes _ _ h0).mono ?_; rintro e w' ⟨rfl, rfl⟩)
        go_ret
        exact ⟨rfl, rfl⟩
      · rcases h with h | h | h | ⟨m, rfl, hm, hx⟩
        · omega
        · omega
        · omega
        have HX : Hid ((2 : Int) ^ m ≤ x) := hx
        clear hx
        go_enter Try.func18, Try.ntmps18
        go_wp2_with (go_at_call 37; refine (wgiven_yes _ _ h0).mono ?_; rintro e w' ⟨rfl, rfl⟩)
        · go_ret
          exact ⟨rfl, rfl⟩
        · exfalso
          have hh : ((0 ≤ (m : Int) ∧ (m : Int) ≤ 57) ∧ 0 ≤ x) ∧ x < wrap64 (2 ^ m) := by assumption
          have := HX.out
          rw [wrap_pow m hm] at hh
          omega
theorem walign (B b : Nat) (L : List Nat) (w : World) (hL : L.length ≤ 1125899906842600) (hw : WS w B b L) :
    Calls Try.prog 19 #[.pointer (some ⟨b, 0, none⟩)] w fun e w' => e = .returned (.int .i64 0) ∧ WS w' B b (padded L) ∧ Only b w w' := by
  have HW : Hid (WS w B b L) := hw
  have h0 := hw.self
  have h2 := hw.place
  obtain ⟨v, hbl, _⟩ := hw
  obtain ⟨_, _, _, _, f2⟩ := cells3 hbl
  clear hbl
  go_enter Try.func19, Try.ntmps19
  go_wp2_with (first | (go_at_call 37; refine (wgiven_yes _ _ h0).mono ?_; rintro e w' ⟨rfl, rfl⟩) | (go_at_call 38; refine (byteEnd _ _ (by omega) (by omega)).mono ?_; rintro e w' ⟨rfl, rfl⟩))
  go_ret
  refine ⟨rfl, ?_, Only.setCell b 2 _ _⟩
  obtain ⟨v, hbl, hown, h01, _⟩ := HW.out
  have hl := padded_length L
  refine ⟨v, ?_, ?_, padded_01 h01, by omega⟩
  · rw [hl]; exact block_setCell (i := 2) hbl
  · have e : ((padded L).length + 7) / 8 = (L.length + 7) / 8 := by omega
    have e2 : pcells (padded L) = pcells L := by unfold pcells; rw [pack_padded]
    rw [e, e2]
    rcases hown.2 with ⟨rfl, h0⟩ | ⟨g, cap, cur, rfl, hB, hh, r⟩
    · exact ⟨hown.1, .inl ⟨rfl, h0⟩⟩
    · refine ownsRow_block hown (Below.heap_setCell _ _ _ _ (fun e => ?_))
      have e' : g = b := e
      subst e'; rw [hbl] at hh; cases hh
theorem wdone (B b : Nat) (L : List Nat) (w : World) (hw : WS w B b L) :
    Calls Try.prog 16 #[.pointer (some ⟨b, 0, none⟩)] w fun e w' => e = .returned (.string (toBA (pack L))) ∧ w' = w := by
  have h0 := hw.self
  obtain ⟨v, hbl, hown, h01, _⟩ := hw
  obtain ⟨_, h1, _, _, _⟩ := cells3 hbl
  have hc : (convert 57 9 v).run Try.prog w = .ok (.string (toBA (pack L))) w := by
    refine conv_row w _ _ 5 B v (pack L) Try.underlying57 Try.underlying5 Try.underlying9 (by rw [pack_length]; exact hown) ?_
    intro x hx
    obtain ⟨j, _, rfl⟩ := List.mem_map.1 hx
    exact byteOf_lt h01 j
  clear hbl hown
  go_enter Try.func16, Try.ntmps16
  go_wp2_with (go_at_call 37; refine (wgiven_yes _ _ h0).mono ?_; rintro e w' ⟨rfl, rfl⟩)
  go_ret
  exact ⟨rfl, rfl⟩
theorem wbytes_bits (B b : Nat) (L : List Nat) (s : ByteArray) (w : World) (h8 : L.length % 8 ≠ 0) (hw : WS w B b L) :
    Calls Try.prog 20 #[.pointer (some ⟨b, 0, none⟩), .string s] w fun e w' => e = .returned (.int .i64 10) ∧ w' = w := by
  have h0 := hw.self
  have h2 := hw.place
  clear hw
  go_enter Try.func20, Try.ntmps20
  go_wp2_with (go_at_call 37; refine (wgiven_yes _ _ h0).mono ?_; rintro e w' ⟨rfl, rfl⟩)
  go_ret
  exact ⟨rfl, rfl⟩
set_option maxHeartbeats 400000 in
theorem wbytes (B b : Nat) (L : List Nat) (s : ByteArray) (w : World) (h8 : L.length % 8 = 0) (hL : L.length + 8 * s.size ≤ 1125899906842624) (hw : WS w B b L) (hB : B ≤ w.heap.size) :
    Calls Try.prog 20 #[.pointer (some ⟨b, 0, none⟩), .string s] w fun e w' => e = .returned (.int .i64 0) ∧ WS w' B b (L ++ textBits s) ∧ Fr 5 B b w w' := by
  have h0 := hw.self
  obtain ⟨v, hbl, hown, h01, hlen⟩ := hw
  obtain ⟨p, hp⟩ : ∃ p, p = L.length := ⟨_, rfl⟩
  rw [← hp] at hbl hown hlen h8 hL
  have HP : Hid (p = L.length) := hp
  obtain ⟨m, hm⟩ : ∃ m, m = (p + 7) / 8 := ⟨_, rfl⟩
  rw [← hm] at hown
  have hmb : m + s.size ≤ 140737488355328 := by omega
  have HM : Hid (m = (p + 7) / 8) := hm
  obtain ⟨_, c1, c2, f1, f2⟩ := cells3 hbl
  have hBw : B ≤ w.heap.size := hB
  clear hp hm
  obtain ⟨i0, hi, hz0, hz1, hz2⟩ := info_parts Try.infoU8
  go_enter Try.func20, Try.ntmps20
  go_wp2_with (first | (go_at_call 37; refine (wgiven_yes _ _ h0).mono ?_; rintro e w' ⟨rfl, rfl⟩) | (at_builtin; refine Lib.wpList_append_own_string _ rfl _ _ 57 9 rfl B 5 i0 Try.underlying57 Try.underlying9 hi hz0 hz1 hz2 v m (pcells L) rfl hown s rfl ?c1 ?c2 hBw ?_))
  case c1 => unfold maxLen; omega
  case c2 => exact hmb
  intro v1 w1 hown1 hgrow _
  obtain ⟨ao, ln, cp, hv1⟩ : ∃ ao ln cp, v1 = .slice ao ln cp := by
    rcases hown1.2 with ⟨rfl, _⟩ | ⟨g, cap, cur, rfl, _⟩
    · exact ⟨_, _, _, rfl⟩
    · exact ⟨_, _, _, rfl⟩
  rw [hv1] at hown1 ⊢
  have hbl1 := (row_kept hbl (by decide) hown hgrow).trans hbl
  have HE : Hid _ := (⟨hbl1, hown1, Fr.grown (b := b) hown hgrow, h01⟩ : _ ∧ _ ∧ _ ∧ _)
  obtain ⟨_, _, c2', f1', f2'⟩ := cells3 hbl1
  clear hbl1 hown1 hgrow hown hbl h01 hv1 c1 c2 f1 f2
  go_wp2
  go_ret
  obtain ⟨hbl1, hown1, hfr, h01⟩ := HE.out
  have hP := HP.out
  have hMm := HM.out
  have hts := textBits_length s
  have hblF := block_setCell (i := 2) (u := .int .i64 ((p : Int) + (s.size : Int) * 8)) (block_setCell (i := 1) (u := .slice ao ln cp) hbl1)
  refine ⟨rfl, ⟨.slice ao ln cp, ?_, ?_, h01.append (textBits_01 s), by rw [List.length_append]; omega⟩, hfr.trans ((Fr.only (Only.setCell b 1 _ _)).trans (Fr.only (Only.setCell b 2 _ _)))⟩
  · have e : (((L ++ textBits s).length : Nat) : Int) = (p : Int) + (s.size : Int) * 8 := by rw [List.length_append, hts, ← hP]; omega
    rw [e]; exact hblF
  · have e : ((L ++ textBits s).length + 7) / 8 = m + s.size := by rw [List.length_append]; omega
    have e2 : pcells (L ++ textBits s) = pcells L ++ Lib.strCells s := by
      unfold pcells
      rw [pack_text L s (by rw [← hP]; exact h8), List.map_append, List.map_map]
      rfl
    rw [e, e2]
    rcases hown1.2 with ⟨he, h0⟩ | ⟨g, cap, cur, he, hB, hh, r⟩
    · exact ⟨hown1.1, .inl ⟨he, h0⟩⟩
    · have hgb : g ≠ b := by rintro rfl; rw [hbl1] at hh; cases hh
      obtain ⟨rfl, rfl, rfl⟩ := Value.slice.inj he
      exact ownsRow_block (ownsRow_block hown1 (Below.heap_setCell _ _ _ _ hgb)) (Below.heap_setCell _ _ _ _ hgb)
end Go.Proofs.Ytjjbbfiogkpodaa
