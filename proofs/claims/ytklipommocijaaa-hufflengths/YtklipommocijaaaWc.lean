/- The writer's other calls: refusals, Align, Bytes, Place, Done. -/
import Derived.Test.YtklipommocijaaaWb
import Derived.Test.YtklipommocijaaaWn
namespace Go.Proofs.Ytklipommocijaaa
open Go.RowKit
set_option linter.unusedVariables false

/-- A block of another type than a row's is as it was when the row grows. -/
theorem row_kept {w w' : World} {B b size n : Nat} {E T : TypeId} {v : Value} {xs : List Value} {cs : Array Value} {mk : Nat × Nat} (hbl : w.heap[b]? = some (.cells cs T mk)) (hT : T ≠ E) (hown : w.ownsRow B E size v n xs) (hg : w.grownBy w' v.ownBlock) : w'.heap[b]? = w.heap[b]? :=
  hg.block b (lt_of_block hbl) (fun e => by
    rcases hown.2 with ⟨rfl, _⟩ | ⟨g', cap', cur, rfl, _, hh, _⟩
    · simp [Value.ownBlock] at e
    · have e' : b = g' := by simpa [Value.ownBlock] using e
      subst e'; rw [hbl] at hh; cases hh; exact hT rfl)
theorem WS.self {w : World} {B b : Nat} {L : List Nat} (h : WS w B b L) : w.cell? ⟨b, 0, none⟩ = some (.pointer (some ⟨b, 0, none⟩)) := by
  obtain ⟨v, hb, _⟩ := h; exact (cells3 hb).1
theorem WS.place {w : World} {B b : Nat} {L : List Nat} (h : WS w B b L) : w.cell? ⟨b, 2, none⟩ = some (.int .i64 (L.length : Nat)) := by
  obtain ⟨v, hb, _⟩ := h; exact (cells3 hb).2.2.1
theorem WS.lt {w : World} {B b : Nat} {L : List Nat} (h : WS w B b L) : b < w.heap.size := by
  obtain ⟨v, hb, _⟩ := h; exact lt_of_block hb
/-- A writer stays what it is where its own block and all rows of bytes stay. -/
theorem WS.kept {w w' : World} {B b : Nat} {L : List Nat} (h : WS w B b L) (hb : w'.heap[b]? = w.heap[b]?) (hrow : ∀ (g : Nat) (cur : Array Value), w.heap[g]? = some (.cells cur 5 (0, 0)) → w'.heap[g]? = w.heap[g]?) : WS w' B b L := by
  obtain ⟨v, h1, h2, h3, h4⟩ := h
  refine ⟨v, hb.trans h1, ⟨h2.1, ?_⟩, h3, h4⟩
  rcases h2.2 with hn | ⟨g, cap, cur, hv, hg, hh, r⟩
  · exact .inl hn
  · exact .inr ⟨g, cap, cur, hv, hg, (hrow g cur hh).trans hh, r⟩
theorem WS.below {w w' : World} {B b : Nat} {L : List Nat} (h : WS w B b L) (hb : Below w.heap.size w w') : WS w' B b L :=
  h.kept (hb.block b h.lt) (fun g cur hg => hb.block g (lt_of_block hg))
theorem WS.drewN {w : World} {B b : Nat} {L : List Nat} (h : WS w B b L) (n : Nat) : WS (w.drewN n) B b L := h
/-- Another writer's calls leave it as it was, where that one's rows are younger. -/
theorem WS.other {w w' : World} {B b B2 b2 : Nat} {L M : List Nat} (h : WS w B b L) (h2 : WS w B2 b2 M) (hne : b ≠ b2) (hf : Fr 5 w.heap.size b2 w w') : WS w' B b L := by
  obtain ⟨v2, hb2, _⟩ := h2
  refine h.kept (hf.block b h.lt hne (.inl h.lt)) (fun g cur hg => hf.block g (lt_of_block hg) ?_ (.inl (lt_of_block hg)))
  rintro rfl
  rw [hb2] at hg; cases hg
/-- A new writer's state. -/
theorem WS.new (w : World) (B : Nat) : WS (w.alloc (.cells #[.pointer (some ⟨w.heap.size, 0, none⟩), .slice none 0 0, .int .i64 0] 69)) B w.heap.size [] :=
  ⟨.slice none 0 0, heap_alloc_new _ _, World.ownsRow_nil _ _ _ _, (fun x hx => by cases hx), by simp⟩
theorem wbits_arg (B b : Nat) (L : List Nat) (x n : Int) (w : World) (h : n < 0 ∨ 57 < n ∨ x < 0 ∨ ∃ m : Nat, n = m ∧ m ≤ 57 ∧ (2 : Int) ^ m ≤ x) (hw : WS w B b L) :
    Calls Try.prog 38 #[.pointer (some ⟨b, 0, none⟩), .int .i64 x, .int .i64 n] w fun e w' => e = .returned (.int .i64 1) ∧ w' = w := by
  have h0 := hw.self
  clear hw
  by_cases h1 : n < 0
  · clear h
    go_enter Try.func38, Try.ntmps38
    go_wp2_with (go_at_call 39; refine (wgiven_yes _ _ h0).mono ?_; rintro e w' ⟨rfl, rfl⟩)
    go_ret
    exact ⟨rfl, rfl⟩
  · by_cases h2 : 57 < n
    · clear h
      go_enter Try.func38, Try.ntmps38
      go_wp2_with (go_at_call 39; refine (wgiven_yes _ _ h0).mono ?_; rintro e w' ⟨rfl, rfl⟩)
      go_ret
      exact ⟨rfl, rfl⟩
    · by_cases h3 : x < 0
      · clear h
        go_enter Try.func38, Try.ntmps38
        go_wp2_with (go_at_call 39; refine (wgiven_yes _ _ h0).mono ?_; rintro e w' ⟨rfl, rfl⟩)
        go_ret
        exact ⟨rfl, rfl⟩
      · rcases h with h | h | h | ⟨m, rfl, hm, hx⟩
        · omega
        · omega
        · omega
        have HX : Hid ((2 : Int) ^ m ≤ x) := hx
        clear hx
        go_enter Try.func38, Try.ntmps38
        go_wp2_with (go_at_call 39; refine (wgiven_yes _ _ h0).mono ?_; rintro e w' ⟨rfl, rfl⟩)
        · go_ret
          exact ⟨rfl, rfl⟩
        · exfalso
          have hh : ((0 ≤ (m : Int) ∧ (m : Int) ≤ 57) ∧ 0 ≤ x) ∧ x < wrap64 (2 ^ m) := by assumption
          have := HX.out
          rw [wrap_pow m hm] at hh
          omega
theorem wdone (B b : Nat) (L : List Nat) (w : World) (hw : WS w B b L) :
    Calls Try.prog 20 #[.pointer (some ⟨b, 0, none⟩)] w fun e w' => e = .returned (.string (toBA (pack L))) ∧ w' = w := by
  have h0 := hw.self
  obtain ⟨v, hbl, hown, h01, _⟩ := hw
  obtain ⟨_, h1, _, _, _⟩ := cells3 hbl
  have hc : (convert 67 9 v).run Try.prog w = .ok (.string (toBA (pack L))) w := by
    refine conv_row w _ _ 5 B v (pack L) Try.underlying67 Try.underlying5 Try.underlying9 (by rw [pack_length]; exact hown) ?_
    intro x hx
    obtain ⟨j, _, rfl⟩ := List.mem_map.1 hx
    exact byteOf_lt h01 j
  clear hbl hown
  go_enter Try.func20, Try.ntmps20
  go_wp2_with (go_at_call 39; refine (wgiven_yes _ _ h0).mono ?_; rintro e w' ⟨rfl, rfl⟩)
  go_ret
  exact ⟨rfl, rfl⟩
end Go.Proofs.Ytklipommocijaaa
