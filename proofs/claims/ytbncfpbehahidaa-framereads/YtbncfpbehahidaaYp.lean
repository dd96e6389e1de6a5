/- Layer 6: the last place that was met; a place that is met. -/
import Derived.Test.YtbncfpbehahidaaYo2
namespace Go.Proofs.Ytbncfpbehahidaa
open Go.RowKit Go.Maps
set_option linter.unusedVariables false
set_option maxRecDepth 20000

theorem key_of (s : ByteArray) (p : Nat) : ∃ kl, keyOf Try.prog 88 (fourV s p) = some kl := key4 _ _ _ _ (bt_lt _ _) (bt_lt _ _) (bt_lt _ _) (bt_lt _ _)
/-- What is looked up in the map. -/
theorem look4 (W : World) (mb : Nat) (s : ByteArray) (k p : Nat) (D : DataW Unit) (h : W.ownsMap Try.prog 88 (plainElem Try.prog 21) mb k D) (hM : MapOK D s k) :
    (Instr.lookup 67 (.map (some mb)) (fourV s p) true).run Try.prog W = .ok (.tuple #[.int .i32 ((lastP s k (four s p)).getD 0 : Nat), .bool (lastP s k (four s p)).isSome]) W := by
  obtain ⟨kl, hkl⟩ := key_of s p
  obtain ⟨h1, h2⟩ := hM _ _ _ _ kl hkl
  obtain ⟨es, clock, hb, F, _, rfl⟩ := h
  rcases Maps.fit_look true law4 Try.underlying67 (zero32 W) hb F hkl with ⟨hrun, _, hat⟩ | ⟨e0, y, _, _, hrun, hR, hat, _⟩
  · have hf := Maps.has_false_of_atKey hat
    rw [hf] at h1
    have hn : lastP s k (four s p) = none := by
      cases hl : lastP s k (four s p) with
      | none => rfl
      | some q => rw [show (bt s p, bt s (p + 1), bt s (p + 2), bt s (p + 3)) = four s p from rfl, hl] at h1; simp at h1
    rw [hrun, hn]
    rfl
  · have ht := Maps.has_true_of_atKey hat
    rw [ht] at h1
    obtain ⟨q, hq⟩ : ∃ q, lastP s k (four s p) = some q := by
      cases hl : lastP s k (four s p) with
      | none => rw [show (bt s p, bt s (p + 1), bt s (p + 2), bt s (p + 3)) = four s p from rfl, hl] at h1; simp at h1
      | some q => exact ⟨q, rfl⟩
    have h3 := h2 q hq
    rw [hat] at h3
    obtain ⟨a, ha, hy, _⟩ := plainElem_int_inv Try.underlying21 hR
    rw [hy] at h3
    simp at h3
    rw [hrun, hq, ha]
    simp [h3]
set_option maxRecDepth 20000 in
set_option maxHeartbeats 1000000 in
theorem lastMet_ok (w : World) (f mb ob : Nat) (s : ByteArray) (k p : Nat) (h : FS w f mb ob s k) :
    Calls Try.prog 62 #[.pointer (some ⟨f, 0, none⟩), fourV s p] w fun e w' => e = .returned (.int .i32 (enc32 (lastP s k (four s p)))) ∧ Below w.heap.size w w' := by
  obtain ⟨c0, c1, c2⟩ := h.cells
  obtain ⟨D, hD, hM, hI⟩ := h.map
  have hlook : ∀ o n, (Instr.lookup 67 (.map (some mb)) (fourV s p) true).run Try.prog ((w.alloc o).drewN n) = .ok (.tuple #[.int .i32 ((lastP s k (four s p)).getD 0 : Nat), .bool (lastP s k (four s p)).isSome]) ((w.alloc o).drewN n) := fun o n => look4 ((w.alloc o).drewN n) mb s k p D (hD.alloc o) hM
  have hc1 : ∀ o, (w.alloc o).cell? ⟨f, 1, none⟩ = some (.map (some mb)) := fun o => by rw [World.cell?_alloc_some w ⟨f, 1, none⟩ o (by rw [c1]; rfl)]; exact c1
  obtain ⟨a0, a1, a2, a3, hV⟩ : ∃ a0 a1 a2 a3 : Nat, fourV s p = .agg #[.int .u8 (a0 : Nat), .int .u8 (a1 : Nat), .int .u8 (a2 : Nat), .int .u8 (a3 : Nat)] := ⟨_, _, _, _, rfl⟩
  rw [hV] at hlook ⊢
  obtain ⟨W, hW⟩ : ∃ W, w.alloc (.cells #[.int .u8 (a0 : Nat), .int .u8 (a1 : Nat), .int .u8 (a2 : Nat), .int .u8 (a3 : Nat)] 88) = W := ⟨_, rfl⟩
  have hl := hlook (.cells #[.int .u8 (a0 : Nat), .int .u8 (a1 : Nat), .int .u8 (a2 : Nat), .int .u8 (a3 : Nat)] 88)
  have hc := hc1 (.cells #[.int .u8 (a0 : Nat), .int .u8 (a1 : Nat), .int .u8 (a2 : Nat), .int .u8 (a3 : Nat)] 88)
  have hbW : W.heap[w.heap.size]? = some (.cells #[.int .u8 (a0 : Nat), .int .u8 (a1 : Nat), .int .u8 (a2 : Nat), .int .u8 (a3 : Nat)] 88 (0, 0)) := by rw [← hW]; exact heap_alloc_new _ _
  have HB : Hid (Below w.heap.size w W) := by rw [← hW]; exact (Below.refl _ _).alloc (Nat.le_refl _) _
  rw [hW] at hl hc
  obtain ⟨U, hU⟩ : ∃ U, w.heap.size = U := ⟨_, rfl⟩
  rw [hU] at hbW
  have z0 : W.cell? ⟨U, 0, none⟩ = some (.int .u8 (a0 : Nat)) := by simp [World.cell?, hbW]
  have z1 : W.cell? ⟨U, 1, none⟩ = some (.int .u8 (a1 : Nat)) := by simp [World.cell?, hbW]
  have z2 : W.cell? ⟨U, 2, none⟩ = some (.int .u8 (a2 : Nat)) := by simp [World.cell?, hbW]
  have z3 : W.cell? ⟨U, 3, none⟩ = some (.int .u8 (a3 : Nat)) := by simp [World.cell?, hbW]
  clear hV hM hI hD h hlook hc1 c0 c1 c2 hbW
  cases hb : lastP s k (four s p) with
  | some q =>
    rw [hb] at hl
    simp only [Option.getD, Option.isSome] at hl
    clear hb
    go_enter Try.func62, Try.ntmps62
    go_wp2_with fail
    try rw [hW]
    try rw [hU]
    go_quiet (fail)
    go_wp2
    go_ret
    exact ⟨rfl, HB.out.trans (Below.drewN' _ _ _)⟩
  | none =>
    rw [hb] at hl
    simp only [Option.getD, Option.isSome] at hl
    clear hb
    go_enter Try.func62, Try.ntmps62
    go_wp2_with fail
    try rw [hW]
    try rw [hU]
    go_quiet (fail)
    go_wp2
    go_ret
    exact ⟨rfl, HB.out.trans (Below.drewN' _ _ _)⟩
end Go.Proofs.Ytbncfpbehahidaa
