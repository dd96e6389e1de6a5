/- Layer 6: a place is met. -/
import Derived.Test.YtbncfpbehahidaaYp
import Derived.Deep.RegionWith
namespace Go.Proofs.Ytbncfpbehahidaa
open Go.RowKit Go.Maps
set_option linter.unusedVariables false
set_option maxRecDepth 20000

theorem TF.below {mb ob : Nat} {w w' : World} (h : Below w.heap.size w w') : TF mb ob w w' := ⟨h.os, h.tape, h.output, h.size, fun k hk _ _ => h.block k hk⟩
theorem ownsMap_block {w w' : World} {P : Program} {k : TypeId} {R : Value → Option (DataW Unit × List MemPlace)} {b n : Nat} {D : DataW Unit} (h : w.ownsMap P k R b n D) (hb : w'.heap[b]? = w.heap[b]?) : w'.ownsMap P k R b n D := by
  obtain ⟨es, clock, h1, h2⟩ := h
  exact ⟨es, clock, hb.trans h1, h2⟩
theorem FS.lt {w : World} {f mb ob : Nat} {s : ByteArray} {k : Nat} (h : FS w f mb ob s k) : f < w.heap.size ∧ mb < w.heap.size ∧ ob < w.heap.size := by
  obtain ⟨D, hD, _⟩ := h.map
  obtain ⟨cs, hc, _⟩ := h.old
  exact ⟨lt_of_block h.blk, hD.lt, lt_of_block hc⟩
theorem FS.apart {w : World} {f mb ob : Nat} {s : ByteArray} {k : Nat} (h : FS w f mb ob s k) : f ≠ mb ∧ f ≠ ob ∧ mb ≠ ob := by
  obtain ⟨D, ⟨es, clock, hb, _⟩, _⟩ := h.map
  obtain ⟨cs, hc, _⟩ := h.old
  have h1 := h.blk
  refine ⟨?_, ?_, ?_⟩
  · rintro rfl; rw [h1] at hb; cases hb
  · rintro rfl; rw [h1] at hc; simp at hc
  · rintro rfl; rw [hb] at hc; cases hc
theorem FS.kept {w w' : World} {f mb ob : Nat} {s : ByteArray} {k : Nat} (h : FS w f mb ob s k) (hf : w'.heap[f]? = w.heap[f]?) (hm : w'.heap[mb]? = w.heap[mb]?) (ho : w'.heap[ob]? = w.heap[ob]?) : FS w' f mb ob s k := by
  obtain ⟨D, hD, h1, h2⟩ := h.map
  obtain ⟨cs, hc, h3⟩ := h.old
  exact ⟨hf.trans h.blk, ⟨D, ownsMap_block hD hm, h1, h2⟩, ⟨cs, ho.trans hc, h3⟩, h.small⟩
theorem FS.below {w w' : World} {f mb ob : Nat} {s : ByteArray} {k : Nat} (h : FS w f mb ob s k) (hb : Below w.heap.size w w') : FS w' f mb ob s k :=
  h.kept (hb.block _ h.lt.1) (hb.block _ h.lt.2.1) (hb.block _ h.lt.2.2)
theorem FS.oldCell {w : World} {f mb ob : Nat} {s : ByteArray} {k i : Nat} (h : FS w f mb ob s k) (hi : i < s.size) : ∃ u, w.cell? ⟨ob, i, none⟩ = some u ∧ w.frozen? ⟨ob, i, none⟩ = false := by
  obtain ⟨cs, hc, hz, _⟩ := h.old
  exact ⟨cs[i], by simp [World.cell?, hc, hz, hi], by simp [World.frozen?, hc]⟩
/-- A finder whose next place has its elder one. -/
def FSO (w : World) (f mb ob : Nat) (s : ByteArray) (k : Nat) : Prop := FS w f mb ob s k ∧ ∃ cs : Array Value, w.heap[ob]? = some (.cells cs 21 (0, 0)) ∧ cs.size = s.size ∧ ∀ i, i < k + 1 → cs[i]? = some (.int .i32 (enc32 (lastP s i (four s i))))
theorem FS.older {w : World} {f mb ob : Nat} {s : ByteArray} {k : Nat} (h : FS w f mb ob s k) (hk : k < s.size) : FSO (w.setCell ⟨ob, k, none⟩ (.int .i32 (enc32 (lastP s k (four s k))))) f mb ob s k := by
  obtain ⟨a1, a2, a3⟩ := h.apart
  obtain ⟨D, hD, h1, h2⟩ := h.map
  obtain ⟨cs, hc, hz, h3⟩ := h.old
  have hb := block_setCell (i := k) (u := .int .i32 (enc32 (lastP s k (four s k)))) hc
  have hall : ∀ i, i < k + 1 → (cs.setIfInBounds k (.int .i32 (enc32 (lastP s k (four s k)))))[i]? = some (.int .i32 (enc32 (lastP s i (four s i)))) := fun i hi => by
    by_cases e : i = k
    · subst e; simp [hz, hk]
    · rw [Array.getElem?_setIfInBounds_ne (by omega)]; exact h3 i (by omega)
  refine ⟨⟨?_, ⟨D, ownsMap_block hD ?_, h1, h2⟩, ⟨_, hb, by simp [hz], fun i hi => hall i (by omega)⟩, h.small⟩, _, hb, by simp [hz], hall⟩
  · rw [Below.heap_setCell _ _ _ _ (by exact a2)]; exact h.blk
  · exact Below.heap_setCell _ _ _ _ (by exact a3)
theorem TF.setOld (mb ob i : Nat) (w : World) (u : Value) : TF mb ob w (w.setCell ⟨ob, i, none⟩ u) :=
  ⟨rfl, rfl, rfl, by simp [World.setCell], fun k _ _ h2 => Below.heap_setCell _ _ _ _ (by exact h2)⟩
theorem wf32 (k : Nat) (h : k < 2147483648) : (Lit.int .i32 (k : Int)).wf = true := by
  have h1 : IntKind.i32.min = -2147483648 := rfl
  have h2 : IntKind.i32.max = 2147483647 := rfl
  simp [Lit.wf, h1, h2]; omega
theorem TF.mapped {mb ob : Nat} {w w' : World} (h : w.drew.grownBy w' (some mb)) : TF mb ob w w' :=
  ⟨h.os, h.tape, h.output, h.size, fun k hk h1 _ => h.block k hk (fun e => h1 (by simpa using e))⟩
theorem FSO.met {w w' : World} {f mb ob : Nat} {s : ByteArray} {k : Nat} {D : DataW Unit} {kl : Lit} (h : FSO w f mb ob s k) (hm : w'.ownsMap Try.prog 88 (plainElem Try.prog 21) mb (k + 1) (D.put kl (.lit (.int .i32 (k : Nat))))) (hg : w.drew.grownBy w' (some mb)) (hM : MapOK D s k) (hI : Maps.IsMap D) (hk : keyOf Try.prog 88 (fourV s k) = some kl) : FS w' f mb ob s (k + 1) := by
  obtain ⟨a1, a2, a3⟩ := h.1.apart
  obtain ⟨l1, l2, l3⟩ := h.1.lt
  obtain ⟨cs, hc, hz, h3⟩ := h.2
  refine ⟨(hg.block f l1 (fun e => a1 (by simpa using e))).trans h.1.blk, ⟨_, hm, hM.put hI hk, hI.put _ _⟩, ⟨cs, (hg.block ob l3 (fun e => a3 (by simpa using e.symm))).trans hc, hz, h3⟩, h.1.small⟩
set_option maxRecDepth 20000 in
set_option maxHeartbeats 1000000 in
theorem meet_ok (w : World) (f mb ob : Nat) (s : ByteArray) (k : Nat) (h : FS w f mb ob s k) (hk : k + 4 ≤ s.size) :
    Calls Try.prog 55 #[.pointer (some ⟨f, 0, none⟩), .int .i64 k] w fun e w' => e = .returned (.tuple #[]) ∧ FS w' f mb ob s (k + 1) ∧ TF mb ob w w' := by
  have hs := h.small
  have H : Hid (FS w f mb ob s k) := h
  have HF4 : Hid (∀ _ : Unit, Calls Try.prog 63 #[.pointer (some ⟨f, 0, none⟩), .int .i64 k] w fun e w' => e = .returned (fourV s k) ∧ Below w.heap.size w w') := fun _ => fourAt_ok w f s k h.cells.1 hk hs
  clear h
  go_enter Try.func55, Try.ntmps55
  go_wp2_with fail
  refine (HF4.out ()).mono ?_
  rintro e w1 ⟨rfl, hb1⟩
  have H1 : Hid (FS w1 f mb ob s k ∧ TF mb ob w w1) := ⟨H.out.below hb1, TF.below hb1⟩
  obtain ⟨a0, a1, a2, a3, hV⟩ : ∃ a0 a1 a2 a3 : Nat, fourV s k = .agg #[.int .u8 (a0 : Nat), .int .u8 (a1 : Nat), .int .u8 (a2 : Nat), .int .u8 (a3 : Nat)] := ⟨_, _, _, _, rfl⟩
  obtain ⟨E, hE⟩ : ∃ E, enc32 (lastP s k (four s k)) = E := ⟨_, rfl⟩
  have HEE : Hid (enc32 (lastP s k (four s k)) = E ∧ fourV s k = .agg #[.int .u8 (a0 : Nat), .int .u8 (a1 : Nat), .int .u8 (a2 : Nat), .int .u8 (a3 : Nat)]) := ⟨hE, hV⟩
  have HLM : Hid (∀ W', FS W' f mb ob s k → Calls Try.prog 62 #[.pointer (some ⟨f, 0, none⟩), .agg #[.int .u8 (a0 : Nat), .int .u8 (a1 : Nat), .int .u8 (a2 : Nat), .int .u8 (a3 : Nat)]] W' fun e w' => e = .returned (.int .i32 E) ∧ Below W'.heap.size W' w') := fun W' hW' => by
    have h1 := lastMet_ok W' f mb ob s k k hW'
    rw [hE, hV] at h1
    exact h1
  rw [hV]
  obtain ⟨W, hW⟩ : ∃ W, w1.alloc (.cells #[.int .u8 (a0 : Nat), .int .u8 (a1 : Nat), .int .u8 (a2 : Nat), .int .u8 (a3 : Nat)] 88) = W := ⟨_, rfl⟩
  have hbW : W.heap[w1.heap.size]? = some (.cells #[.int .u8 (a0 : Nat), .int .u8 (a1 : Nat), .int .u8 (a2 : Nat), .int .u8 (a3 : Nat)] 88 (0, 0)) := by rw [← hW]; exact heap_alloc_new _ _
  have hbelW : Below w1.heap.size w1 W := by rw [← hW]; exact (Below.refl _ _).alloc (Nat.le_refl _) _
  have hFW : FS W f mb ob s k := H1.out.1.below hbelW
  have HFW : Hid (FS W f mb ob s k ∧ TF mb ob w W) := ⟨hFW, H1.out.2.trans (TF.below hbelW)⟩
  obtain ⟨U, hU⟩ : ∃ U, w1.heap.size = U := ⟨_, rfl⟩
  rw [hU] at hbW
  have HBW : Hid (W.heap[U]? = some (.cells #[.int .u8 (a0 : Nat), .int .u8 (a1 : Nat), .int .u8 (a2 : Nat), .int .u8 (a3 : Nat)] 88 (0, 0))) := hbW
  have z0 : W.cell? ⟨U, 0, none⟩ = some (.int .u8 (a0 : Nat)) := by simp [World.cell?, hbW]
  have z1 : W.cell? ⟨U, 1, none⟩ = some (.int .u8 (a1 : Nat)) := by simp [World.cell?, hbW]
  have z2 : W.cell? ⟨U, 2, none⟩ = some (.int .u8 (a2 : Nat)) := by simp [World.cell?, hbW]
  have z3 : W.cell? ⟨U, 3, none⟩ = some (.int .u8 (a3 : Nat)) := by simp [World.cell?, hbW]
  obtain ⟨c0, c1, c2⟩ := hFW.cells
  have hki : (k : Int) < (s.size : Int) := by omega
  have hk0 : k < s.size := by omega
  clear hb1 hV hE hbW hbelW hFW
  go_wp2_with fail
  try rw [hW]
  try rw [hU]
  go_region_with (go_at_call 62; refine (HLM.out _ (by first | exact HFW.out.1 | exact HFW.out.1.drewN 1)).mono ?_; rintro e w3 ⟨rfl, hb3⟩; have h3 := FS.below (by first | exact HFW.out.1 | exact HFW.out.1.drewN 1) hb3; obtain ⟨d0, d1, d2⟩ := h3.cells; obtain ⟨u3, y1, y2⟩ := h3.oldCell hk0; have H3 : Hid (Below W.heap.size W w3) := ⟨hb3.os, hb3.tape, hb3.output, hb3.size, hb3.block⟩; clear hb3 h3)
  all_goals
    obtain ⟨w4, hw4⟩ : ∃ w4, w3.setCell ⟨ob, k, none⟩ (.int .i32 E) = w4 := ⟨_, rfl⟩
    have h3 := HFW.out.1.below H3.out
    have h4 : FSO w4 f mb ob s k := by rw [← hw4, ← HEE.out.1]; exact h3.older hk0
    have HT4 : Hid (TF mb ob w w4) := by
      rw [← hw4]
      exact HFW.out.2.trans ((TF.below H3.out).trans (TF.setOld _ _ _ _ _))
    have hU4 : w4.heap[U]? = some (.cells #[.int .u8 (a0 : Nat), .int .u8 (a1 : Nat), .int .u8 (a2 : Nat), .int .u8 (a3 : Nat)] 88 (0, 0)) := by
      have hb := HBW.out
      have hne : U ≠ ob := by
        rintro rfl
        obtain ⟨cs, hc, _⟩ := HFW.out.1.old
        rw [hb] at hc; simp at hc
      rw [← hw4, Below.heap_setCell _ _ _ _ (by exact hne), H3.out.block U (lt_of_block hb)]
      exact hb
    have z0 : w4.cell? ⟨U, 0, none⟩ = some (.int .u8 (a0 : Nat)) := by simp [World.cell?, hU4]
    have z1 : w4.cell? ⟨U, 1, none⟩ = some (.int .u8 (a1 : Nat)) := by simp [World.cell?, hU4]
    have z2 : w4.cell? ⟨U, 2, none⟩ = some (.int .u8 (a2 : Nat)) := by simp [World.cell?, hU4]
    have z3 : w4.cell? ⟨U, 3, none⟩ = some (.int .u8 (a3 : Nat)) := by simp [World.cell?, hU4]
    have H4 : Hid (FSO w4 f mb ob s k) := h4
    obtain ⟨e0, e1, e2⟩ := h4.1.cells
    obtain ⟨D, hD, hM, hI⟩ := h4.1.map
    obtain ⟨kl, hkl⟩ := key_of s k
    have HD : Hid (w4.ownsMap Try.prog 88 (plainElem Try.prog 21) mb k D ∧ MapOK D s k ∧ Maps.IsMap D ∧ keyOf Try.prog 88 (fourV s k) = some kl) := ⟨hD, hM, hI, hkl⟩
    have hkw : IntKind.i32.wrap (k : Int) = (k : Int) := by rw [IntKind.wrap_i32]; omega
    rw [hw4]
    clear d0 d1 d2 y1 y2 h3 h4 hw4 hU4 hD hM hI hkl c0 c1 c2 HLM
    have hkey : keyOf Try.prog 88 (.agg #[.int .u8 (a0 : Nat), .int .u8 (a1 : Nat), .int .u8 (a2 : Nat), .int .u8 (a3 : Nat)]) = some kl := by rw [← HEE.out.2]; exact HD.out.2.2.2
    have hval : plainElem (H := Unit) Try.prog 21 (.int .i32 (k : Nat)) = some (.lit (.int .i32 (k : Nat)), []) := plainElem_int Try.underlying21 (wf32 k (by omega))
    obtain ⟨w5, hrun, r1, r2⟩ := World.ownsMap.update (w := w4.drew) HD.out.1 law4 Try.underlying67 (by unfold maxLen; omega) hkey hval
    have H5 : Hid (w5.ownsMap Try.prog 88 (plainElem Try.prog 21) mb (k + 1) (D.put kl (.lit (.int .i32 (k : Nat)))) ∧ w4.drew.grownBy w5 (some mb)) := ⟨r1, r2⟩
    clear r1 r2 hkey hval
    go_wp2_with fail
    go_region
    go_wp2
    go_end0
    refine ⟨rfl, ?_, HT4.out.trans (TF.mapped H5.out.2)⟩
    exact H4.out.met H5.out.1 H5.out.2 HD.out.2.1 HD.out.2.2.1 HD.out.2.2.2
end Go.Proofs.Ytbncfpbehahidaa
