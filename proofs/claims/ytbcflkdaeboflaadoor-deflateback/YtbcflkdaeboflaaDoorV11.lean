/- Layer 5: a place is met. -/
/- Layer 5: how many bytes are the same at two places. -/
import Derived.Test.YtbcflkdaeboflaaDoorV10
namespace Go.Proofs.YtbcflkdaeboflaaDoor.D5
open Go.RowKit Go.Maps
set_option linter.unusedVariables false
set_option maxRecDepth 20000

theorem TF.below {mb ob : Nat} {w w' : World} (h : Below w.heap.size w w') : TF mb ob w w' := ⟨h.os, h.tape, h.output, h.size, fun k hk _ _ => h.block k hk⟩
theorem ownsMap_block {w w' : World} {P : Program} {k : TypeId} {R : Value → Option (DataW Unit × List MemPlace)} {b n : Nat} {D : DataW Unit} (h : w.ownsMap P k R b n D) (hb : w'.heap[b]? = w.heap[b]?) : w'.ownsMap P k R b n D := by
  obtain ⟨es, clock, h1, h2⟩ := h
  exact ⟨es, clock, hb.trans h1, h2⟩
theorem FS.lt {w : World} {f mb ob : Nat} {s : ByteArray} {k : Nat} (h : FS w f mb ob s k) : f < w.heap.size ∧ mb < w.heap.size ∧ ob < w.heap.size := by
  obtain ⟨D, hD, _⟩ := h.map
  obtain ⟨cs, hc, _⟩ := h.old
  exact ⟨lt_of_block h.blk, hD.lt, lt_of_block hc⟩
theorem FS.apart {w : World} {f mb ob : Nat} {s : ByteArray} {k : Nat} (h : FS w f mb ob s k) : f ≠ mb ∧ f ≠ ob ∧ mb ≠ ob := by
  obtain ⟨D, ⟨es, clock, hb, _⟩, _⟩ := h.map
  obtain ⟨cs, hc, _⟩ := h.old
  have h1 := h.blk
  refine ⟨?_, ?_, ?_⟩
  · rintro rfl; rw [h1] at hb; cases hb
  · rintro rfl; rw [h1] at hc; simp at hc
  · rintro rfl; rw [hb] at hc; cases hc
theorem FS.kept {w w' : World} {f mb ob : Nat} {s : ByteArray} {k : Nat} (h : FS w f mb ob s k) (hf : w'.heap[f]? = w.heap[f]?) (hm : w'.heap[mb]? = w.heap[mb]?) (ho : w'.heap[ob]? = w.heap[ob]?) : FS w' f mb ob s k := by
  obtain ⟨D, hD, h1, h2⟩ := h.map
  obtain ⟨cs, hc, h3⟩ := h.old
  exact ⟨hf.trans h.blk, ⟨D, ownsMap_block hD hm, h1, h2⟩, ⟨cs, ho.trans hc, h3⟩, h.small⟩
theorem FS.below {w w' : World} {f mb ob : Nat} {s : ByteArray} {k : Nat} (h : FS w f mb ob s k) (hb : Below w.heap.size w w') : FS w' f mb ob s k :=
  h.kept (hb.block _ h.lt.1) (hb.block _ h.lt.2.1) (hb.block _ h.lt.2.2)
theorem FS.oldCell {w : World} {f mb ob : Nat} {s : ByteArray} {k i : Nat} (h : FS w f mb ob s k) (hi : i < s.size) : ∃ u, w.cell? ⟨ob, i, none⟩ = some u ∧ w.frozen? ⟨ob, i, none⟩ = false := by
  obtain ⟨cs, hc, hz, _⟩ := h.old
  exact ⟨cs[i], by simp [World.cell?, hc, hz, hi], by simp [World.frozen?, hc]⟩
/-- A finder whose next place has its elder one. -/
def FSO (w : World) (f mb ob : Nat) (s : ByteArray) (k : Nat) : Prop := FS w f mb ob s k ∧ ∃ cs : Array Value, w.heap[ob]? = some (.cells cs 21 (0, 0)) ∧ cs.size = s.size ∧ ∀ i, i < k + 1 → cs[i]? = some (.int .i32 (enc32 (lastP s i (three s i))))
theorem FS.older {w : World} {f mb ob : Nat} {s : ByteArray} {k : Nat} (h : FS w f mb ob s k) (hk : k < s.size) : FSO (w.setCell ⟨ob, k, none⟩ (.int .i32 (enc32 (lastP s k (three s k))))) f mb ob s k := by
  obtain ⟨a1, a2, a3⟩ := h.apart
  obtain ⟨D, hD, h1, h2⟩ := h.map
  obtain ⟨cs, hc, hz, h3⟩ := h.old
  have hb := block_setCell (i := k) (u := .int .i32 (enc32 (lastP s k (three s k)))) hc
  have hall : ∀ i, i < k + 1 → (cs.setIfInBounds k (.int .i32 (enc32 (lastP s k (three s k)))))[i]? = some (.int .i32 (enc32 (lastP s i (three s i)))) := fun i hi => by
    by_cases e : i = k
    · subst e; simp [hz, hk]
    · rw [Array.getElem?_setIfInBounds_ne (by omega)]; exact h3 i (by omega)
  refine ⟨⟨?_, ⟨D, ownsMap_block hD ?_, h1, h2⟩, ⟨_, hb, by simp [hz], fun i hi => hall i (by omega)⟩, h.small⟩, _, hb, by simp [hz], hall⟩
  · rw [Below.heap_setCell _ _ _ _ (by exact a2)]; exact h.blk
  · exact Below.heap_setCell _ _ _ _ (by exact a3)
theorem TF.setOld (mb ob i : Nat) (w : World) (u : Value) : TF mb ob w (w.setCell ⟨ob, i, none⟩ u) :=
  ⟨rfl, rfl, rfl, by simp [World.setCell], fun k _ _ h2 => Below.heap_setCell _ _ _ _ (by exact h2)⟩
theorem wf32 (k : Nat) (h : k < 2147483648) : (Lit.int .i32 (k : Int)).wf = true := by
  have h1 : IntKind.i32.min = -2147483648 := rfl
  have h2 : IntKind.i32.max = 2147483647 := rfl
  simp [Lit.wf, h1, h2]; omega
theorem TF.mapped {mb ob : Nat} {w w' : World} (h : w.drew.grownBy w' (some mb)) : TF mb ob w w' :=
  ⟨h.os, h.tape, h.output, h.size, fun k hk h1 _ => h.block k hk (fun e => h1 (by simpa using e))⟩
theorem FSO.met {w w' : World} {f mb ob : Nat} {s : ByteArray} {k : Nat} {D : DataW Unit} {kl : Lit} (h : FSO w f mb ob s k) (hm : w'.ownsMap Tryd.prog 78 (plainElem Tryd.prog 21) mb (k + 1) (D.put kl (.lit (.int .i32 (k : Nat))))) (hg : w.drew.grownBy w' (some mb)) (hM : MapOK D s k) (hI : Maps.IsMap D) (hk : keyOf Tryd.prog 78 (threeV s k) = some kl) : FS w' f mb ob s (k + 1) := by
  obtain ⟨a1, a2, a3⟩ := h.1.apart
  obtain ⟨l1, l2, l3⟩ := h.1.lt
  obtain ⟨cs, hc, hz, h3⟩ := h.2
  refine ⟨(hg.block f l1 (fun e => a1 (by simpa using e))).trans h.1.blk, ⟨_, hm, hM.put hI hk, hI.put _ _⟩, ⟨cs, (hg.block ob l3 (fun e => a3 (by simpa using e.symm))).trans hc, hz, h3⟩, h.1.small⟩
set_option maxHeartbeats 1000000 in
theorem meet_no (w : World) (f mb ob : Nat) (s : ByteArray) (k : Nat) (h : FS w f mb ob s (met s k)) (hk : s.size < k + 3) (hk2 : k ≤ 4194304) :
    Calls Tryd.prog 27 #[.pointer (some ⟨f, 0, none⟩), .int .i64 k] w fun e w' => e = .returned (.tuple #[]) ∧ FS w' f mb ob s (met s (k + 1)) ∧ TF mb ob w w' := by
  have hs := h.small
  have H : Hid (FS w f mb ob s (met s k)) := h
  have HM : Hid (met s (k + 1) = met s k) := met_end hk
  have HF4 : Hid (∀ _ : Unit, Calls Tryd.prog 40 #[.pointer (some ⟨f, 0, none⟩), .int .i64 k] w fun e w' => e = .returned (.tuple #[v3 0 0 0, .bool false]) ∧ Below w.heap.size w w') := fun _ => threeAt_no w f s k h.cells.1 hk hk2 hs
  clear h
  go_enter Tryd.func27, Tryd.ntmps27
  go_wp2_with fail
  refine (HF4.out ()).mono ?_
  rintro e w1 ⟨rfl, hb1⟩
  have H1 : Hid (Below w.heap.size w w1) := hb1
  clear hb1
  have hv : v3 0 0 0 = .agg #[.int .u8 0, .int .u8 0, .int .u8 0] := rfl
  rw [hv]
  clear hv
  go_wp2
  refine bodyPost_ret (results_none rfl _ _ _) rfl ?_
  have hbl : Below w.heap.size w (w1.alloc (.cells #[.int .u8 0, .int .u8 0, .int .u8 0] 78)) := H1.out.alloc H1.out.size _
  exact ⟨rfl, by rw [HM.out]; exact H.out.below hbl, TF.below hbl⟩
set_option maxHeartbeats 1000000 in
theorem meet_ok (w : World) (f mb ob : Nat) (s : ByteArray) (k : Nat) (h : FS w f mb ob s k) (hk : k + 3 ≤ s.size) :
    Calls Tryd.prog 27 #[.pointer (some ⟨f, 0, none⟩), .int .i64 k] w fun e w' => e = .returned (.tuple #[]) ∧ FS w' f mb ob s (k + 1) ∧ TF mb ob w w' := by
  have hs := h.small
  have H : Hid (FS w f mb ob s k) := h
  have HF4 : Hid (∀ _ : Unit, Calls Tryd.prog 40 #[.pointer (some ⟨f, 0, none⟩), .int .i64 k] w fun e w' => e = .returned (.tuple #[threeV s k, .bool true]) ∧ Below w.heap.size w w') := fun _ => threeAt_ok w f s k h.cells.1 hk hs
  clear h
  go_enter Tryd.func27, Tryd.ntmps27
  go_wp2_with fail
  refine (HF4.out ()).mono ?_
  rintro e w1 ⟨rfl, hb1⟩
  have H1 : Hid (FS w1 f mb ob s k ∧ TF mb ob w w1) := ⟨H.out.below hb1, TF.below hb1⟩
  obtain ⟨a0, a1, a2, hV⟩ : ∃ a0 a1 a2 : Nat, threeV s k = .agg #[.int .u8 (a0 : Nat), .int .u8 (a1 : Nat), .int .u8 (a2 : Nat)] := ⟨_, _, _, rfl⟩
  obtain ⟨E, hE⟩ : ∃ E, enc32 (lastP s k (three s k)) = E := ⟨_, rfl⟩
  have HEE : Hid (enc32 (lastP s k (three s k)) = E ∧ threeV s k = .agg #[.int .u8 (a0 : Nat), .int .u8 (a1 : Nat), .int .u8 (a2 : Nat)]) := ⟨hE, hV⟩
  have HLM : Hid (∀ W', FS W' f mb ob s k → Calls Tryd.prog 41 #[.pointer (some ⟨f, 0, none⟩), .agg #[.int .u8 (a0 : Nat), .int .u8 (a1 : Nat), .int .u8 (a2 : Nat)]] W' fun e w' => e = .returned (.int .i32 E) ∧ Below W'.heap.size W' w') := fun W' hW' => by
    have h1 := lastMet_ok W' f mb ob s k k hW'
    rw [hE, hV] at h1
    exact h1
  rw [hV]
  obtain ⟨W, hW⟩ : ∃ W, w1.alloc (.cells #[.int .u8 (a0 : Nat), .int .u8 (a1 : Nat), .int .u8 (a2 : Nat)] 78) = W := ⟨_, rfl⟩
  have hbW : W.heap[w1.heap.size]? = some (.cells #[.int .u8 (a0 : Nat), .int .u8 (a1 : Nat), .int .u8 (a2 : Nat)] 78 (0, 0)) := by rw [← hW]; exact heap_alloc_new _ _
  have hbelW : Below w1.heap.size w1 W := by rw [← hW]; exact (Below.refl _ _).alloc (Nat.le_refl _) _
  have hFW : FS W f mb ob s k := H1.out.1.below hbelW
  have HFW : Hid (FS W f mb ob s k ∧ TF mb ob w W) := ⟨hFW, H1.out.2.trans (TF.below hbelW)⟩
  obtain ⟨U, hU⟩ : ∃ U, w1.heap.size = U := ⟨_, rfl⟩
  rw [hU] at hbW
  have HBW : Hid (W.heap[U]? = some (.cells #[.int .u8 (a0 : Nat), .int .u8 (a1 : Nat), .int .u8 (a2 : Nat)] 78 (0, 0))) := hbW
  have z0 : W.cell? ⟨U, 0, none⟩ = some (.int .u8 (a0 : Nat)) := by simp [World.cell?, hbW]
  have z1 : W.cell? ⟨U, 1, none⟩ = some (.int .u8 (a1 : Nat)) := by simp [World.cell?, hbW]
  have z2 : W.cell? ⟨U, 2, none⟩ = some (.int .u8 (a2 : Nat)) := by simp [World.cell?, hbW]
  obtain ⟨c0, c1, c2⟩ := hFW.cells
  have hki : (k : Int) < (s.size : Int) := by omega
  have hk0 : k < s.size := by omega
  clear hb1 hV hE hbW hbelW hFW
  go_wp2_with fail
  try rw [hW]
  try rw [hU]
  go_region_with (go_at_call 41; refine (HLM.out _ (by first | exact HFW.out.1 | exact HFW.out.1.drewN 1)).mono ?_; rintro e w3 ⟨rfl, hb3⟩; have h3 := FS.below (by first | exact HFW.out.1 | exact HFW.out.1.drewN 1) hb3; obtain ⟨d0, d1, d2⟩ := h3.cells; obtain ⟨u3, y1, y2⟩ := h3.oldCell hk0; have H3 : Hid (Below W.heap.size W w3) := ⟨hb3.os, hb3.tape, hb3.output, hb3.size, hb3.block⟩; clear hb3 h3)
  all_goals
    obtain ⟨w4, hw4⟩ : ∃ w4, w3.setCell ⟨ob, k, none⟩ (.int .i32 E) = w4 := ⟨_, rfl⟩
    have h3 := HFW.out.1.below H3.out
    have h4 : FSO w4 f mb ob s k := by rw [← hw4, ← HEE.out.1]; exact h3.older hk0
    have HT4 : Hid (TF mb ob w w4) := by
      rw [← hw4]
      exact HFW.out.2.trans ((TF.below H3.out).trans (TF.setOld _ _ _ _ _))
    have hU4 : w4.heap[U]? = some (.cells #[.int .u8 (a0 : Nat), .int .u8 (a1 : Nat), .int .u8 (a2 : Nat)] 78 (0, 0)) := by
      have hb := HBW.out
      have hne : U ≠ ob := by
        rintro rfl
        obtain ⟨cs, hc, _⟩ := HFW.out.1.old
        rw [hb] at hc; simp at hc
      rw [← hw4, Below.heap_setCell _ _ _ _ (by exact hne), H3.out.block U (lt_of_block hb)]
      exact hb
    have z0 : w4.cell? ⟨U, 0, none⟩ = some (.int .u8 (a0 : Nat)) := by simp [World.cell?, hU4]
    have z1 : w4.cell? ⟨U, 1, none⟩ = some (.int .u8 (a1 : Nat)) := by simp [World.cell?, hU4]
    have z2 : w4.cell? ⟨U, 2, none⟩ = some (.int .u8 (a2 : Nat)) := by simp [World.cell?, hU4]
    have H4 : Hid (FSO w4 f mb ob s k) := h4
    obtain ⟨e0, e1, e2⟩ := h4.1.cells
    obtain ⟨D, hD, hM, hI⟩ := h4.1.map
    obtain ⟨kl, hkl⟩ := key_of s k
    have HD : Hid (w4.ownsMap Tryd.prog 78 (plainElem Tryd.prog 21) mb k D ∧ MapOK D s k ∧ Maps.IsMap D ∧ keyOf Tryd.prog 78 (threeV s k) = some kl) := ⟨hD, hM, hI, hkl⟩
    have hkw : IntKind.i32.wrap (k : Int) = (k : Int) := by rw [IntKind.wrap_i32]; omega
    rw [hw4]
    clear d0 d1 d2 y1 y2 h3 h4 hw4 hU4 hD hM hI hkl c0 c1 c2 HLM
    have hkey : keyOf Tryd.prog 78 (.agg #[.int .u8 (a0 : Nat), .int .u8 (a1 : Nat), .int .u8 (a2 : Nat)]) = some kl := by rw [← HEE.out.2]; exact HD.out.2.2.2
    have hval : plainElem (H := Unit) Tryd.prog 21 (.int .i32 (k : Nat)) = some (.lit (.int .i32 (k : Nat)), []) := plainElem_int Tryd.underlying21 (wf32 k (by omega))
    obtain ⟨w5, hrun, r1, r2⟩ := World.ownsMap.update (w := w4.drew) HD.out.1 law3 Tryd.underlying51 (by unfold maxLen; omega) hkey hval
    have H5 : Hid (w5.ownsMap Tryd.prog 78 (plainElem Tryd.prog 21) mb (k + 1) (D.put kl (.lit (.int .i32 (k : Nat)))) ∧ w4.drew.grownBy w5 (some mb)) := ⟨r1, r2⟩
    clear r1 r2 hkey hval
    go_wp2_with fail
    go_region
    go_wp2
    go_end0
    refine ⟨rfl, ?_, HT4.out.trans (TF.mapped H5.out.2)⟩
    exact H4.out.met H5.out.1 H5.out.2 HD.out.2.1 HD.out.2.2.1 HD.out.2.2.2
/-- A place is met, whether three bytes stand there or not. -/
theorem meet_at (w : World) (f mb ob : Nat) (s : ByteArray) (k : Nat) (h : FS w f mb ob s (met s k)) (hk : k ≤ 4194304) :
    Calls Tryd.prog 27 #[.pointer (some ⟨f, 0, none⟩), .int .i64 k] w fun e w' => e = .returned (.tuple #[]) ∧ FS w' f mb ob s (met s (k + 1)) ∧ TF mb ob w w' := by
  by_cases h3 : k + 3 ≤ s.size
  · rw [met_succ h3]
    rw [met_lt h3] at h
    exact meet_ok w f mb ob s k h h3
  · exact meet_no w f mb ob s k h (by omega) hk
end Go.Proofs.YtbcflkdaeboflaaDoor.D5
namespace Go.Proofs.YtbcflkdaeboflaaDoor.D5
open Go.RowKit
set_option linter.unusedVariables false
set_option maxRecDepth 20000

set_option maxRecDepth 20000 in
set_option maxHeartbeats 1000000 in
theorem alike_ok (w : World) (f : Nat) (s : ByteArray) (a b fl most : Nat) (hc : w.cell? ⟨f, 0, none⟩ = some (.string s)) (hab : a ≤ b) (hf : fl < most) (hb : b + most ≤ s.size) (hs : s.size ≤ 1048576) :
    Calls Tryd.prog 42 #[.pointer (some ⟨f, 0, none⟩), .int .i64 a, .int .i64 b, .int .i64 fl, .int .i64 most] w fun e w' => e = .returned (.int .i64 (alikeF s a b fl most : Nat)) ∧ ∃ k, w' = w.drewN k := by
  obtain ⟨r, hr⟩ : ∃ r, alikeF s a b fl most = r := ⟨_, rfl⟩
  rw [hr]
  unfold alikeF at hr
  obtain ⟨p, hp⟩ : ∃ p, a + fl = p := ⟨_, rfl⟩
  obtain ⟨q, hq⟩ : ∃ p, b + fl = p := ⟨_, rfl⟩
  have gp : p < s.size := by omega
  have gq : q < s.size := by omega
  have jp : (a : Int) + (fl : Int) = (p : Int) := by omega
  have jq : (b : Int) + (fl : Int) = (q : Int) := by omega
  have ip : (p : Int) < (s.size : Int) := by omega
  have iq : (q : Int) < (s.size : Int) := by omega
  have kp := wrapN p (by omega)
  have kq := wrapN q (by omega)
  have bp := bt_at s p gp
  have bq := bt_at s q gq
  rw [hp, hq] at hr
  obtain ⟨x, hx⟩ : ∃ x, bt s p = x := ⟨_, rfl⟩
  obtain ⟨y, hy⟩ : ∃ x, bt s q = x := ⟨_, rfl⟩
  rw [hx] at bp hr
  rw [hy] at bq hr
  clear hx hy hp hq
  by_cases hxy : x = y
  · rw [if_pos hxy] at hr
    have HR : Hid (runL s a b most 0 = r) := hr
    have hxb : ((x : Int) != (y : Int)) = false := by simp [hxy]
    clear hr
    go_enter Tryd.func42, Tryd.ntmps42
    go_wp2_with fail
    go_quiet (fail)
    clear hxb bp bq kp kq ip iq jp jq hxy
    go_wp2_with fail
    go_loopw [11] (fun v11 wr => ∃ n : Nat, v11 = .int .i64 (n : Nat) ∧ n ≤ most ∧ Hid (runL s a b (most - n) n = r ∧ ∃ j, wr = w.drewN j)) (fun v11 _ => most - (intOf v11).toNat)
    case atStart => exact ⟨0, rfl, Nat.zero_le _, HR.out, nq, rfl⟩
    case round =>
      obtain ⟨n, rfl, hn, HS⟩ := hrel
      obtain ⟨hrn, j, hj⟩ := HS.out
      have hcr : wr.cell? ⟨f, 0, none⟩ = some (.string s) := by rw [hj]; exact hc
      by_cases hlt : n < most
      · obtain ⟨p, hp⟩ : ∃ p, a + n = p := ⟨_, rfl⟩
        obtain ⟨q, hq⟩ : ∃ p, b + n = p := ⟨_, rfl⟩
        have gp : p < s.size := by omega
        have gq : q < s.size := by omega
        have jp : (a : Int) + (n : Int) = (p : Int) := by omega
        have jq : (b : Int) + (n : Int) = (q : Int) := by omega
        have ip : (p : Int) < (s.size : Int) := by omega
        have iq : (q : Int) < (s.size : Int) := by omega
        have kp := wrapN p (by omega)
        have kq := wrapN q (by omega)
        have hltb : decide ((n : Int) < (most : Int)) = true := by simp; omega
        have hlti : (n : Int) < (most : Int) := by omega
        have hst : runL s a b (most - n) n = if bt s p = bt s q then runL s a b (most - (n + 1)) (n + 1) else n := by
          rw [show most - n = (most - (n + 1)) + 1 by omega, runL, hp, hq]
        rw [hst] at hrn
        have bp := bt_at s p gp
        have bq := bt_at s q gq
        obtain ⟨x, hx⟩ : ∃ x, bt s p = x := ⟨_, rfl⟩
        obtain ⟨y, hy⟩ : ∃ x, bt s q = x := ⟨_, rfl⟩
        rw [hx] at bp hrn
        rw [hy] at bq hrn
        clear hx hy hp hq hst
        by_cases hxy : x = y
        · rw [if_pos hxy] at hrn
          have HN : Hid (runL s a b (most - (n + 1)) (n + 1) = r ∧ ∃ j, wr = w.drewN j) := ⟨hrn, j, hj⟩
          have hxb : ((x : Int) == (y : Int)) = true := by simp [hxy]
          subst hj
          clear hrn hxy
          go_wp2_with fail
          go_quiet (fail)
          have HN2 : Hid (runL s a b (most - (n + 1)) (n + 1) = r ∧ ∃ j', w.drewN (j + nq) = w.drewN j') := ⟨HN.out.1, j + nq, rfl⟩
          go_wp2
          exact ⟨⟨n + 1, by go_num, by omega, HN2⟩, by simp [intOf]; omega⟩
        · rw [if_neg hxy] at hrn
          subst hrn
          have hxb : ((x : Int) == (y : Int)) = false := by simp; omega
          subst hj
          clear hxy
          go_wp2_with fail
          go_quiet (fail)
          go_wp2
          go_ret
          exact ⟨rfl, j + nq, World.drewN_drewN _ _ _⟩
      · obtain rfl : n = most := by omega
        have hltb : decide ((n : Int) < (n : Int)) = false := by simp
        rw [Nat.sub_self] at hrn
        have hrn2 : n = r := hrn
        subst hrn2
        subst hj
        clear hrn
        go_wp2_with fail
        go_quiet (fail)
        go_wp2
        go_ret
        exact ⟨rfl, j + nq, World.drewN_drewN _ _ _⟩
  · rw [if_neg hxy] at hr
    subst hr
    have hxb : ((x : Int) != (y : Int)) = true := by simp; omega
    go_enter Tryd.func42, Tryd.ntmps42
    go_wp2_with fail
    go_quiet (fail)
    go_wp2
    go_ret
    exact ⟨rfl, nq, rfl⟩
theorem FS.oldAt {w : World} {f mb ob : Nat} {s : ByteArray} {k i : Nat} (h : FS w f mb ob s k) (hi : i < k) : w.cell? ⟨ob, i, none⟩ = some (.int .i32 (enc32 (lastP s i (three s i)))) := by
  obtain ⟨cs, hc, hz, h1⟩ := h.old
  simp [World.cell?, hc, h1 i hi]
end Go.Proofs.YtbcflkdaeboflaaDoor.D5
