/- Layer 7: a block's number, its bytes; what is looked at behind a block. -/
/- Layer 7: a block's bytes; what is looked at behind the blocks. -/
/- Layer 7: what a block holds; the size that is told. -/
import Derived.Test.YtbncfpbehahidaaGj2
import Derived.Test.YtbncfpbehahidaaYh
namespace Go.Proofs.Ytbncfpbehahidaa
open Go.RowKit
set_option linter.unusedVariables false
set_option maxRecDepth 20000

set_option maxHeartbeats 1000000 in
theorem heldBytes_ok (w : World) (B u : Nat) (d : FD) (v : Value) (h : FU w B u d v) :
    Calls Try.prog 49 #[.pointer (some ⟨u, 0, none⟩)] w fun e w' => e = .returned (.int .i64 (d.block % 2147483648 : Nat)) ∧ w' = w := by
  have c6 : w.cell? ⟨u, 6, none⟩ = some (.int .i64 (d.block : Nat)) := (h.cell 6 _ rfl).1
  have hb := andNot31 d.block h.hblk
  obtain ⟨x, hx⟩ : ∃ x, d.block = x := ⟨_, rfl⟩
  obtain ⟨y, hy⟩ : ∃ y, x % 2147483648 = y := ⟨_, rfl⟩
  rw [hx, hy] at hb ⊢
  rw [hx] at c6
  have HB : Hid (_ = (y : Int)) := hb
  clear h hb hx hy
  go_enter Try.func49, Try.ntmps49
  go_wp2
  rw [HB.out]
  go_ret
  exact ⟨rfl, rfl⟩
def gBn (d : FD) : Nat × FD := if d.s.size < d.pos + 4 then (5, { d with block := 0 }) else if nF d.s d.pos 4 = 2147483648 ∨ d.bm < nF d.s d.pos 4 % 2147483648 then (70, { d with pos := d.pos + 4, block := nF d.s d.pos 4 }) else (0, { d with pos := d.pos + 4, block := nF d.s d.pos 4 })
set_option maxHeartbeats 1000000 in
theorem bn_ok : POK 39 (fun _ => True) gBn := fun w B u d v h _ => by
  unfold gBn
  by_cases hs : d.s.size < d.pos + 4
  · have HQ : Hid (∀ _ : Unit, Calls Try.prog 32 #[.pointer (some ⟨u, 0, none⟩), .int .i64 4] w fun e w' => Ends B u w d (.tuple #[.int .i64 0, .int .i64 5]) e w') := fun _ => fnumber_short w B u d v h 4 (by omega) (by omega) hs
    rw [if_pos hs]
    clear h hs
    go_enter Try.func39, Try.ntmps39
    go_wp2_with fail
    refine (HQ.out ()).mono ?_
    rintro e w1 ⟨rfl, ⟨v1, hU⟩, hF⟩
    have H1 : Hid (FU w1 B u d v1 ∧ FF B w w1) := ⟨hU, hF⟩
    have f3 := hU.fz 6
    obtain ⟨s, pos, most, flags, bm, size, block, held, plain⟩ := d
    obtain ⟨-, -, -, -, -, -, c6, -⟩ := hU.cs
    have HH : Hid (FU (w1.setCell ⟨u, 6, none⟩ (.int .i64 0)) B u ⟨s, pos, most, flags, bm, size, 0, held, plain⟩ v1 ∧ FF B w (w1.setCell ⟨u, 6, none⟩ (.int .i64 0))) := by
      have hh := H1.out.1.store (d' := ⟨s, pos, most, flags, bm, size, 0, held, plain⟩) 6 (.int .i64 ((0 : Nat) : Int)) rfl rfl H1.out.1.le rfl H1.out.1.hbm H1.out.1.hmost H1.out.1.hfl H1.out.1.hsz (show 0 < 4294967296 by omega) H1.out.1.hheld
      exact ⟨hh.1, H1.out.2.trans hh.2⟩
    clear hU hF
    go_wp2_with fail
    obtain ⟨w2, hw2⟩ : ∃ w2, w1.setCell ⟨u, 6, none⟩ (.int .i64 0) = w2 := ⟨_, rfl⟩
    rw [hw2] at HH ⊢
    clear hw2 c6 f3
    have c4 : w2.cell? ⟨u, 4, none⟩ = some (.int .i64 (bm : Nat)) := HH.out.1.cs.2.2.2.2.1
    go_quiet (first | (go_at_call 49; exact Calls.quiet_of_same (heldBytes_ok _ B u _ _ (HH.out.1.drewN _))))
    go_wp2
    go_ret
    exact ⟨rfl, ⟨v1, HH.out.1.drewN _⟩, HH.out.2.trans (FF.drewN _ _ _)⟩
  · have hn4 := nF4_lt d.s d.pos
    have HQ : Hid (∀ _ : Unit, Calls Try.prog 32 #[.pointer (some ⟨u, 0, none⟩), .int .i64 4] w fun e w' => Ends B u w { d with pos := d.pos + 4 } (.tuple #[.int .i64 (nF d.s d.pos 4 : Nat), .int .i64 0]) e w') := fun _ => fnumber_ok w B u d v h 4 (by omega) (by omega) (by omega) (by omega)
    rw [if_neg hs]
    obtain ⟨x, hx⟩ : ∃ x, nF d.s d.pos 4 = x := ⟨_, rfl⟩
    rw [hx] at HQ hn4 ⊢
    clear h hs hx
    have HH : Hid (∀ w1 v1, FU w1 B u { d with pos := d.pos + 4 } v1 → FF B w w1 → FU (w1.setCell ⟨u, 6, none⟩ (.int .i64 (x : Nat))) B u { d with pos := d.pos + 4, block := x } v1 ∧ FF B w (w1.setCell ⟨u, 6, none⟩ (.int .i64 (x : Nat)))) := fun w1 v1 h1 h2 => by
      obtain ⟨s, pos, most, flags, bm, size, block, held, plain⟩ := d
      have hh := h1.store (d' := ⟨s, pos + 4, most, flags, bm, size, x, held, plain⟩) 6 (.int .i64 (x : Int)) rfl rfl h1.le rfl h1.hbm h1.hmost h1.hfl h1.hsz hn4 h1.hheld
      exact ⟨hh.1, h2.trans hh.2⟩
    by_cases h31 : x = 2147483648
    · have h31i : ((x : Int) == 2147483648) = true := by rw [h31]; rfl
      rw [if_pos (Or.inl h31)]
      clear h31
      go_enter Try.func39, Try.ntmps39
      go_wp2_with fail
      refine (HQ.out ()).mono ?_
      rintro e w1 ⟨rfl, ⟨v1, hU⟩, hF⟩
      have H1 : Hid (FU (w1.setCell ⟨u, 6, none⟩ (.int .i64 (x : Nat))) B u { d with pos := d.pos + 4, block := x } v1 ∧ FF B w (w1.setCell ⟨u, 6, none⟩ (.int .i64 (x : Nat)))) := HH.out w1 v1 hU hF
      have f3 := hU.fz 6
      obtain ⟨s, pos, most, flags, bm, size, block, held, plain⟩ := d
      obtain ⟨-, -, -, -, -, -, c6, -⟩ := hU.cs
      clear hU hF
      go_wp2_with fail
      go_quiet (fail)
      go_wp2
      go_ret
      exact ⟨rfl, ⟨v1, H1.out.1.drewN _⟩, H1.out.2.trans (FF.drewN _ _ _)⟩
    · have h31i : ((x : Int) == 2147483648) = false := beq_eq_false_iff_ne.2 (by omega)
      obtain ⟨y, hy⟩ : ∃ y, x % 2147483648 = y := ⟨_, rfl⟩
      rw [hy]
      have HB2 : Hid (∀ W V, FU W B u { d with pos := d.pos + 4, block := x } V → Calls Try.prog 49 #[.pointer (some ⟨u, 0, none⟩)] W fun e w' => e = .returned (.int .i64 (y : Nat)) ∧ w' = W) := fun W V h1 => by rw [← hy]; exact heldBytes_ok W B u _ V h1
      by_cases hm : d.bm < y
      · rw [if_pos (Or.inr hm)]
        have hmi : (d.bm : Int) < (y : Int) := by omega
        clear h31 hy hm
        go_enter Try.func39, Try.ntmps39
        go_wp2_with fail
        refine (HQ.out ()).mono ?_
        rintro e w1 ⟨rfl, ⟨v1, hU⟩, hF⟩
        have H1 : Hid (FU (w1.setCell ⟨u, 6, none⟩ (.int .i64 (x : Nat))) B u { d with pos := d.pos + 4, block := x } v1 ∧ FF B w (w1.setCell ⟨u, 6, none⟩ (.int .i64 (x : Nat)))) := HH.out w1 v1 hU hF
        have f3 := hU.fz 6
        have c6 : w1.cell? ⟨u, 6, none⟩ = some (.int .i64 (d.block : Nat)) := (hU.cell 6 _ rfl).1
        clear hU hF
        go_wp2_with fail
        obtain ⟨w2, hw2⟩ : ∃ w2, w1.setCell ⟨u, 6, none⟩ (.int .i64 (x : Nat)) = w2 := ⟨_, rfl⟩
        rw [hw2] at H1 ⊢
        clear hw2 c6 f3
        have c4 : w2.cell? ⟨u, 4, none⟩ = some (.int .i64 (d.bm : Nat)) := (H1.out.1.cell 4 _ rfl).1
        go_quiet (first | (go_at_call 49; exact Calls.quiet_of_same (HB2.out _ _ (H1.out.1.drewN _))))
        go_wp2
        go_ret
        exact ⟨rfl, ⟨v1, H1.out.1.drewN _⟩, H1.out.2.trans (FF.drewN _ _ _)⟩
      · rw [if_neg (by omega)]
        have hmi : ¬ (d.bm : Int) < (y : Int) := by omega
        clear h31 hy hm
        go_enter Try.func39, Try.ntmps39
        go_wp2_with fail
        refine (HQ.out ()).mono ?_
        rintro e w1 ⟨rfl, ⟨v1, hU⟩, hF⟩
        have H1 : Hid (FU (w1.setCell ⟨u, 6, none⟩ (.int .i64 (x : Nat))) B u { d with pos := d.pos + 4, block := x } v1 ∧ FF B w (w1.setCell ⟨u, 6, none⟩ (.int .i64 (x : Nat)))) := HH.out w1 v1 hU hF
        have f3 := hU.fz 6
        have c6 : w1.cell? ⟨u, 6, none⟩ = some (.int .i64 (d.block : Nat)) := (hU.cell 6 _ rfl).1
        clear hU hF
        go_wp2_with fail
        obtain ⟨w2, hw2⟩ : ∃ w2, w1.setCell ⟨u, 6, none⟩ (.int .i64 (x : Nat)) = w2 := ⟨_, rfl⟩
        rw [hw2] at H1 ⊢
        clear hw2 c6 f3
        have c4 : w2.cell? ⟨u, 4, none⟩ = some (.int .i64 (d.bm : Nat)) := (H1.out.1.cell 4 _ rfl).1
        go_quiet (first | (go_at_call 49; exact Calls.quiet_of_same (HB2.out _ _ (H1.out.1.drewN _))))
        go_wp2
        go_ret
        exact ⟨rfl, ⟨v1, H1.out.1.drewN _⟩, H1.out.2.trans (FF.drewN _ _ _)⟩
end Go.Proofs.Ytbncfpbehahidaa
namespace Go.Proofs.Ytbncfpbehahidaa
open Go.RowKit
set_option linter.unusedVariables false
set_option maxRecDepth 20000

def gHeld (d : FD) : Nat × FD := if d.s.size < d.pos + d.block % 2147483648 then (5, { d with held := ⟨#[]⟩ }) else (0, { d with pos := d.pos + d.block % 2147483648, held := d.s.extract d.pos (d.pos + d.block % 2147483648) })
set_option maxHeartbeats 1000000 in
theorem held_ok : POK 35 (fun _ => True) gHeld := fun w B u d v h _ => by
  have HU : Hid (FU w B u d v) := h
  unfold gHeld
  obtain ⟨y, hy⟩ : ∃ y, d.block % 2147483648 = y := ⟨_, rfl⟩
  have hyl : y ≤ 4294967296 := by omega
  have HB : Hid (∀ W V, FU W B u d V → Calls Try.prog 49 #[.pointer (some ⟨u, 0, none⟩)] W fun e w' => e = .returned (.int .i64 (y : Nat)) ∧ w' = W) := fun W V h1 => by rw [← hy]; exact heldBytes_ok W B u _ V h1
  have hyb : y ≤ 2147483648 := by omega
  rw [hy]
  clear hy
  by_cases hs : d.s.size < d.pos + y
  · have HQ : Hid (∀ W V, FU W B u d V → Calls Try.prog 31 #[.pointer (some ⟨u, 0, none⟩), .int .i64 (y : Nat)] W fun e w' => Ends B u W d (.tuple #[.string ⟨#[]⟩, .int .i64 5]) e w') := fun W V h1 => fnext_short W B u d V h1 y hyl hs
    rw [if_pos hs]
    clear h hs hyl
    go_enter Try.func35, Try.ntmps35
    go_wp2_with fail
    refine (HB.out _ _ HU.out).mono ?_
    rintro e w0 ⟨rfl, rfl⟩
    go_wp2_with fail
    refine (HQ.out _ _ HU.out).mono ?_
    rintro e w1 ⟨rfl, ⟨v1, hU⟩, hF⟩
    have H1 : Hid (FU w1 B u d v1 ∧ FF B w0 w1) := ⟨hU, hF⟩
    have f3 := hU.fz 7
    have c7 : w1.cell? ⟨u, 7, none⟩ = some (.string d.held) := (hU.cell 7 _ rfl).1
    clear hU hF
    go_wp2
    go_ret
    have hh := H1.out.1.store (d' := { d with held := ⟨#[]⟩ }) 7 (.string ⟨#[]⟩) rfl rfl H1.out.1.le rfl H1.out.1.hbm H1.out.1.hmost H1.out.1.hfl H1.out.1.hsz H1.out.1.hblk (show (⟨#[]⟩ : ByteArray).size ≤ 2147483648 by decide)
    exact ⟨rfl, ⟨v1, hh.1⟩, H1.out.2.trans hh.2⟩
  · have HQ : Hid (∀ W V, FU W B u d V → Calls Try.prog 31 #[.pointer (some ⟨u, 0, none⟩), .int .i64 (y : Nat)] W fun e w' => Ends B u W { d with pos := d.pos + y } (.tuple #[.string (d.s.extract d.pos (d.pos + y)), .int .i64 0]) e w') := fun W V h1 => fnext_ok W B u d V h1 y hyl (by omega)
    rw [if_neg hs]
    have hXs : (d.s.extract d.pos (d.pos + y)).size ≤ 2147483648 := by rw [ByteArray.size_extract]; omega
    obtain ⟨X, hX⟩ : ∃ X, d.s.extract d.pos (d.pos + y) = X := ⟨_, rfl⟩
    rw [hX] at HQ hXs ⊢
    clear h hs hyl hX
    go_enter Try.func35, Try.ntmps35
    go_wp2_with fail
    refine (HB.out _ _ HU.out).mono ?_
    rintro e w0 ⟨rfl, rfl⟩
    go_wp2_with fail
    refine (HQ.out _ _ HU.out).mono ?_
    rintro e w1 ⟨rfl, ⟨v1, hU⟩, hF⟩
    have H1 : Hid (FU w1 B u { d with pos := d.pos + y } v1 ∧ FF B w0 w1) := ⟨hU, hF⟩
    have f3 := hU.fz 7
    have c7 : w1.cell? ⟨u, 7, none⟩ = some (.string d.held) := (hU.cell 7 _ rfl).1
    clear hU hF
    go_wp2
    go_ret
    have hh := H1.out.1.store (d' := { d with pos := d.pos + y, held := X }) 7 (.string X) rfl rfl H1.out.1.le rfl H1.out.1.hbm H1.out.1.hmost H1.out.1.hfl H1.out.1.hsz H1.out.1.hblk hXs
    exact ⟨rfl, ⟨v1, hh.1⟩, H1.out.2.trans hh.2⟩
def gHeldSum (d : FD) : Nat × FD := if d.flags / 16 % 2 = 1 then gSum d.held d else (0, d)
set_option maxHeartbeats 1000000 in
theorem heldSum_ok : POK 36 (fun _ => True) gHeldSum := fun w B u d v h _ => by
  have HH : Hid (∀ _ : Unit, Calls Try.prog 33 #[.pointer (some ⟨u, 0, none⟩), .int .i64 16] w fun e w' => Ends B u w d (.bool (decide (d.flags / 16 % 2 = 1))) e w') := fun _ => fhas_ok w B u d v h 16 (by omega)
  have hhe := h.hheld
  have HQ : Hid (∀ W V, FU W B u d V → Calls Try.prog 40 #[.pointer (some ⟨u, 0, none⟩), .string d.held] W fun e w' => Ends B u W (gSum d.held d).2 (.int .i64 ((gSum d.held d).1 : Nat)) e w') := fun W V h1 => sum_ok d.held (by omega) W B u d V h1
  unfold gHeldSum
  clear h
  by_cases h8 : d.flags / 16 % 2 = 1
  · rw [if_pos h8]
    rw [decide_eq_true h8] at HH
    obtain ⟨t, ht⟩ : ∃ t, d.held = t := ⟨_, rfl⟩
    obtain ⟨r, hr⟩ : ∃ r, gSum t d = r := ⟨_, rfl⟩
    rw [ht, hr] at HQ ⊢
    have HC : Hid (∀ W V, FU W B u d V → W.cell? ⟨u, 7, none⟩ = some (.string t)) := fun W V h1 => by rw [← ht]; exact (h1.cell 7 _ rfl).1
    clear h8 hhe ht hr
    go_enter Try.func36, Try.ntmps36
    go_wp2_with fail
    refine (HH.out ()).mono ?_
    rintro e w0 ⟨rfl, ⟨v0, hU0⟩, hF0⟩
    have H0 : Hid (FU w0 B u d v0 ∧ FF B w w0) := ⟨hU0, hF0⟩
    have c7 := HC.out _ _ hU0
    clear hU0 hF0
    go_wp2_with fail
    refine (HQ.out _ _ H0.out.1).mono ?_
    rintro e w1 ⟨rfl, hU, hF⟩
    go_wp2
    go_ret
    exact ⟨rfl, hU, H0.out.2.trans hF⟩
  · rw [if_neg h8]
    rw [decide_eq_false h8] at HH
    clear h8 hhe HQ
    go_enter Try.func36, Try.ntmps36
    go_wp2_with fail
    refine (HH.out ()).mono ?_
    rintro e w0 ⟨rfl, hU0, hF0⟩
    go_wp2
    go_ret
    exact ⟨rfl, hU0, hF0⟩
def gMost (d : FD) : Nat × FD := if d.most < d.plain.length then (4, d) else (0, d)
set_option maxHeartbeats 1000000 in
theorem most_ok : POK 38 (fun _ => True) gMost := fun w B u d v h _ => by
  have HU : Hid (FU w B u d v) := h
  obtain ⟨ao, cp, hv⟩ := h.form
  have c8 : w.cell? ⟨u, 8, none⟩ = some v := (h.cell 8 _ rfl).1
  have c2 : w.cell? ⟨u, 2, none⟩ = some (.int .i64 (d.most : Nat)) := (h.cell 2 _ rfl).1
  rw [hv] at c8
  unfold gMost
  clear hv h
  obtain ⟨L, hL⟩ : ∃ L, d.plain.length = L := ⟨_, rfl⟩
  obtain ⟨m, hm⟩ : ∃ m, d.most = m := ⟨_, rfl⟩
  rw [hL] at c8 ⊢
  rw [hm] at c2 ⊢
  clear hL hm
  by_cases hs : m < L
  · rw [if_pos hs]
    have hi : (m : Int) < (L : Int) := by omega
    clear hs
    go_enter Try.func38, Try.ntmps38
    go_wp2_with fail
    go_quiet (fail)
    go_wp2
    go_ret
    exact ⟨rfl, ⟨v, HU.out.drewN _⟩, FF.drewN _ _ _⟩
  · rw [if_neg hs]
    have hi : ¬ (m : Int) < (L : Int) := by omega
    clear hs
    go_enter Try.func38, Try.ntmps38
    go_wp2_with fail
    go_quiet (fail)
    go_wp2
    go_ret
    exact ⟨rfl, ⟨v, HU.out.drewN _⟩, FF.drewN _ _ _⟩
def gSize (d : FD) : Nat × FD := if d.flags / 8 % 2 = 1 ∧ d.size ≠ d.plain.length then (70, d) else (0, d)
def gAll (d : FD) : Nat × FD := if d.flags / 4 % 2 = 1 then gSum (toBA d.plain) d else (0, d)
set_option maxHeartbeats 1000000 in
theorem all_ok : POK 22 (fun d => d.plain.length ≤ 16777216) gAll := fun w B u d v h hpl => by
  have HH : Hid (∀ _ : Unit, Calls Try.prog 33 #[.pointer (some ⟨u, 0, none⟩), .int .i64 4] w fun e w' => Ends B u w d (.bool (decide (d.flags / 4 % 2 = 1))) e w') := fun _ => fhas_ok w B u d v h 4 (by omega)
  have HQ : Hid (∀ W V, FU W B u d V → Calls Try.prog 40 #[.pointer (some ⟨u, 0, none⟩), .string (toBA d.plain)] W fun e w' => Ends B u W (gSum (toBA d.plain) d).2 (.int .i64 ((gSum (toBA d.plain) d).1 : Nat)) e w') := fun W V h1 => sum_ok _ (by rw [toBA_size]; omega) W B u d V h1
  unfold gAll
  clear h
  by_cases h8 : d.flags / 4 % 2 = 1
  · rw [if_pos h8]
    rw [decide_eq_true h8] at HH
    obtain ⟨t, ht⟩ : ∃ t, toBA d.plain = t := ⟨_, rfl⟩
    obtain ⟨r, hr⟩ : ∃ r, gSum t d = r := ⟨_, rfl⟩
    rw [ht, hr] at HQ ⊢
    have HC : Hid (∀ W V, FU W B u d V → (∃ ao ln cp, V = .slice ao ln cp) ∧ W.cell? ⟨u, 8, none⟩ = some V ∧ (convert 30 9 V).run Try.prog W = .ok (.string t) W) := fun W V h1 => by
      obtain ⟨ao, cp, hv⟩ := h1.form
      rw [← ht]
      exact ⟨⟨_, _, _, hv⟩, (h1.cell 8 _ rfl).1, conv_row W _ _ 5 B _ _ Try.underlying30 Try.underlying5 Try.underlying9 h1.own h1.bytes⟩
    clear h8 hpl ht hr
    go_enter Try.func22, Try.ntmps22
    go_wp2_with fail
    refine (HH.out ()).mono ?_
    rintro e w0 ⟨rfl, ⟨v0, hU0⟩, hF0⟩
    have H0 : Hid (FU w0 B u d v0 ∧ FF B w w0) := ⟨hU0, hF0⟩
    obtain ⟨⟨ao, ln, cp, hv⟩, c8, hcv⟩ := HC.out _ _ hU0
    subst hv
    clear hU0 hF0
    go_wp2_with fail
    refine (HQ.out _ _ H0.out.1).mono ?_
    rintro e w1 ⟨rfl, hU, hF⟩
    go_wp2
    go_ret
    exact ⟨rfl, hU, H0.out.2.trans hF⟩
  · rw [if_neg h8]
    rw [decide_eq_false h8] at HH
    clear h8 hpl HQ
    go_enter Try.func22, Try.ntmps22
    go_wp2_with fail
    refine (HH.out ()).mono ?_
    rintro e w0 ⟨rfl, hU0, hF0⟩
    go_wp2
    go_ret
    exact ⟨rfl, hU0, hF0⟩
end Go.Proofs.Ytbncfpbehahidaa
namespace Go.Proofs.Ytbncfpbehahidaa
open Go.RowKit
set_option linter.unusedVariables false
set_option maxRecDepth 20000

set_option maxHeartbeats 1000000 in
theorem size_ok : POK 21 (fun _ => True) gSize := fun w B u d v h _ => by
  have HH : Hid (∀ W, FU W B u d v → Calls Try.prog 33 #[.pointer (some ⟨u, 0, none⟩), .int .i64 8] W fun e w' => e = .returned (.bool (decide (d.flags / 8 % 2 = 1))) ∧ w' = W) := fun W h => fhas_same W B u d v h 8 (by omega)
  have HU : Hid (FU w B u d v) := h
  obtain ⟨ao, cp, hv⟩ := h.form
  have c8 : w.cell? ⟨u, 8, none⟩ = some v := (h.cell 8 _ rfl).1
  have c5 : w.cell? ⟨u, 5, none⟩ = some (.int .i64 (d.size : Nat)) := (h.cell 5 _ rfl).1
  rw [hv] at c8
  unfold gSize
  clear hv h
  obtain ⟨L, hL⟩ : ∃ L, d.plain.length = L := ⟨_, rfl⟩
  obtain ⟨z, hz⟩ : ∃ z, d.size = z := ⟨_, rfl⟩
  rw [hL] at c8 ⊢
  rw [hz] at c5 ⊢
  clear hL hz
  by_cases h8 : d.flags / 8 % 2 = 1
  · rw [decide_eq_true h8] at HH
    by_cases he : z = L
    · rw [if_neg (by omega)]
      have hei : ((z : Int) != (L : Int)) = false := by rw [he]; simp
      clear he h8
      go_enter Try.func21, Try.ntmps21
      go_wp2_with fail
      go_quiet (first | (go_at_call 33; exact Calls.quiet_of_same (HH.out _ (HU.out.drewN _))))
      go_wp2
      go_ret
      exact ⟨rfl, ⟨v, HU.out.drewN _⟩, FF.drewN _ _ _⟩
    · rw [if_pos ⟨h8, he⟩]
      have hei : ((z : Int) != (L : Int)) = true := by simp; omega
      clear he h8
      go_enter Try.func21, Try.ntmps21
      go_wp2_with fail
      go_quiet (first | (go_at_call 33; exact Calls.quiet_of_same (HH.out _ (HU.out.drewN _))))
      go_wp2
      go_ret
      exact ⟨rfl, ⟨v, HU.out.drewN _⟩, FF.drewN _ _ _⟩
  · rw [decide_eq_false h8] at HH
    rw [if_neg (by omega)]
    clear h8
    go_enter Try.func21, Try.ntmps21
    go_wp2_with fail
    go_quiet (first | (go_at_call 33; exact Calls.quiet_of_same (HH.out _ (HU.out.drewN _))))
    go_wp2
    go_ret
    exact ⟨rfl, ⟨v, HU.out.drewN _⟩, FF.drewN _ _ _⟩
theorem kept_FF {w w' : World} {B n : Nat} {v : Value} {xs : List Value} (hB : B ≤ w.heap.size) (hown : w.ownsRow B 5 1 v n xs) (hg : w.grownBy w' v.ownBlock) : FF B w w' :=
  ⟨Below.grown hown hg hB, fun k cs T mk h1 h2 _ => kept_row h1 h2 hown hg⟩
theorem FU.grow {w w1 : World} {B u : Nat} {d : FD} {m : List Nat} {v v1 : Value} (h : FU w B u d v) (hm : Bytes m) (hown : w1.ownsRow B 5 1 v1 (d.plain.length + m.length) (bcells d.plain ++ bcells m)) (hg : w.grownBy w1 v.ownBlock) :
    w1.cell? ⟨u, 8, none⟩ = some v ∧ w1.frozen? ⟨u, 8, none⟩ = false ∧ (∃ ao ln cp, v1 = .slice ao ln cp) ∧ FU (w1.setCell ⟨u, 8, none⟩ v1) B u { d with plain := d.plain ++ m } v1 ∧ FF B w (w1.setCell ⟨u, 8, none⟩ v1) := by
  have hbl := (kept_row h.blk (by decide) h.own hg).trans h.blk
  have hff := kept_FF h.sizeB h.own hg
  refine ⟨by simp [World.cell?, hbl, FD.cells], by simp [World.frozen?, hbl], ?_, ⟨?_, ?_, h.le, h.small, h.hB, h.hbm, h.hmost, h.hfl, h.hsz, h.hblk, h.hheld, h.bytes.append hm⟩, hff.trans ⟨Below.setCell' w1 _ h.hB, fun k cs T mk e _ e2 => ?_⟩⟩
  · rcases hown.2 with ⟨rfl, _⟩ | ⟨g, cap, cur, rfl, _⟩
    · exact ⟨_, _, _, rfl⟩
    · exact ⟨_, _, _, rfl⟩
  · rw [block_setCell (i := 8) hbl]; rfl
  · show World.ownsRow _ _ _ _ _ (d.plain ++ m).length (bcells (d.plain ++ m))
    rw [List.length_append, bcells_append]
    exact ownsRow_set hown hbl (by decide)
  · refine Below.heap_setCell _ _ _ _ ?_
    show k ≠ u
    rintro rfl
    rw [hbl] at e; cases e; exact e2 rfl
theorem unpF_len (s : ByteArray) (most : Nat) : ∀ (k a : Nat) (l : List Nat), l.length ≤ most → (unpF s most k a l).2.length ≤ most
  | 0, a, l, h => by simp [unpF]
  | k + 1, a, l, h => by
    unfold unpF
    split
    · simp
    · rename_i h0
      have hle := seqF_le s most a l (Classical.byContradiction h0)
      split
      · exact hle.2.2.1
      · exact unpF_len s most k _ _ hle.2.2.1
def gUnp (d : FD) : Nat × FD := if 2147483648 ≤ d.block then (0, { d with plain := d.plain ++ bytesOf d.held }) else if (unpack d.held (min d.bm 1048576)).1 = 4 ∧ d.bm ≤ 1048576 then (70, d) else if (unpack d.held (min d.bm 1048576)).1 = 0 then (0, { d with plain := d.plain ++ (unpack d.held (min d.bm 1048576)).2 }) else ((unpack d.held (min d.bm 1048576)).1, d)
set_option maxHeartbeats 4000000 in
theorem unp_plain (w : World) (B u : Nat) (d : FD) (v : Value) (h : FU w B u d v) (hpl : d.plain.length ≤ 1048576) (h31 : 2147483648 ≤ d.block) :
    Calls Try.prog 37 #[.pointer (some ⟨u, 0, none⟩)] w fun e w' => Ends B u w (gUnp d).2 (.int .i64 ((gUnp d).1 : Nat)) e w' := by
  have HU : Hid (FU w B u d v) := h
  obtain ⟨ao0, cp0, hv⟩ := h.form
  have c8 : w.cell? ⟨u, 8, none⟩ = some v := (h.cell 8 _ rfl).1
  have c7 : w.cell? ⟨u, 7, none⟩ = some (.string d.held) := (h.cell 7 _ rfl).1
  have c6 : w.cell? ⟨u, 6, none⟩ = some (.int .i64 (d.block : Nat)) := (h.cell 6 _ rfl).1
  have c4 : w.cell? ⟨u, 4, none⟩ = some (.int .i64 (d.bm : Nat)) := (h.cell 4 _ rfl).1
  have f8 := h.fz 8
  have ha := and31 d.block h.hblk
  have hhe := h.hheld
  unfold gUnp
  clear h
  rw [if_pos h31]
  rw [if_pos h31] at ha
  have hnb : (bits .and .i64 (d.block : Int) 2147483648 != 0) = true := by rw [ha]; rfl
  clear ha h31 c4
  obtain ⟨L, hL⟩ : ∃ L, d.plain.length = L := ⟨_, rfl⟩
  obtain ⟨ex, hex⟩ : ∃ ex, d.held = ex := ⟨_, rfl⟩
  obtain ⟨bk, hbk⟩ : ∃ bk, d.block = bk := ⟨_, rfl⟩
  rw [hL] at hpl hv
  rw [hex] at c7 hhe ⊢
  rw [hbk] at c6 hnb
  have HL : Hid (d.plain.length = L) := hL
  have HEX : Hid (d.held = ex) := hex
  obtain ⟨i0, hi0, hz0, hz1, hz2⟩ := info_parts infoB
  have HI : Hid (_ ∧ _ ∧ _ ∧ _) := ⟨hi0, hz0, hz1, hz2⟩
  have HO : Hid (w.drew.ownsRow B 5 1 v L (bcells d.plain) ∧ B ≤ w.drew.heap.size) := ⟨by rw [← hL]; exact HU.out.own, HU.out.sizeB⟩
  subst hv
  clear hi0 hz0 hz1 hz2 hL hex hbk
  go_enter Try.func37, Try.ntmps37
  go_wp2_with fail
  go_region_law
    (refine step_append_string _ rfl _ _ 30 9 rfl B 5 i0 Try.underlying30 Try.underlying9 HI.out.1 HI.out.2.1 HI.out.2.2.1 HI.out.2.2.2 (.slice ao0 L cp0) L (bcells d.plain) rfl HO.out.1 ex rfl (by unfold maxLen; omega) (by omega) HO.out.2 ?_; intro v1 w4 hown1 hgrow; rw [strCells_eq, ← HL.out, ← bytesOf_length ex] at hown1; obtain ⟨z0, z1, ⟨ao, ln, cp, hv1⟩, z3, z4⟩ := (HU.out.drewN 1).grow (bytesOf_bytes ex) hown1 hgrow; subst hv1; have HZ : Hid _ := (⟨z3, z4⟩ : _ ∧ _); clear z3 z4 hown1 hgrow)
  all_goals
    go_wp2
    go_ret
    have e := HEX.out
    subst e
    exact ⟨rfl, ⟨_, HZ.out.1⟩, (FF.drewN _ _ 1).trans HZ.out.2⟩
end Go.Proofs.Ytbncfpbehahidaa
