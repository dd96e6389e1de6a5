/- Layer 7: the pieces of a frame's head. -/
/- Layer 7: the other pieces of a frame's head. -/
/- Layer 7: sums, a block's number, its bytes. -/
import Derived.Test.YtbncfpbehahidaaGj1
namespace Go.Proofs.Ytbncfpbehahidaa
open Go.RowKit
set_option linter.unusedVariables false
set_option maxRecDepth 20000

/-- A piece: what it leaves of what an unpacker holds, and its error. -/
def POK (f : Nat) (P : FD → Prop) (g : FD → Nat × FD) : Prop :=
  ∀ (w : World) (B u : Nat) (d : FD) (v : Value), FU w B u d v → P d → Calls Try.prog f #[.pointer (some ⟨u, 0, none⟩)] w fun e w' => Ends B u w (g d).2 (.int .i64 ((g d).1 : Nat)) e w'
def gBeg (d : FD) : Nat × FD := if d.s.size < d.pos + 4 then (5, d) else if (d.s.extract d.pos (d.pos + 4)).toList = [4, 34, 77, 24] then (0, { d with pos := d.pos + 4 }) else (70, { d with pos := d.pos + 4 })
theorem nF_one (s : ByteArray) (a : Nat) : nF s a 1 = bt s a := by simp [nF]
set_option maxHeartbeats 1000000 in
theorem beg_ok : POK 15 (fun _ => True) gBeg := fun w B u d v h _ => by
  by_cases hs : d.s.size < d.pos + 4
  · have HQ : Hid (∀ _ : Unit, Calls Try.prog 31 #[.pointer (some ⟨u, 0, none⟩), .int .i64 4] w fun e w' => Ends B u w d (.tuple #[.string ⟨#[]⟩, .int .i64 5]) e w') := fun _ => fnext_short w B u d v h 4 (by omega) hs
    unfold gBeg
    rw [if_pos hs]
    clear h hs
    go_enter Try.func15, Try.ntmps15
    go_wp2_with fail
    refine (HQ.out ()).mono ?_
    rintro e w1 ⟨rfl, hU, hF⟩
    go_wp2
    go_ret
    exact ⟨rfl, hU, hF⟩
  · have HQ : Hid (∀ _ : Unit, Calls Try.prog 31 #[.pointer (some ⟨u, 0, none⟩), .int .i64 4] w fun e w' => Ends B u w { d with pos := d.pos + 4 } (.tuple #[.string (d.s.extract d.pos (d.pos + 4)), .int .i64 0]) e w') := fun _ => fnext_ok w B u d v h 4 (by omega) (by omega)
    unfold gBeg
    rw [if_neg hs]
    obtain ⟨X, hX⟩ : ∃ X, d.s.extract d.pos (d.pos + 4) = X := ⟨_, rfl⟩
    rw [hX] at HQ ⊢
    clear h hs hX
    by_cases hb : X.toList = [4, 34, 77, 24]
    · rw [if_pos hb]
      have hb1 : (X.toList == [4, 34, 77, 24]) = true := by rw [beq_iff_eq]; exact hb
      clear hb
      go_enter Try.func15, Try.ntmps15
      go_wp2_with fail
      refine (HQ.out ()).mono ?_
      rintro e w1 ⟨rfl, hU, hF⟩
      go_wp2
      go_ret
      exact ⟨rfl, hU, hF⟩
    · rw [if_neg hb]
      have hb1 : (X.toList == [4, 34, 77, 24]) = false := beq_eq_false_iff_ne.2 hb
      clear hb
      go_enter Try.func15, Try.ntmps15
      go_wp2_with fail
      refine (HQ.out ()).mono ?_
      rintro e w1 ⟨rfl, hU, hF⟩
      go_wp2
      go_ret
      exact ⟨rfl, hU, hF⟩
def gFl (d : FD) : Nat × FD := if d.s.size < d.pos + 1 then (5, { d with flags := 0 }) else if bt d.s d.pos / 32 = 3 ∧ bt d.s d.pos % 4 = 0 then (0, { d with pos := d.pos + 1, flags := bt d.s d.pos }) else (70, { d with pos := d.pos + 1 })
theorem fnumber_one (w : World) (B u : Nat) (d : FD) (v : Value) (h : FU w B u d v) (hs : d.pos + 1 ≤ d.s.size) :
    Calls Try.prog 32 #[.pointer (some ⟨u, 0, none⟩), .int .i64 1] w fun e w' => Ends B u w { d with pos := d.pos + 1 } (.tuple #[.int .i64 (bt d.s d.pos : Nat), .int .i64 0]) e w' := by
  have hl := bt_lt d.s d.pos
  have hx := fnumber_ok w B u d v h 1 (by omega) (by omega) hs (by rw [nF_one]; omega)
  rw [nF_one] at hx
  exact hx
set_option maxHeartbeats 1000000 in
theorem fl_ok : POK 16 (fun _ => True) gFl := fun w B u d v h _ => by
  by_cases hs : d.s.size < d.pos + 1
  · have HQ : Hid (∀ _ : Unit, Calls Try.prog 32 #[.pointer (some ⟨u, 0, none⟩), .int .i64 1] w fun e w' => Ends B u w d (.tuple #[.int .i64 0, .int .i64 5]) e w') := fun _ => fnumber_short w B u d v h 1 (by omega) (by omega) hs
    unfold gFl
    rw [if_pos hs]
    clear h hs
    go_enter Try.func16, Try.ntmps16
    go_wp2_with fail
    refine (HQ.out ()).mono ?_
    rintro e w1 ⟨rfl, ⟨v1, hU⟩, hF⟩
    have H1 : Hid (FU w1 B u d v1 ∧ FF B w w1) := ⟨hU, hF⟩
    have f3 := hU.fz 3
    obtain ⟨s, pos, most, flags, bm, size, block, held, plain⟩ := d
    obtain ⟨-, -, -, c3, -⟩ := hU.cs
    clear hU hF
    go_wp2
    go_ret
    have hh := H1.out.1.store (d' := ⟨s, pos, most, 0, bm, size, block, held, plain⟩) 3 (.int .i64 ((0 : Nat) : Int)) rfl rfl H1.out.1.le rfl H1.out.1.hbm H1.out.1.hmost (show 0 < 256 by omega) H1.out.1.hsz H1.out.1.hblk H1.out.1.hheld
    exact ⟨rfl, ⟨v1, hh.1⟩, H1.out.2.trans hh.2⟩
  · have HQ : Hid (∀ _ : Unit, Calls Try.prog 32 #[.pointer (some ⟨u, 0, none⟩), .int .i64 1] w fun e w' => Ends B u w { d with pos := d.pos + 1 } (.tuple #[.int .i64 (bt d.s d.pos : Nat), .int .i64 0]) e w') := fun _ => fnumber_one w B u d v h (by omega)
    unfold gFl
    rw [if_neg hs]
    have hl := bt_lt d.s d.pos
    have hk := flags_ok (bt d.s d.pos) hl
    obtain ⟨x, hx⟩ : ∃ x, bt d.s d.pos = x := ⟨_, rfl⟩
    rw [hx] at HQ hk hl ⊢
    clear h hs hx
    by_cases hb : x / 32 = 3 ∧ x % 4 = 0
    · rw [if_pos hb]
      rw [decide_eq_true hb] at hk
      simp only [Bool.not_true] at hk
      have HK : Hid (_ = false) := hk
      clear hb hk
      go_enter Try.func16, Try.ntmps16
      go_wp2_with fail
      refine (HQ.out ()).mono ?_
      rintro e w1 ⟨rfl, ⟨v1, hU⟩, hF⟩
      have H1 : Hid (FU w1 B u _ v1 ∧ FF B w w1) := ⟨hU, hF⟩
      have f3 := hU.fz 3
      obtain ⟨s, pos, most, flags, bm, size, block, held, plain⟩ := d
      obtain ⟨-, -, -, c3, -⟩ := hU.cs
      have hk := HK.out
      clear hU hF
      go_wp2
      go_ret
      have hh := H1.out.1.store (d' := ⟨s, pos + 1, most, x, bm, size, block, held, plain⟩) 3 (.int .i64 (x : Int)) rfl rfl H1.out.1.le rfl H1.out.1.hbm H1.out.1.hmost hl H1.out.1.hsz H1.out.1.hblk H1.out.1.hheld
      exact ⟨rfl, ⟨v1, hh.1⟩, H1.out.2.trans hh.2⟩
    · rw [if_neg hb]
      rw [decide_eq_false hb] at hk
      simp only [Bool.not_false] at hk
      have HK : Hid (_ = true) := hk
      clear hb hk
      go_enter Try.func16, Try.ntmps16
      go_wp2_with fail
      refine (HQ.out ()).mono ?_
      rintro e w1 ⟨rfl, hU, hF⟩
      have hk := HK.out
      go_wp2
      go_ret
      exact ⟨rfl, hU, hF⟩
end Go.Proofs.Ytbncfpbehahidaa
namespace Go.Proofs.Ytbncfpbehahidaa
open Go.RowKit
set_option linter.unusedVariables false
set_option maxRecDepth 20000

def gBm (d : FD) : Nat × FD := if d.s.size < d.pos + 1 then (5, d) else if bt d.s d.pos % 16 = 0 ∧ 4 ≤ bt d.s d.pos / 16 ∧ bt d.s d.pos / 16 ≤ 7 then (0, { d with pos := d.pos + 1, bm := 2 ^ (8 + 2 * (bt d.s d.pos / 16)) }) else (70, { d with pos := d.pos + 1 })
theorem blockMost_ok (k : Nat) (hk : k = 4 ∨ k = 5 ∨ k = 6 ∨ k = 7) (w : World) : Calls Try.prog 27 #[.int .i64 (k : Nat)] w fun e w' => e = .returned (.int .i64 ((2 ^ (8 + 2 * k) : Nat) : Int)) ∧ w' = w := by
  rcases hk with rfl | rfl | rfl | rfl
  all_goals
    go_enter Try.func27, Try.ntmps27
    go_wp2
    go_ret
    exact ⟨rfl, rfl⟩
set_option maxHeartbeats 1000000 in
theorem bm_ok : POK 17 (fun _ => True) gBm := fun w B u d v h _ => by
  by_cases hs : d.s.size < d.pos + 1
  · have HQ : Hid (∀ _ : Unit, Calls Try.prog 32 #[.pointer (some ⟨u, 0, none⟩), .int .i64 1] w fun e w' => Ends B u w d (.tuple #[.int .i64 0, .int .i64 5]) e w') := fun _ => fnumber_short w B u d v h 1 (by omega) (by omega) hs
    unfold gBm
    rw [if_pos hs]
    clear h hs
    go_enter Try.func17, Try.ntmps17
    go_wp2_with fail
    refine (HQ.out ()).mono ?_
    rintro e w1 ⟨rfl, hU, hF⟩
    go_wp2
    go_ret
    exact ⟨rfl, hU, hF⟩
  · have HQ : Hid (∀ _ : Unit, Calls Try.prog 32 #[.pointer (some ⟨u, 0, none⟩), .int .i64 1] w fun e w' => Ends B u w { d with pos := d.pos + 1 } (.tuple #[.int .i64 (bt d.s d.pos : Nat), .int .i64 0]) e w') := fun _ => fnumber_one w B u d v h (by omega)
    unfold gBm
    rw [if_neg hs]
    have hl := bt_lt d.s d.pos
    obtain ⟨x, hx⟩ : ∃ x, bt d.s d.pos = x := ⟨_, rfl⟩
    rw [hx] at HQ hl ⊢
    clear h hs hx
    obtain ⟨y, hy⟩ : ∃ y, x / 16 = y := ⟨_, rfl⟩
    obtain ⟨q, hq⟩ : ∃ q, 16 * y = q := ⟨_, rfl⟩
    rw [hy]
    have hyi : (x : Int) / 16 = (y : Int) := by omega
    have hqi : (y : Int) * 16 = (q : Int) := by omega
    have hqw := wrapN64 q (by omega)
    by_cases h4 : y < 4
    · rw [if_neg (by omega)]
      have h4i : (y : Int) < 4 := by omega
      clear hy hq
      go_enter Try.func17, Try.ntmps17
      go_wp2_with fail
      refine (HQ.out ()).mono ?_
      rintro e w1 ⟨rfl, hU, hF⟩
      go_wp2
      go_ret
      exact ⟨rfl, hU, hF⟩
    · have h4i : ¬ (y : Int) < 4 := by omega
      by_cases h7 : 7 < y
      · rw [if_neg (by omega)]
        have h7i : (7 : Int) < (y : Int) := by omega
        clear hy hq
        go_enter Try.func17, Try.ntmps17
        go_wp2_with fail
        refine (HQ.out ()).mono ?_
        rintro e w1 ⟨rfl, hU, hF⟩
        go_wp2
        go_ret
        exact ⟨rfl, hU, hF⟩
      · have h7i : ¬ (7 : Int) < (y : Int) := by omega
        by_cases he : x = q
        · rw [if_pos (by omega)]
          have HB : Hid (∀ W, Calls Try.prog 27 #[.int .i64 (y : Nat)] W fun e w' => e = .returned (.int .i64 ((2 ^ (8 + 2 * y) : Nat) : Int)) ∧ w' = W) := fun W => blockMost_ok y (by omega) W
          have hM : 2 ^ (8 + 2 * y) ≤ 4194304 := Nat.pow_le_pow_right (n := 2) (by omega) (show 8 + 2 * y ≤ 22 by omega)
          obtain ⟨M, hMM⟩ : ∃ M, 2 ^ (8 + 2 * y) = M := ⟨_, rfl⟩
          rw [hMM] at HB hM ⊢
          have hei : ((x : Int) != (q : Int)) = false := by rw [he]; simp
          have HXQ : Hid (x = q) := he
          clear hy hq he hMM
          go_enter Try.func17, Try.ntmps17
          go_wp2_with fail
          refine (HQ.out ()).mono ?_
          rintro e w1 ⟨rfl, ⟨v1, hU⟩, hF⟩
          have H1 : Hid (FU w1 B u _ v1 ∧ FF B w w1) := ⟨hU, hF⟩
          have f3 := hU.fz 4
          obtain ⟨s, pos, most, flags, bm, size, block, held, plain⟩ := d
          obtain ⟨-, -, -, -, c3, -⟩ := hU.cs
          clear hU hF
          go_wp2_with fail
          refine (HB.out _).mono ?_
          rintro e w2 ⟨rfl, rfl⟩
          go_wp2
          go_ret
          have hh := H1.out.1.store (d' := ⟨s, pos + 1, most, flags, M, size, block, held, plain⟩) 4 (.int .i64 (M : Int)) rfl rfl H1.out.1.le rfl hM H1.out.1.hmost H1.out.1.hfl H1.out.1.hsz H1.out.1.hblk H1.out.1.hheld
          exact ⟨rfl, ⟨v1, hh.1⟩, H1.out.2.trans hh.2⟩
        · rw [if_neg (by omega)]
          have hei : ((x : Int) != (q : Int)) = true := by simp; omega
          clear hy hq he
          go_enter Try.func17, Try.ntmps17
          go_wp2_with fail
          refine (HQ.out ()).mono ?_
          rintro e w1 ⟨rfl, hU, hF⟩
          go_wp2
          go_ret
          exact ⟨rfl, hU, hF⟩
theorem fhas_same (w : World) (B u : Nat) (d : FD) (v : Value) (h : FU w B u d v) (k : Nat) (hk : k = 4 ∨ k = 8 ∨ k = 16) :
    Calls Try.prog 33 #[.pointer (some ⟨u, 0, none⟩), .int .i64 (k : Nat)] w fun e w' => e = .returned (.bool (decide (d.flags / k % 2 = 1))) ∧ w' = w := by
  obtain ⟨s, pos, most, flags, bm, size, block, held, plain⟩ := d
  obtain ⟨-, -, -, c3, -⟩ := h.cs
  have hb : (bits .and .i64 (flags : Int) (k : Int) != 0) = decide (flags / k % 2 = 1) := by
    have := has_and flags h.hfl
    rcases hk with rfl | rfl | rfl
    · exact this.1
    · exact this.2.1
    · exact this.2.2
  simp only
  obtain ⟨b, hbb⟩ : ∃ b, decide (flags / k % 2 = 1) = b := ⟨_, rfl⟩
  rw [hbb] at hb ⊢
  have HB : Hid (_ = b) := hb
  clear h hb hbb hk
  go_enter Try.func33, Try.ntmps33
  go_wp2
  rw [HB.out]
  go_ret
  exact ⟨rfl, rfl⟩
theorem fhas_ok (w : World) (B u : Nat) (d : FD) (v : Value) (h : FU w B u d v) (k : Nat) (hk : k = 4 ∨ k = 8 ∨ k = 16) :
    Calls Try.prog 33 #[.pointer (some ⟨u, 0, none⟩), .int .i64 (k : Nat)] w fun e w' => Ends B u w d (.bool (decide (d.flags / k % 2 = 1))) e w' :=
  (fhas_same w B u d v h k hk).mono fun e w' he => by
    obtain ⟨rfl, rfl⟩ := he
    exact ⟨rfl, ⟨v, h⟩, FF.refl _ _⟩
def gSz (d : FD) : Nat × FD := if d.flags / 8 % 2 = 1 then if d.s.size < d.pos + 8 then (5, { d with size := 0 }) else if nF d.s d.pos 8 ≤ 4611686018427387904 then (0, { d with pos := d.pos + 8, size := nF d.s d.pos 8 }) else (70, { d with pos := d.pos + 8 }) else (0, d)
set_option maxHeartbeats 1000000 in
theorem sz_ok : POK 18 (fun _ => True) gSz := fun w B u d v h _ => by
  have HH : Hid (∀ _ : Unit, Calls Try.prog 33 #[.pointer (some ⟨u, 0, none⟩), .int .i64 8] w fun e w' => Ends B u w d (.bool (decide (d.flags / 8 % 2 = 1))) e w') := fun _ => fhas_ok w B u d v h 8 (by omega)
  clear h
  unfold gSz
  by_cases h8 : d.flags / 8 % 2 = 1
  · rw [if_pos h8]
    rw [decide_eq_true h8] at HH
    by_cases hs : d.s.size < d.pos + 8
    · have HQ : Hid (∀ W v, FU W B u d v → Calls Try.prog 32 #[.pointer (some ⟨u, 0, none⟩), .int .i64 8] W fun e w' => Ends B u W d (.tuple #[.int .i64 0, .int .i64 5]) e w') := fun W v h => fnumber_short W B u d v h 8 (by omega) (by omega) hs
      rw [if_pos hs]
      clear hs h8
      go_enter Try.func18, Try.ntmps18
      go_wp2_with fail
      refine (HH.out ()).mono ?_
      rintro e w0 ⟨rfl, ⟨v0, hU0⟩, hF0⟩
      have H0 : Hid (FU w0 B u d v0 ∧ FF B w w0) := ⟨hU0, hF0⟩
      clear hU0 hF0
      go_wp2_with fail
      refine (HQ.out _ _ H0.out.1).mono ?_
      rintro e w1 ⟨rfl, ⟨v1, hU⟩, hF⟩
      have H1 : Hid (FU w1 B u d v1 ∧ FF B w w1) := ⟨hU, H0.out.2.trans hF⟩
      have f3 := hU.fz 5
      obtain ⟨s, pos, most, flags, bm, size, block, held, plain⟩ := d
      obtain ⟨-, -, -, -, -, c3, -⟩ := hU.cs
      clear hU hF
      go_wp2
      go_ret
      have hh := H1.out.1.store (d' := ⟨s, pos, most, flags, bm, 0, block, held, plain⟩) 5 (.int .i64 ((0 : Nat) : Int)) rfl rfl H1.out.1.le rfl H1.out.1.hbm H1.out.1.hmost H1.out.1.hfl (Nat.zero_le _) H1.out.1.hblk H1.out.1.hheld
      exact ⟨rfl, ⟨v1, hh.1⟩, H1.out.2.trans hh.2⟩
    · rw [if_neg hs]
      by_cases hb : nF d.s d.pos 8 ≤ 9223372036854775807
      · have HQ : Hid (∀ W v, FU W B u d v → Calls Try.prog 32 #[.pointer (some ⟨u, 0, none⟩), .int .i64 8] W fun e w' => Ends B u W { d with pos := d.pos + 8 } (.tuple #[.int .i64 (nF d.s d.pos 8 : Nat), .int .i64 0]) e w') := fun W v h => fnumber_ok W B u d v h 8 (by omega) (by omega) (by omega) hb
        obtain ⟨x, hx⟩ : ∃ x, nF d.s d.pos 8 = x := ⟨_, rfl⟩
        rw [hx] at HQ hb ⊢
        clear hs h8 hx
        by_cases h62 : x ≤ 4611686018427387904
        · rw [if_pos h62]
          have h62i : ¬ (4611686018427387904 : Int) < (x : Int) := by omega
          go_enter Try.func18, Try.ntmps18
          go_wp2_with fail
          refine (HH.out ()).mono ?_
          rintro e w0 ⟨rfl, ⟨v0, hU0⟩, hF0⟩
          have H0 : Hid (FU w0 B u d v0 ∧ FF B w w0) := ⟨hU0, hF0⟩
          clear hU0 hF0
          go_wp2_with fail
          refine (HQ.out _ _ H0.out.1).mono ?_
          rintro e w1 ⟨rfl, ⟨v1, hU⟩, hF⟩
          have H1 : Hid (FU w1 B u _ v1 ∧ FF B w w1) := ⟨hU, H0.out.2.trans hF⟩
          have f3 := hU.fz 5
          obtain ⟨s, pos, most, flags, bm, size, block, held, plain⟩ := d
          obtain ⟨-, -, -, -, -, c3, -⟩ := hU.cs
          clear hU hF
          go_wp2
          go_ret
          have hh := H1.out.1.store (d' := ⟨s, pos + 8, most, flags, bm, x, block, held, plain⟩) 5 (.int .i64 (x : Int)) rfl rfl H1.out.1.le rfl H1.out.1.hbm H1.out.1.hmost H1.out.1.hfl h62 H1.out.1.hblk H1.out.1.hheld
          exact ⟨rfl, ⟨v1, hh.1⟩, H1.out.2.trans hh.2⟩
        · rw [if_neg h62]
          have h62i : (4611686018427387904 : Int) < (x : Int) := by omega
          go_enter Try.func18, Try.ntmps18
          go_wp2_with fail
          refine (HH.out ()).mono ?_
          rintro e w0 ⟨rfl, ⟨v0, hU0⟩, hF0⟩
          have H0 : Hid (FU w0 B u d v0 ∧ FF B w w0) := ⟨hU0, hF0⟩
          clear hU0 hF0
          go_wp2_with fail
          refine (HQ.out _ _ H0.out.1).mono ?_
          rintro e w1 ⟨rfl, hU, hF⟩
          go_wp2
          go_ret
          exact ⟨rfl, hU, H0.out.2.trans hF⟩
      · have HQ : Hid (∀ W v, FU W B u d v → Calls Try.prog 32 #[.pointer (some ⟨u, 0, none⟩), .int .i64 8] W fun e w' => Ends B u W { d with pos := d.pos + 8 } (.tuple #[.int .i64 0, .int .i64 10]) e w') := fun W v h => fnumber_big W B u d v h 8 (by omega) (by omega) (by omega) (by omega)
        rw [if_neg (by omega)]
        clear hs h8 hb
        go_enter Try.func18, Try.ntmps18
        go_wp2_with fail
        refine (HH.out ()).mono ?_
        rintro e w0 ⟨rfl, ⟨v0, hU0⟩, hF0⟩
        have H0 : Hid (FU w0 B u d v0 ∧ FF B w w0) := ⟨hU0, hF0⟩
        clear hU0 hF0
        go_wp2_with fail
        refine (HQ.out _ _ H0.out.1).mono ?_
        rintro e w1 ⟨rfl, hU, hF⟩
        go_wp2
        go_ret
        exact ⟨rfl, hU, H0.out.2.trans hF⟩
  · rw [if_neg h8]
    rw [decide_eq_false h8] at HH
    clear h8
    go_enter Try.func18, Try.ntmps18
    go_wp2_with fail
    refine (HH.out ()).mono ?_
    rintro e w0 ⟨rfl, hU0, hF0⟩
    go_wp2
    go_ret
    exact ⟨rfl, hU0, hF0⟩
end Go.Proofs.Ytbncfpbehahidaa
namespace Go.Proofs.Ytbncfpbehahidaa
open Go.RowKit
set_option linter.unusedVariables false
set_option maxRecDepth 20000

def gHs (d : FD) : Nat × FD := if d.s.size < d.pos + 1 then (5, d) else if bt d.s d.pos = hsum (d.s.extract 4 d.pos) / 256 % 256 then (0, { d with pos := d.pos + 1 }) else (71, { d with pos := d.pos + 1 })
set_option maxHeartbeats 1000000 in
theorem hs_ok : POK 19 (fun d => 4 ≤ d.pos) gHs := fun w B u d v h h4 => by
  have HU : Hid (FU w B u d v) := h
  have hle := h.le
  have hsm := h.small
  have HX : Hid (∀ W, Calls Try.prog 34 #[.string (d.s.extract 4 d.pos)] W fun e w' => e = .returned (.int .i64 (hsum (d.s.extract 4 d.pos) / 256 % 256 : Nat)) ∧ Below W.heap.size W w') := fun W => headSum_ok _ W (by rw [ByteArray.size_extract]; omega)
  have c0 : w.cell? ⟨u, 0, none⟩ = some (.string d.s) := (h.cell 0 _ rfl).1
  have c1 : w.cell? ⟨u, 1, none⟩ = some (.int .i64 (d.pos : Nat)) := (h.cell 1 _ rfl).1
  have hp4 : (4 : Int) ≤ (d.pos : Int) := by omega
  unfold gHs
  obtain ⟨S, hS⟩ : ∃ S, d.s = S := ⟨_, rfl⟩
  obtain ⟨p, hp⟩ : ∃ p, d.pos = p := ⟨_, rfl⟩
  have hle' : p ≤ S.size := by rw [← hS, ← hp]; exact hle
  have h4' : 4 ≤ p := by omega
  obtain ⟨T, hT⟩ : ∃ T, S.extract 4 p = T := ⟨_, rfl⟩
  obtain ⟨z, hz⟩ : ∃ z, hsum T / 256 % 256 = z := ⟨_, rfl⟩
  by_cases hs : d.s.size < d.pos + 1
  · have HQ : Hid (∀ W v, FU W B u d v → Calls Try.prog 32 #[.pointer (some ⟨u, 0, none⟩), .int .i64 1] W fun e w' => Ends B u W d (.tuple #[.int .i64 0, .int .i64 5]) e w') := fun W v h => fnumber_short W B u d v h 1 (by omega) (by omega) hs
    rw [if_pos hs]
    rw [hS] at c0
    rw [hp] at c1
    rw [hS] at hsm
    clear h hs hle h4 hp4 HX hS hp
    go_enter Try.func19, Try.ntmps19
    go_wp2_with fail
    go_quiet (fail)
    go_wp2_with fail
    refine (HQ.out _ _ (HU.out.drewN nq)).mono ?_
    rintro e w1 ⟨rfl, hU, hF⟩
    go_wp2
    go_ret
    exact ⟨rfl, hU, (FF.drewN _ _ _).trans hF⟩
  · have HQ : Hid (∀ W v, FU W B u d v → Calls Try.prog 32 #[.pointer (some ⟨u, 0, none⟩), .int .i64 1] W fun e w' => Ends B u W { d with pos := d.pos + 1 } (.tuple #[.int .i64 (bt d.s d.pos : Nat), .int .i64 0]) e w') := fun W v h => fnumber_one W B u d v h (by omega)
    rw [if_neg hs]
    obtain ⟨x, hx⟩ : ∃ x, bt d.s d.pos = x := ⟨_, rfl⟩
    rw [hx] at HQ ⊢
    rw [hS] at c0 hsm HX
    rw [hp] at c1 HX
    rw [show d.s.extract 4 d.pos = T by rw [hS, hp]; exact hT, hz]
    rw [hT, hz] at HX
    clear h hs hle h4 hp4 hz hx hS hp
    by_cases he : x = z
    · rw [if_pos he]
      have hei : ((x : Int) != (z : Int)) = false := by rw [he]; simp
      clear he
      go_enter Try.func19, Try.ntmps19
      go_wp2_with fail
      go_quiet (fail)
      go_wp2_with fail
      refine (HQ.out _ _ (HU.out.drewN nq)).mono ?_
      rintro e w1 ⟨rfl, ⟨v1, hU⟩, hF⟩
      have H1 : Hid (FU w1 B u _ v1 ∧ FF B w w1) := ⟨hU, (FF.drewN _ _ _).trans hF⟩
      clear hU hF
      go_wp2_with fail
      refine (HX.out _).mono ?_
      rintro e w2 ⟨rfl, hb2⟩
      have H2 : Hid (Below w1.heap.size w1 w2) := hb2
      clear hb2
      go_wp2
      go_ret
      exact ⟨rfl, ⟨v1, H1.out.1.call H2.out⟩, H1.out.2.trans (FF.call H2.out H1.out.1.sizeB)⟩
    · rw [if_neg he]
      have hei : ((x : Int) != (z : Int)) = true := by simp; omega
      clear he
      go_enter Try.func19, Try.ntmps19
      go_wp2_with fail
      go_quiet (fail)
      go_wp2_with fail
      refine (HQ.out _ _ (HU.out.drewN nq)).mono ?_
      rintro e w1 ⟨rfl, ⟨v1, hU⟩, hF⟩
      have H1 : Hid (FU w1 B u _ v1 ∧ FF B w w1) := ⟨hU, (FF.drewN _ _ _).trans hF⟩
      clear hU hF
      go_wp2_with fail
      refine (HX.out _).mono ?_
      rintro e w2 ⟨rfl, hb2⟩
      have H2 : Hid (Below w1.heap.size w1 w2) := hb2
      clear hb2
      go_wp2
      go_ret
      exact ⟨rfl, ⟨v1, H1.out.1.call H2.out⟩, H1.out.2.trans (FF.call H2.out H1.out.1.sizeB)⟩
/-- A sum of bytes. -/
def gSum (t : ByteArray) (d : FD) : Nat × FD := if d.s.size < d.pos + 4 then (5, d) else if nF d.s d.pos 4 = hsum t then (0, { d with pos := d.pos + 4 }) else (71, { d with pos := d.pos + 4 })
theorem nF4_lt (s : ByteArray) (a : Nat) : nF s a 4 < 4294967296 := nF_lt s a 4
set_option maxHeartbeats 1000000 in
theorem sum_ok (t : ByteArray) (ht : t.size ≤ 140737488351232) (w : World) (B u : Nat) (d : FD) (v : Value) (h : FU w B u d v) :
    Calls Try.prog 40 #[.pointer (some ⟨u, 0, none⟩), .string t] w fun e w' => Ends B u w (gSum t d).2 (.int .i64 ((gSum t d).1 : Nat)) e w' := by
  have HX : Hid (∀ W, Calls Try.prog 30 #[.string t] W fun e w' => e = .returned (.int .i64 (hsum t : Nat)) ∧ Below W.heap.size W w') := fun W => sumOf_ok t W ht
  unfold gSum
  by_cases hs : d.s.size < d.pos + 4
  · have HQ : Hid (∀ _ : Unit, Calls Try.prog 32 #[.pointer (some ⟨u, 0, none⟩), .int .i64 4] w fun e w' => Ends B u w d (.tuple #[.int .i64 0, .int .i64 5]) e w') := fun _ => fnumber_short w B u d v h 4 (by omega) (by omega) hs
    rw [if_pos hs]
    clear h hs ht
    go_enter Try.func40, Try.ntmps40
    go_wp2_with fail
    refine (HQ.out ()).mono ?_
    rintro e w1 ⟨rfl, hU, hF⟩
    go_wp2
    go_ret
    exact ⟨rfl, hU, hF⟩
  · have hn4 := nF4_lt d.s d.pos
    have HQ : Hid (∀ _ : Unit, Calls Try.prog 32 #[.pointer (some ⟨u, 0, none⟩), .int .i64 4] w fun e w' => Ends B u w { d with pos := d.pos + 4 } (.tuple #[.int .i64 (nF d.s d.pos 4 : Nat), .int .i64 0]) e w') := fun _ => fnumber_ok w B u d v h 4 (by omega) (by omega) (by omega) (by omega)
    rw [if_neg hs]
    obtain ⟨x, hx⟩ : ∃ x, nF d.s d.pos 4 = x := ⟨_, rfl⟩
    obtain ⟨z, hz⟩ : ∃ z, hsum t = z := ⟨_, rfl⟩
    rw [hx] at HQ ⊢
    rw [hz] at HX ⊢
    clear h hs ht hx hz hn4
    by_cases he : x = z
    · rw [if_pos he]
      have hei : ((x : Int) != (z : Int)) = false := by rw [he]; simp
      clear he
      go_enter Try.func40, Try.ntmps40
      go_wp2_with fail
      refine (HQ.out ()).mono ?_
      rintro e w1 ⟨rfl, ⟨v1, hU⟩, hF⟩
      have H1 : Hid (FU w1 B u _ v1 ∧ FF B w w1) := ⟨hU, hF⟩
      clear hU hF
      go_wp2_with fail
      refine (HX.out _).mono ?_
      rintro e w2 ⟨rfl, hb2⟩
      have H2 : Hid (Below w1.heap.size w1 w2) := hb2
      clear hb2
      go_wp2
      go_ret
      exact ⟨rfl, ⟨v1, H1.out.1.call H2.out⟩, H1.out.2.trans (FF.call H2.out H1.out.1.sizeB)⟩
    · rw [if_neg he]
      have hei : ((x : Int) != (z : Int)) = true := by simp; omega
      clear he
      go_enter Try.func40, Try.ntmps40
      go_wp2_with fail
      refine (HQ.out ()).mono ?_
      rintro e w1 ⟨rfl, ⟨v1, hU⟩, hF⟩
      have H1 : Hid (FU w1 B u _ v1 ∧ FF B w w1) := ⟨hU, hF⟩
      clear hU hF
      go_wp2_with fail
      refine (HX.out _).mono ?_
      rintro e w2 ⟨rfl, hb2⟩
      have H2 : Hid (Below w1.heap.size w1 w2) := hb2
      clear hb2
      go_wp2
      go_ret
      exact ⟨rfl, ⟨v1, H1.out.1.call H2.out⟩, H1.out.2.trans (FF.call H2.out H1.out.1.sizeB)⟩
end Go.Proofs.Ytbncfpbehahidaa
