/- The walk of BitsBack. -/
import Derived.Test.YtjjbbfiogkpodaaKa
namespace Go.Proofs.Ytjjbbfiogkpodaa
open Go.RowKit
set_option linter.unusedVariables false

set_option maxHeartbeats 2000000 in
set_option maxRecDepth 100000 in
theorem back_walk (bo off len cap : Nat) (fk fx fn : Nat → Int) (ft : Nat → ByteArray) (w : World) (hl : len ≤ 9223372036854775807) (hg : gain ft len ≤ 1073741824) (ho : OpsAt w bo off len fk fx fn ft) :
    Calls Try.prog 5 #[.slice (some ⟨bo, off, none⟩) len cap] w fun e w' => e = .returned (.bool true) ∧ Below w.heap.size w w' := by
  have HO : Hid (OpsAt w bo off len fk fx fn ft) := ho
  have HG : Hid (gain ft len ≤ 1073741824) := hg
  clear ho hg
  obtain ⟨i0, hi, hz0, hz1, hz2⟩ := info_parts Try.infoOp
  go_enter Try.func5, Try.ntmps5
  go_wp2_with fail
  refine (newWriter _).mono ?_
  rintro e w1 ⟨rfl, hw1⟩
  have H1 : Hid (BRel w w1 [] (.slice none 0 0) ft 0) := by
    rw [hw1]
    exact ⟨World.ownsRow_nil _ _ _ _, WS.new w _, fun i h => absurd h (by simp), (Below.refl _ _).alloc (Nat.le_refl _) _, Nat.zero_le _, Nat.zero_le _⟩
  clear hw1
  go_wp2
  go_loopw [4, 5] (fun v i wr => ∃ (ao : Option Addr) (cp j : Nat) (D : List DOp), v = .slice ao D.length cp ∧ j ≤ len ∧ i = .int .i64 j ∧ Hid (BRel w wr D (.slice ao D.length cp) ft j)) (fun _ i _ => len - (intOf i).toNat)
  case atStart => exact ⟨none, 0, 0, [], rfl, Nat.zero_le _, rfl, H1⟩
  case round =>
    obtain ⟨ao, cp, j, D, rfl, hj, rfl, hR⟩ := hrel
    by_cases hlt : j < len
    · have c0 : wr.cell? ⟨bo, off + j * 4, none⟩ = some (.int .i64 (fk j)) := (hR.out.bel.cell (p := ⟨bo, off + j * 4, none⟩) HO.out.lt).trans (HO.out.kind j hlt)
      have c1 : wr.cell? ⟨bo, off + j * 4 + 1, none⟩ = some (.int .i64 (fx j)) := (hR.out.bel.cell (p := ⟨bo, off + j * 4 + 1, none⟩) HO.out.lt).trans (HO.out.x j hlt)
      have c2 : wr.cell? ⟨bo, off + j * 4 + 2, none⟩ = some (.int .i64 (fn j)) := (hR.out.bel.cell (p := ⟨bo, off + j * 4 + 2, none⟩) HO.out.lt).trans (HO.out.n j hlt)
      have c3 : wr.cell? ⟨bo, off + j * 4 + 3, none⟩ = some (.string (ft j)) := (hR.out.bel.cell (p := ⟨bo, off + j * 4 + 3, none⟩) HO.out.lt).trans (HO.out.text j hlt)
      by_cases hbig : 4096 < (ft j).size
      · go_wp2_with fail
        refine (awake _).mono ?_
        rintro e w7 ⟨rfl, hb7⟩
        have hB7 : Hid (Below w.heap.size w w7) := (hR.out.bel.alloc hR.out.bel.size _).trans (hb7.mono (by simp; have := hR.out.bel.size; omega))
        clear hb7
        go_wp2
        go_ret
        exact ⟨rfl, hB7.out⟩
      have hDb : Hid (D.length ≤ 18838000 ∧ (drun D).length ≤ 1073741824) := by
        have h1 := hR.out.dlen
        have h2 := gain_len ft j
        have h3 := gain_le ft j len (by omega)
        have h4 := HG.out
        have h5 := hR.out.len
        exact ⟨by omega, by omega⟩
      by_cases h1 : fk j = 1
      · rw [h1] at c0
        clear h1
        by_cases hv : ∃ X N : Nat, fx j = X ∧ fn j = N ∧ N ≤ 57 ∧ X < 2 ^ N
        · obtain ⟨X, N, hx, hn, hN, hX⟩ := hv
          rw [hx] at c1
          rw [hn] at c2
          have HX : Hid (X < 2 ^ N) := hX
          clear hx hn hX
          have hal : Hid (Below wr.heap.size wr (wr.alloc (.cells #[.int .i64 1, .int .i64 X, .int .i64 N, .string (ft j)] 28))) := (Below.refl _ _).alloc (Nat.le_refl _) _
          have hdok : Hid (dok (drun D) ⟨1, X, N, ft j⟩) := .inl ⟨rfl, X, N, rfl, rfl, hN, HX.out⟩
          have hdl : Hid ((dstep (drun D) ⟨1, X, N, ft j⟩).length ≤ (drun D).length + 57 + 8 * (ft j).size) := by unfold Hid dstep; simp [bitsOf_length]; omega
          go_wp2_with fail
          refine (wbits w.heap.size w.heap.size (drun D) X N _ hN HX.out (by have := hDb.out.2; omega) (hR.out.ws.below hal.out) (by have := hR.out.bel.size; simp; omega)).mono ?_
          rintro e w2 ⟨rfl, hws, hfr⟩
          have hws2 : Hid (WS w2 w.heap.size w.heap.size (dstep (drun D) ⟨1, X, N, (ft j)⟩)) := by unfold Hid dstep; simpa using hws
          have hf2 : Hid (Fr 5 w.heap.size w.heap.size (wr.alloc (.cells #[.int .i64 1, .int .i64 X, .int .i64 N, .string (ft j)] 28)) w2) := hfr
          have hbox : Box w2 wr.heap.size 1 X N (ft j) := Box.fr (heap_alloc_new _ _) (by decide) (by have := hR.out.ws.lt; omega) hf2.out
          obtain ⟨b0, b1, b2, b3⟩ := hbox.cells
          have hown2 : w2.ownsRow w.heap.size 28 4 (.slice ao D.length cp) D.length (dcells D) := (hR.out.own.below hal.out).fr (hR.out.ws.below hal.out) hf2.out
          have hB2 : Hid (w.heap.size ≤ w2.heap.size) := by have h1 := hf2.out.size; have h2 := hR.out.bel.size; have h3 := hal.out.size; unfold Hid; omega
          clear hws hfr hbox
          go_wp2_with (at_builtin; refine wpList_append_lies _ rfl _ _ 22 rfl w.heap.size 28 i0 (.agg #[.int .i64 0, .int .i64 0, .int .i64 0, .string ⟨#[]⟩]) 4 40 Try.underlying22 hi hz0 hz1 hz2 rfl (by decide) (.slice ao D.length cp) D.length (dcells D) rfl (hown2.alloc _) ⟨w2.heap.size, 0, none⟩ 1 1 [.int .i64 1, .int .i64 X, .int .i64 N, .string (ft j)] rfl rfl ?c1 ?c2 (by decide) ?c3 ?c4 ?c5 (w2.heap.size + 1) ?c6 ?_)
          case c1 =>
            intro j u hj
            match j, hj with
            | 0, hj => simp at hj; subst hj; simp [Addr.add]
            | 1, hj => simp at hj; subst hj; simp [Addr.add]
            | 2, hj => simp at hj; subst hj; simp [Addr.add]
            | 3, hj => simp at hj; subst hj; simp [Addr.add]
          case c2 =>
            intro u hu
            simp at hu
            rcases hu with rfl | rfl | rfl | rfl <;> rfl
          case c3 => unfold maxLen; have := hDb.out; omega
          case c4 => have := hDb.out; omega
          case c5 => simp; have := hB2.out; omega
          case c6 => simp
          intro g cap w3 hown3 hgrow hat hgl
          have H3 : Hid (BRel w w3 (D ++ [⟨1, X, N, (ft j)⟩]) (.slice (some ⟨g, 0, none⟩) (D.length + 1) cap) ft (j + 1)) :=
            hR.out.done ⟨1, X, N, (ft j)⟩ hdok.out hal.out hws2.out hf2.out hdl.out hown3 hgrow
          clear hown3 hgrow hat hown2
          go_wp2
          go_roundw
          case rel => exact ⟨some ⟨g, 0, none⟩, cap, j + 1, D ++ [⟨1, X, N, (ft j)⟩], by simp, by omega, by go_num, by unfold Hid; simpa using H3.out⟩
          case measure => simp [intOf]; omega
        · have HV : Hid (fn j < 0 ∨ 57 < fn j ∨ fx j < 0 ∨ ∃ m : Nat, fn j = m ∧ m ≤ 57 ∧ (2 : Int) ^ m ≤ fx j) := by
            by_cases a1 : fn j < 0
            · exact .inl a1
            by_cases a2 : 57 < fn j
            · exact .inr (.inl a2)
            by_cases a3 : fx j < 0
            · exact .inr (.inr (.inl a3))
            obtain ⟨N, hN⟩ := Int.eq_ofNat_of_zero_le (show 0 ≤ fn j by omega)
            obtain ⟨X, hX⟩ := Int.eq_ofNat_of_zero_le (show 0 ≤ fx j by omega)
            refine .inr (.inr (.inr ⟨N, hN, by omega, ?_⟩))
            rcases Nat.lt_or_ge X (2 ^ N) with a4 | a4
            · exact absurd ⟨X, N, hX, hN, by omega, a4⟩ hv
            · have e2 : ((2 ^ N : Nat) : Int) = 2 ^ N := by simp
              rw [hX]; omega
          clear hv
          go_wp2_with fail
          refine (wbits_arg w.heap.size w.heap.size (drun D) (fx j) (fn j) _ HV.out (hR.out.ws.below ((Below.refl _ _).alloc (Nat.le_refl _) _))).mono ?_
          rintro e w2 ⟨rfl, hw2⟩
          subst hw2
          go_wp2
          go_roundw
          case rel => exact ⟨_, _, j + 1, D, rfl, by omega, by go_num, hR.out.next ((Below.refl _ _).alloc (Nat.le_refl _) _)⟩
          case measure => simp [intOf]; omega
      by_cases h2 : fk j = 2
      · rw [h2] at c0
        clear h1 h2
        have hal : Hid (Below wr.heap.size wr (wr.alloc (.cells #[.int .i64 2, .int .i64 (fx j), .int .i64 (fn j), .string (ft j)] 28))) := (Below.refl _ _).alloc (Nat.le_refl _) _
        have hdok : Hid (dok (drun D) ⟨2, fx j, fn j, ft j⟩) := .inr (.inl rfl)
        have hdl : Hid ((dstep (drun D) ⟨2, fx j, fn j, ft j⟩).length ≤ (drun D).length + 57 + 8 * (ft j).size) := by unfold Hid dstep; simp [padded_length]; omega
        go_wp2_with fail
        refine (walign w.heap.size w.heap.size (drun D) _ (by have := hDb.out.2; omega) (hR.out.ws.below hal.out)).mono ?_
        rintro e w2 ⟨rfl, hws, hfr⟩
        have hws2 : Hid (WS w2 w.heap.size w.heap.size (dstep (drun D) ⟨2, (fx j), (fn j), (ft j)⟩)) := by unfold Hid dstep; simpa using hws
        have hf2 : Hid (Fr 5 w.heap.size w.heap.size (wr.alloc (.cells #[.int .i64 2, .int .i64 (fx j), .int .i64 (fn j), .string (ft j)] 28)) w2) := Fr.only hfr
        have hbox : Box w2 wr.heap.size 2 (fx j) (fn j) (ft j) := Box.fr (heap_alloc_new _ _) (by decide) (by have := hR.out.ws.lt; omega) hf2.out
        obtain ⟨b0, b1, b2, b3⟩ := hbox.cells
        have hown2 : w2.ownsRow w.heap.size 28 4 (.slice ao D.length cp) D.length (dcells D) := (hR.out.own.below hal.out).fr (hR.out.ws.below hal.out) hf2.out
        have hB2 : Hid (w.heap.size ≤ w2.heap.size) := by have h1 := hf2.out.size; have h2 := hR.out.bel.size; have h3 := hal.out.size; unfold Hid; omega
        clear hws hfr hbox
        go_wp2_with (at_builtin; refine wpList_append_lies _ rfl _ _ 22 rfl w.heap.size 28 i0 (.agg #[.int .i64 0, .int .i64 0, .int .i64 0, .string ⟨#[]⟩]) 4 40 Try.underlying22 hi hz0 hz1 hz2 rfl (by decide) (.slice ao D.length cp) D.length (dcells D) rfl (hown2.alloc _) ⟨w2.heap.size, 0, none⟩ 1 1 [.int .i64 2, .int .i64 (fx j), .int .i64 (fn j), .string (ft j)] rfl rfl ?c1 ?c2 (by decide) ?c3 ?c4 ?c5 (w2.heap.size + 1) ?c6 ?_)
        case c1 =>
          intro j u hj
          match j, hj with
          | 0, hj => simp at hj; subst hj; simp [Addr.add]
          | 1, hj => simp at hj; subst hj; simp [Addr.add]
          | 2, hj => simp at hj; subst hj; simp [Addr.add]
          | 3, hj => simp at hj; subst hj; simp [Addr.add]
        case c2 =>
          intro u hu
          simp at hu
          rcases hu with rfl | rfl | rfl | rfl <;> rfl
        case c3 => unfold maxLen; have := hDb.out; omega
        case c4 => have := hDb.out; omega
        case c5 => simp; have := hB2.out; omega
        case c6 => simp
        intro g cap w3 hown3 hgrow hat hgl
        have H3 : Hid (BRel w w3 (D ++ [⟨2, (fx j), (fn j), (ft j)⟩]) (.slice (some ⟨g, 0, none⟩) (D.length + 1) cap) ft (j + 1)) :=
          hR.out.done ⟨2, (fx j), (fn j), (ft j)⟩ hdok.out hal.out hws2.out hf2.out hdl.out hown3 hgrow
        clear hown3 hgrow hat hown2
        go_wp2
        go_roundw
        case rel => exact ⟨some ⟨g, 0, none⟩, cap, j + 1, D ++ [⟨2, (fx j), (fn j), (ft j)⟩], by simp, by omega, by go_num, by unfold Hid; simpa using H3.out⟩
        case measure => simp [intOf]; omega
      by_cases h3 : fk j = 3
      · rw [h3] at c0
        clear h1 h2 h3
        by_cases h8 : (drun D).length % 8 = 0
        · have H8 : Hid ((drun D).length % 8 = 0) := h8
          clear h8
          have hal : Hid (Below wr.heap.size wr (wr.alloc (.cells #[.int .i64 3, .int .i64 (fx j), .int .i64 (fn j), .string (ft j)] 28))) := (Below.refl _ _).alloc (Nat.le_refl _) _
          have hdok : Hid (dok (drun D) ⟨3, fx j, fn j, ft j⟩) := .inr (.inr ⟨rfl, H8.out⟩)
          have hdl : Hid ((dstep (drun D) ⟨3, fx j, fn j, ft j⟩).length ≤ (drun D).length + 57 + 8 * (ft j).size) := by unfold Hid dstep; simp [textBits_length] <;> omega
          go_wp2_with fail
          refine (wbytes w.heap.size w.heap.size (drun D) (ft j) _ H8.out (by have := hDb.out.2; omega) (hR.out.ws.below hal.out) (by have := hR.out.bel.size; simp; omega)).mono ?_
          rintro e w2 ⟨rfl, hws, hfr⟩
          have hws2 : Hid (WS w2 w.heap.size w.heap.size (dstep (drun D) ⟨3, (fx j), (fn j), (ft j)⟩)) := by unfold Hid dstep; simpa using hws
          have hf2 : Hid (Fr 5 w.heap.size w.heap.size (wr.alloc (.cells #[.int .i64 3, .int .i64 (fx j), .int .i64 (fn j), .string (ft j)] 28)) w2) := hfr
          have hbox : Box w2 wr.heap.size 3 (fx j) (fn j) (ft j) := Box.fr (heap_alloc_new _ _) (by decide) (by have := hR.out.ws.lt; omega) hf2.out
          obtain ⟨b0, b1, b2, b3⟩ := hbox.cells
          have hown2 : w2.ownsRow w.heap.size 28 4 (.slice ao D.length cp) D.length (dcells D) := (hR.out.own.below hal.out).fr (hR.out.ws.below hal.out) hf2.out
          have hB2 : Hid (w.heap.size ≤ w2.heap.size) := by have h1 := hf2.out.size; have h2 := hR.out.bel.size; have h3 := hal.out.size; unfold Hid; omega
          clear hws hfr hbox
          go_wp2_with (at_builtin; refine wpList_append_lies _ rfl _ _ 22 rfl w.heap.size 28 i0 (.agg #[.int .i64 0, .int .i64 0, .int .i64 0, .string ⟨#[]⟩]) 4 40 Try.underlying22 hi hz0 hz1 hz2 rfl (by decide) (.slice ao D.length cp) D.length (dcells D) rfl (hown2.alloc _) ⟨w2.heap.size, 0, none⟩ 1 1 [.int .i64 3, .int .i64 (fx j), .int .i64 (fn j), .string (ft j)] rfl rfl ?c1 ?c2 (by decide) ?c3 ?c4 ?c5 (w2.heap.size + 1) ?c6 ?_)
          case c1 =>
            intro j u hj
            match j, hj with
            | 0, hj => simp at hj; subst hj; simp [Addr.add]
            | 1, hj => simp at hj; subst hj; simp [Addr.add]
            | 2, hj => simp at hj; subst hj; simp [Addr.add]
            | 3, hj => simp at hj; subst hj; simp [Addr.add]
          case c2 =>
            intro u hu
            simp at hu
            rcases hu with rfl | rfl | rfl | rfl <;> rfl
          case c3 => unfold maxLen; have := hDb.out; omega
          case c4 => have := hDb.out; omega
          case c5 => simp; have := hB2.out; omega
          case c6 => simp
          intro g cap w3 hown3 hgrow hat hgl
          have H3 : Hid (BRel w w3 (D ++ [⟨3, (fx j), (fn j), (ft j)⟩]) (.slice (some ⟨g, 0, none⟩) (D.length + 1) cap) ft (j + 1)) :=
            hR.out.done ⟨3, (fx j), (fn j), (ft j)⟩ hdok.out hal.out hws2.out hf2.out hdl.out hown3 hgrow
          clear hown3 hgrow hat hown2
          go_wp2
          go_roundw
          case rel => exact ⟨some ⟨g, 0, none⟩, cap, j + 1, D ++ [⟨3, (fx j), (fn j), (ft j)⟩], by simp, by omega, by go_num, by unfold Hid; simpa using H3.out⟩
          case measure => simp [intOf]; omega
        · have H8 : Hid ((drun D).length % 8 ≠ 0) := h8
          clear h8
          go_wp2_with fail
          refine (wbytes_bits w.heap.size w.heap.size (drun D) (ft j) _ H8.out (hR.out.ws.below ((Below.refl _ _).alloc (Nat.le_refl _) _))).mono ?_
          rintro e w2 ⟨rfl, hw2⟩
          subst hw2
          go_wp2
          go_roundw
          case rel => exact ⟨_, _, j + 1, D, rfl, by omega, by go_num, hR.out.next ((Below.refl _ _).alloc (Nat.le_refl _) _)⟩
          case measure => simp [intOf]; omega
      · have e1 : (fk j == 1) = false := by simp [h1]
        have e2 : (fk j == 2) = false := by simp [h2]
        have e3 : (fk j == 3) = false := by simp [h3]
        clear h1 h2 h3
        go_wp2
        go_roundw
        case rel => exact ⟨_, _, j + 1, D, rfl, by omega, by go_num, hR.out.next ((Below.refl _ _).alloc (Nat.le_refl _) _)⟩
        case measure => simp [intOf]; omega
    · obtain ⟨s, hs⟩ : ∃ s, s = toBA (pack (drun D)) := ⟨_, rfl⟩
      have HS : Hid (s = toBA (pack (drun D))) := hs
      have Hsz : Hid (s.size = ((drun D).length + 7) / 8 ∧ (drun D).length ≤ 1073741824 ∧ D.length ≤ 1073741824) := by
        have h1 := hR.out.len
        have h2 := gain_le ft j len (by omega)
        have h3 := HG.out
        have h4 := hR.out.dlen
        have h5 := gain_len ft j
        exact ⟨by rw [hs, toBA_pack_size], by omega, by omega⟩
      clear hs
      go_wp2_with fail
      have hd := wdone _ _ _ _ hR.out.ws
      rw [← HS.out] at hd
      refine hd.mono ?_
      clear hd
      rintro e w4 ⟨rfl, hw4⟩
      subst hw4
      go_wp2_with fail
      refine (newReader s _ (by have := Hsz.out; omega)).mono ?_
      rintro e w5 ⟨br, rfl, hl5, hs5, hr5, hb5⟩
      have H5 : Hid (RS w5 br s 0 ∧ DS w5 w.heap.size (.slice ao D.length cp) D ∧ WS w5 w.heap.size w.heap.size (drun D) ∧ Below w.heap.size w w5 ∧ w.heap.size ≤ br) :=
        ⟨hr5, hR.out.own.below hb5, hR.out.ws.below hb5, hR.out.bel.trans (hb5.mono hR.out.bel.size), Nat.le_trans hR.out.bel.size hl5⟩
      have HK : Hid (dall D ∧ Bits01 (drun D)) := ⟨hR.out.ok, hR.out.ws.bits01⟩
      have hDlen : D.length ≤ 1073741824 := Hsz.out.2.2
      clear hl5 hs5 hr5 hb5
      obtain ⟨wo, hwo⟩ : ∃ wo : World, wo = w5 := ⟨_, rfl⟩
      clear hwo wo
      clear hR
      go_wp2
      go_loopw [8] (fun i wr => ∃ q : Nat, q ≤ D.length ∧ i = .int .i64 q ∧ Hid (RS wr br s (drun (D.take q)).length ∧ DS wr w.heap.size (.slice ao D.length cp) D ∧ WS wr w.heap.size w.heap.size (drun D) ∧ Below w.heap.size w wr)) (fun i _ => D.length - (intOf i).toNat)
      case atStart => exact ⟨0, Nat.zero_le _, rfl, H5.out.1, H5.out.2.1, H5.out.2.2.1, H5.out.2.2.2.1⟩
      case round =>
        obtain ⟨q, hq, rfl, hQ⟩ := hrel
        by_cases hlq : q < D.length
        · have hform : ∃ g, ao = some ⟨g, 0, none⟩ := by
            rcases hQ.out.2.1.2 with ⟨_, h0⟩ | ⟨g, cap, cur, h, _⟩
            · omega
            · exact ⟨g, by cases h; rfl⟩
          obtain ⟨g, hao⟩ := hform
          have hD2 := hQ.out.2.1
          rw [hao] at hD2
          unfold DS at hD2
          have d0 : wr.cell? ⟨g, q * 4, none⟩ = some (.int .i64 D[q].k) := by
            rw [hD2.cellAt (q * 4) (by omega)]; have := dcells_get D q 0 hlq (by omega); simpa using this
          have d1 : wr.cell? ⟨g, q * 4 + 1, none⟩ = some (.int .i64 D[q].x) := by
            rw [hD2.cellAt (q * 4 + 1) (by omega)]; have := dcells_get D q 1 hlq (by omega); simpa using this
          have d2 : wr.cell? ⟨g, q * 4 + 2, none⟩ = some (.int .i64 D[q].n) := by
            rw [hD2.cellAt (q * 4 + 2) (by omega)]; have := dcells_get D q 2 hlq (by omega); simpa using this
          have d3 : wr.cell? ⟨g, q * 4 + 3, none⟩ = some (.string D[q].t) := by
            rw [hD2.cellAt (q * 4 + 3) (by omega)]; have := dcells_get D q 3 hlq (by omega); simpa using this
          clear hD2
          obtain ⟨p, hp⟩ : ∃ p, p = (drun (D.take q)).length := ⟨_, rfl⟩
          have HPq : Hid (p = (drun (D.take q)).length) := hp
          clear hp
          have hok := HK.out.1 q hlq
          have hbr : Hid (br < wr.heap.size) := lt_of_block hQ.out.1
          rw [hao]
          rcases hok with ⟨hk, X, N, hx, hn, hN, hX⟩ | hk | ⟨hk, h8⟩
          · have HF : Hid (num s p N = X ∧ p + N ≤ 8 * s.size ∧ (drun (D.take (q + 1))).length = p + N) := by
              rw [HPq.out, HS.out]
              exact back_bits D q hlq hk hx hn hX HK.out.2
            rw [hk] at d0
            rw [hx] at d1
            rw [hn] at d2
            generalize D[q].t = t at d3
            clear hk hx hn hX
            go_wp2_with fail
            have hrb := rbits br s p N (wr.alloc (.cells #[.int .i64 1, .int .i64 X, .int .i64 N, .string t] 28)) hN HF.out.2.1 (by have := Hsz.out; omega) (by rw [HPq.out]; exact hQ.out.1.alloc _)
            rw [HF.out.1] at hrb
            refine hrb.mono ?_
            clear hrb
            rintro e w6 ⟨rfl, hr6, ho6⟩
            obtain ⟨b0, b1, b2, b3⟩ := box_kept ho6 hbr.out
            have H6 : Hid (RS w6 br s (drun (D.take (q + 1))).length ∧ DS w6 w.heap.size (.slice ao D.length cp) D ∧ WS w6 w.heap.size w.heap.size (drun D) ∧ Below w.heap.size w w6) := by
              have hal : Below wr.heap.size wr (wr.alloc (.cells #[.int .i64 1, .int .i64 X, .int .i64 N, .string t] 28)) := (Below.refl _ _).alloc (Nat.le_refl _) _
              have hra := hQ.out.1.alloc (.cells #[.int .i64 1, .int .i64 X, .int .i64 N, .string t] 28)
              exact ⟨by rw [HF.out.2.2]; exact hr6, (hQ.out.2.1.below hal).reader hra ho6, (hQ.out.2.2.1.below hal).reader hra ho6, (hQ.out.2.2.2.trans (hal.mono hQ.out.2.2.2.size)).trans (ho6.below H5.out.2.2.2.2 (Nat.le_trans hQ.out.2.2.2.size hal.size))⟩
            rw [hao] at H6
            clear hr6 ho6
            go_wp2
            go_roundw
            case rel => exact ⟨q + 1, by omega, by go_num, H6⟩
            case measure => simp [intOf]; omega
          · have HF : Hid (p ≤ 8 * s.size ∧ (drun (D.take (q + 1))).length = (p + 7) / 8 * 8) := by
              rw [HPq.out, HS.out]
              exact back_align D q hlq hk
            rw [hk] at d0
            generalize D[q].t = t at d3
            generalize D[q].x = X at d1
            generalize D[q].n = N at d2
            clear hk
            go_wp2_with fail
            refine (ralign br s p (wr.alloc (.cells #[.int .i64 2, .int .i64 X, .int .i64 N, .string t] 28)) HF.out.1 (by have := Hsz.out; omega) (by rw [HPq.out]; exact hQ.out.1.alloc _)).mono ?_
            rintro e w6 ⟨rfl, hr6, ho6⟩
            have H6 : Hid (RS w6 br s (drun (D.take (q + 1))).length ∧ DS w6 w.heap.size (.slice ao D.length cp) D ∧ WS w6 w.heap.size w.heap.size (drun D) ∧ Below w.heap.size w w6) := by
              have hal : Below wr.heap.size wr (wr.alloc (.cells #[.int .i64 2, .int .i64 X, .int .i64 N, .string t] 28)) := (Below.refl _ _).alloc (Nat.le_refl _) _
              have hra := hQ.out.1.alloc (.cells #[.int .i64 2, .int .i64 X, .int .i64 N, .string t] 28)
              exact ⟨by rw [HF.out.2]; exact hr6, (hQ.out.2.1.below hal).reader hra ho6, (hQ.out.2.2.1.below hal).reader hra ho6, (hQ.out.2.2.2.trans (hal.mono hQ.out.2.2.2.size)).trans (ho6.below H5.out.2.2.2.2 (Nat.le_trans hQ.out.2.2.2.size hal.size))⟩
            rw [hao] at H6
            clear hr6 ho6
            go_wp2
            go_roundw
            case rel => exact ⟨q + 1, by omega, by go_num, H6⟩
            case measure => simp [intOf]; omega
          · have HF : Hid (s.extract (p / 8) (p / 8 + D[q].t.size) = D[q].t ∧ p / 8 + D[q].t.size ≤ s.size ∧ p ≤ 8 * s.size ∧ (drun (D.take (q + 1))).length = p + 8 * D[q].t.size ∧ p % 8 = 0) := by
              rw [HPq.out, HS.out]
              have := back_bytes D q hlq hk h8
              exact ⟨this.1, this.2.1, this.2.2.1, this.2.2.2, h8⟩
            rw [hk] at d0
            generalize D[q].t = t at d3 HF
            generalize D[q].x = X at d1
            generalize D[q].n = N at d2
            clear hk h8
            go_wp2_with fail
            have hrb := rbytes br s p t.size (wr.alloc (.cells #[.int .i64 3, .int .i64 X, .int .i64 N, .string t] 28)) HF.out.2.1 HF.out.2.2.2.2 HF.out.2.2.1 (by have := Hsz.out; omega) (by rw [HPq.out]; exact hQ.out.1.alloc _) (by simp; have := hbr.out; omega)
            rw [HF.out.1] at hrb
            refine hrb.mono ?_
            clear hrb
            rintro e w6 ⟨rfl, hr6, ho6⟩
            obtain ⟨b0, b1, b2, b3⟩ := box_kept ho6 hbr.out
            have H6 : Hid (RS w6 br s (drun (D.take (q + 1))).length ∧ DS w6 w.heap.size (.slice ao D.length cp) D ∧ WS w6 w.heap.size w.heap.size (drun D) ∧ Below w.heap.size w w6) := by
              have hal : Below wr.heap.size wr (wr.alloc (.cells #[.int .i64 3, .int .i64 X, .int .i64 N, .string t] 28)) := (Below.refl _ _).alloc (Nat.le_refl _) _
              have hra := hQ.out.1.alloc (.cells #[.int .i64 3, .int .i64 X, .int .i64 N, .string t] 28)
              exact ⟨by rw [HF.out.2.2.2.1]; exact hr6, (hQ.out.2.1.below hal).reader hra ho6, (hQ.out.2.2.1.below hal).reader hra ho6, (hQ.out.2.2.2.trans (hal.mono hQ.out.2.2.2.size)).trans (ho6.below H5.out.2.2.2.2 (Nat.le_trans hQ.out.2.2.2.size hal.size))⟩
            rw [hao] at H6
            clear hr6 ho6
            go_wp2
            go_roundw
            case rel => exact ⟨q + 1, by omega, by go_num, H6⟩
            case measure => simp [intOf]; omega
        · have hqe : Hid ((drun (D.take q)).length = (drun D).length) := by
            have : q = D.length := by omega
            unfold Hid; rw [this, List.take_length]
          go_wp2_with fail
          refine (rplace br (drun (D.take q)).length wr hQ.out.1.cells.1 hQ.out.1.cells.2.2.1).mono ?_
          rintro e w6 ⟨rfl, hw6⟩
          subst hw6
          rw [hqe.out]
          go_wp2_with fail
          refine (wplace w.heap.size (drun D).length _ hQ.out.2.2.1.self hQ.out.2.2.1.place).mono ?_
          rintro e w7 ⟨rfl, hw7⟩
          subst hw7
          go_wp2_with fail
          refine (awake _).mono ?_
          rintro e w8 ⟨rfl, hb8⟩
          go_wp2
          go_ret
          exact ⟨rfl, hQ.out.2.2.2.trans (hb8.mono hQ.out.2.2.2.size)⟩
set_option maxHeartbeats 1000000 in
set_option maxRecDepth 100000 in
theorem back_walk0 (a : Option Addr) (cap : Nat) (w : World) :
    Calls Try.prog 5 #[.slice a 0 cap] w fun e w' => e = .returned (.bool true) ∧ Below w.heap.size w w' := by
  go_enter Try.func5, Try.ntmps5
  go_wp2_with fail
  refine (newWriter _).mono ?_
  rintro e w1 ⟨rfl, hw1⟩
  have H1 : Hid (WS w1 w.heap.size w.heap.size [] ∧ Below w.heap.size w w1) := by
    rw [hw1]
    exact ⟨WS.new w _, (Below.refl _ _).alloc (Nat.le_refl _) _⟩
  clear hw1
  go_wp2
  go_loopw [4, 5] (fun v i wr => v = .slice none 0 0 ∧ i = .int .i64 0 ∧ Hid (WS wr w.heap.size w.heap.size [] ∧ Below w.heap.size w wr)) (fun _ i _ => 0 - (intOf i).toNat)
  case atStart => exact ⟨rfl, rfl, H1⟩
  case round =>
    obtain ⟨rfl, rfl, hR⟩ := hrel
    go_wp2_with fail
    refine (wdone _ _ _ _ hR.out.1).mono ?_
    rintro e w4 ⟨rfl, hw4⟩
    subst hw4
    go_wp2_with fail
    refine (newReader _ _ (by rw [toBA_pack_size]; simp)).mono ?_
    rintro e w5 ⟨br, rfl, hl5, hs5, hr5, hb5⟩
    have H5 : Hid (RS w5 br (toBA (pack [])) 0 ∧ WS w5 w.heap.size w.heap.size [] ∧ Below w.heap.size w w5) :=
      ⟨hr5, hR.out.1.below hb5, hR.out.2.trans (hb5.mono hR.out.2.size)⟩
    clear hl5 hs5 hr5 hb5 hR
    go_wp2
    go_loopw [8] (fun i wr => i = .int .i64 0 ∧ Hid (RS wr br (toBA (pack [])) 0 ∧ WS wr w.heap.size w.heap.size [] ∧ Below w.heap.size w wr)) (fun i _ => 0 - (intOf i).toNat)
    case atStart => exact ⟨rfl, H5⟩
    case round =>
      obtain ⟨rfl, hQ⟩ := hrel
      go_wp2_with fail
      refine (rplace br (0 : Nat) wr hQ.out.1.cells.1 hQ.out.1.cells.2.2.1).mono ?_
      rintro e w6 ⟨rfl, hw6⟩
      subst hw6
      go_wp2_with fail
      refine (wplace w.heap.size (0 : Nat) _ hQ.out.2.1.self hQ.out.2.1.place).mono ?_
      rintro e w7 ⟨rfl, hw7⟩
      subst hw7
      go_wp2_with fail
      refine (awake _).mono ?_
      rintro e w8 ⟨rfl, hb8⟩
      go_wp2
      go_ret
      exact ⟨rfl, hQ.out.2.2.trans (hb8.mono hQ.out.2.2.size)⟩
end Go.Proofs.Ytjjbbfiogkpodaa
