/- Writer.Bits: the bits of a number behind those that were written. -/
import Derived.Test.YtklipommocijaaaWm
namespace Go.Proofs.Ytklipommocijaaa
open Go.RowKit
set_option linter.unusedVariables false

theorem Try.infoU8 : (Try.prog.info? 5).map (fun i => (i.zero, i.size, i.bytes)) = some (some (.int .u8 0), 1, 1) := by kernel_rfl
set_option maxHeartbeats 1000000 in
theorem wbits (B b : Nat) (L : List Nat) (x n : Nat) (w : World) (hn : n ≤ 57) (hx : x < 2 ^ n) (hL : L.length + n ≤ 1125899906842624) (hw : WS w B b L) (hB : B ≤ w.heap.size) :
    Calls Try.prog 38 #[.pointer (some ⟨b, 0, none⟩), .int .i64 x, .int .i64 n] w fun e w' => e = .returned (.int .i64 0) ∧ WS w' B b (L ++ bitsOf x n) ∧ Fr 5 B b w w' := by
  have HW : Hid (WS w B b L) := hw
  have hx64 : x < 18446744073709551616 := by have := pow_le n 57 hn; omega
  obtain ⟨v, hb, _⟩ := hw
  obtain ⟨h0, _⟩ := cells3 hb
  clear hb
  go_enter Try.func38, Try.ntmps38
  go_wp2_with (go_at_call 39; refine (wgiven_yes _ _ h0).mono ?_; rintro e w' ⟨rfl, rfl⟩)
  · exfalso
    have hh : (((n : Int) < 0 ∨ 57 < (n : Int)) ∨ (x : Int) < 0) ∨ wrap64 (2 ^ n) ≤ (x : Int) := by assumption
    rw [wrap_pow n hn] at hh
    have : ((2 ^ n : Nat) : Int) = 2 ^ n := by simp
    omega
  go_loopw [31] (fun i wr => ∃ k : Nat, k ≤ n ∧ i = .int .i64 k ∧ WS wr B b (L ++ bitsOf x k) ∧ Fr 5 B b w' wr) (fun i _ => n - (intOf i).toNat)
  case atStart => exact ⟨0, Nat.zero_le _, rfl, by simpa [bitsOf] using HW.out, Fr.refl _ _ _ _⟩
  case round =>
    obtain ⟨k, hk, rfl, hws, hfr⟩ := hrel
    by_cases hlt : k < n
    · have HF : Hid (Fr 5 B b w' wr) := hfr
      have HWS : Hid (WS wr B b (L ++ bitsOf x k)) := hws
      obtain ⟨v, hbl, hown, h01, hlen⟩ := hws
      obtain ⟨p, hp⟩ : ∃ p, p = (L ++ bitsOf x k).length := ⟨_, rfl⟩
      rw [← hp] at hbl hown hlen
      have HP : Hid (p = (L ++ bitsOf x k).length) := hp
      obtain ⟨M, hM⟩ : ∃ M, M = L ++ bitsOf x k := ⟨_, rfl⟩
      rw [← hM] at hp hown h01
      have hpn : p < 1125899906842624 := by rw [HP.out]; simp [bitsOf_length]; omega
      clear hp hfr
      obtain ⟨_, c1, c2, f1, f2⟩ := cells3 hbl
      by_cases h8 : p % 8 = 0
      · have hHP := HP.out
        have HMM : Hid (M = L ++ bitsOf x k) := hM
        obtain ⟨m, hm⟩ : ∃ m, m = (p + 7) / 8 := ⟨_, rfl⟩
        rw [← hm] at hown
        have HM : Hid (m = (p + 7) / 8) := hm
        have hmb : m ≤ 1125899906842624 := by omega
        have hBw : B ≤ wr.heap.size := by have := HF.out.size; omega
        clear hm hHP hM
        obtain ⟨i0, hi, hz0, hz1, hz2⟩ := info_parts Try.infoU8
        go_wp2_with (at_builtin; refine wpList_append_lies _ rfl _ _ 67 rfl B 5 i0 (.int .u8 0) 1 1 Try.underlying67 hi hz0 hz1 hz2 rfl (by decide) v m (pcells M) rfl (hown.alloc _) ⟨wr.heap.size, 0, none⟩ 1 1 [.int .u8 0] rfl rfl ?c1 ?c2 (by decide) ?c3 ?c4 ?c5 (wr.heap.size + 1) ?c6 ?_)
        case c1 =>
          intro j u hj
          match j, hj with
          | 0, hj => simp at hj; subst hj; simp [Addr.add]
        case c2 => intro u hu; simp at hu; subst hu; rfl
        case c3 => unfold maxLen; omega
        case c4 => have := HM.out; omega
        case c5 => simp; omega
        case c6 => simp
        intro g cap w1 hown1 hgrow hat hgl
        have hml := HM.out
        have hML : p = M.length := by rw [HP.out, HMM.out]
        have hg1 := ownsRow_heap hown1
        have hblA : (wr.alloc (.cells #[Value.int .u8 0] 5)).heap[b]? = wr.heap[b]? := Below.heap_alloc _ _ _ (lt_of_block hbl)
        have hFr : Fr 5 B b wr w1 := (Fr.alloc _ _ _ _ _).trans (Fr.grown (hown.alloc _) hgrow)
        have hbl1 : w1.heap[b]? = some (.cells #[.pointer (some ⟨b, 0, none⟩), v, .int .i64 (p : Nat)] 69 (0, 0)) :=
          (hgrow.block b (by simp; have := lt_of_block hbl; omega) (fun e => by
            rcases hown.2 with ⟨rfl, _⟩ | ⟨g', cap', cur, rfl, _, hh, _⟩
            · simp [Value.ownBlock] at e
            · have e' : b = g' := by simpa [Value.ownBlock] using e
              subst e'; rw [hbl] at hh; cases hh)).trans (hblA.trans hbl)
        obtain ⟨_, _, c2', f1', f2'⟩ := cells3 hbl1
        have hgb : g ≠ b := by
          rintro rfl
          obtain ⟨_, cur, hh⟩ := hg1
          rw [hbl1] at hh; cases hh
        have hy : w1.cell? ⟨g, p / 8, none⟩ = some (.int .u8 0) := by
          rw [hown1.cellAt (p / 8) (by omega), List.getElem?_append_right (by rw [pcells_length, ← hML]; omega), pcells_length, ← hML, show p / 8 - (p + 7) / 8 = 0 by omega]; rfl
        have fy := hown1.frozenAt (p / 8)
        have hpm : p / 8 < m + 1 := by omega
        have HS : Hid (WS _ B b (M ++ [x / 2 ^ k % 2]) ∧ Fr 5 B b _ _) := step_store (w := w1.setCell ⟨b, 1, none⟩ (.slice (some ⟨g, 0, none⟩) (m + 1) cap)) (g := g) (cap := cap) (m := m + 1) (p := p) (M := M) (x / 2 ^ k % 2)
          (block_setCell (i := 1) hbl1) (ownsRow_block hown1 (Below.heap_setCell _ _ _ _ hgb)) hML (by simp; omega) h01 (Nat.mod_lt _ (by omega)) hpn
          (.int .u8 (bits BinOp.or IntKind.u8 0 (bits BinOp.and IntKind.u64 (↑x / 2 ^ k) 1 % 256)))
          (by rw [step_0 x k hx64, hML]; exact pcells_snoc0 (x / 2 ^ k % 2) (by rw [← hML]; exact h8)) _ rfl
        have HFr : Hid (Fr 5 B b wr w1) := hFr
        clear hat hown1 hgrow hg1 hblA hFr hbl1 hml hML hown c1 c2 f1 f2 hbl
        go_wp2
        go_region
        go_wp2
        go_roundw
        case rel =>
          exact ⟨k + 1, by omega, by go_num, by rw [bitsOf, ← List.append_assoc, ← HMM.out]; exact HS.out.1, HF.out.trans (HFr.out.trans ((Fr.only (Only.setCell b 1 _ _)).trans HS.out.2)).drew⟩
        case measure => simp [intOf]; omega
      · obtain ⟨g, cap, rfl, hBg, hgl⟩ := hown.form (by omega)
        have hHP := HP.out
        have hpm : p / 8 < (p + 7) / 8 := by omega
        obtain ⟨m, hm⟩ : ∃ m, m = (p + 7) / 8 := ⟨_, rfl⟩
        rw [← hm] at c1 hown hpm hbl
        have hy : wr.cell? ⟨g, p / 8, none⟩ = some (.int .u8 (byteOf M (p / 8) : Nat)) := by
          rw [hown.cellAt (p / 8) (by omega), pcells_get M (p / 8) (by rw [hM, ← hHP]; omega)]
        have fy := hown.frozenAt (p / 8)
        have hgb : g ≠ b := by
          rintro rfl
          rcases hown.2 with ⟨he, _⟩ | ⟨g', cap', cur, he, _, hh, _⟩
          · cases he
          · cases he; rw [hbl] at hh; cases hh
        have HM : Hid (m = (p + 7) / 8) := hm
        have HMM : Hid (M = L ++ bitsOf x k) := hM
        clear hm hHP hM
        go_wp2
        go_region
        go_wp2
        go_roundw
        case rel =>
          have hP := HP.out
          have hml := HM.out
          have hML : p = M.length := by rw [hP, HMM.out]
          have hbL : (bitsOf x k).length = k := bitsOf_length x k
          have hyq : byteOf M (p / 8) < 2 ^ (p % 8) := by rw [hML]; exact byteOf_last h01
          have S := step_store (x / 2 ^ k % 2) hbl hown hML (by simp; omega) h01 (Nat.mod_lt _ (by omega)) hpn
            (.int .u8 (bits BinOp.or IntKind.u8 (↑(byteOf M (p / 8))) (bits BinOp.and IntKind.u64 (↑x / 2 ^ k) 1 % 256 * 2 ^ (p % 8) % 256)))
            (by rw [step_y x k _ _ hx64 (by omega) hyq, hML]; exact pcells_snoc _ (by rw [← hML]; exact h8)) _ rfl
          exact ⟨k + 1, by omega, by go_num, by rw [bitsOf, ← List.append_assoc, ← HMM.out]; exact S.1, (HF.out.trans S.2).drew⟩
        case measure => simp [intOf]; omega
    · obtain rfl : k = n := by omega
      go_wp2
      go_ret
      exact ⟨rfl, hws, hfr⟩
end Go.Proofs.Ytklipommocijaaa
