/- Layer 7: the document's answer: a number of eight bytes; what a head tells. -/
/- Layer 7: the document's answer: a frame's head. -/
import Derived.Test.YtbncfpbehahidaaGl1
import Derived.Test.YtbncfpbehahidaaGl2
import Derived.Deep.CutRange
namespace Go.Proofs.Ytbncfpbehahidaa
open Go.RowKit
set_option linter.unusedVariables false
set_option maxRecDepth 20000

theorem rnum8_ok (S : ByteArray) (a : Nat) (h : a + 8 ≤ S.size) (hb : nF S a 8 ≤ 9223372036854775807) (W : World) : Calls Try.prog 13 #[.string (S.extract a S.size), .int .i64 8] W fun e w' => e = .returned (.tuple #[.int .i64 (nF S a 8 : Nat), .int .i64 0]) ∧ w' = W := by
  have e1 := fixN_ext S a S.size (Nat.le_refl _) 8 (by omega)
  have hx := B1.refFixed (S.extract a S.size) 8 W (by omega) (by omega) (by rw [ByteArray.size_extract]; omega) (by rw [e1]; exact hb) (fun _ h7 => by
    have ht := B1.fixN_top (S.extract a S.size)
    rw [e1] at ht
    have hy := B1.byte_eq (S.extract a S.size) 7 h7
    rw [hy]
    have : ¬ 127 < ((S.extract a S.size).data.toList.getD 7 0).toNat := fun hc => by have := ht.2 hc; omega
    omega)
  rw [e1] at hx
  exact hx
theorem rnum8_big (S : ByteArray) (a : Nat) (h : a + 8 ≤ S.size) (hb : 9223372036854775807 < nF S a 8) (W : World) : ∃ E : Nat, E ≠ 0 ∧ E ≠ 5 ∧ Calls Try.prog 13 #[.string (S.extract a S.size), .int .i64 8] W fun e w' => e = .returned (.tuple #[.int .i64 0, .int .i64 (E : Nat)]) ∧ w' = W := by
  have e1 := fixN_ext S a S.size (Nat.le_refl _) 8 (by omega)
  have hs8 : 8 ≤ (S.extract a S.size).size := by rw [ByteArray.size_extract]; omega
  have h7 : 7 < (S.extract a S.size).size := by omega
  have ht := B1.fixN_top (S.extract a S.size)
  rw [e1] at ht
  have hc := ht.1 (by omega)
  have hx := B1.refFixed_big (S.extract a S.size) W hs8 (by rw [B1.byte_eq (S.extract a S.size) 7 h7]; omega)
  exact ⟨10, by decide, by decide, hx⟩
/-- The pieces of a head. -/
def headP : List Piece := [(15, fun _ => True, gBeg), (16, fun _ => True, gFl), (17, fun _ => True, gBm), (18, fun _ => True, gSz), (19, fun d => 4 ≤ d.pos, gHs)]
/-- What begins answers. -/
def bgR (q : Nat × FD) : Value := if q.1 = 0 then .tuple #[.agg #[.bool (decide (q.2.flags / 16 % 2 = 1)), .bool (decide (q.2.flags / 4 % 2 = 1)), .int .i64 (if q.2.flags / 8 % 2 = 1 then ((q.2.size : Nat) : Int) else -1), .int .i64 (q.2.bm : Nat), .int .i64 (q.2.pos : Nat)], .int .i64 0] else .tuple #[bzero, .int .i64 (q.1 : Nat)]
theorem bgR_bad {q : Nat × FD} {E : Nat} (h : q.1 = E) (hE : E ≠ 0) : bgR q = .tuple #[bzero, .int .i64 (E : Nat)] := by unfold bgR; rw [h, if_neg hE]
/-- The states of a head that is read. -/
theorem head_good (S : ByteArray) (most : Nat) (h6 : 6 ≤ S.size) (hb : (S.extract 0 4).toList = [4, 34, 77, 24]) (hg : bt S 4 / 32 = 3 ∧ bt S 4 % 4 = 0) (hd : bt S 5 % 16 = 0 ∧ 4 ≤ bt S 5 / 16 ∧ bt S 5 / 16 ≤ 7) :
    turnF headP (d0 S most) = turnF [(18, fun _ => True, gSz), (19, fun d => 4 ≤ d.pos, gHs)] ⟨S, 6, most, bt S 4, 2 ^ (8 + 2 * (bt S 5 / 16)), 0, 0, ⟨#[]⟩, []⟩ := by
  have e1 : gBeg (d0 S most) = (0, ⟨S, 4, most, 0, 0, 0, 0, ⟨#[]⟩, []⟩) := by
    unfold gBeg d0
    rw [if_neg (by simp only; omega), if_pos hb]
  have e2 : gFl ⟨S, 4, most, 0, 0, 0, 0, ⟨#[]⟩, []⟩ = (0, ⟨S, 5, most, bt S 4, 0, 0, 0, ⟨#[]⟩, []⟩) := by
    unfold gFl
    rw [if_neg (by simp only; omega), if_pos hg]
  have e3 : gBm ⟨S, 5, most, bt S 4, 0, 0, 0, ⟨#[]⟩, []⟩ = (0, ⟨S, 6, most, bt S 4, 2 ^ (8 + 2 * (bt S 5 / 16)), 0, 0, ⟨#[]⟩, []⟩) := by
    unfold gBm
    rw [if_neg (by simp only; omega), if_pos hd]
  unfold headP
  rw [turn_cons _ _ _ _ e1, turn_cons _ _ _ _ e2, turn_cons _ _ _ _ e3]
/-- A head that is refused ahead of its size. -/
theorem head_bad (S : ByteArray) (most : Nat) :
    (S.size < 4 → (turnF headP (d0 S most)).1 = 5) ∧
    (4 ≤ S.size → ¬ (S.extract 0 4).toList = [4, 34, 77, 24] → (turnF headP (d0 S most)).1 = 70) ∧
    (4 ≤ S.size → (S.extract 0 4).toList = [4, 34, 77, 24] → S.size < 5 → (turnF headP (d0 S most)).1 = 5) ∧
    (5 ≤ S.size → (S.extract 0 4).toList = [4, 34, 77, 24] → ¬ (bt S 4 / 32 = 3 ∧ bt S 4 % 4 = 0) → (turnF headP (d0 S most)).1 = 70) ∧
    (5 ≤ S.size → (S.extract 0 4).toList = [4, 34, 77, 24] → (bt S 4 / 32 = 3 ∧ bt S 4 % 4 = 0) → S.size < 6 → (turnF headP (d0 S most)).1 = 5) ∧
    (6 ≤ S.size → (S.extract 0 4).toList = [4, 34, 77, 24] → (bt S 4 / 32 = 3 ∧ bt S 4 % 4 = 0) → ¬ (bt S 5 % 16 = 0 ∧ 4 ≤ bt S 5 / 16 ∧ bt S 5 / 16 ≤ 7) → (turnF headP (d0 S most)).1 = 70) := by
  have e1 : 4 ≤ S.size → (S.extract 0 4).toList = [4, 34, 77, 24] → gBeg (d0 S most) = (0, ⟨S, 4, most, 0, 0, 0, 0, ⟨#[]⟩, []⟩) := fun h hb => by
    unfold gBeg d0
    rw [if_neg (by simp only; omega), if_pos hb]
  have e2 : 5 ≤ S.size → (bt S 4 / 32 = 3 ∧ bt S 4 % 4 = 0) → gFl ⟨S, 4, most, 0, 0, 0, 0, ⟨#[]⟩, []⟩ = (0, ⟨S, 5, most, bt S 4, 0, 0, 0, ⟨#[]⟩, []⟩) := fun h hg => by
    unfold gFl
    rw [if_neg (by simp only; omega), if_pos hg]
  refine ⟨fun h => ?_, fun h hb => ?_, fun h hb h5 => ?_, fun h hb hg => ?_, fun h hb hg h6 => ?_, fun h hb hg hd => ?_⟩
  · have e : (gBeg (d0 S most)).1 = 5 := by unfold gBeg d0; rw [if_pos (by simp only; omega)]
    unfold headP; rw [turn_fail _ _ _ (by rw [e]; decide)]; exact e
  · have e : (gBeg (d0 S most)).1 = 70 := by unfold gBeg d0; rw [if_neg (by simp only; omega), if_neg hb]
    unfold headP; rw [turn_fail _ _ _ (by rw [e]; decide)]; exact e
  · have e : (gFl ⟨S, 4, most, 0, 0, 0, 0, ⟨#[]⟩, []⟩).1 = 5 := by unfold gFl; rw [if_pos (by simp only; omega)]
    unfold headP; rw [turn_cons _ _ _ _ (e1 h hb), turn_fail _ _ _ (by rw [e]; decide)]; exact e
  · have e : (gFl ⟨S, 4, most, 0, 0, 0, 0, ⟨#[]⟩, []⟩).1 = 70 := by unfold gFl; rw [if_neg (by simp only; omega), if_neg hg]
    unfold headP; rw [turn_cons _ _ _ _ (e1 (by omega) hb), turn_fail _ _ _ (by rw [e]; decide)]; exact e
  · have e : (gBm ⟨S, 5, most, bt S 4, 0, 0, 0, ⟨#[]⟩, []⟩).1 = 5 := by unfold gBm; rw [if_pos (by simp only; omega)]
    unfold headP; rw [turn_cons _ _ _ _ (e1 (by omega) hb), turn_cons _ _ _ _ (e2 h hg), turn_fail _ _ _ (by rw [e]; decide)]; exact e
  · have e : (gBm ⟨S, 5, most, bt S 4, 0, 0, 0, ⟨#[]⟩, []⟩).1 = 70 := by unfold gBm; rw [if_neg (by simp only; omega), if_neg hd]
    unfold headP; rw [turn_cons _ _ _ _ (e1 (by omega) hb), turn_cons _ _ _ _ (e2 (by omega) hg), turn_fail _ _ _ (by rw [e]; decide)]; exact e
end Go.Proofs.Ytbncfpbehahidaa
namespace Go.Proofs.Ytbncfpbehahidaa
open Go.RowKit
set_option linter.unusedVariables false
set_option maxRecDepth 20000

theorem turn_bad (p : Piece) (ps : List Piece) (d d' : FD) (E : Nat) (h : p.2.2 d = (E, d')) (hE : E ≠ 0) : (turnF (p :: ps) d).1 = E := by
  unfold turnF
  rw [h]
  simp [hE]
theorem rnum8_ten (S : ByteArray) (a : Nat) (h : a + 8 ≤ S.size) (hb : 9223372036854775807 < nF S a 8) (W : World) : Calls Try.prog 13 #[.string (S.extract a S.size), .int .i64 8] W fun e w' => e = .returned (.tuple #[.int .i64 0, .int .i64 10]) ∧ w' = W := by
  have e1 := fixN_ext S a S.size (Nat.le_refl _) 8 (by omega)
  have hs8 : 8 ≤ (S.extract a S.size).size := by rw [ByteArray.size_extract]; omega
  have h7 : 7 < (S.extract a S.size).size := by omega
  have ht := B1.fixN_top (S.extract a S.size)
  rw [e1] at ht
  have hc := ht.1 (by omega)
  exact B1.refFixed_big (S.extract a S.size) W hs8 (by rw [B1.byte_eq (S.extract a S.size) 7 h7]; omega)
/-- What is known behind the size. -/
def SzSt (w : World) (S : ByteArray) (most f M : Nat) (q : Nat × FD) (v0 v1 : Value) (sv : Int) (P : Nat) (wc : World) : Prop :=
  HW w wc v0 v1 (.int .i64 sv) (.int .i64 (M : Int)) (.int .i64 (P : Nat)) ∧ ∃ sz, q = gHs ⟨S, P, most, f, M, sz, 0, ⟨#[]⟩, []⟩ ∧ sv = (if f / 8 % 2 = 1 then ((sz : Nat) : Int) else -1)
set_option maxHeartbeats 4000000 in
theorem begins_good (S : ByteArray) (most : Nat) (w : World) (hS : S.size ≤ 140737488351232) (h6 : 6 ≤ S.size) (hb : (S.extract 0 4).toList = [4, 34, 77, 24]) (hg : bt S 4 / 32 = 3) (hg4 : bt S 4 % 4 = 0) (hd0 : bt S 5 % 16 = 0) (hy4 : 4 ≤ bt S 5 / 16) (hy7 : bt S 5 / 16 ≤ 7) :
    Calls Try.prog 23 #[.string S] w fun e w' => e = .returned (bgR (turnF headP (d0 S most))) ∧ Below w.heap.size w w' := by
  have hq0 := head_good S most h6 hb ⟨hg, hg4⟩ ⟨hd0, hy4, hy7⟩
  obtain ⟨q, hq⟩ : ∃ q, turnF headP (d0 S most) = q := ⟨_, rfl⟩
  rw [hq] at hq0 ⊢
  have h4i : ¬ (S.size : Int) < 4 := by omega
  have hb1 : ((S.extract 0 4).toList == [4, 34, 77, 24]) = true := by rw [beq_iff_eq]; exact hb
  clear hb
  have h5i : ¬ (S.size : Int) < 5 := by omega
  have h6i : ¬ (S.size : Int) < 6 := by omega
  obtain ⟨f, hf⟩ : ∃ f, bt S 4 = f := ⟨_, rfl⟩
  have hfl : f < 256 := by rw [← hf]; exact bt_lt S 4
  have h4n : 4 < S.size := by omega
  have hfb : (S[4]'h4n).toNat = f := (bt_at S 4 h4n).trans hf
  have HFB : Hid ((S[4]'h4n).toNat = f) := hfb
  clear hfb
  rw [hf] at hg hg4
  have hqi : (f : Int) / 32 = 3 := by omega
  have hri : (f : Int).tmod 4 = 0 := by rw [Int.tmod_eq_emod_of_nonneg (by omega)]; omega
  clear hg hg4
  obtain ⟨d, hd⟩ : ∃ d, bt S 5 = d := ⟨_, rfl⟩
  have hdl : d < 256 := by rw [← hd]; exact bt_lt S 5
  have h5n : 5 < S.size := by omega
  have hdb : (S[5]'h5n).toNat = d := (bt_at S 5 h5n).trans hd
  have HDB : Hid ((S[5]'h5n).toNat = d) := hdb
  clear hdb
  rw [hd] at hd0 hy4 hy7
  have hqi2 : (d : Int).tmod 16 = 0 := by rw [Int.tmod_eq_emod_of_nonneg (by omega)]; omega
  obtain ⟨y, hy⟩ : ∃ y, d / 16 = y := ⟨_, rfl⟩
  rw [hy] at hy4 hy7
  have hyi : (d : Int) / 16 = (y : Int) := by omega
  have hyn : ¬ (y : Int) < 4 := by omega
  have hyn7 : ¬ (7 : Int) < (y : Int) := by omega
  have hvb : ∃ vb : Int → Bool, vb 4 = decide (f / 16 % 2 = 1) ∧ vb 2 = decide (f / 4 % 2 = 1) ∧ vb 3 = decide (f / 8 % 2 = 1) := ⟨fun n => if n = 4 then decide (f / 16 % 2 = 1) else if n = 2 then decide (f / 4 % 2 = 1) else decide (f / 8 % 2 = 1), rfl, rfl, rfl⟩
  obtain ⟨vb, v4, v2, v3⟩ := hvb
  have HBn : Hid (∀ (n : Int) W, (n = 4 ∨ n = 2 ∨ n = 3) → Calls Try.prog 41 #[.int .u8 (f : Nat), .int .i64 n] W fun e w' => e = .returned (.bool (vb n)) ∧ w' = W) := fun n W h => by
    rcases h with rfl | rfl | rfl
    · rw [v4]; exact bit_ok f 16 4 hfl (by omega) W
    · rw [v2]; exact bit_ok f 4 2 hfl (by omega) W
    · rw [v3]; exact bit_ok f 8 3 hfl (by omega) W
  obtain ⟨M, hM⟩ : ∃ M, 2 ^ (8 + 2 * y) = M := ⟨_, rfl⟩
  rw [hf, hd, hy, hM] at hq0
  have HQ0 : Hid (q = _) := hq0
  clear hf hd hy hfl hdl hq hq0
  have hfb := HFB.out
  have hdb := HDB.out
  have hsh : ∀ W, (Op.shift BinOp.shl .i64 1 .i64 (IntKind.i64.wrap (8 + IntKind.i64.wrap (2 * IntKind.i64.wrap (y : Int))))).run Try.prog W = .ok (.int .i64 (M : Int)) W := fun W => by
    rw [← hM]
    clear hfb hdb
    rcases (show y = 4 ∨ y = 5 ∨ y = 6 ∨ y = 7 by omega) with rfl | rfl | rfl | rfl <;> rfl
  have HV : Hid (_ ∧ _ ∧ _) := ⟨v4, v2, v3⟩
  have HSz : Hid (S.size ≤ 140737488351232 ∧ 6 ≤ S.size) := ⟨hS, h6⟩
  clear v4 v2 v3 hd0 hy4 hy7 hM hS
  go_enter Try.func23, Try.ntmps23
  go_upto_region 15 with fail
  clear hfb hdb hqi hri hqi2 hb1 h4i h5i h6i hyn hyn7 HFB HDB
  go_cut [6] from 9 (fun v6 wc => v6 = .pointer (some ⟨w.heap.size + 1, 0, none⟩) ∧ Hid (HW w wc (.bool (vb 4)) (.bool (vb 2)) (.int .i64 (-1)) (.int .i64 (M : Int)) (.int .i64 6)))
  case first =>
    go_region_law
      (first | (go_simp; go_at_call 41; refine (HBn.out _ _ (by decide)).mono ?_; rintro e w5 ⟨rfl, rfl⟩))
    all_goals
      clear hsh hyi
      go_wp2_with fail
      go_meet
      case rel =>
        refine ⟨rfl, ?_, ?_, (((Below.refl _ _).alloc (Nat.le_refl _) _).alloc (by simp) _).drew⟩
        · have e : (w.alloc (.cells #[.bool false, .bool false, .int .i64 0, .int .i64 0, .int .i64 0] 41)).heap.size = w.heap.size + 1 := by simp
          rw [← e]
          exact heap_alloc_new _ _
        · exact (Below.heap_alloc (w.alloc (.cells #[.bool false, .bool false, .int .i64 0, .int .i64 0, .int .i64 0] 41)) _ w.heap.size (by simp)).trans (heap_alloc_new _ _)
  case rest =>
    clear hsh hyi
    obtain ⟨rfl, HH6⟩ := hcut
    obtain ⟨W6, hW6⟩ : ∃ x, wc = x := ⟨_, rfl⟩
    subst hW6
    go_wp2_with fail
    refine (HBn.out _ _ (by decide)).mono ?_
    rintro e w5 ⟨rfl, rfl⟩
    go_upto_if 64 with fail
    go_cut [] from 9 (fun wc => ∃ (sv : Int) (P : Nat), 6 ≤ P ∧ P ≤ 14 ∧ Hid (SzSt w S most f M q (.bool (vb 4)) (.bool (vb 2)) sv P wc))
    case first =>
      by_cases h3 : f / 8 % 2 = 1
      · have h8 : vb 3 = true := by rw [HV.out.2.2]; exact decide_eq_true h3
        rw [h8]
        have h6k : (6 : Int) ≤ (S.size : Int) := by omega
        obtain ⟨c0, c1, c2, c3, c4⟩ := HH6.out.cs
        have y1 := HH6.out.fz.1
        by_cases hs14 : S.size < 6 + 8
        · have HFx : Hid (∀ W, Calls Try.prog 13 #[.string (S.extract 6 S.size), .int .i64 8] W fun e w' => e = .returned (.tuple #[.int .i64 0, .int .i64 5]) ∧ w' = W) := fun W => rnum_short S 6 8 (by omega) (by omega) hs14 W
          have HE : Hid (q.1 = 5) := by
            show _ = _
            rw [HQ0.out]
            have e : gSz ⟨S, 6, most, f, M, 0, 0, ⟨#[]⟩, []⟩ = (5, ⟨S, 6, most, f, M, 0, 0, ⟨#[]⟩, []⟩) := by unfold gSz; rw [if_pos h3, if_pos hs14]
            rw [turn_bad _ _ _ _ _ e (by decide)]
          go_wp2_with fail
          refine (HFx.out _).mono ?_
          rintro e w6 ⟨rfl, hW⟩
          obtain rfl := hW.symm
          clear hW
          obtain ⟨z0, z1, z2, z3, z4⟩ := HH6.out.zs
          have y0 := HH6.out.fz.2
          go_wp2
          rw [bgR_bad HE.out (by decide)]
          have hc := HH6.out.res (.bool false) (.bool false) (.int .i64 0) (.int .i64 0) (.int .i64 0)
          refine bodyPost_ret (v := .tuple #[bzero, .int .i64 5]) (by simp [results, go_sem, bzero, hc.1, hc.2.1, hc.2.2.1, hc.2.2.2.1, hc.2.2.2.2]) rfl ⟨rfl, ?_⟩
          exact HH6.out.five _ _ _ _ _
        · have hs14' : ¬ S.size < 6 + 8 := hs14
          by_cases hbig : nF S 6 8 ≤ 9223372036854775807
          · have HFx : Hid (∀ W, Calls Try.prog 13 #[.string (S.extract 6 S.size), .int .i64 8] W fun e w' => e = .returned (.tuple #[.int .i64 (nF S 6 8 : Nat), .int .i64 0]) ∧ w' = W) := fun W => rnum8_ok S 6 (by omega) hbig W
            obtain ⟨N, hN⟩ : ∃ N, nF S 6 8 = N := ⟨_, rfl⟩
            rw [hN] at HFx hbig
            by_cases hok : N ≤ 4611686018427387904
            · have hoki : ¬ (4611686018427387904 : Int) < (N : Int) := by omega
              have HQ1 : Hid (q = gHs ⟨S, 14, most, f, M, N, 0, ⟨#[]⟩, []⟩) := by
                show _ = _
                rw [HQ0.out]
                have e : gSz ⟨S, 6, most, f, M, 0, 0, ⟨#[]⟩, []⟩ = (0, ⟨S, 14, most, f, M, N, 0, ⟨#[]⟩, []⟩) := by unfold gSz; rw [if_pos h3, if_neg hs14', if_pos (by show nF S 6 8 ≤ _; rw [hN]; exact hok)]; simp only [hN]
                rw [turn_cons _ _ _ _ e, turn_one]
              go_wp2_with fail
              refine (HFx.out _).mono ?_
              rintro e w6 ⟨rfl, hW⟩
              obtain rfl := hW.symm
              clear hW hN
              have HH7 := (HH6.out.set 2 (.int .i64 (N : Nat)) rfl)
              have HH8 : Hid (HW w _ (.bool (vb 4)) (.bool (vb 2)) (.int .i64 (N : Nat)) (.int .i64 (M : Int)) (.int .i64 14)) := HH7.set 4 (.int .i64 14) rfl
              clear HH7
              go_wp2_with fail
              go_meet
              case rel => exact ⟨(N : Nat), 14, by omega, by omega, HH8.out, N, HQ1.out, by rw [if_pos h3]⟩
            · have hoki : (4611686018427387904 : Int) < (N : Int) := by omega
              have HE : Hid (q.1 = 70) := by
                show _ = _
                rw [HQ0.out]
                have e : gSz ⟨S, 6, most, f, M, 0, 0, ⟨#[]⟩, []⟩ = (70, ⟨S, 14, most, f, M, 0, 0, ⟨#[]⟩, []⟩) := by unfold gSz; rw [if_pos h3, if_neg hs14', if_neg (by show ¬ nF S 6 8 ≤ _; rw [hN]; exact hok)]
                rw [turn_bad _ _ _ _ _ e (by decide)]
              go_wp2_with fail
              refine (HFx.out _).mono ?_
              rintro e w6 ⟨rfl, hW⟩
              obtain rfl := hW.symm
              clear hW
              obtain ⟨z0, z1, z2, z3, z4⟩ := HH6.out.zs
              have y0 := HH6.out.fz.2
              go_wp2
              rw [bgR_bad HE.out (by decide)]
              have hc := HH6.out.res (.bool false) (.bool false) (.int .i64 0) (.int .i64 0) (.int .i64 0)
              refine bodyPost_ret (v := .tuple #[bzero, .int .i64 70]) (by simp [results, go_sem, bzero, hc.1, hc.2.1, hc.2.2.1, hc.2.2.2.1, hc.2.2.2.2]) rfl ⟨rfl, ?_⟩
              exact HH6.out.five _ _ _ _ _
          · have HE : Hid (q.1 = 70) := by
              show _ = _
              rw [HQ0.out]
              have e : gSz ⟨S, 6, most, f, M, 0, 0, ⟨#[]⟩, []⟩ = (70, ⟨S, 14, most, f, M, 0, 0, ⟨#[]⟩, []⟩) := by unfold gSz; rw [if_pos h3, if_neg hs14', if_neg (by show ¬ nF S 6 8 ≤ _; omega)]
              rw [turn_bad _ _ _ _ _ e (by decide)]
            have HFx : Hid (∀ W, Calls Try.prog 13 #[.string (S.extract 6 S.size), .int .i64 8] W fun e w' => e = .returned (.tuple #[.int .i64 0, .int .i64 10]) ∧ w' = W) := fun W => rnum8_ten S 6 (by omega) (by omega) W
            go_wp2_with fail
            refine (HFx.out _).mono ?_
            rintro e w6 ⟨rfl, hW⟩
            obtain rfl := hW.symm
            clear hW
            obtain ⟨z0, z1, z2, z3, z4⟩ := HH6.out.zs
            have y0 := HH6.out.fz.2
            go_wp2
            rw [bgR_bad HE.out (by decide)]
            have hc := HH6.out.res (.bool false) (.bool false) (.int .i64 0) (.int .i64 0) (.int .i64 0)
            refine bodyPost_ret (v := .tuple #[bzero, .int .i64 70]) (by simp [results, go_sem, bzero, hc.1, hc.2.1, hc.2.2.1, hc.2.2.2.1, hc.2.2.2.2]) rfl ⟨rfl, ?_⟩
            exact HH6.out.five _ _ _ _ _
      · have h8 : vb 3 = false := by rw [HV.out.2.2]; exact decide_eq_false h3
        rw [h8]
        have HQ1 : Hid (q = gHs ⟨S, 6, most, f, M, 0, 0, ⟨#[]⟩, []⟩) := by
          show _ = _
          rw [HQ0.out]
          have e : gSz ⟨S, 6, most, f, M, 0, 0, ⟨#[]⟩, []⟩ = (0, ⟨S, 6, most, f, M, 0, 0, ⟨#[]⟩, []⟩) := by unfold gSz; rw [if_neg h3]
          rw [turn_cons _ _ _ _ e, turn_one]
        go_wp2_with fail
        go_meet
        case rel => exact ⟨-1, 6, by omega, by omega, HH6.out, 0, HQ1.out, by rw [if_neg h3]⟩
    case rest =>
      obtain ⟨sv, P, hP6, hP14, HSt⟩ := hcut
      obtain ⟨hHc, sz, hqs, hsv⟩ := HSt.out
      have HHc : Hid (HW w wc (.bool (vb 4)) (.bool (vb 2)) (.int .i64 sv) (.int .i64 (M : Int)) (.int .i64 (P : Nat))) := hHc
      have HQ : Hid (q = gHs ⟨S, P, most, f, M, sz, 0, ⟨#[]⟩, []⟩ ∧ sv = (if f / 8 % 2 = 1 then ((sz : Nat) : Int) else -1)) := ⟨hqs, hsv⟩
      clear hHc hqs hsv HSt HH6 HQ0
      obtain ⟨-, -, -, -, c4⟩ := HHc.out.cs
      by_cases hsz : S.size ≤ P
      · have hszi : (S.size : Int) ≤ (P : Int) := by omega
        have HE : Hid (q.1 = 5) := by
          show _ = _
          rw [HQ.out.1]
          unfold gHs
          rw [if_pos (by simp only; omega)]
        obtain ⟨z0, z1, z2, z3, z4⟩ := HHc.out.zs
        have y0 := HHc.out.fz.2
        go_wp2
        rw [bgR_bad HE.out (by decide)]
        have hc := HHc.out.res (.bool false) (.bool false) (.int .i64 0) (.int .i64 0) (.int .i64 0)
        refine bodyPost_ret (v := .tuple #[bzero, .int .i64 5]) (by simp [results, go_sem, bzero, hc.1, hc.2.1, hc.2.2.1, hc.2.2.2.1, hc.2.2.2.2]) rfl ⟨rfl, ?_⟩
        exact HHc.out.five _ _ _ _ _
      · have hszi : ¬ (S.size : Int) ≤ (P : Int) := by omega
        have hPn : P < S.size := by omega
        have hPi : (P : Int) ≤ (S.size : Int) := by omega
        have hPj : (P : Int) < (S.size : Int) := by omega
        have hP4 : (4 : Int) ≤ (P : Int) := by omega
        obtain ⟨X, hX⟩ : ∃ X, S.extract 4 P = X := ⟨_, rfl⟩
        have hXs : X.size ≤ 140737488351232 := by rw [← hX, ByteArray.size_extract]; have := HSz.out; omega
        have HX : Hid (∀ W, Calls Try.prog 42 #[.string X, .int .i64 0] W fun e w' => e = .returned (.int .i64 (hsum X : Nat)) ∧ Below W.heap.size W w') := fun W => refHash_ok X W hXs
        have hhl := hsum_lt X
        have HQ1 : Hid (q = if bt S P = hsum X / 256 % 256 then (0, (⟨S, P + 1, most, f, M, sz, 0, ⟨#[]⟩, []⟩ : FD)) else (71, (⟨S, P + 1, most, f, M, sz, 0, ⟨#[]⟩, []⟩ : FD))) := by
          show _ = _
          rw [HQ.out.1]
          unfold gHs
          rw [if_neg (by simp only; omega)]
          simp only
          rw [hX]
        obtain ⟨x, hx⟩ : ∃ x, hsum X = x := ⟨_, rfl⟩
        rw [hx] at HX hhl HQ1
        have hby := byte2 x hhl
        obtain ⟨yy, hyy⟩ : ∃ yy, x / 256 = yy := ⟨_, rfl⟩
        obtain ⟨K, hK⟩ : ∃ K, x / 256 % 256 = K := ⟨_, rfl⟩
        rw [hK] at hby HQ1
        rw [hyy] at hby
        have HBY : Hid (bits .and .i64 (yy : Int) 255 = (K : Int)) := hby
        clear hby
        have hyyi : (x : Int) / 256 = (yy : Int) := by omega
        obtain ⟨b6, hb6⟩ : ∃ b6, bt S P = b6 := ⟨_, rfl⟩
        have hb6l : b6 < 256 := by rw [← hb6]; exact bt_lt S P
        rw [hb6] at HQ1
        have HB6W : Hid (IntKind.i64.wrap (b6 : Int) = (b6 : Int)) := (by rw [IntKind.wrap_i64]; omega : IntKind.i64.wrap (b6 : Int) = (b6 : Int))
        have hb6b : (S[P]'hPn).toNat = b6 := (bt_at S P hPn).trans hb6
        clear hx hyy hK hhl hXs hb6 hsz
        have hP1 : (P : Int) + 1 = ((P + 1 : Nat) : Int) := by omega
        obtain ⟨P1, hPP⟩ : ∃ x, P + 1 = x := ⟨_, rfl⟩
        rw [hPP] at hP1 HQ1
        have hP1l : P1 ≤ 15 := by omega
        clear hPP
        have hby := HBY.out
        go_upto_region 26 with fail
        go_cut [102] from 9 (fun v102 wx => v102 = .bool ((b6 : Int) != (K : Int)) ∧ Hid (HW w wx (.bool (vb 4)) (.bool (vb 2)) (.int .i64 sv) (.int .i64 (M : Int)) (.int .i64 (P : Nat))))
        case first =>
          go_region_held_law (fun w' => w'.cell? ⟨w.heap.size + 1, 4, none⟩ = some (.int .i64 (P : Nat)))
            (first | assumption | go_keep)
            (first | (go_at_call 42; refine (HX.out _).mono ?_; rintro e w7 ⟨rfl, hb7⟩; have HH7 : Hid (HW w w7 (.bool (vb 4)) (.bool (vb 2)) (.int .i64 sv) (.int .i64 (M : Int)) (.int .i64 (P : Nat))) := HHc.out.drew.call hb7; have KS := HH7.out.cs.2.2.2.2; clear hb7))
          all_goals
            clear hby hyyi hX hb6b
            go_wp2_with fail
            go_meet
            case rel => exact ⟨by rw [HB6W.out], HH7⟩
        case rest =>
          obtain ⟨rfl, HH7⟩ := hcut
          obtain ⟨w7, hw7⟩ : ∃ x, wc = x := ⟨_, rfl⟩
          clear hw7
          clear hby hyyi hX hb6b
          by_cases he : b6 = K
          · have hei : ((b6 : Int) != (K : Int)) = false := by rw [he]; simp
            rw [hei]
            have HE : Hid (q = (0, (⟨S, P1, most, f, M, sz, 0, ⟨#[]⟩, []⟩ : FD))) := by show _ = _; rw [HQ1.out, if_pos he]
            clear he hei
            have HH8 := HH7.out.set 4 (.int .i64 (P1 : Nat)) rfl
            have HH9 : Hid (HW w _ (.bool (vb 4)) (.bool (vb 2)) (.int .i64 sv) (.int .i64 (M : Int)) (.int .i64 (P1 : Nat))) := HH8
            have k4 := HH7.out.cs.2.2.2.2
            have y1 := HH7.out.fz.1
            obtain ⟨s0, s1, s2, s3, s4⟩ := HH8.cs
            obtain ⟨z0, z1, z2, z3, z4⟩ := HH8.zs
            have y0 := HH8.fz.2
            clear HH8
            go_wp2
            have hc := HH9.out.res (.bool (vb 4)) (.bool (vb 2)) (.int .i64 sv) (.int .i64 (M : Int)) (.int .i64 (P1 : Nat))
            refine bodyPost_ret (v := .tuple #[.agg #[.bool (vb 4), .bool (vb 2), .int .i64 sv, .int .i64 (M : Int), .int .i64 (P1 : Nat)], .int .i64 0]) (by simp [results, go_sem, hc.1, hc.2.1, hc.2.2.1, hc.2.2.2.1, hc.2.2.2.2]) rfl ⟨?_, ?_⟩
            · rw [HE.out, HV.out.1, HV.out.2.1, HQ.out.2]; rfl
            · exact HH9.out.five _ _ _ _ _
          · have hei : ((b6 : Int) != (K : Int)) = true := by simp; omega
            rw [hei]
            have HE : Hid (q.1 = 71) := by show _ = _; rw [HQ1.out, if_neg he]
            clear he hei
            obtain ⟨z0, z1, z2, z3, z4⟩ := HH7.out.zs
            have y0 := HH7.out.fz.2
            go_wp2
            rw [bgR_bad HE.out (by decide)]
            have hc := HH7.out.res (.bool false) (.bool false) (.int .i64 0) (.int .i64 0) (.int .i64 0)
            refine bodyPost_ret (v := .tuple #[bzero, .int .i64 71]) (by simp [results, go_sem, bzero, hc.1, hc.2.1, hc.2.2.1, hc.2.2.2.1, hc.2.2.2.2]) rfl ⟨rfl, ?_⟩
            exact HH7.out.five _ _ _ _ _
end Go.Proofs.Ytbncfpbehahidaa
