/- Layer 7: the document's answer: the head that Pack writes. -/
import Derived.Test.YtbncfpbehahidaaGl1
namespace Go.Proofs.Ytbncfpbehahidaa
open Go.RowKit
set_option linter.unusedVariables false
set_option maxRecDepth 20000

/-- Two heads lie behind w: the result, noughts, and the one that is filled. -/
structure HW (w W : World) (v0 v1 v2 v3 v4 : Value) : Prop where
  b1 : W.heap[w.heap.size + 1]? = some (.cells #[v0, v1, v2, v3, v4] 41 (0, 0))
  b0 : W.heap[w.heap.size]? = some (.cells #[.bool false, .bool false, .int .i64 0, .int .i64 0, .int .i64 0] 41 (0, 0))
  bel : Below w.heap.size w W
theorem HW.call {w W W' : World} {v0 v1 v2 v3 v4 : Value} (h : HW w W v0 v1 v2 v3 v4) (hb : Below W.heap.size W W') : HW w W' v0 v1 v2 v3 v4 :=
  ⟨(hb.block _ (lt_of_block h.b1)).trans h.b1, (hb.block _ (lt_of_block h.b0)).trans h.b0, h.bel.trans (hb.mono h.bel.size)⟩
theorem HW.drew {w W : World} {v0 v1 v2 v3 v4 : Value} (h : HW w W v0 v1 v2 v3 v4) : HW w W.drew v0 v1 v2 v3 v4 := ⟨h.b1, h.b0, h.bel.drew⟩
theorem HW.set {w W : World} {v0 v1 v2 v3 v4 : Value} (h : HW w W v0 v1 v2 v3 v4) (i : Nat) (x : Value) {u0 u1 u2 u3 u4 : Value} (hx : (#[v0, v1, v2, v3, v4] : Array Value).setIfInBounds i x = #[u0, u1, u2, u3, u4]) : HW w (W.setCell ⟨w.heap.size + 1, i, none⟩ x) u0 u1 u2 u3 u4 := by
  refine ⟨by rw [block_setCell (i := i) h.b1, hx], ?_, h.bel.trans (Below.setCell' W _ (by omega))⟩
  rw [Below.heap_setCell _ _ _ _ (by show w.heap.size ≠ w.heap.size + 1; omega)]
  exact h.b0
theorem HW.cs {w W : World} {v0 v1 v2 v3 v4 : Value} (h : HW w W v0 v1 v2 v3 v4) : W.cell? ⟨w.heap.size + 1, 0, none⟩ = some v0 ∧ W.cell? ⟨w.heap.size + 1, 1, none⟩ = some v1 ∧ W.cell? ⟨w.heap.size + 1, 2, none⟩ = some v2 ∧ W.cell? ⟨w.heap.size + 1, 3, none⟩ = some v3 ∧ W.cell? ⟨w.heap.size + 1, 4, none⟩ = some v4 := by
  have h1 := h.b1
  exact ⟨by simp [World.cell?, h1], by simp [World.cell?, h1], by simp [World.cell?, h1], by simp [World.cell?, h1], by simp [World.cell?, h1]⟩
theorem HW.zs {w W : World} {v0 v1 v2 v3 v4 : Value} (h : HW w W v0 v1 v2 v3 v4) : W.cell? ⟨w.heap.size, 0, none⟩ = some (.bool false) ∧ W.cell? ⟨w.heap.size, 1, none⟩ = some (.bool false) ∧ W.cell? ⟨w.heap.size, 2, none⟩ = some (.int .i64 0) ∧ W.cell? ⟨w.heap.size, 3, none⟩ = some (.int .i64 0) ∧ W.cell? ⟨w.heap.size, 4, none⟩ = some (.int .i64 0) := by
  have h1 := h.b0
  exact ⟨by simp [World.cell?, h1], by simp [World.cell?, h1], by simp [World.cell?, h1], by simp [World.cell?, h1], by simp [World.cell?, h1]⟩
theorem HW.fz {w W : World} {v0 v1 v2 v3 v4 : Value} (h : HW w W v0 v1 v2 v3 v4) : (∀ i, W.frozen? ⟨w.heap.size + 1, i, none⟩ = false) ∧ ∀ i, W.frozen? ⟨w.heap.size, i, none⟩ = false := by
  have h1 := h.b1
  have h0 := h.b0
  exact ⟨fun i => by simp [World.frozen?, h1], fun i => by simp [World.frozen?, h0]⟩
theorem HW.five {w W : World} {v0 v1 v2 v3 v4 : Value} (h : HW w W v0 v1 v2 v3 v4) (x0 x1 x2 x3 x4 : Value) : Below w.heap.size w (((((W.setCell ⟨w.heap.size, 0, none⟩ x0).setCell ⟨w.heap.size, 1, none⟩ x1).setCell ⟨w.heap.size, 2, none⟩ x2).setCell ⟨w.heap.size, 3, none⟩ x3).setCell ⟨w.heap.size, 4, none⟩ x4) :=
  h.bel.trans ((((((Below.setCell' W _ (Nat.le_refl _)).trans (Below.setCell' _ _ (Nat.le_refl _))).trans (Below.setCell' _ _ (Nat.le_refl _))).trans (Below.setCell' _ _ (Nat.le_refl _)))).trans (Below.setCell' _ _ (Nat.le_refl _)))
theorem HW.res {w W : World} {v0 v1 v2 v3 v4 : Value} (h : HW w W v0 v1 v2 v3 v4) (x0 x1 x2 x3 x4 : Value) :
    (((((W.setCell ⟨w.heap.size, 0, none⟩ x0).setCell ⟨w.heap.size, 1, none⟩ x1).setCell ⟨w.heap.size, 2, none⟩ x2).setCell ⟨w.heap.size, 3, none⟩ x3).setCell ⟨w.heap.size, 4, none⟩ x4).cell? ⟨w.heap.size, 0, none⟩ = some x0 ∧
    (((((W.setCell ⟨w.heap.size, 0, none⟩ x0).setCell ⟨w.heap.size, 1, none⟩ x1).setCell ⟨w.heap.size, 2, none⟩ x2).setCell ⟨w.heap.size, 3, none⟩ x3).setCell ⟨w.heap.size, 4, none⟩ x4).cell? ⟨w.heap.size, 1, none⟩ = some x1 ∧
    (((((W.setCell ⟨w.heap.size, 0, none⟩ x0).setCell ⟨w.heap.size, 1, none⟩ x1).setCell ⟨w.heap.size, 2, none⟩ x2).setCell ⟨w.heap.size, 3, none⟩ x3).setCell ⟨w.heap.size, 4, none⟩ x4).cell? ⟨w.heap.size, 2, none⟩ = some x2 ∧
    (((((W.setCell ⟨w.heap.size, 0, none⟩ x0).setCell ⟨w.heap.size, 1, none⟩ x1).setCell ⟨w.heap.size, 2, none⟩ x2).setCell ⟨w.heap.size, 3, none⟩ x3).setCell ⟨w.heap.size, 4, none⟩ x4).cell? ⟨w.heap.size, 3, none⟩ = some x3 ∧
    (((((W.setCell ⟨w.heap.size, 0, none⟩ x0).setCell ⟨w.heap.size, 1, none⟩ x1).setCell ⟨w.heap.size, 2, none⟩ x2).setCell ⟨w.heap.size, 3, none⟩ x3).setCell ⟨w.heap.size, 4, none⟩ x4).cell? ⟨w.heap.size, 4, none⟩ = some x4 := by
  have h1 := block_setCell (i := 4) (u := x4) (block_setCell (i := 3) (u := x3) (block_setCell (i := 2) (u := x2) (block_setCell (i := 1) (u := x1) (block_setCell (i := 0) (u := x0) h.b0))))
  exact ⟨by simp [World.cell?, h1], by simp [World.cell?, h1], by simp [World.cell?, h1], by simp [World.cell?, h1], by simp [World.cell?, h1]⟩
theorem hd_byte : hsum hd2 / 256 % 256 = 189 := by decide +kernel
set_option maxHeartbeats 4000000 in
theorem begins_pack (R : List Nat) (hR : Bytes R) (hRl : R.length ≤ 100000000) (w : World) :
    Calls Try.prog 23 #[.string (toBA (frHead ++ R))] w fun e w' => e = .returned (.tuple #[.agg #[.bool true, .bool true, .int .i64 (-1), .int .i64 65536, .int .i64 7], .int .i64 0]) ∧ Below w.heap.size w w' := by
  have hB : Bytes (frHead ++ R) := frHead_bytes.append hR
  have hsz : 7 ≤ (toBA (frHead ++ R)).size := by rw [toBA_size, List.length_append]; simp [frHead]
  have hb : ((toBA (frHead ++ R)).extract 0 4).toList = [4, 34, 77, 24] := by
    rw [show frHead ++ R = [] ++ ([4, 34, 77, 24] ++ ([116, 64, hsum hd2 / 256 % 256] ++ R)) from rfl, mid_extract [] _ _ 0 4 rfl rfl]
    decide +kernel
  have hf : bt (toBA (frHead ++ R)) 4 = 116 := by rw [bt_toBA _ hB]; rfl
  have hd : bt (toBA (frHead ++ R)) 5 = 64 := by rw [bt_toBA _ hB]; rfl
  have h6 : bt (toBA (frHead ++ R)) 6 = 189 := by rw [bt_toBA _ hB, ← hd_byte]; rfl
  have hX : (toBA (frHead ++ R)).extract 4 6 = hd2 := by
    rw [show frHead ++ R = [4, 34, 77, 24] ++ ([116, 64] ++ ([hsum hd2 / 256 % 256] ++ R)) from rfl, mid_extract _ _ _ 4 6 rfl rfl]
    rfl
  obtain ⟨S, hS⟩ : ∃ S, toBA (frHead ++ R) = S := ⟨_, rfl⟩
  rw [hS] at hsz hb hf hd h6 hX ⊢
  clear hS hB
  have h4i : ¬ (S.size : Int) < 4 := by omega
  have h5i : ¬ (S.size : Int) < 5 := by omega
  have h6i : ¬ (S.size : Int) < 6 := by omega
  have h7i : ¬ (S.size : Int) ≤ 6 := by omega
  have h7j : (6 : Int) < (S.size : Int) := by omega
  have h7k : (6 : Int) ≤ (S.size : Int) := by omega
  have hb1 : ((S.extract 0 4).toList == [4, 34, 77, 24]) = true := by rw [beq_iff_eq]; exact hb
  have h4n : 4 < S.size := by omega
  have h5n : 5 < S.size := by omega
  have h6n : 6 < S.size := by omega
  have hfb : (S[4]'h4n).toNat = 116 := (bt_at S 4 h4n).trans hf
  have hdb : (S[5]'h5n).toNat = 64 := (bt_at S 5 h5n).trans hd
  have h6b : (S[6]'h6n).toNat = 189 := (bt_at S 6 h6n).trans h6
  have H6B : Hid ((S[6]'h6n).toNat = 189) := h6b
  have hvb : ∃ vb : Int → Bool, vb 4 = true ∧ vb 2 = true ∧ vb 3 = false := ⟨fun n => if n = 4 then true else if n = 2 then true else false, rfl, rfl, rfl⟩
  obtain ⟨vb, v4, v2, v3⟩ := hvb
  have HBn : Hid (∀ (n : Int) W, (n = 4 ∨ n = 2 ∨ n = 3) → Calls Try.prog 41 #[.int .u8 116, .int .i64 n] W fun e w' => e = .returned (.bool (vb n)) ∧ w' = W) := fun n W h => by
    rcases h with rfl | rfl | rfl
    · rw [v4]; exact bit_ok 116 16 4 (by omega) (by omega) W
    · rw [v2]; exact bit_ok 116 4 2 (by omega) (by omega) W
    · rw [v3]; exact bit_ok 116 8 3 (by omega) (by omega) W
  have HV : Hid (_ ∧ _) := ⟨v4, v2⟩
  have HX : Hid (∀ W, Calls Try.prog 42 #[.string hd2, .int .i64 0] W fun e w' => e = .returned (.int .i64 (hsum hd2 : Nat)) ∧ Below W.heap.size W w') := fun W => refHash_ok hd2 W (by decide)
  have hby := byte2 (hsum hd2) (hsum_lt hd2)
  rw [hd_byte] at hby
  obtain ⟨x, hx⟩ : ∃ x, hsum hd2 = x := ⟨_, rfl⟩
  rw [hx] at HX hby
  obtain ⟨yy, hyy⟩ : ∃ yy, x / 256 = yy := ⟨_, rfl⟩
  rw [hyy] at hby
  have hyyi : (x : Int) / 256 = (yy : Int) := by clear hby hfb hdb h6b; omega
  have HBY : Hid (_ ∧ _ ∧ _) := ⟨hby, hyyi, hX⟩
  clear hb hf hd h6 v4 v2 hx hyy hby hyyi h6b hX
  have hsh : ∀ W, (Op.shift BinOp.shl .i64 1 .i64 (IntKind.i64.wrap (8 + IntKind.i64.wrap (2 * IntKind.i64.wrap 4)))).run Try.prog W = .ok (.int .i64 65536) W := fun W => rfl
  go_enter Try.func23, Try.ntmps23
  go_wp2_with fail
  clear hfb hdb hb1 h4i h5i h6i
  go_region_law
    (first | (go_simp; go_at_call 41; refine (HBn.out _ _ (by decide)).mono ?_; rintro e w5 ⟨rfl, rfl⟩))
  all_goals
    clear hsh
    go_wp2_with fail
    have hHW : HW w (((w.alloc (.cells #[.bool false, .bool false, .int .i64 0, .int .i64 0, .int .i64 0] 41)).alloc (.cells #[.bool (vb 4), .bool (vb 2), .int .i64 (-1), .int .i64 65536, .int .i64 6] 41)).drew) (.bool (vb 4)) (.bool (vb 2)) (.int .i64 (-1)) (.int .i64 65536) (.int .i64 6) := by
      refine ⟨?_, ?_, (((Below.refl _ _).alloc (Nat.le_refl _) _).alloc (by simp) _).drew⟩
      · have e : (w.alloc (.cells #[.bool false, .bool false, .int .i64 0, .int .i64 0, .int .i64 0] 41)).heap.size = w.heap.size + 1 := by simp
        rw [← e]
        exact heap_alloc_new _ _
      · exact (Below.heap_alloc (w.alloc (.cells #[.bool false, .bool false, .int .i64 0, .int .i64 0, .int .i64 0] 41)) _ w.heap.size (by simp)).trans (heap_alloc_new _ _)
    obtain ⟨W6, hW6⟩ : ∃ W6, (((w.alloc (.cells #[.bool false, .bool false, .int .i64 0, .int .i64 0, .int .i64 0] 41)).alloc (.cells #[.bool (vb 4), .bool (vb 2), .int .i64 (-1), .int .i64 65536, .int .i64 6] 41)).drew) = W6 := ⟨_, rfl⟩
    rw [hW6] at hHW ⊢
    have HH6 : Hid _ := hHW
    clear hHW hW6
    refine (HBn.out _ _ (by decide)).mono ?_
    rintro e w5 ⟨rfl, rfl⟩
    obtain ⟨-, -, -, -, c4⟩ := HH6.out.cs
    go_wp2_with fail
    have h6b := H6B.out
    obtain ⟨hby, hyyi, hX⟩ := HBY.out
    go_region_held_law (fun w' => w'.cell? ⟨w.heap.size + 1, 4, none⟩ = some (.int .i64 6))
      (first | assumption | go_keep)
      (first | (go_at_call 42; refine (HX.out _).mono ?_; rintro e w7 ⟨rfl, hb7⟩; have HH7 : Hid (HW w w7 (.bool (vb 4)) (.bool (vb 2)) (.int .i64 (-1)) (.int .i64 65536) (.int .i64 6)) := HH6.out.drew.call hb7; have KS := HH7.out.cs.2.2.2.2; clear hb7))
    all_goals
      clear hby hyyi hX h6b
      have HH8 : Hid (HW w (w7.setCell ⟨w.heap.size + 1, 4, none⟩ (.int .i64 7)) (.bool (vb 4)) (.bool (vb 2)) (.int .i64 (-1)) (.int .i64 65536) (.int .i64 7)) := HH7.out.set 4 (.int .i64 7) rfl
      have k4 := HH7.out.cs.2.2.2.2
      have y1 := HH7.out.fz.1
      obtain ⟨s0, s1, s2, s3, s4⟩ := HH8.out.cs
      obtain ⟨z0, z1, z2, z3, z4⟩ := HH8.out.zs
      have y0 := HH8.out.fz.2
      go_wp2
      have hc := HH8.out.res (.bool (vb 4)) (.bool (vb 2)) (.int .i64 (-1)) (.int .i64 65536) (.int .i64 7)
      refine bodyPost_ret (v := .tuple #[.agg #[.bool (vb 4), .bool (vb 2), .int .i64 (-1), .int .i64 65536, .int .i64 7], .int .i64 0]) (by simp [results, go_sem, hc.1, hc.2.1, hc.2.2.1, hc.2.2.2.1, hc.2.2.2.2]) rfl ⟨by rw [HV.out.1, HV.out.2], ?_⟩
      exact HH8.out.five _ _ _ _ _
end Go.Proofs.Ytbncfpbehahidaa
