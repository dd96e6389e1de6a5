/- The fixed codes. -/
import Derived.Test.YtchjnfckcfikkaaDoorZi
namespace Go.Proofs.YtchjnfckcfikkaaDoor
open Go.RowKit
set_option linter.unusedVariables false

def fixL (i : Nat) : Nat := if i < 144 then 8 else if i < 256 then 9 else if i < 280 then 7 else 8
/-- As far as k. -/
def upTo (f : Nat → Nat) (k i : Nat) : Nat := if i < k then f i else 0
theorem LB.next {w : World} {L n k x : Nat} {f : Nat → Nat} (h : LB w L n (upTo f k)) (hx : f k = x) : LB (w.setCell ⟨L, k, none⟩ (.int .i64 (x : Nat))) L n (upTo f (k + 1)) :=
  (h.set k x).congr (fun i _ => by
    unfold upTo
    by_cases e : i = k
    · subst e; rw [if_pos rfl, if_pos (by omega), hx]
    · rw [if_neg e]
      by_cases c : i < k
      · rw [if_pos c, if_pos (by omega)]
      · rw [if_neg c, if_neg (by omega)])
theorem LB.zero {w : World} {L n : Nat} {f : Nat → Nat} (h : LB w L n (fun _ => 0)) : LB w L n (upTo f 0) := h.congr (fun i _ => by unfold upTo; rw [if_neg (by omega)])
theorem LB.all {w : World} {L n : Nat} {f : Nat → Nat} (h : LB w L n (upTo f n)) : LB w L n f := h.congr (fun i hi => by unfold upTo; rw [if_pos hi])
set_option maxRecDepth 20000 in
set_option maxHeartbeats 4000000 in
theorem fixLens_ok (w : World) : Calls Tryd.prog 60 #[] w fun e w' => e = .returned (.slice (some ⟨w.heap.size, 0, none⟩) 288 288) ∧ LB w' w.heap.size 288 fixL ∧ Below w.heap.size w w' := by
  obtain ⟨i0, hi0, hz0, hz1, hz2⟩ := info_parts intInfo
  have HI : Hid (_ ∧ _ ∧ _ ∧ _) := ⟨hi0, hz0, hz1, hz2⟩
  have H0 : Hid (LB (w.alloc (.cells (madeCells #[.int .i64 0] 288) 3)) w.heap.size 288 (fun _ => 0) ∧ Below w.heap.size w (w.alloc (.cells (madeCells #[.int .i64 0] 288) 3))) := ⟨made_zero w 288, (Below.refl _ _).alloc (Nat.le_refl _) _⟩
  clear hi0 hz0 hz1 hz2
  go_enter Tryd.func60, Tryd.ntmps60
  go_wp2_with (at_make; refine wpList_make_row _ rfl _ _ 29 rfl 3 i0 (.int .i64 0) Tryd.underlying29 HI.out.1 HI.out.2.1 HI.out.2.2.1 rfl .i64 .i64 288 rfl rfl (by rw [HI.out.2.2.2]; omega) (by omega) ?_)
  obtain ⟨B, hB⟩ : ∃ B, w.heap.size = B := ⟨_, rfl⟩
  rw [hB] at H0 ⊢
  obtain ⟨W0, hW0⟩ : ∃ W, w.alloc (.cells (madeCells #[.int .i64 0] 288) 3) = W := ⟨_, rfl⟩
  rw [hW0] at H0 ⊢
  clear hW0
  have HB : Hid (w.heap.size = B) := hB
  clear hB
  go_loopw [6] (fun v6 wr => ∃ k : Nat, v6 = .int .i64 k ∧ k ≤ 288 ∧ Hid (LB wr B 288 (upTo fixL k) ∧ Below B w wr)) (fun v6 _ => 288 - (intOf v6).toNat)
  case atStart => exact ⟨0, rfl, Nat.zero_le _, H0.out.1.zero, H0.out.2⟩
  case round =>
    obtain ⟨k, rfl, hk, HS⟩ := hrel
    by_cases hlt : k < 288
    · have hlti : (k : Int) < 288 := by omega
      obtain ⟨c1, c2⟩ := HS.out.1.cell hlt
      by_cases a1 : k < 144
      · have a1i : (k : Int) < 144 := by omega
        have HN : Hid (∀ _ : Unit, LB (wr.setCell ⟨B, k, none⟩ (.int .i64 8)) B 288 (upTo fixL (k + 1)) ∧ Below B w (wr.setCell ⟨B, k, none⟩ (.int .i64 8))) := fun _ => ⟨HS.out.1.next (x := 8) (by unfold fixL; rw [if_pos a1]), HS.out.2.setCell (show B ≤ B from Nat.le_refl B) _⟩
        clear HS
        go_wp2
        exact ⟨⟨k + 1, by go_num, by omega, HN.out ()⟩, by simp [intOf]; omega⟩
      · have a1i : ¬ (k : Int) < 144 := by omega
        by_cases a2 : k < 256
        · have a2i : (k : Int) < 256 := by omega
          have HN : Hid (∀ _ : Unit, LB (wr.setCell ⟨B, k, none⟩ (.int .i64 9)) B 288 (upTo fixL (k + 1)) ∧ Below B w (wr.setCell ⟨B, k, none⟩ (.int .i64 9))) := fun _ => ⟨HS.out.1.next (x := 9) (by unfold fixL; rw [if_neg a1, if_pos a2]), HS.out.2.setCell (show B ≤ B from Nat.le_refl B) _⟩
          clear HS
          go_wp2
          exact ⟨⟨k + 1, by go_num, by omega, HN.out ()⟩, by simp [intOf]; omega⟩
        · have a2i : ¬ (k : Int) < 256 := by omega
          by_cases a3 : k < 280
          · have a3i : (k : Int) < 280 := by omega
            have HN : Hid (∀ _ : Unit, LB (wr.setCell ⟨B, k, none⟩ (.int .i64 7)) B 288 (upTo fixL (k + 1)) ∧ Below B w (wr.setCell ⟨B, k, none⟩ (.int .i64 7))) := fun _ => ⟨HS.out.1.next (x := 7) (by unfold fixL; rw [if_neg a1, if_neg a2, if_pos a3]), HS.out.2.setCell (show B ≤ B from Nat.le_refl B) _⟩
            clear HS
            go_wp2
            exact ⟨⟨k + 1, by go_num, by omega, HN.out ()⟩, by simp [intOf]; omega⟩
          · have a3i : ¬ (k : Int) < 280 := by omega
            have HN : Hid (∀ _ : Unit, LB (wr.setCell ⟨B, k, none⟩ (.int .i64 8)) B 288 (upTo fixL (k + 1)) ∧ Below B w (wr.setCell ⟨B, k, none⟩ (.int .i64 8))) := fun _ => ⟨HS.out.1.next (x := 8) (by unfold fixL; rw [if_neg a1, if_neg a2, if_neg a3]), HS.out.2.setCell (show B ≤ B from Nat.le_refl B) _⟩
            clear HS
            go_wp2
            exact ⟨⟨k + 1, by go_num, by omega, HN.out ()⟩, by simp [intOf]; omega⟩
    · obtain rfl : k = 288 := by omega
      go_wp2
      go_ret
      rw [HB.out]
      exact ⟨rfl, HS.out.1.all, HS.out.2⟩
set_option maxRecDepth 20000 in
set_option maxHeartbeats 4000000 in
theorem fixDists_ok (w : World) : Calls Tryd.prog 61 #[] w fun e w' => e = .returned (.slice (some ⟨w.heap.size, 0, none⟩) 32 32) ∧ LB w' w.heap.size 32 (fun _ => 5) ∧ Below w.heap.size w w' := by
  obtain ⟨i0, hi0, hz0, hz1, hz2⟩ := info_parts intInfo
  have HI : Hid (_ ∧ _ ∧ _ ∧ _) := ⟨hi0, hz0, hz1, hz2⟩
  have H0 : Hid (LB (w.alloc (.cells (madeCells #[.int .i64 0] 32) 3)) w.heap.size 32 (fun _ => 0) ∧ Below w.heap.size w (w.alloc (.cells (madeCells #[.int .i64 0] 32) 3))) := ⟨made_zero w 32, (Below.refl _ _).alloc (Nat.le_refl _) _⟩
  clear hi0 hz0 hz1 hz2
  go_enter Tryd.func61, Tryd.ntmps61
  go_wp2_with (at_make; refine wpList_make_row _ rfl _ _ 29 rfl 3 i0 (.int .i64 0) Tryd.underlying29 HI.out.1 HI.out.2.1 HI.out.2.2.1 rfl .i64 .i64 32 rfl rfl (by rw [HI.out.2.2.2]; omega) (by omega) ?_)
  obtain ⟨B, hB⟩ : ∃ B, w.heap.size = B := ⟨_, rfl⟩
  rw [hB] at H0 ⊢
  obtain ⟨W0, hW0⟩ : ∃ W, w.alloc (.cells (madeCells #[.int .i64 0] 32) 3) = W := ⟨_, rfl⟩
  rw [hW0] at H0 ⊢
  clear hW0
  have HB : Hid (w.heap.size = B) := hB
  clear hB
  go_loopw [6] (fun v6 wr => ∃ k : Nat, v6 = .int .i64 k ∧ k ≤ 32 ∧ Hid (LB wr B 32 (upTo (fun _ => 5) k) ∧ Below B w wr)) (fun v6 _ => 32 - (intOf v6).toNat)
  case atStart => exact ⟨0, rfl, Nat.zero_le _, H0.out.1.zero, H0.out.2⟩
  case round =>
    obtain ⟨k, rfl, hk, HS⟩ := hrel
    by_cases hlt : k < 32
    · have hlti : (k : Int) < 32 := by omega
      obtain ⟨c1, c2⟩ := HS.out.1.cell hlt
      have HN : Hid (∀ _ : Unit, LB (wr.setCell ⟨B, k, none⟩ (.int .i64 5)) B 32 (upTo (fun _ => 5) (k + 1)) ∧ Below B w (wr.setCell ⟨B, k, none⟩ (.int .i64 5))) := fun _ => ⟨HS.out.1.next (x := 5) (rfl), HS.out.2.setCell (show B ≤ B from Nat.le_refl B) _⟩
      clear HS
      go_wp2
      exact ⟨⟨k + 1, by go_num, by omega, HN.out ()⟩, by simp [intOf]; omega⟩
    · obtain rfl : k = 32 := by omega
      go_wp2
      go_ret
      rw [HB.out]
      exact ⟨rfl, HS.out.1.all, HS.out.2⟩
/-- A row of numbers as lengths. -/
theorem LB.row {w : World} {L n : Nat} {f : Nat → Nat} (h : LB w L n f) : IRow w (some ⟨L, 0, none⟩) ((List.range n).map fun i => (f i : Int)) := by
  refine .inr ⟨L, 0, rfl, lt_heap h, fun i hi => ?_⟩
  have hi' : i < n := by simpa using hi
  rw [Nat.zero_add, (h.cell hi').1]
  simp [hi']
theorem nsOf_range (f : Nat → Nat) (n : Nat) : nsOf ((List.range n).map fun i => (f i : Int)) = (List.range n).map f := by
  unfold nsOf
  rw [List.map_map]
  exact List.map_congr_left (fun i _ => by simp)
set_option maxRecDepth 20000 in
theorem tableOf_ok (xs : List Int) (a : Option Addr) (c N : Nat) (w : World) (hN : xs.length = N) (hrow : IRow w a xs) (hlen : N ≤ 9223372036854775807) (hc : isCode0 xs) :
    Calls Tryd.prog 59 #[.slice a N c] w fun e w' => ∃ t R, e = .returned (.pointer (some ⟨t, 0, none⟩)) ∧ Tab w' w.heap.size w'.heap.size t (nsOf xs) R ∧ Below w.heap.size w w' := by
  have HT : Hid (∀ _ : Unit, Calls Tryd.prog 69 #[.slice a N c] w fun e w' => ∃ t R, e = .returned (.tuple #[.pointer (some ⟨t, 0, none⟩), .int .i64 0]) ∧ Tab w' w.heap.size w'.heap.size t (nsOf xs) R ∧ Below w.heap.size w w') := fun _ => (newTable_ok xs a c N w hN hrow hlen).mono fun e w' h => by
    obtain ⟨⟨_, t, R, h1, h2⟩ | ⟨h1, _⟩, h3⟩ := h
    · exact ⟨t, R, h1, h2, h3⟩
    · exact (h1 hc).elim
  clear hN hrow hc
  go_enter Tryd.func59, Tryd.ntmps59
  go_wp2_with fail
  refine (HT.out ()).mono ?_
  rintro e w1 ⟨t, R, rfl, h1, h2⟩
  have H1 : Hid (Tab w1 w.heap.size w1.heap.size t (nsOf xs) R ∧ Below w.heap.size w w1) := ⟨h1, h2⟩
  clear h1 h2
  go_wp2_with fail
  refine (check_ok w1).mono ?_
  rintro e w2 ⟨rfl, hw⟩
  obtain rfl := hw.symm
  go_wp2
  go_ret
  exact ⟨t, R, rfl, H1.out.1, H1.out.2⟩
def fixS : List Nat := (List.range 288).map fixL
def fixD : List Nat := (List.range 32).map fun _ => 5
set_option maxRecDepth 20000 in
theorem fixS_code : isCode0 ((List.range 288).map fun i => (fixL i : Int)) := by
  unfold isCode0
  rw [nsOf_range]
  decide +kernel
set_option maxRecDepth 20000 in
theorem fixD_code : isCode0 ((List.range 32).map fun i => (((fun _ => 5 : Nat → Nat) i : Nat) : Int)) := by
  unfold isCode0
  rw [nsOf_range]
  decide +kernel
end Go.Proofs.YtchjnfckcfikkaaDoor
