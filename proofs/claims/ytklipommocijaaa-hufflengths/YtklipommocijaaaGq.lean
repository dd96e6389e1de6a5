/- Lists of numbers held against one another; what must come, whatever the arguments are. -/
import Derived.Test.YtklipommocijaaaGo1
import Derived.Test.YtklipommocijaaaGp
namespace Go.Proofs.Ytklipommocijaaa
open Go.RowKit PT
set_option linter.unusedVariables false

theorem IRow.drewN {w : World} {a : Option Addr} {xs : List Int} (h : IRow w a xs) (k : Nat) : IRow (w.drewN k) a xs := h
theorem take_ext {xs ys : List Int} (hl : xs.length = ys.length) (h : ∀ i, i < xs.length → xs.getD i 0 = ys.getD i 0) : xs = ys := by
  apply List.ext_getElem hl
  intro i h1 h2
  have := h i h1
  rw [getD_in h1, getD_in h2] at this
  exact this
set_option maxRecDepth 20000 in
set_option maxHeartbeats 1000000 in
theorem same_ok (xs ys : List Int) (a b : Option Addr) (c d N M : Nat) (w : World) (hN : xs.length = N) (hM : ys.length = M) (ha : IRow w a xs) (hb : IRow w b ys) (hlen : N ≤ 9223372036854775807) (hlen2 : M ≤ 9223372036854775807) :
    Calls Try.prog 32 #[.slice a N c, .slice b M d] w fun e w' => e = .returned (.bool (decide (xs = ys))) ∧ ∃ k, w' = w.drewN k := by
  have HA : Hid (IRow w a xs) := ha
  have HB : Hid (IRow w b ys) := hb
  have HN : Hid (xs.length = N ∧ ys.length = M) := ⟨hN, hM⟩
  clear ha hb hN hM
  go_enter Try.func32, Try.ntmps32
  by_cases hne : N = M
  · subst hne
    go_wp2
    go_loopw [5] (fun v5 wr => ∃ j k : Nat, v5 = .int .i64 j ∧ j ≤ N ∧ wr = w.drewN k ∧ Hid (∀ i, i < j → xs.getD i 0 = ys.getD i 0)) (fun v5 _ => N - (intOf v5).toNat)
    case atStart => exact ⟨0, 0, rfl, by omega, rfl, fun i hi => by omega⟩
    case round =>
      obtain ⟨j, k, rfl, hj, hwr, HS⟩ := hrel
      have HW : Hid (wr = w.drewN k) := hwr
      by_cases hlt : j < N
      · have hlti : (j : Int) < (N : Int) := by omega
        obtain ⟨b1, o1, rfl, k1, _⟩ := (show IRow wr a xs by rw [hwr]; exact HA.out.drewN k).at (show j < xs.length by rw [HN.out.1]; exact hlt)
        obtain ⟨b2, o2, rfl, k2, _⟩ := (show IRow wr b ys by rw [hwr]; exact HB.out.drewN k).at (show j < ys.length by rw [HN.out.2]; exact hlt)
        obtain ⟨x, hx⟩ : ∃ x, xs.getD j 0 = x := ⟨_, rfl⟩
        obtain ⟨y, hy⟩ : ∃ x, ys.getD j 0 = x := ⟨_, rfl⟩
        have HXY : Hid (xs.getD j 0 = x ∧ ys.getD j 0 = y) := ⟨hx, hy⟩
        rw [hx] at k1
        rw [hy] at k2
        clear hx hy hwr
        by_cases he : x = y
        · subst he
          have H2 : Hid (∀ i, i < j + 1 → xs.getD i 0 = ys.getD i 0) := fun i hi => by
            by_cases e : i = j
            · subst e; rw [HXY.out.1, HXY.out.2]
            · exact HS.out i (by omega)
          go_wp2_with fail
          go_region
          all_goals
            go_wp2
            exact ⟨⟨j + 1, k + 1, by go_num, by omega, by rw [HW.out]; rfl, H2⟩, by simp [intOf]; omega⟩
        · have hE : Hid (decide (xs = ys) = false) := by
            show _ = _
            refine decide_eq_false (fun e => he ?_)
            rw [← HXY.out.1, ← HXY.out.2, e]
          go_wp2_with fail
          go_region
          all_goals
            go_wp2
            go_ret
            exact ⟨by rw [hE.out]; rfl, k + 1, by rw [HW.out]; rfl⟩
      · obtain rfl : j = N := by omega
        have hE : Hid (decide (xs = ys) = true) := decide_eq_true (take_ext (by rw [HN.out.1, HN.out.2]) (fun i hi => HS.out i (by rw [← HN.out.1]; exact hi)))
        clear hwr
        go_wp2
        go_ret
        exact ⟨by rw [hE.out]; rfl, k, HW.out⟩
  · have hE : Hid (decide (xs = ys) = false) := by
      show _ = _
      refine decide_eq_false (fun e => hne ?_)
      rw [← HN.out.1, ← HN.out.2, e]
    have hni : ¬ (N : Int) = (M : Int) := by omega
    have hnb : ((N : Int) != (M : Int)) = true := by simpa using hni
    go_wp2
    go_ret
    exact ⟨by rw [hE.out]; rfl, 0, rfl⟩

theorem LB.irow {w : World} {L n : Nat} {c : Nat → Nat} (h : LB w L n c) : IRow w (some ⟨L, 0, none⟩) ((List.range n).map fun i => ((c i : Nat) : Int)) := by
  refine .inr ⟨L, 0, rfl, lt_heap h, fun i hi => ?_⟩
  have hi' : i < n := by simpa using hi
  rw [Nat.zero_add, (h.cell hi').1, getD_in hi]
  simp
theorem lit4 (w : World) (a b c d : Int) : IRow (w.alloc (.cells #[.int .i64 a, .int .i64 b, .int .i64 c, .int .i64 d] 3)) (some ⟨w.heap.size, 0, none⟩) [a, b, c, d] := by
  refine .inr ⟨_, 0, rfl, by simp, fun i hi => ?_⟩
  match i, hi with
  | 0, _ => simp
  | 1, _ => simp
  | 2, _ => simp
  | 3, _ => simp
theorem lit3 (w : World) (a b c : Int) : IRow (w.alloc (.cells #[.int .i64 a, .int .i64 b, .int .i64 c] 3)) (some ⟨w.heap.size, 0, none⟩) [a, b, c] := by
  refine .inr ⟨_, 0, rfl, by simp, fun i hi => ?_⟩
  match i, hi with
  | 0, _ => simp
  | 1, _ => simp
  | 2, _ => simp

theorem codes_ex (w : World) (c : Nat) : Calls Try.prog 30 #[.slice (some ⟨w.heap.size, 0, none⟩) 4 c] (w.alloc (.cells #[.int .i64 2, .int .i64 1, .int .i64 3, .int .i64 3] 3)) fun e w' => ∃ L, e = .returned (.tuple #[.slice (some ⟨L, 0, none⟩) 4 4, .int .i64 0]) ∧ IRow w' (some ⟨L, 0, none⟩) [2, 0, 6, 7] ∧ Below w.heap.size w w' := by
  have hal : Below w.heap.size w (w.alloc (.cells #[.int .i64 2, .int .i64 1, .int .i64 3, .int .i64 3] 3)) := (Below.refl _ _).alloc (Nat.le_refl _) _
  refine (codes_ok [2, 1, 3, 3] _ c 4 _ rfl (lit4 w 2 1 3 3) (by omega)).mono ?_
  rintro e w' ⟨h | h, hb⟩
  · obtain ⟨_, _, L, rfl, hl, _⟩ := h
    refine ⟨L, rfl, ?_, hal.trans (hb.mono hal.size)⟩
    have := hl.irow
    have e : (List.range ([2, 1, 3, 3] : List Int).length).map (fun i => ((cw (nsOf [2, 1, 3, 3]) i : Nat) : Int)) = [2, 0, 6, 7] := by decide
    rw [e] at this
    exact this
  · exact absurd ⟨by decide, by decide⟩ h.1
theorem whole_ex (w : World) (c : Nat) : Calls Try.prog 31 #[.slice (some ⟨w.heap.size, 0, none⟩) 4 c] (w.alloc (.cells #[.int .i64 2, .int .i64 1, .int .i64 3, .int .i64 3] 3)) fun e w' => e = .returned (.tuple #[.bool true, .int .i64 0]) ∧ Below w.heap.size w w' := by
  have hal : Below w.heap.size w (w.alloc (.cells #[.int .i64 2, .int .i64 1, .int .i64 3, .int .i64 3] 3)) := (Below.refl _ _).alloc (Nat.le_refl _) _
  refine (whole_ok [2, 1, 3, 3] _ c 4 _ rfl (lit4 w 2 1 3 3) (by omega)).mono ?_
  rintro e w' ⟨h | h, hb⟩
  · obtain ⟨_, _, rfl⟩ := h
    refine ⟨?_, hal.trans (hb.mono hal.size)⟩
    rw [decide_eq_true (by decide)]
  · exact absurd ⟨by decide, by decide⟩ h.1
theorem lengths_ex (w : World) (c : Nat) : Calls Try.prog 8 #[.slice (some ⟨w.heap.size, 0, none⟩) 3 c, .int .i64 3] (w.alloc (.cells #[.int .i64 5, .int .i64 1, .int .i64 1] 3)) fun e w' => ∃ L, e = .returned (.tuple #[.slice (some ⟨L, 0, none⟩) 3 3, .int .i64 0]) ∧ IRow w' (some ⟨L, 0, none⟩) [1, 2, 2] ∧ Below w.heap.size w w' := by
  have hal : Below w.heap.size w (w.alloc (.cells #[.int .i64 5, .int .i64 1, .int .i64 1] 3)) := (Below.refl _ _).alloc (Nat.le_refl _) _
  have hcm : (comes [5, 1, 1] 3).length = 3 := by decide
  refine (lengths_ok [5, 1, 1] _ c 3 3 _ rfl (lit3 w 5 1 1) (by omega) (fun _ => by rw [hcm]; exact sorts_small 3 (by omega))).mono ?_
  rintro e w' (h | h)
  · obtain ⟨_, _, _, _, _, L, cc, S, l, rfl, hl, _, hb, hasc, hlv, hpm, hcase⟩ := h
    refine ⟨L, rfl, ?_, hal.trans (hb.mono hal.size)⟩
    have hS : S.length = 3 := by rw [hpm.length_eq, hlv.length]; exact hcm
    rcases hcase with ⟨h1, _⟩ | ⟨_, r, hr, _, rfl⟩
    · omega
    · rw [hS] at hl
      obtain ⟨q0, q1, q2⟩ := example_lens hasc hlv hpm hr
      have := hl.irow
      simp only [List.length_cons, List.length_nil] at this
      rw [show List.range (0 + 1 + 1 + 1) = [0, 1, 2] from by decide] at this
      simp only [List.map_cons, List.map_nil, show 2 * 3 - 2 = 4 from rfl, q0, q1, q2] at this
      exact this
  · exact absurd ⟨by decide, by decide, by decide, by decide, by decide⟩ h.1
end Go.Proofs.Ytklipommocijaaa
